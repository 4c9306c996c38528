import Derived.Test.YtlfbdjeojgbniaaGreatDoorRan22
namespace Go.Proofs.YtlfbdjeojgbniaaGreatDoor.Spl
open Go.RowKit Go.Deep
structure Kx (X:Nat→Prop) (w w':World):Prop where
 os:w'.os=w.os
 tape:w'.tape=w.tape
 output:w'.output=w.output
 size:w.heap.size≤w'.heap.size
 block:∀k,k<w.heap.size→¬X k→w'.heap[k]?=w.heap[k]?
theorem Kx.trans{X Y:Nat→Prop}{a b c:World}(h:Kx X a b)(k:Kx Y b c)(hY:∀j,Y j→X j∨a.heap.size≤j):Kx X a c:=
 ⟨k.os.trans h.os,k.tape.trans h.tape,k.output.trans h.output,qq2 h.size k.size,fun i hi hX=>by
  refine(k.block i (qq3 hi h.size) (fun e=>?_)).trans (h.block i hi hX)
  rcases hY i e with h1|h1
  ·exact hX h1
  ·omega⟩
theorem Kx.later{X:Nat→Prop}{w w1 w2:World}(h:Kx X w w1)(hb:Below w1.heap.size w1 w2):Kx X w w2:=
 h.trans (Y:=fun _=>False) ⟨hb.os,hb.tape,hb.output,hb.size,fun k hk _=>hb.block k hk⟩ (fun _ e=>e.elim)
theorem Below.kx{X:Nat→Prop}{w w':World}(h:Below w.heap.size w w'):Kx X w w':=⟨h.os,h.tape,h.output,h.size,fun k hk _=>h.block k hk⟩
theorem Kx.set{X:Nat→Prop}{w0 w:World}(h:Kx X w0 w){M:Nat}(hM:X M∨w0.heap.size≤M)(j:Nat)(u:Value):Kx X w0 (w.setCell ⟨M,j,none⟩ u):=
 h.trans (Y:=fun k=>k=M) ⟨rfl,rfl,rfl,by simp,fun k _ hk=>qq5 _ _ _ _ (by show k≠M;exact hk)⟩ (fun j e=>by rw[e];exact hM)
theorem yP{w w':World}{o:Option Nat}{B:Nat}(h:w.grownBy w' o)(ho:∀k,o=some k→B≤k)(hB:B≤w.heap.size):Below B w w':=
 ⟨h.os,h.tape,h.output,h.size,fun k hk=>h.block k (by omega) (fun e=>by have:=ho k e.symm;omega)⟩
end Go.Proofs.YtlfbdjeojgbniaaGreatDoor.Spl
namespace Go.Proofs.YtlfbdjeojgbniaaGreatDoor.Spl
open Go.RowKit Go.Deep
theorem zS{ops:Array Oper}{o:Oper}{a:Act}{w:World}{K:Act→World→Prop}{Q:Exit→Act→World→Prop}{E:Prop}(hgd:o.guard=none)(s x:Operand)(ho:o.op=.call { callee:=.builtin .append,args:=#[s,x],argTypes:=#[73,73] })
  (B:Nat) (A:Nat→Prop) (v xv:Value) (zs ys:List Int) (hs:a.eval s=v) (hx:a.eval x=xv) (hv:RowI B w v zs) (hxv:Rds A w xv ys) (hb:zs.length+ys.length≤1000) (hB:B≤w.heap.size)
  (h:∀v' w',RowI B w' v' (zs++ys)→w.grownBy w' v.ownBlock→(v'.ownBlock=v.ownBlock∨v'.ownBlock=some w.heap.size)→K (a.put o.dst v') w') :
  if Region.wanted o (yielded ops a.tmps)=true then Oper.wp Tryz.prog o a w K Q else E:=by
 have hw:Region.wanted o (yielded ops a.tmps)=true:=by simp[Region.wanted,hgd]
 rw[if_pos hw]
 obtain⟨v',w',hr,h2,h3,h4⟩:=zv o.type hv hxv hb hB
 unfold Oper.wp execOp
 simp only[ho,resolve,invoke,builtin,Sem.run_bind,Sem.run_pure,Result.andThen_ok,List.map_toArray,List.map_cons,List.map_nil,hs,hx,hr]
 exact h v' w' h2 h3 h4
theorem Rds.at{A:Nat→Prop}{w:World}{a:Option Addr}{n c:Nat}{xs:List Int}(h:Rds A w (.slice a n c) xs){k:Nat}(hk:k<xs.length):∃b o,a=some ⟨b,o,none⟩∧A b∧b<w.heap.size∧w.cell? ⟨b,o+k,none⟩=some (.int .i64 (xs.getD k 0)):=by
 obtain⟨a2,c2,hv,_,h⟩:=h
 simp only[Value.slice.injEq]at hv
 obtain⟨rfl,_,rfl⟩:=hv
 exact h k hk
theorem zg4{zs:List Int}{x:Int}{room:Nat}(h:zs.length<room):zs.take room++[x]=(zs++[x]).take room∧(zs++[x]).drop room=zs.drop room:=by
 rw[List.take_of_length_le (by omega),List.take_of_length_le (by simp;omega),List.drop_eq_nil_of_le (by simp;omega),List.drop_eq_nil_of_le (by omega)]
 exact⟨rfl,rfl⟩
theorem zgb{zs:List Int}{x:Int}{room:Nat}(h:room≤zs.length):zs.drop room++[x]=(zs++[x]).drop room∧(zs++[x]).take room=zs.take room:=by
 rw[List.drop_append_of_le_length h,List.take_append_of_le_length h]
 exact⟨rfl,rfl⟩
end Go.Proofs.YtlfbdjeojgbniaaGreatDoor.Spl
namespace Go.Proofs.YtlfbdjeojgbniaaGreatDoor.Spl.Dsp
open Go.RowKit Go.Deep
structure Gq where
 p:Value
 hs:Value
 tk:Value
 wk:Value
 rw:Value
 dn:Value
def gArr(q:Gq)(room:Nat)(vf vh:Value):Array Value:=#[q.p,q.hs,q.tk,q.wk,.int .i64 room,vf,vh,q.rw,q.dn]
structure Md (gq:Gq) (M room:Nat) (xs:List Int) (vf vh:Value) (w:World):Prop where
 cells:w.heap[M]?=some (.cells (gArr gq room vf vh) 86 (0,0))
 f:RowI (M+1) w vf (xs.take room)
 h:RowI (M+1) w vh (xs.drop room)
 ap:Yr vf vh
 le:xs.length≤60
theorem Md.lt{gq:Gq}{M room:Nat}{xs:List Int}{vf vh:Value}{w:World}(h:Md gq M room xs vf vh w):M<w.heap.size:=(Array.getElem?_eq_some_iff.1 h.cells).1
theorem Md.c0{gq:Gq}{M room:Nat}{xs:List Int}{vf vh:Value}{w:World}(h:Md gq M room xs vf vh w):w.cell? ⟨M,4,none⟩=some (.int .i64 room):=by simp[World.cell?,h.cells,gArr]
theorem Md.c1{gq:Gq}{M room:Nat}{xs:List Int}{vf vh:Value}{w:World}(h:Md gq M room xs vf vh w):w.cell? ⟨M,5,none⟩=some vf:=by simp[World.cell?,h.cells,gArr]
theorem Md.c2{gq:Gq}{M room:Nat}{xs:List Int}{vf vh:Value}{w:World}(h:Md gq M room xs vf vh w):w.cell? ⟨M,6,none⟩=some vh:=by simp[World.cell?,h.cells,gArr]
theorem Md.fz{gq:Gq}{M room:Nat}{xs:List Int}{vf vh:Value}{w:World}(h:Md gq M room xs vf vh w)(j:Nat):w.frozen? ⟨M,j,none⟩=false:=by simp[World.frozen?,h.cells]
theorem Md.of_blocks{gq:Gq}{M room:Nat}{xs:List Int}{vf vh:Value}{w w':World}(h:Md gq M room xs vf vh w)(h1:w'.heap[M]?=w.heap[M]?)(h2:∀k,vf.ownBlock=some k→w'.heap[k]?=w.heap[k]?)(h3:∀k,vh.ownBlock=some k→w'.heap[k]?=w.heap[k]?):Md gq M room xs vf vh w':=
 ⟨h1.trans h.cells,h.f.of_blocks h2,h.h.of_blocks h3,h.ap,h.le⟩
theorem Md.later{gq:Gq}{M room:Nat}{xs:List Int}{vf vh:Value}{w w':World}(h:Md gq M room xs vf vh w)(hb:Below w.heap.size w w'):Md gq M room xs vf vh w':=
 h.of_blocks (hb.block _ h.lt) (fun _ e=>hb.block _ (h.f.low e).2) (fun _ e=>hb.block _ (h.h.low e).2)
theorem Md.set2{gq:Gq}{M room:Nat}{xs ys:List Int}{vf vh vc vd:Value}{w w1:World}(h:Md gq M room xs vf vh w)(h1:w1.heap[M]?=w.heap[M]?)(hc:RowI (M+1) w1 vc (ys.take room))(hd:RowI (M+1) w1 vd (ys.drop room))(hap:Yr vc vd)(hy:ys.length≤60) :
  Md gq M room ys vc vd ((w1.setCell ⟨M,5,none⟩ vc).setCell ⟨M,6,none⟩ vd):=by
 have hM:w1.heap[M]?=some (.cells (gArr gq room vf vh) 86 (0,0)):=h1.trans h.cells
 have hM2:(w1.setCell ⟨M,5,none⟩ vc).heap[M]?=some (.cells (gArr gq room vc vh) 86 (0,0)):=by
  rw[setCell_eq_setRow w1 M 5 _ 86 (0,0) vc hM,setRow_heap w1 M _ _ 86 _ hM];rfl
 have hk:∀k,M+1≤k→((w1.setCell ⟨M,5,none⟩ vc).setCell ⟨M,6,none⟩ vd).heap[k]?=w1.heap[k]?:=fun k hk=>
  (qq5 _ _ _ _ (by show k≠M;omega)).trans (qq5 _ _ _ _ (by show k≠M;omega))
 refine⟨?_,hc.of_blocks (fun k e=>hk k (hc.low e).1),hd.of_blocks (fun k e=>hk k (hd.low e).1),hap,hy⟩
 rw[setCell_eq_setRow _ M 6 _ 86 (0,0) vd hM2,setRow_heap _ M _ _ 86 _ hM2];rfl
theorem Md.set1{gq:Gq}{M room:Nat}{xs ys:List Int}{vf vh vc:Value}{w w1:World}(h:Md gq M room xs vf vh w)(h1:w1.heap[M]?=w.heap[M]?)(hc:RowI (M+1) w1 vc (ys.take room))(hd:RowI (M+1) w1 vh (ys.drop room))(hap:Yr vc vh)(hy:ys.length≤60) :
  Md gq M room ys vc vh (w1.setCell ⟨M,5,none⟩ vc):=by
 have hM:w1.heap[M]?=some (.cells (gArr gq room vf vh) 86 (0,0)):=h1.trans h.cells
 have hk:∀k,M+1≤k→(w1.setCell ⟨M,5,none⟩ vc).heap[k]?=w1.heap[k]?:=fun k hk=>qq5 _ _ _ _ (by show k≠M;omega)
 refine⟨?_,hc.of_blocks (fun k e=>hk k (hc.low e).1),hd.of_blocks (fun k e=>hk k (hd.low e).1),hap,hy⟩
 rw[setCell_eq_setRow w1 M 5 _ 86 (0,0) vc hM,setRow_heap w1 M _ _ 86 _ hM];rfl
theorem Md.setH{gq:Gq}{M room:Nat}{xs ys:List Int}{vf vh vd:Value}{w w1:World}(h:Md gq M room xs vf vh w)(h1:w1.heap[M]?=w.heap[M]?)(hc:RowI (M+1) w1 vf (ys.take room))(hd:RowI (M+1) w1 vd (ys.drop room))(hap:Yr vf vd)(hy:ys.length≤60) :
  Md gq M room ys vf vd (w1.setCell ⟨M,6,none⟩ vd):=by
 have hM:w1.heap[M]?=some (.cells (gArr gq room vf vh) 86 (0,0)):=h1.trans h.cells
 have hk:∀k,M+1≤k→(w1.setCell ⟨M,6,none⟩ vd).heap[k]?=w1.heap[k]?:=fun k hk=>qq5 _ _ _ _ (by show k≠M;omega)
 refine⟨?_,hc.of_blocks (fun k e=>hk k (hc.low e).1),hd.of_blocks (fun k e=>hk k (hd.low e).1),hap,hy⟩
 rw[setCell_eq_setRow w1 M 6 _ 86 (0,0) vd hM,setRow_heap w1 M _ _ 86 _ hM];rfl
set_option maxRecDepth 100000 in
set_option maxHeartbeats 2000000 in
theorem zi2(gq:Gq)(M room most:Nat)(xs:List Int)(vf vh:Value)(w:World)(h:Md gq M room xs vf vh w)(h1:1≤most)(h2:most≤60)(hr:room≤16) :
  Calls Tryz.prog 73 #[.pointer (some ⟨M,4,none⟩),.int .i64 most] w fun e w'=>∃ov vf' vh',e=.returned ov∧Rds (fun b=>w.heap.size≤b) w' ov (xs.take most)∧Md gq M room (xs.drop most) vf' vh' w'∧Kx (fun k=>k=M) w w'∧Near w.heap.size vf vf'∧Near w.heap.size vh vh':=by
 have HD:Hid (Md gq M room xs vf vh w):=h
 have hc1:=h.c1
 have hle:=h.le
 have hlt:=h.lt
 have HF:=h.f
 have HH:=h.h
 have hcat:=List.take_append_drop room xs
 have hfl:(xs.take room).length≤60:=by simp;omega
 have hhl:(xs.drop room).length≤60:=by simp;omega
 generalize xs.take room=fs at *
 generalize xs.drop room=hs at *
 have HCat:Hid (fs++hs=xs):=hcat
 obtain⟨fa,fc,rfl⟩:=HF.shape
 obtain⟨ha,hc,rfl⟩:=HH.shape
 have HF1:Hid (RowI (M+1) w (.slice fa fs.length fc) fs):=HF
 have HH1:Hid (RowI (M+1) w (.slice ha hs.length hc) hs):=HH
 have hml:(xs.take most).length=min most xs.length:=by simp
 have hdl:(xs.drop most).length≤60:=by simp;omega
 have hdx:xs=[]→xs.drop most=xs:=fun e=>by subst e;simp
 have hmx:(xs.take most).length=0→xs=[]:=fun e=>by
  rw[hml]at e
  exact List.eq_nil_of_length_eq_zero (by omega)
 obtain⟨os,hos⟩:∃os,os=xs.take most:=⟨_,rfl⟩
 obtain⟨rs,hrs⟩:∃rs,rs=xs.drop most:=⟨_,rfl⟩
 rw[←hos]at hml hmx ⊢
 rw[←hrs]at hdl hdx ⊢
 have HOS:Hid (os=xs.take most):=hos
 have HRS:Hid (rs=xs.drop most):=hrs
 have HDX:Hid (xs=[]→rs=xs):=hdx
 have HMX:Hid (os.length=0→xs=[]):=hmx
 have hol:os.length≤60:=by omega
 clear h HF HH hcat hos hrs hml hdx hmx
 go_enter Tryz.func73,Tryz.ntmps73
 go_wp2_with (first|(at_builtin;refine ze rfl (.tmp 8) (.tmp 12) rfl w.heap.size _ (.slice none 0 0) (.slice fa fs.length fc) [] fs rfl rfl (RowI.nil _ _) HF1.out.rds (by simp;omega) (qq1 _) ?_;intro v2 w2 hown2 hgr2 hat2;rw[List.nil_append]at hown2;have HB2:Hid (Below w.heap.size w w2):=yP hgr2 (fun k e=>by simp[Value.ownBlock]at e) (qq1 _);have hd2:=HD.out.later HB2.out;have hc2:=hd2.c2;have HR2:Hid (RowI w.heap.size w2 v2 fs):=hown2;obtain⟨a2,k2,rfl⟩:=hown2.shape;have HH2:Hid (RowI (M+1) w2 (.slice ha hs.length hc) hs):=HH1.out.of_blocks (fun k e=>HB2.out.block k (HH1.out.low e).2);clear hown2 hgr2 hat2 hc1 hd2)|(at_builtin;refine ze rfl (.tmp 14) (.tmp 18) rfl w.heap.size _ (.slice a2 fs.length k2) (.slice ha hs.length hc) fs hs rfl rfl HR2.out HH2.out.rds (by omega) HB2.out.size ?_;intro v3 w3 hown3 hgr3 hat3;rw[HCat.out]at hown3;have HB3:Hid (Below w.heap.size w w3):=HB2.out.trans (yP hgr3 (fun k e=>(HR2.out.low e).1) HB2.out.size);have hcut:=yN _ v3 xs most w3 hown3.rds (by omega);clear hown3 hgr3 hat3 hc2 HH2))
 refine hcut.mono ?_;clear hcut;rintro e w4 ⟨va,vb,rfl,hra,hrb,hap,hb4⟩
 rw[←HOS.out]at hra
 rw[←HRS.out]at hrb
 have HB4:Hid (Below w.heap.size w w4):=HB3.out.trans (hb4.mono HB3.out.size)
 have HD4:Hid (Md gq M room xs (.slice fa fs.length fc) (.slice ha hs.length hc) w4):=HD.out.later HB4.out
 have hc4:=HD4.out.c0
 have HA4:Hid (RowI w.heap.size w4 va os):=hra.mono HB3.out.size
 have hcut:=yN _ vb rs room w4 hrb.rds (by omega)
 obtain⟨aa,ac,rfl⟩:=hra.shape
 obtain⟨ba,bc,rfl⟩:=hrb.shape
 clear hra hrb hap hb4
 obtain⟨L,hL⟩:∃L,L=os.length:=⟨_,rfl⟩
 have HL:Hid (L=os.length):=hL
 rw[←hL]at HA4 ⊢
 clear hL hol
 by_cases h0:L=0
 ·subst h0
  clear hcut
  go_wp2
  go_ret
  have hx0:=HMX.out HL.out.symm
  have hos0:os=[]:=List.eq_nil_of_length_eq_zero HL.out.symm
  refine⟨_,_,_,rfl,?_,?_,Below.kx HB4.out,fun k e=>Or.inl e,fun k e=>Or.inl e⟩
  ·rw[hos0];exact⟨none,0,rfl,qq1 _,fun k hk=>by simp at hk⟩
  ·rw[HDX.out hx0];exact HD4.out
 ·have h0b:((L:Int)==0)=false:=by simp;omega
  go_wp2_with (first|(go_at_call 70;refine hcut.mono ?_;clear hcut;rintro e w5 ⟨vc,vd,rfl,hrc,hrd,hap,hb5⟩;have HB5:Hid (Below w.heap.size w w5):=HB4.out.trans (hb5.mono HB4.out.size);have HD5:Hid (Md gq M room xs (.slice fa fs.length fc) (.slice ha hs.length hc) w5):=HD.out.later HB5.out;have hm1:=HD5.out.c1;have hm2:=HD5.out.c2;have hz1:=HD5.out.fz 5;have hz2:=HD5.out.fz 6;have HA5:Hid (RowI w.heap.size w5 (.slice aa L ac) os):=HA4.out.of_blocks (fun k e=>hb5.block k (HA4.out.low e).2);have HC5:Hid (RowI w4.heap.size w5 vc (rs.take room)):=hrc;have HD6:Hid (RowI w4.heap.size w5 vd (rs.drop room)):=hrd;have HAP:Hid (Yr vc vd):=hap;obtain⟨ca,cc,rfl⟩:=hrc.shape;obtain⟨da,dc,rfl⟩:=hrd.shape;clear hrc hrd hap hb5 hc4 HA4))
  go_ret
  have hs4:=HB4.out.size
  have hrc:=HC5.out
  have hrd:=HD6.out
  have hap:=HAP.out
  rw[List.length_take]at hrc hap
  rw[List.length_drop]at hrd hap
  have hro:RowI w.heap.size ((w5.setCell ⟨M,5,none⟩ (.slice ca (min room rs.length) cc)).setCell ⟨M,6,none⟩ (.slice da (rs.length-room) dc)) (.slice aa L ac) os:=HA5.out.of_blocks (fun k e=>(qq5 _ _ _ _ (by show k≠M;have:=(HA5.out.low e).1;omega)).trans (qq5 _ _ _ _ (by show k≠M;have:=(HA5.out.low e).1;omega)))
  exact⟨_,_,_,rfl,hro.rds.mono (fun b e=>(hro.low e).1),HD5.out.set2 rfl (hrc.mono (by omega)) (hrd.mono (by omega)) hap hdl,((Below.kx (X:=fun k=>k=M) HB5.out).set (Or.inl rfl) _ _).set (Or.inl rfl) _ _,fun k e=>Or.inr (by have:=(hrc.low e).1;omega),fun k e=>Or.inr (by have:=(hrd.low e).1;omega)⟩
end Go.Proofs.YtlfbdjeojgbniaaGreatDoor.Spl.Dsp
namespace Go.Proofs.YtlfbdjeojgbniaaGreatDoor.Spl.Dsp
open Go.RowKit Go.Deep
theorem Md.drewN{gq:Gq}{M room:Nat}{xs:List Int}{vf vh:Value}{w:World}(h:Md gq M room xs vf vh w)(q:Nat):Md gq M room xs vf vh (w.drewN q):=h.of_blocks rfl (fun _ _=>rfl) (fun _ _=>rfl)
structure PutM (gq:Gq) (M room k:Nat) (xs ys:List Int) (vf vh:Value) (w:World) (vf' vh':Value) (wr:World):Prop where
 md:Md gq M room (xs++ys.take k) vf' vh' wr
 nf:Near w.heap.size vf vf'
 nh:Near w.heap.size vh vh'
 kx:Kx (fun j=>j=M∨vf.ownBlock=some j∨vh.ownBlock=some j) w wr
theorem PutM.front{gq:Gq}{M room k q:Nat}{xs ys:List Int}{vf vh vf' vh' v2:Value}{w wr w2:World}{ob:Obj}(hM:PutM gq M room k xs ys vf vh w vf' vh' wr)(hgr:((wr.drewN q).alloc ob).grownBy w2 vf'.ownBlock)
  (hat:v2.ownBlock=vf'.ownBlock∨v2.ownBlock=some ((wr.drewN q).alloc ob).heap.size) (hR:RowI (M+1) w2 v2 ((xs++ys.take (k+1)).take room)) (hE:(xs++ys.take (k+1)).drop room=(xs++ys.take k).drop room) (hl:(xs++ys.take (k+1)).length≤60) :
  PutM gq M room (k+1) xs ys vf vh w v2 vh' (w2.setCell ⟨M,5,none⟩ v2):=by
 have hlt:=hM.md.lt
 have hsz:=hM.kx.size
 have hb1:Below wr.heap.size wr ((wr.drewN q).alloc ob):=⟨rfl,rfl,rfl,by simp,fun k hk=>qa (wr.drewN q) ob k hk⟩
 have hbk:w2.heap[M]?=wr.heap[M]?:=(hgr.block M (by simp;omega) (fun e=>by have:=(hM.md.f.low e.symm).1;omega)).trans (hb1.block M hlt)
 have hh1:RowI (M+1) ((wr.drewN q).alloc ob) vh' ((xs++ys.take k).drop room):=hM.md.h.of_blocks (fun _ e=>hb1.block _ (hM.md.h.low e).2)
 obtain⟨hh2,hap⟩:=yU hh1 hM.md.ap hgr hat
 refine⟨hM.md.set1 hbk hR (by rw[hE];exact hh2) hap hl,fun j e=>?_,hM.nh,?_⟩
 ·rcases hat with h|h
  ·exact hM.nf j (h.symm.trans e)
  ·rw[h]at e
   simp only[Option.some.injEq]at e
   exact Or.inr (by have:=hb1.size;omega)
 ·have k2:Kx (fun j=>vf'.ownBlock=some j) ((wr.drewN q).alloc ob) w2:=⟨hgr.os,hgr.tape,hgr.output,hgr.size,fun j hj hX=>hgr.block j hj (fun e=>hX e.symm)⟩
  refine((hM.kx.later hb1).trans k2 (fun j e=>?_)).set (Or.inl (Or.inl rfl)) _ _
  rcases hM.nf j e with h|h
  ·exact Or.inl (Or.inr (Or.inl h))
  ·exact Or.inr h
theorem PutM.behind{gq:Gq}{M room k q:Nat}{xs ys:List Int}{vf vh vf' vh' v2:Value}{w wr w2:World}{ob:Obj}(hM:PutM gq M room k xs ys vf vh w vf' vh' wr)(hgr:((wr.drewN q).alloc ob).grownBy w2 vh'.ownBlock)
  (hat:v2.ownBlock=vh'.ownBlock∨v2.ownBlock=some ((wr.drewN q).alloc ob).heap.size) (hR:RowI (M+1) w2 v2 ((xs++ys.take (k+1)).drop room)) (hE:(xs++ys.take (k+1)).take room=(xs++ys.take k).take room) (hl:(xs++ys.take (k+1)).length≤60) :
  PutM gq M room (k+1) xs ys vf vh w vf' v2 (w2.setCell ⟨M,6,none⟩ v2):=by
 have hlt:=hM.md.lt
 have hsz:=hM.kx.size
 have hb1:Below wr.heap.size wr ((wr.drewN q).alloc ob):=⟨rfl,rfl,rfl,by simp,fun k hk=>qa (wr.drewN q) ob k hk⟩
 have hbk:w2.heap[M]?=wr.heap[M]?:=(hgr.block M (by simp;omega) (fun e=>by have:=(hM.md.h.low e.symm).1;omega)).trans (hb1.block M hlt)
 have hh1:RowI (M+1) ((wr.drewN q).alloc ob) vf' ((xs++ys.take k).take room):=hM.md.f.of_blocks (fun _ e=>hb1.block _ (hM.md.f.low e).2)
 obtain⟨hh2,hap⟩:=yU hh1 hM.md.ap.symm hgr hat
 refine⟨hM.md.setH hbk (by rw[hE];exact hh2) hR hap.symm hl,hM.nf,fun j e=>?_,?_⟩
 ·rcases hat with h|h
  ·exact hM.nh j (h.symm.trans e)
  ·rw[h]at e
   simp only[Option.some.injEq]at e
   exact Or.inr (by have:=hb1.size;omega)
 ·have k2:Kx (fun j=>vh'.ownBlock=some j) ((wr.drewN q).alloc ob) w2:=⟨hgr.os,hgr.tape,hgr.output,hgr.size,fun j hj hX=>hgr.block j hj (fun e=>hX e.symm)⟩
  refine((hM.kx.later hb1).trans k2 (fun j e=>?_)).set (Or.inl (Or.inl rfl)) _ _
  rcases hM.nh j e with h|h
  ·exact Or.inl (Or.inr (Or.inr h))
  ·exact Or.inr h
set_option maxRecDepth 100000 in
set_option maxHeartbeats 4000000 in
theorem ziU(gq:Gq)(M room:Nat)(xs ys:List Int)(vf vh lv:Value)(w:World)(h:Md gq M room xs vf vh w)(hl:Rds (fun b=>b≠M∧vf.ownBlock≠some b∧vh.ownBlock≠some b) w lv ys)(hf:xs.length+ys.length≤60)(hr:room≤16) :
  Calls Tryz.prog 67 #[.pointer (some ⟨M,4,none⟩),lv] w fun e w'=>e=.returned (.bool true)∧∃vf' vh',PutM gq M room ys.length xs ys vf vh w vf' vh' w':=by
 have HD:Hid (Md gq M room xs vf vh w):=h
 have hc1:=h.c1
 have hc2:=h.c2
 have hle:=h.le
 have hlen:(xs.take room).length+(xs.drop room).length=xs.length:=by simp;omega
 obtain⟨fa,fc,hvf⟩:=h.f.shape
 obtain⟨ha,hc,hvh⟩:=h.h.shape
 have HLV:Hid (Rds (fun b=>b≠M∧vf.ownBlock≠some b∧vh.ownBlock≠some b) w lv ys):=hl
 obtain⟨a',c',rfl⟩:=hl.shape
 generalize (xs.take room).length=F at *
 generalize (xs.drop room).length=G at *
 subst hvf hvh
 have hgt:¬(60:Int)<(F:Int)+(G:Int)+(ys.length:Int):=by omega
 have hgt2:decide ((60:Int)<(F:Int)+(G:Int)+(ys.length:Int))=false:=decide_eq_false hgt
 clear h hl
 go_enter Tryz.func67,Tryz.ntmps67
 go_wp2
 go_quiet (fail)
 go_wp2
 have HM0:Hid (∀q,PutM gq M room 0 xs ys (.slice fa F fc) (.slice ha G hc) w (.slice fa F fc) (.slice ha G hc) (w.drewN q)):=fun q=>⟨by rw[List.take_zero,List.append_nil];exact HD.out.drewN q,fun k e=>Or.inl e,fun k e=>Or.inl e,⟨rfl,rfl,rfl,qq1 _,fun _ _ _=>rfl⟩⟩
 clear hc1 hc2 hgt hgt2
 go_loopw [5] (fun s5 wr=>∃(k:Nat) (vf' vh':Value),k≤ys.length∧s5=.int .i64 k∧Hid (PutM gq M room k xs ys (.slice fa F fc) (.slice ha G hc) w vf' vh' wr)) (fun s5 _=>ys.length-(intOf s5).toNat)
 case atStart=>exact⟨0,_,_,Nat.zero_le _,rfl,HM0.out _⟩
 case round=>
  clear HM0
  obtain⟨k,vf',vh',hk,rfl,hM⟩:=hrel
  have hc0:=hM.out.md.c0
  have hc1:=hM.out.md.c1
  have hc2:=hM.out.md.c2
  have hfz1:=hM.out.md.fz 5
  have hfz2:=hM.out.md.fz 6
  have hlt:=hM.out.md.lt
  have hle2:=hM.out.md.le
  obtain⟨fa2,fc2,hvf⟩:=hM.out.md.f.shape
  obtain⟨ha2,hc2',hvh⟩:=hM.out.md.h.shape
  have hF2:((xs++ys.take k).take room).length=min room (xs.length+k):=by simp;omega
  have hG2:((xs++ys.take k).drop room).length=xs.length+k-room:=by simp;omega
  rw[hF2]at hvf
  rw[hG2]at hvh
  clear hF2 hG2
  by_cases hkl:k<ys.length
  ·obtain⟨b,o,rfl,hbM,hbl,hcc⟩:=HLV.out.at hkl
   have hcx:=(qq9 (a:=⟨b,o+k,none⟩) (hM.out.kx.block b hbl (by rintro (e|e|e);{ exact hbM.1 e };{ exact hbM.2.1 e };{ exact hbM.2.2 e }))).trans hcc
   have hT:=yw ys hkl
   have HT:Hid (ys.take (k+1)=ys.take k++[ys.getD k 0]):=hT
   have hkl':(k:Int)<(ys.length:Int):=by omega
   clear hcc hT
   generalize ys.getD k 0=x at *
   subst hvf hvh
   have HRf:Hid (RowI (M+1) wr (.slice fa2 (min room (xs.length+k)) fc2) ((xs++ys.take k).take room)):=hM.out.md.f
   have HRh:Hid (RowI (M+1) wr (.slice ha2 (xs.length+k-room) hc2') ((xs++ys.take k).drop room)):=hM.out.md.h
   obtain⟨F2,hF2⟩:∃F2,F2=min room (xs.length+k):=⟨_,rfl⟩
   obtain⟨G2,hG2⟩:∃G2,G2=xs.length+k-room:=⟨_,rfl⟩
   rw[←hF2]at HRf hc1 hM
   rw[←hG2]at HRh hc2 hM
   have HO:Hid (∀q,Rds (fun _=>True) ((wr.drewN q).alloc (.cells #[.int .i64 x] 3)) (.slice (some ⟨(wr.drewN q).heap.size,0,none⟩) 1 1) [x]):=fun q=>zK (wr.drewN q) x
   have HL:Hid ((xs++ys.take (k+1)).length≤60):=by show _≤_;simp only[List.length_take,List.length_append];omega
   by_cases hroom:xs.length+k<room
   ·obtain rfl:G2=0:=by omega
    have e1:decide ((F2:Int)<(room:Int))=true:=decide_eq_true (by omega)
    have e2:(F2:Int)<(room:Int):=by omega
    have hF60:F2≤60:=by omega
    have hZ:((xs++ys.take k).take room).length + [x].length≤1000:=by simp only[List.length_take,List.length_append,List.length_singleton];omega
    have hZS:((xs++ys.take k).take room++[x]).length=F2+1:=by simp only[List.length_take,List.length_append,List.length_singleton];omega
    have HE:Hid ((xs++ys.take k).take room++[x]=(xs++ys.take (k+1)).take room∧(xs++ys.take (k+1)).drop room=(xs++ys.take k).drop room):=by
     show _∧_
     rw[HT.out,←List.append_assoc]
     exact zg4 (by simp only[List.length_take,List.length_append];omega)
    have hcA:∀q,((wr.drewN q).alloc (.cells #[.int .i64 x] 3)).cell? ⟨M,5,none⟩=some (.slice fa2 F2 fc2):=fun q=>(qq9 (a:=⟨M,5,none⟩) (qa (wr.drewN q) _ _ hlt)).trans hc1
    clear hF2 hG2
    go_wp2
    go_quiet (fail)
    go_wp2
    go_region_law (refine zS rfl (.tmp 49) (.tmp 54) rfl (M+1) (fun _=>True) (.slice fa2 F2 fc2) (.slice (some ⟨wr.heap.size,0,none⟩) 1 1) ((xs++ys.take k).take room) [x] (by simp[Act.eval]) (by simp[Act.eval]) ((HRf.out.of_blocks (w':=wr.drewN (nq+1)) (fun _ _=>rfl)).alloc _) (HO.out (nq+1)) (by have:=hZ;omega) (by simp;omega) ?_;intro v2 w2 hown2 hgr2 hat2;have HR2:Hid (RowI (M+1) w2 v2 ((xs++ys.take k).take room++[x])):=hown2;obtain⟨a2,k2,rfl⟩:=hown2.shape;rw[hZS]at HR2 hat2 ⊢;have hbk:w2.heap[M]?=wr.heap[M]?:=(hgr2.block M (by simp;omega) (fun e=>by have:=(HRf.out.low e.symm).1;omega)).trans (qa _ _ _ hlt);have hz2:=(World.frozen?_of_block (a:=⟨M,5,none⟩) hbk).trans hfz1;have hcm:=(qq9 (a:=⟨M,5,none⟩) hbk).trans hc1;clear hown2)
    all_goals
     have hN:Hid (PutM gq M room (k+1) xs ys (.slice fa F fc) (.slice ha G hc) w (.slice a2 (F2+1) k2) (.slice ha2 0 hc2') (w2.setCell ⟨M,5,none⟩ (.slice a2 (F2+1) k2))):=hM.out.front hgr2 hat2 (by have:=HR2.out;rw[HE.out.1]at this;exact this) HE.out.2 HL.out
     clear hgr2 hat2 HR2 hbk hz2 hcm
     go_wp2
     go_roundw
     case rel=>exact⟨k+1,_,_,by omega,by go_num,hN⟩
     case measure=>simp[intOf];omega
   ·have hZ:((xs++ys.take k).drop room).length + [x].length≤1000:=by simp only[List.length_take,List.length_drop,List.length_append,List.length_singleton];omega
    have hZS:((xs++ys.take k).drop room++[x]).length=G2+1:=by simp only[List.length_take,List.length_drop,List.length_append,List.length_singleton];omega
    have HE:Hid ((xs++ys.take k).drop room++[x]=(xs++ys.take (k+1)).drop room∧(xs++ys.take (k+1)).take room=(xs++ys.take k).take room):=by
     show _∧_
     rw[HT.out,←List.append_assoc]
     exact zgb (by simp only[List.length_take,List.length_append];omega)
    have hcA:∀q,((wr.drewN q).alloc (.cells #[.int .i64 x] 3)).cell? ⟨M,6,none⟩=some (.slice ha2 G2 hc2'):=fun q=>(qq9 (a:=⟨M,6,none⟩) (qa (wr.drewN q) _ _ hlt)).trans hc2
    have hG60:G2≤60:=by omega
    by_cases hG0:G2=0
    ·have e1:decide ((F2:Int)<(room:Int))=false:=decide_eq_false (by omega)
     have e2:¬(F2:Int)<(room:Int):=by omega
     have e3:((G2:Int)==0)=true:=by simp[hG0]
     clear hG0
     clear hF2 hG2
     go_wp2
     go_quiet (fail)
     go_wp2
     go_region_law (refine zS rfl (.tmp 62) (.tmp 67) rfl (M+1) (fun _=>True) (.slice ha2 G2 hc2') (.slice (some ⟨wr.heap.size,0,none⟩) 1 1) ((xs++ys.take k).drop room) [x] (by simp[Act.eval]) (by simp[Act.eval]) ((HRh.out.of_blocks (w':=wr.drewN (nq+1)) (fun _ _=>rfl)).alloc _) (HO.out (nq+1)) (by have:=hZ;omega) (by simp;omega) ?_;intro v2 w2 hown2 hgr2 hat2;have HR2:Hid (RowI (M+1) w2 v2 ((xs++ys.take k).drop room++[x])):=hown2;obtain⟨a2,k2,rfl⟩:=hown2.shape;rw[hZS]at HR2 hat2 ⊢;have hbk:w2.heap[M]?=wr.heap[M]?:=(hgr2.block M (by simp;omega) (fun e=>by have:=(HRh.out.low e.symm).1;omega)).trans (qa _ _ _ hlt);have hz2:=(World.frozen?_of_block (a:=⟨M,6,none⟩) hbk).trans hfz2;have hcm:=(qq9 (a:=⟨M,6,none⟩) hbk).trans hc2;clear hown2)
     all_goals
      have hN:Hid (PutM gq M room (k+1) xs ys (.slice fa F fc) (.slice ha G hc) w (.slice fa2 F2 fc2) (.slice a2 (G2+1) k2) (w2.setCell ⟨M,6,none⟩ (.slice a2 (G2+1) k2))):=hM.out.behind hgr2 hat2 (by have:=HR2.out;rw[HE.out.1]at this;exact this) HE.out.2 HL.out
      clear hgr2 hat2 HR2 hbk hz2 hcm
      go_wp2
      go_roundw
      case rel=>exact⟨k+1,_,_,by omega,by go_num,hN⟩
      case measure=>simp[intOf];omega
    ·have e3:((G2:Int)==0)=false:=by simp[hG0]
     clear hF2 hG2
     go_wp2
     go_quiet (fail)
     go_wp2
     go_region_law (refine zS rfl (.tmp 62) (.tmp 67) rfl (M+1) (fun _=>True) (.slice ha2 G2 hc2') (.slice (some ⟨wr.heap.size,0,none⟩) 1 1) ((xs++ys.take k).drop room) [x] (by simp[Act.eval]) (by simp[Act.eval]) ((HRh.out.of_blocks (w':=wr.drewN (nq+1)) (fun _ _=>rfl)).alloc _) (HO.out (nq+1)) (by have:=hZ;omega) (by simp;omega) ?_;intro v2 w2 hown2 hgr2 hat2;have HR2:Hid (RowI (M+1) w2 v2 ((xs++ys.take k).drop room++[x])):=hown2;obtain⟨a2,k2,rfl⟩:=hown2.shape;rw[hZS]at HR2 hat2 ⊢;have hbk:w2.heap[M]?=wr.heap[M]?:=(hgr2.block M (by simp;omega) (fun e=>by have:=(HRh.out.low e.symm).1;omega)).trans (qa _ _ _ hlt);have hz2:=(World.frozen?_of_block (a:=⟨M,6,none⟩) hbk).trans hfz2;have hcm:=(qq9 (a:=⟨M,6,none⟩) hbk).trans hc2;clear hown2)
     all_goals
      have hN:Hid (PutM gq M room (k+1) xs ys (.slice fa F fc) (.slice ha G hc) w (.slice fa2 F2 fc2) (.slice a2 (G2+1) k2) (w2.setCell ⟨M,6,none⟩ (.slice a2 (G2+1) k2))):=hM.out.behind hgr2 hat2 (by have:=HR2.out;rw[HE.out.1]at this;exact this) HE.out.2 HL.out
      clear hgr2 hat2 HR2 hbk hz2 hcm
      go_wp2
      go_roundw
      case rel=>exact⟨k+1,_,_,by omega,by go_num,hN⟩
      case measure=>simp[intOf];omega
  ·have hkl':¬(k:Int)<(ys.length:Int):=by omega
   obtain rfl:k=ys.length:=by omega
   go_wp2
   go_ret
   exact⟨rfl,_,_,hM.out⟩
end Go.Proofs.YtlfbdjeojgbniaaGreatDoor.Spl.Dsp

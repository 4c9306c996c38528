import Derived.Test.YtlfbdjeojgbniaaGreatDoorRan49
import Derived.Test.YtlfbdjeojgbniaaGreatDoorRows
import Derived.LaidSub
import Derived.Stop.LaidErr
namespace Go.Proofs.YtlfbdjeojgbniaaGreatDoor
section
open Go.RowKit Go.Deep Go.Shelf
attribute [local go_sem] Oper.semAt_some
set_option maxRecDepth 100000 in
set_option maxHeartbeats 2000000 in
theorem zfy(l:List UInt8)(hl:l.length≤9223372036854775806)(w:World):Calls Tryz.prog 20 #[strL l,.string ⟨#[10]⟩] w fun e w'=>e=.returned (strL (Y1 l))∧w'=w:=by
 have hin:Calls Tryz.prog 62 #[strL l,.string ⟨#[10]⟩] w fun e w'=>e=.returned (strL (Y1 l))∧w'=w:=by
  have hhs:=zgl l hl w
  unfold Y1
  by_cases h:l.getLast?=some 10
  ·rw[if_pos h]
   rw[decide_eq_true h]at hhs
   have hne:l≠[]:=by rintro rfl;simp at h
   have hpos:0<l.length:=List.length_pos_iff.2 hne
   have hsz:=bsize l
   have e1:(⟨l.toArray⟩:ByteArray).extract 0 (l.length-1)=⟨l.dropLast.toArray⟩:=by rw[yI,List.dropLast_eq_take];simp
   obtain⟨n,hn⟩:∃n,l.length=n+1:=⟨l.length-1,by omega⟩
   rw[hn,Nat.add_sub_cancel]at e1
   rw[hn]at hsz hl
   have hw1:IntKind.i64.wrap (((n+1:Nat):Int)-1)=(n:Int):=by rw[IntKind.wrap_i64];omega
   have hw2:IntKind.i64.wrap ((n:Int)+1-1)=(n:Int):=by rw[IntKind.wrap_i64];omega
   have b1:(n:Int)≤((n+1:Nat):Int):=by omega
   have b2:(n:Int)≤(n:Int)+1:=by omega
   unfold strL at hhs ⊢
   generalize (⟨l.dropLast.toArray⟩:ByteArray)=T at *
   generalize (⟨l.toArray⟩:ByteArray)=S at *
   clear h hne hpos hn
   go_enter Tryz.func62,Tryz.ntmps62
   go_wp2_with (first|(go_at_call 100;refine hhs.mono ?_;clear hhs;rintro e w1 ⟨rfl,rfl⟩))
   go_ret
   exact⟨rfl,rfl⟩
  ·rw[if_neg h]
   rw[decide_eq_false h]at hhs
   unfold strL at hhs ⊢
   clear h
   go_enter Tryz.func62,Tryz.ntmps62
   go_wp2_with (first|(go_at_call 100;refine hhs.mono ?_;clear hhs;rintro e w1 ⟨rfl,rfl⟩))
   go_ret
   exact⟨rfl,rfl⟩
 unfold strL at hin ⊢
 generalize Y1 l=a at *
 go_enter Tryz.func20,Tryz.ntmps20
 go_wp2_with (first|(go_at_call 62;refine hin.mono ?_;clear hin;rintro e w1 ⟨rfl,rfl⟩))
 go_ret
 exact⟨rfl,rfl⟩
def RI(w:World)(n:Nat)(pre:List { x:List UInt8 // x.length≤3000 })(W:World):Prop:=
 ∃Y X Z d out,RB w n d out Y X Z W∧Yw Desk.new ((pre.map Subtype.val).map Y1) d out∧out.length≤20001*pre.length
theorem RI.away{w:World}{n:Nat}{pre:List { x:List UInt8 // x.length≤3000 }}{W W':World}(h:RI w n pre W)(K:Kx (XD n) W W'):RI w n pre W':=by
 obtain⟨Y,X,Z,d,out,h1,h2,h3⟩:=h
 exact⟨Y,_,Z,d,out,h1.away K,h2,h3⟩
theorem zhA{n:Nat}{A B:World}(hg:A.grownBy B (some (n+2))):Kx (XD n) A B:=⟨hg.os,hg.tape,hg.output,hg.size,fun k hk hn=>hg.block k hk (fun e=>hn (Or.inl (Option.some.inj e)))⟩
theorem zi0{n k:Nat}(W:World)(o:Obj)(hk:k=n+3∨k=n+3+1):Kx (XD n) W (W.putObj k o):=⟨rfl,rfl,rfl,by simp,fun j _ hn=>World.putObj_heap_other (fun e=>hn (by subst e;rcases hk with e|e;exact Or.inr (Or.inl e);exact Or.inr (Or.inr e)))⟩
theorem RI.start{w W1:World}(hask:Y5 (fun k=>w.heap.size+1≤k∧k<W1.heap.size) (w.heap.size+1) w.heap.size W1)(hb:Below (w.heap.size+1) (w.alloc (.cells #[.slice none 0 0,.pointer none] 51)) W1)(hs:w.heap.size<W1.heap.size)(o3 o4 o5:Obj) :
  RI w W1.heap.size [] (((((W1.alloc (.cells #[.map (some (w.heap.size+1))] 48)).alloc (.cells #[.pointer none,.slice none 0 0] 56)).alloc o3).alloc o4).alloc o5):=by
 have b1:Below W1.heap.size W1 (((((W1.alloc (.cells #[.map (some (w.heap.size+1))] 48)).alloc (.cells #[.pointer none,.slice none 0 0] 56)).alloc o3).alloc o4).alloc o5):=
  (below4 _ _ _ _).alloc (by simp <;> omega) _
 have k0:(W1.alloc (.cells #[.map (some (w.heap.size+1))] 48)).heap[W1.heap.size]?=some (.cells #[.map (some (w.heap.size+1))] 48 (0,0)):=blk_alloc_new _ _
 have k1:((W1.alloc (.cells #[.map (some (w.heap.size+1))] 48)).alloc (.cells #[.pointer none,.slice none 0 0] 56)).heap[W1.heap.size+1]?=some (.cells #[.pointer none,.slice none 0 0] 56 (0,0)):=by
  have:=blk_alloc_new (W1.alloc (.cells #[.map (some (w.heap.size+1))] 48)) (.cells #[.pointer none,.slice none 0 0] 56)
  rwa [nblk_alloc]at this
 have ks:(w.alloc (.cells #[.slice none 0 0,.pointer none] 51)).heap[w.heap.size]?=some (.cells #[.slice none 0 0,.pointer none] 51 (0,0)):=blk_alloc_new _ _
 generalize hW:((((W1.alloc (.cells #[.map (some (w.heap.size+1))] 48)).alloc (.cells #[.pointer none,.slice none 0 0] 56)).alloc o3).alloc o4).alloc o5=W at *
 have hsz:W.heap.size=W1.heap.size+5:=by rw[←hW];simp
 have e0:W.heap[W1.heap.size]?=some (.cells #[.map (some (w.heap.size+1))] 48 (0,0)):=by
  rw[←hW,blk_alloc_lt _ _ _ (by simp <;> omega),blk_alloc_lt _ _ _ (by simp <;> omega),blk_alloc_lt _ _ _ (by simp <;> omega),blk_alloc_lt _ _ _ (by simp)]
  exact k0
 have e1:W.heap[W1.heap.size+1]?=some (.cells #[.pointer none,.slice none 0 0] 56 (0,0)):=by
  rw[←hW,blk_alloc_lt _ _ _ (by simp <;> omega),blk_alloc_lt _ _ _ (by simp <;> omega),blk_alloc_lt _ _ _ (by simp)]
  exact k1
 have hbw:Below w.heap.size w W:=(((qq4 _ _).alloc (qq1 _) _).trans (hb.mono (Nat.le_succ _))).trans (b1.mono (Nat.le_of_lt hs))
 clear hW
 refine⟨fun k=>w.heap.size+1≤k∧k<W1.heap.size,fun k=>k<W.heap.size,fun k=>k=W1.heap.size+1,Desk.new,[],⟨⟨fun k hk=>hk,fun k hk=>by omega,qq1 _,by omega,fun k hk=>⟨by omega,by omega⟩,hbw,⟨.slice none 0 0,.pointer none,?_,Y6.nil _ _,rfl⟩,Desk.Ok.new⟩,hask.kept (fun k hk=>b1.block k hk.2),⟨fun k hk=>by omega,rfl,.pointer none,.slice none 0 0,Or.inl rfl,e1,World.ownsRow_nil _ _ _ _,by simp[Value.ownBlock],fun k hk=>by simp[Value.ownBlock]at hk⟩,fun k hk=>?_,e0,⟨by omega,by omega⟩,fun k hk=>?_,hs,by omega⟩,⟨rfl,rfl⟩,by simp⟩
 ·exact(b1.block _ hs).trans ((hb.block _ (Nat.lt_succ_self _)).trans ks)
 ·subst hk
  exact⟨by omega,by omega,by omega,fun e=>by rcases e with e|e|e <;> omega⟩
 ·rcases hk with rfl|rfl|rfl <;> exact⟨by omega,by omega⟩
set_option maxRecDepth 100000 in
set_option maxHeartbeats 8000000 in
theorem zi5(t:List UInt8)(ht:t.length≤3000)(q:Addr)(w:World)(hv:Vars q w) :
  CallsIn Fence.wide 5 Tryz.prog 6 #[strL t] w fun e w'=>(∃out,e=.returned (.string ⟨out.toArray⟩)∧ZS t out∧out.length≤100000000)∧Below w.heap.size w w':=by
 have HV:Hid (Vars q w):=hv
 have hsz:=bsize t
 have hti:¬(3000:Int)<(t.length:Int):=by omega
 clear hv
 refine callsIn_of_wp_marks Tryz.func6 rfl trivial ?_ rfl
 simp only[Tryz.ntmps6,List.size_toArray,List.length_cons,List.length_nil,Nat.reduceAdd,Nat.reduceSub,Array.replicate_succ,Array.replicate_zero,List.push_toArray,List.append_toArray,List.nil_append,List.cons_append]
 unfold strL
 gi_wp2_with fail
 refine⟨trivial,(callsIn_wide.2 (zhh w.heap.size _)).mono ?_⟩
 rintro e W1 ⟨rfl,hask,hb1⟩
 have hlt1:w.heap.size<W1.heap.size:=qq3 (by simp) hb1.size
 have hask2:Y5 (fun k=>w.heap.size+1≤k∧k<W1.heap.size) (w.heap.size+1) w.heap.size W1:=by
  rw[nblk_alloc]at hask
  exact hask
 have HI0:Hid (∀R:Loop,RI w W1.heap.size [] (((((W1.alloc (.cells #[.map (some (w.heap.size+1))] 48)).alloc (.cells #[.pointer none,.slice none 0 0] 56)).alloc (.cells #[strL t] 9)).alloc (.deferred (some []))).alloc (.loop R))):=fun R=>RI.start hask2 (by rw[nblk_alloc]at hb1;exact hb1) hlt1 _ _ _
 clear hask hask2 hb1
 gi_wp2_with fail
 refine⟨trivial,(zhF Fence.wide 4 trivial rfl t _).mono ?_⟩
 rintro e w' ⟨rfl,rfl⟩
 gi_wp2
 obtain⟨W0,hW0⟩:∃W0,W0=((W1.alloc (.cells #[.map (some (w.heap.size+1))] 48)).alloc (.cells #[.pointer none,.slice none 0 0] 56)).alloc (.cells #[strL t] 9):=⟨_,rfl⟩
 have hs0:W0.heap.size=W1.heap.size+3:=by rw[hW0];simp
 have c3:W0.heap[W1.heap.size+2]?=some (.cells #[strL t] 9 (0,0)):=by
  have h:=blk_alloc_new ((W1.alloc (.cells #[.map (some (w.heap.size+1))] 48)).alloc (.cells #[.pointer none,.slice none 0 0] 56)) (.cells #[strL t] 9)
  rw[nblk_alloc,nblk_alloc]at h
  rw[hW0];exact h
 rw[←hW0]at HI0 ⊢
 clear hW0
 have hN:=zeQ t
 generalize hn:W1.heap.size=n at *
 refine zff rfl (by decide) (gf:=57) (lb:=#[.pointer (some ⟨n+2,0,none⟩)]) rfl trivial (enters_of Tryz.func57 (by kernel_rfl) rfl)
  (zgq 4 (by decide) (n+2) t ht W0 (by omega) c3) (by omega) (qq4 _ _) (fun _=>rfl) (RI w n) (fun s W k o hk hi=>hi.away (zi0 W o (by omega))) (fun s A B hi hg=>hi.away (zhA hg)) HI0.out
  (fun x=>{ tmps:=#[.string ⟨t.toArray⟩,undef,.string ⟨#[]⟩,.pointer (some ⟨n,0,none⟩),.pointer (some ⟨n+1,0,none⟩),strL x.1,.string ⟨t.toArray⟩,.int .i64 t.length,.bool false,.pointer (some ⟨w.heap.size,0,none⟩),.map (some (w.heap.size+1)),.string ⟨t.toArray⟩,.func (.func 57) #[] #[.pointer (some ⟨n+2,0,none⟩)],strL x.1,undef,undef,undef,undef,undef,undef,undef],defers:=[] }) ?assign ?body ?done
 case assign=>
  intro l x W K hK
  gi_wp2
  exact hK
 case body=>
  rintro l pre x W ⟨Y,X,Z,d,out,hRB,hrun,hlo⟩ hpl hWs
  have hR1:RB w n d out Y _ Z W.drew:=hRB.away (W':=W.drew) ⟨rfl,rfl,rfl,qq1 _,fun _ _ _=>rfl⟩
  have hxl:(Y1 x.1).length≤3000:=qq2 (zg7 _) x.2
  have htr:=zfy x.1 (by have:=x.2;omega) W.drew
  have han:=zei hR1.desk HV.out (w.heap.size+1) hR1.asks (Y1 x.1) (by omega)
  have HS:W.drew.cell? ⟨n,0,none⟩=some (.map (some (w.heap.size+1))):=yH hR1.box
  have hol:out.length≤60024000:=by
   have:pre.length≤3000:=by omega
   have:=Nat.mul_le_mul_left 20001 this
   omega
  clear HI0
  gi_wp2
  refine xW (S:=fun W'=>W'.cell? ⟨n,0,none⟩=some (.map (some (w.heap.size+1)))) 5 rfl (by kernel_rfl) (by kernel_rfl) ?hL ?_
  case hL=>rintro⟨_,_,h⟩;exact h
  refine zc (i:=0) (v:=.map (some (w.heap.size+1))) (some 14) rfl rfl (by kernel_rfl) (by kernel_rfl) (by kernel_rfl) (fun _ _ _ h=>h) (Or.inl ⟨by rfl,?hy0⟩) HS ?_
  case hy0=>
   intro wz hSz
   go_simp
   try rfl
  refine zc (i:=1) (v:=strL x.1) (some 15) rfl rfl (by kernel_rfl) (by kernel_rfl) (by kernel_rfl) (fun _ _ _ h=>h) (Or.inl ⟨by rfl,?hy1⟩) HS ?_
  case hy1=>
   intro wz hSz
   go_simp
   try rfl
  refine wpAnyH_all (rs:=[2]) (by kernel_rfl) (by simp) (fun j hj=>?_)
  obtain rfl:=List.mem_singleton.1 hj
  refine yk (f:=20) (args:=#[strL x.1,.string ⟨#[10]⟩]) (some 16) rfl rfl (by rfl) ?hc2 ?_
  case hc2=>go_simp
  refine htr.mono ?_
  rintro e W2 ⟨rfl,rfl⟩
  refine⟨HS,?_⟩
  refine wpAnyH_all (rs:=[3]) (by kernel_rfl) (by simp) (fun j hj=>?_)
  obtain rfl:=List.mem_singleton.1 hj
  refine yk (f:=19) (args:=#[.map (some (w.heap.size+1)),strL (Y1 x.1)]) (some 17) rfl rfl (by rfl) ?hc3 ?_
  case hc3=>go_simp
  refine han.mono ?_
  rintro e W2 ⟨d',o,rfl,hline,holen,hmv⟩
  obtain⟨Y2,X2,hR2,hk2⟩:=hR1.moved hmv
  refine⟨yH hR2.box,?_⟩
  have hws:=writeStringX hR2.bld o (by omega)
  refine wpAnyH_all (rs:=[4]) (by kernel_rfl) (by simp) (fun j hj=>?_)
  obtain rfl:=List.mem_singleton.1 hj
  refine yk (f:=18) (args:=#[.pointer (some ⟨n+1,0,none⟩),strL o]) (some 18) rfl rfl (by rfl) ?hc4 ?_
  case hc4=>
   go_simp
   rfl
  refine hws.mono ?_
  rintro e W3 ⟨⟨kk,rfl⟩,hb3,hK3⟩
  obtain⟨X3,Z3,hR3,hX3,hL3⟩:=hR2.wrote hb3 hK3
  refine⟨yH hR3.box,?_⟩
  refine wpAnyH_done (by kernel_rfl) ?_ _
  have hwb:=writeByteX hR3.bld (by simp;omega)
  have HFIN:Hid (∀W4,Bld (XP Z3 W3.heap.size) (n+1) (out++o++[10]) W4→Kx Z3 W3 W4→W4.heap[W0.heap.size]?=W.heap[W0.heap.size]?∧W4.heap[W0.heap.size+1]?=W.heap[W0.heap.size+1]?∧W4.heap[n+2]?=W.heap[n+2]?∧RI w n (pre++[x]) W4):=by
   intro W4 hb4 hK4
   obtain⟨X4,Z4,hR4,hX4,hL4⟩:=hR3.wrote hb4 hK4
   have keep:∀k,XD n k→W4.heap[k]?=W.heap[k]?:=fun k hk=>(hL4 k hk).trans ((hL3 k hk).trans (hk2 k (hR1.lp k hk).1 (by have:=hR1.sz.1;rcases hk with e|e|e <;> omega)))
   refine⟨keep _ (Or.inr (Or.inl (by omega))),keep _ (Or.inr (Or.inr (by omega))),keep _ (Or.inl rfl),Y2,X4,Z4,d',_,hR4,?_,?_⟩
   ·rw[List.map_append,List.map_append,List.append_assoc]
    exact hrun.more hline
   ·rw[qb,qb,qb,List.length_singleton,List.length_singleton,Nat.mul_add]
    omega
  clear hws han htr hrun hlo hmv hline hR2 hR1 hRB hb3 hK3 hR3 HS
  simp only[Act.put,List.setIfInBounds_toArray,List.set_cons_zero,List.set_cons_succ]
  gi_wp2_with fail
  refine⟨trivial,(CallsIn.inRound l (callsIn_wide.2 hwb)).mono ?_⟩
  rintro e W4 ⟨rfl,hb4,hK4⟩
  have HF:=HFIN.out W4 hb4 hK4
  clear hb4 hK4 hwb HFIN
  gi_wp2
  exact HF
 case done=>
  rintro D xs W hD hS ⟨Y,X,Z,d,out,hRB,hrun,hlo⟩ hK
  have hst:=Tryz.Builder_String_any_k (n+1) (n+1) out W (Lib.IsBuilderF.of hRB.bld.is) (Nat.le_of_lt hRB.bld.lt)
  have HB:Hid (Below w.heap.size w W):=hRB.desk.bel
  have HSE:Hid (ZS t out):=(by
   show ZS t out
   unfold ZS
   rw[if_neg (by omega),←zdv,←hS]
   exact⟨d,hrun⟩)
  have hnb:D≠n+1:=by omega
  have HOL:Hid (out.length≤100000000):=(by
   have e1:xs.length=(Z1 t).length:=by rw[←hS,List.length_map]
   have e2:=Nat.mul_le_mul_left 20001 (show xs.length≤3001 by omega)
   show out.length≤_
   omega)
  have HDN:Hid (D≠n+1∧w.heap.size≤D∧w.heap.size≤n+1):=⟨hnb,by omega,by omega⟩
  have HK:Hid (W.heap[D]?=some (.deferred (some []))):=hK
  clear HI0 hRB hrun hlo hS hK hnb
  gi_wp2_with fail
  refine⟨trivial,(callsIn_wide.2 hst).mono ?_⟩
  rintro e W2 ⟨rfl,-,hb2,ho2⟩
  have HK2:Hid (W2.heap[D]?=some (.deferred (some []))):=ho2 D _ HK.out (fun e=>HDN.out.1 (Option.some.inj e)) (fun c fz e=>by cases e)
  have HB2:Hid (Below w.heap.size w W2):=HB.out.trans (hb2.mono HDN.out.2.2)
  clear hst hb2 ho2
  gi_wp2
  refine⟨by simp,.inl ⟨_,_,rfl,run_takeDeferred HK2.out,?_⟩⟩
  exact⟨.string ⟨out.toArray⟩,by simp[results,Tryz.results6,go_sem],⟨out,rfl,HSE.out,HOL.out⟩,HB2.out.trans (belowK_b (w:=w) (qq1 _) W2 D _ _ HDN.out.2.1 HK2.out rfl rfl)⟩
end
section
open Go.RowKit Go.Deep
set_option maxRecDepth 100000 in
theorem zh3(t:List UInt8)(hl:t.length≤140737488351232)(q:Addr)(w:World)(hv:Vars q w) :
  Calls Tryz.prog 6 #[.string ⟨t.toArray⟩] w fun e w'=>(∃out,e=.returned (.string ⟨out.toArray⟩)∧ZS t out∧out.length≤100000000)∧Below w.heap.size w w':=by
 by_cases ht:t.length≤3000
 ·exact callsIn_wide.1 (zi5 t ht q w hv)
 ·have hsz:=bsize t
  have hti:(3000:Int)<(t.length:Int):=by omega
  have HS:Hid (ZS t XN):=(by
   show ZS t XN
   unfold ZS
   rw[if_pos (by omega)])
  clear hv ht
  refine(callsIn_wide (n:=5)).1 ?_
  refine callsIn_of_wp_marks Tryz.func6 rfl trivial ?_ rfl
  simp only[Tryz.ntmps6,List.size_toArray,List.length_cons,List.length_nil,Nat.reduceAdd,Nat.reduceSub,Array.replicate_succ,Array.replicate_zero,List.push_toArray,List.append_toArray,List.nil_append,List.cons_append]
  gi_wp2
  exact⟨.string ⟨XN.toArray⟩,by simp[results,Tryz.results6,go_sem,XN],⟨XN,rfl,HS.out,by decide⟩,qq4 _ _⟩
end
section
open Go.ChangeShapes Go.WideShapes Go.ChangeAt Go.RowKit Go.Deep Go.Joins
theorem Tryz.cells3:Tryz.prog.cellsOf 3=1:=by kernel_rfl
theorem Tryz.cells9:Tryz.prog.cellsOf 9=1:=by kernel_rfl
theorem Tryz.cells249:Tryz.prog.cellsOf 249=2:=by kernel_rfl
theorem Tryz.cells315:Tryz.prog.cellsOf 315=1:=by kernel_rfl
def XT{H:Type}:DataW H:=.agg ((List.range 6).map fun (k:Nat)=>.agg [.lit (.string (Yk ((k:Int)+1))),.lit (.int .i64 ((Xq ((k:Int)+1):Nat):Int))])
set_option maxRecDepth 100000 in
theorem zbu{H:Type}{enc:TypeId×Value→H}{W:World}{base:Nat}{spare:Nat→Bool}{held:Bool}{fuel:Nat}{cs:Array Value}{p:List MemPlace}
  (h:DataW.trod enc Tryz.prog W base spare held fuel 250 cs.toList=some (XT,p)) (hc:∀i,W.cell? ⟨3,i,none⟩=cs[i]?):Y3 W:=by
 obtain⟨xs,m,_,hx,hl,hxl,hf⟩:=DataW.trod_array Tryz.underlying250 h
 rw[Tryz.cells249]at hf
 have hd:∀k:Nat,k<6→(xs.map (·.1))[k]?=some (.agg [.lit (.string (Yk ((k:Int)+1))),.lit (.int .i64 ((Xq ((k:Int)+1):Nat):Int))]):=fun k hk=>by
  have:=congrArg Prod.fst hx
  unfold XT at this
  simp only[DataW.agg.injEq]at this
  rw[←this]
  simp[hk]
 have key:∀k:Nat,k<6→cs[k*2]?=some (.string ⟨(Yk ((k:Int)+1)).toArray⟩)∧cs[k*2+1]?=some (.int .i64 ((Xq ((k:Int)+1):Nat):Int)):=fun k hk=>by
  have h1:=hf k hk
  have h2:=hd k hk
  rw[List.getElem?_map]at h2
  obtain⟨y,hy,hy2⟩:=Option.map_eq_some_iff.1 h2
  rw[hy]at h1
  obtain⟨y0,y1,n,hyy,hlen,g0,g1⟩:=trod_struct2 Tryz.underlying249 h1
  have e:=congrArg Prod.fst hyy
  rw[hy2]at e
  simp only[DataW.agg.injEq,List.cons.injEq,and_true]at e
  have g0':DataW.trod enc Tryz.prog W base spare held n 9 ((((cs.toList.drop (k*2)).take 2).drop 0).take 1)=some y0:=by simpa[Tryz.cells9]using g0
  have g1':DataW.trod enc Tryz.prog W base spare held n 3 ((((cs.toList.drop (k*2)).take 2).drop 1).take 1)=some y1:=by simpa[Tryz.cells3]using g1
  obtain⟨s,hs,hs2,_⟩:=DataW.trod_string Tryz.underlying9 g0'
  obtain⟨z,hz,hz2,_⟩:=DataW.trod_int Tryz.underlying3 g1'
  have es:Yk ((k:Int)+1)=s.data.toList:=by
   have:=e.1
   rw[hs2]at this
   simpa using this
  have ez:((Xq ((k:Int)+1):Nat):Int)=z:=by
   have:=e.2
   rw[hz2]at this
   simpa using this
  constructor
  ·have:=congrArg (·[0]?) hs
   simp[List.getElem?_drop]at this
   rw[this,es]
  ·have:=congrArg (·[0]?) hz
   simp[List.getElem?_drop]at this
   rw[this,ez]
 refine⟨?_,fun k hk=>⟨(hc _).trans (key k hk).1,(hc _).trans (key k hk).2⟩⟩
 have h0:=(hc (0*2)).trans (key 0 (by omega)).1
 rcases Nat.lt_or_ge 3 W.heap.size with h|h
 ·exact h
 ·simp[World.cell?,Array.getElem?_eq_none h]at h0
namespace laidV
def LL:List (String×DataW Unit):=Rows.runBeginsRow.laid
theorem gSyn:Tryz.prog.globalNamed "strconv.ErrSyntax"=some 4:=by kernel_rfl
theorem gSynType:(Tryz.prog.globals[4]?).map (·.type)=some 35:=by kernel_rfl
theorem zcQ{W:World}(h:laidMetH Tryz.prog LL W):Synt W:=by
 have h1:=h.filter (fun x=>x.1=="strconv.ErrSyntax")
 have e:LL.filter (fun x=>x.1=="strconv.ErrSyntax")=[("strconv.ErrSyntax",Rows.laid_strconv_ErrSyntax)]:=by kernel_rfl
 rw[e]at h1
 have h2:laidMet Tryz.prog [("strconv.ErrSyntax",Rows.laid_strconv_ErrSyntax)] W:=(laidMetH_iff.1 h1).1
 obtain⟨ps,⟨g,t,cs,fuel,p,q,hg,ht,hv,htr,_⟩,_,_⟩:=h2
 obtain rfl:=Option.some.inj (gSyn.symm.trans hg)
 obtain rfl:=Option.some.inj (gSynType.symm.trans ht)
 obtain⟨fuel',u,v,hcs,_,_⟩:=iface_of_trod Tryz.underlying35 htr
 have hc:W.cell? ⟨4,0,none⟩=some (.iface u v):=by
  have h3:=World.var?_cell gSyn hv 0
  rw[h3]
  have:cs=#[.iface u v]:=by cases cs;simp_all
  subst this;rfl
 refine⟨u,v,hc,?_⟩
 rcases Nat.lt_or_ge 4 W.heap.size with h|h
 ·exact h
 ·simp[World.cell?,Array.getElem?_eq_none h]at hc
theorem gForms:Tryz.prog.globalNamed "yardgang/trace.forms"=some 3:=by kernel_rfl
theorem gFormsType:(Tryz.prog.globals[3]?).map (·.type)=some 250:=by kernel_rfl
theorem zbt{W:World}(h:laidMetH Tryz.prog LL W):Y3 W:=by
 have h1:=h.filter (fun x=>x.1=="yardgang/trace.forms")
 have e:LL.filter (fun x=>x.1=="yardgang/trace.forms")=[("yardgang/trace.forms",Rows.laid_yardgang_trace_forms)]:=by kernel_rfl
 rw[e]at h1
 have h2:laidMet Tryz.prog [("yardgang/trace.forms",Rows.laid_yardgang_trace_forms)] W:=(laidMetH_iff.1 h1).1
 obtain⟨ps,⟨g,t,cs,fuel,p,q,hg,ht,hv,htr,_⟩,_,_⟩:=h2
 obtain rfl:=Option.some.inj (gForms.symm.trans hg)
 obtain rfl:=Option.some.inj (gFormsType.symm.trans ht)
 exact zbu htr (fun i=>World.var?_cell gForms hv i)
theorem et:Tryz.prog.globalNamed "errors.errorType"=some 1:=by kernel_rfl
theorem rt:(Tryz.prog.cutTypes.find? (·.1=="internal/reflectlite.rtype")).map (·.2)=some 257:=by kernel_rfl
theorem oneRow:((List.range 354).filter fun t=>Tryz.prog.rowNamed t [101,114,114,111,114])=[35]:=by kernel_rfl
theorem size:Tryz.prog.types.size=354:=by kernel_rfl
theorem zbK{W:World}(h:laidMetH Tryz.prog LL W):Xy W:=by
 have h1:=h.filter (fun x=>x.1=="errors.errorType")
 have e:LL.filter (fun x=>x.1=="errors.errorType")=[("errors.errorType",Rows.laid_errors_errorType)]:=by kernel_rfl
 rw[e]at h1
 have h':laidMet Tryz.prog [] W∧handlesMet Tryz.prog [("errors.errorType",Rows.laid_errors_errorType)] W:=laidMetH_iff.1 h1
 obtain⟨name,u,ty,e1,e2,e3,e4,e5⟩:=h'.2 _ (List.mem_singleton.2 rfl)
 have en:name=[101,114,114,111,114]:=(Option.some.inj e1).symm
 subst en
 obtain rfl:=Option.some.inj (rt.symm.trans e2)
 have hm:ty∈(List.range 354).filter fun t=>Tryz.prog.rowNamed t [101,114,114,111,114]:=List.mem_filter.2 ⟨List.mem_range.2 (by rw[←size];exact e3),e4⟩
 rw[oneRow]at hm
 obtain rfl:=List.mem_singleton.1 hm
 have hh:typeHandle Tryz.prog 35=.pointer (some ⟨16,35,none⟩):=by kernel_rfl
 rw[hh]at e5
 unfold Xy
 simpa using World.var?_cell et e5 0
theorem zeroL:((begin Tryz.prog (fun _ _=>0) default).world.heap[2]?).bind Obj.row?=some (#[.int .i64 0],3):=by kernel_rfl
theorem buildable3:Tryz.prog.buildable 3=true:=by kernel_rfl
theorem cellTypes3:Tryz.prog.cellTypes Tryz.prog.depth 3=some [3]:=by kernel_rfl
set_option maxRecDepth 100000 in
theorem zbw{W:World}(h:W.ShapedOpen Tryz.prog):Lens W:=by
 obtain⟨cs,hh,hs,hr⟩:=h.1 2 #[.int .i64 0] 3 (of_decide_eq_true (by kernel_rfl)) zeroL
 obtain⟨ts,hts,_,hall⟩:=hr buildable3
 rw[cellTypes3]at hts
 cases hts
 have h1:0<cs.size:=by rw[hs];decide
 obtain⟨u,hu',hok⟩:=hall 0 cs[0] (by simp[h1])
 have:u=3:=by simpa using hu'.symm
 subst this
 have hcell:W.cell? ⟨2,0,none⟩=some cs[0]:=by simp[World.cell?,hh,h1]
 refine⟨?_,lt_of_block hh⟩
 rw[hcell]
 unfold Cell.ok at hok
 rw[Tryz.underlying3]at hok
 cases hv:cs[0] <;> rw[hv]at hok <;> simp at hok
 rename_i k m
 exact⟨m,by rw[hok.1]⟩
theorem gTabType:(Tryz.prog.globals[8]?).map (·.type)=some 309:=by kernel_rfl
theorem zd2{W:World}(h:laidMetH Tryz.prog LL W):Lib.TabIs Tryz.prog W "internal/strconv.uint64pow10" .u64 Lib.pow10Tab:=by
 have h1:=h.filter (fun x=>x.1=="internal/strconv.uint64pow10")
 have e:LL.filter (fun x=>x.1=="internal/strconv.uint64pow10")=[("internal/strconv.uint64pow10",Lib.tabData .u64 Lib.pow10Tab)]:=by kernel_rfl
 rw[e]at h1
 have h2:laidMet Tryz.prog [("internal/strconv.uint64pow10",Lib.tabData .u64 Lib.pow10Tab)] W:=(laidMetH_iff.1 h1).1
 exact Lib.tabIs_of_head Tryz.tabGlobal gTabType Tryz.underlying309 Tryz.underlying290 (by kernel_rfl) (by kernel_rfl) h2
theorem gBad:Tryz.prog.globalNamed "yardgang/run.errBad"=some 0:=by kernel_rfl
theorem gBadType:(Tryz.prog.globals[0]?).map (·.type)=some 35:=by kernel_rfl
theorem star:"*"++"errors.errorString"="*errors.errorString":=by decide
theorem rowES(u:TypeId)(h:Tryz.prog.typeName? 3 u=some "*errors.errorString"):u=313:=
 typeName_ptr_named (nm:="errors.errorString") (by rw[star];kernel_rfl) (by kernel_rfl) (by decide) u (by rw[star];exact h)
theorem zcX{W:World}(h:laidMetH Tryz.prog LL W):∃a:Addr,W.cell? ⟨0,0,none⟩=some (badV a)∧W.cell? a=some (.string ⟨badT.toArray⟩):=by
 have h1:=h.filter (fun x=>x.1=="yardgang/run.errBad")
 have e:LL.filter (fun x=>x.1=="yardgang/run.errBad")=[("yardgang/run.errBad",.iface "*errors.errorString" (.ptr (.agg [.lit (.string [98,97,100])])))]:=by kernel_rfl
 rw[e]at h1
 have h2:laidMet Tryz.prog [("yardgang/run.errBad",.iface "*errors.errorString" (.ptr (.agg [.lit (.string [98,97,100])])))] W:=(laidMetH_iff.1 h1).1
 obtain⟨a,s,hv,hc,hs,-⟩:=laid_sentinel h2 gBad gBadType Tryz.underlying35 rowES Tryz.underlying313 Tryz.underlying315 rfl rfl Tryz.underlying9 Tryz.cells315 Tryz.cells9
 refine⟨a,by unfold badV;simpa using World.var?_cell gBad hv 0,?_⟩
 rw[hc]
 obtain⟨⟨l⟩⟩:=s
 have hs:l=[98,97,100]:=hs
 subst hs
 rfl
theorem zaM{W:World}{a:Addr}{v:Value}(h:W.cell? a=some v):a.block<W.heap.size:=by
 rcases Nat.lt_or_ge a.block W.heap.size with hp|h0
 ·exact hp
 ·simp[World.cell?,Array.getElem?_eq_none h0]at h
theorem ziQ{W:World}(h:laidMetH Tryz.prog LL W)(hsh:W.ShapedOpen Tryz.prog):∃q,Vars q W:=by
 obtain⟨a,h1,h2⟩:=zcX h
 have ht:=zd2 h
 have hc:=ht.cell Tryz.tabGlobal 0 (by decide)
 exact⟨a,zcQ h,zbw hsh,zbK h,zbt h,ht,zaM hc,h1,zaM h1,h2,zaM h2⟩
end laidV
end
end Go.Proofs.YtlfbdjeojgbniaaGreatDoor

import Derived.Laws.CopyOwn
import Derived.Test.YtlfbdjeojgbniaaGreatDoorRan10
namespace Go.Proofs.YtlfbdjeojgbniaaGreatDoor
section
open Go.RowKit Go.Deep
def RowI(b:Nat)(w:World)(v:Value)(zs:List Int):Prop:=w.ownsRow b 3 1 v zs.length (zs.map (Value.int .i64))
theorem RowI.of_blocks{b:Nat}{w w':World}{v:Value}{zs:List Int}(h:RowI b w v zs)(hk:∀k,v.ownBlock=some k→w'.heap[k]?=w.heap[k]?):RowI b w' v zs:=by
 rcases h.2 with⟨rfl,hn⟩|⟨g,cap,cur,rfl,hb,hh,hr⟩
 ·exact⟨h.1,Or.inl ⟨rfl,hn⟩⟩
 ·exact⟨h.1,Or.inr ⟨g,cap,cur,rfl,hb,(hk g rfl).trans hh,hr⟩⟩
theorem RowI.mono{b b':Nat}{w:World}{v:Value}{zs:List Int}(h:RowI b w v zs)(hb:b'≤b):RowI b' w v zs:=by
 rcases h.2 with hn|⟨g,cap,cur,hv,hg,r⟩
 ·exact⟨h.1,Or.inl hn⟩
 ·exact⟨h.1,Or.inr ⟨g,cap,cur,hv,qq2 hb hg,r⟩⟩
theorem RowI.low{b:Nat}{w:World}{v:Value}{zs:List Int}(h:RowI b w v zs){k:Nat}(hk:v.ownBlock=some k):b≤k∧k<w.heap.size:=World.ownsRow.lt h k hk
theorem RowI.cap{B:Nat}{w:World}{v:Value}{zs:List Int}(h:RowI B w v zs):∃a c,v=.slice a zs.length c∧zs.length≤c:=by
 rcases h.2 with⟨rfl,hn⟩|⟨g,cap,cur,rfl,_,_,hc,_⟩
 ·exact⟨none,0,by rw[hn],by omega⟩
 ·exact⟨_,_,rfl,hc⟩
theorem RowI.shape{B:Nat}{w:World}{v:Value}{zs:List Int}(h:RowI B w v zs):∃a c,v=.slice a zs.length c:=by
 obtain⟨a,c,hv,_⟩:=h.cap
 exact⟨a,c,hv⟩
theorem RowI.nil(b:Nat)(w:World):RowI b w (.slice none 0 0) []:=World.ownsRow_nil _ _ _ _
theorem RowI.alloc{b:Nat}{w:World}{v:Value}{zs:List Int}(h:RowI b w v zs)(o:Obj):RowI b (w.alloc o) v zs:=h.of_blocks (fun _ e=>qa _ _ _ (h.low e).2)
theorem RowI.cell{b g n c:Nat}{w:World}{zs:List Int}(h:RowI b w (.slice (some ⟨g,0,none⟩) n c) zs){k:Nat}(hk:k<zs.length):w.cell? ⟨g,k,none⟩=some (.int .i64 (zs.getD k 0)):=by
 have:=World.ownsRow.cells h (g:=g) rfl k (.int .i64 (zs.getD k 0)) (by simp[List.getD_eq_getElem?_getD,List.getElem?_eq_getElem hk])
 rwa [Addr.add_lit,Nat.zero_add]at this
theorem RowI.full{b:Nat}{w:World}{v:Value}{zs:List Int}(h:RowI b w v zs)(hz:0<zs.length):∃g c,v=.slice (some ⟨g,0,none⟩) zs.length c∧b≤g∧g<w.heap.size∧zs.length≤c∧c≤maxLen:=by
 rcases h.2 with⟨_,h0⟩|⟨g,cap,cur,hv,hb,hh,hc,hm,_⟩
 ·omega
 ·exact⟨g,cap,hv,hb,(Array.getElem?_eq_some_iff.1 hh).1,hc,hm⟩
def Rds(A:Nat→Prop)(w:World)(v:Value)(xs:List Int):Prop:=
 ∃a c,v=.slice a xs.length c∧xs.length≤c∧∀k,k<xs.length→∃b o,a=some ⟨b,o,none⟩∧A b∧b<w.heap.size∧w.cell? ⟨b,o+k,none⟩=some (.int .i64 (xs.getD k 0))
theorem Rds.mono{A A':Nat→Prop}{w:World}{v:Value}{xs:List Int}(h:Rds A w v xs)(hA:∀b,A b→A' b):Rds A' w v xs:=by
 obtain⟨a,c,hv,hl,h⟩:=h
 refine⟨a,c,hv,hl,fun k hk=>?_⟩
 obtain⟨b,o,ha,hb,hw⟩:=h k hk
 exact⟨b,o,ha,hA b hb,hw⟩
theorem Rds.of_blocks{A:Nat→Prop}{w w':World}{v:Value}{xs:List Int}(h:Rds A w v xs)(hs:w.heap.size≤w'.heap.size)(hk:∀b,A b→b<w.heap.size→w'.heap[b]?=w.heap[b]?):Rds A w' v xs:=by
 obtain⟨a,c,hv,hl,h⟩:=h
 refine⟨a,c,hv,hl,fun k hk'=>?_⟩
 obtain⟨b,o,ha,hb,hw,hc⟩:=h k hk'
 exact⟨b,o,ha,hb,by omega,(qq9 (hk b hb hw)).trans hc⟩
theorem Rds.shape{A:Nat→Prop}{w:World}{v:Value}{xs:List Int}(h:Rds A w v xs):∃a c,v=.slice a xs.length c:=by
 obtain⟨a,c,hv,_⟩:=h
 exact⟨a,c,hv⟩
theorem RowI.rds{b:Nat}{w:World}{v:Value}{xs:List Int}(h:RowI b w v xs):Rds (fun k=>v.ownBlock=some k) w v xs:=by
 obtain⟨a,c,rfl,hc⟩:=h.cap
 refine⟨a,c,rfl,hc,fun k hk=>?_⟩
 obtain⟨g,c',hv,hg⟩:=h.full (by omega)
 simp only[Value.slice.injEq]at hv
 obtain⟨rfl,_,rfl⟩:=hv
 exact⟨g,0,rfl,rfl,hg.2.1,by rw[Nat.zero_add];exact h.cell hk⟩
theorem zY(ty:TypeId)(b:Option Addr)(n c:Nat)(a:Option Addr)(c':Nat)(w:World)(h:n≤c):(Builtin.append_ #[73,73] ty #[.slice b n c,.slice a 0 c']).run Tryz.prog w=.ok (.slice b n c) w:=by
 unfold Builtin.append_
 cases b with
 | none=>
  cases a with
  | none=>go_simp
  | some a=>go_simp
 | some b=>
  cases a with
  | none=>go_simp
  | some a=>go_simp
theorem zv(ty:TypeId){B:Nat}{A:Nat→Prop}{v x:Value}{zs ys:List Int}{w:World}(hv:RowI B w v zs)(hx:Rds A w x ys)(hb:zs.length+ys.length≤1000)(hB:B≤w.heap.size) :
  ∃v' w',(Builtin.append_ #[73,73] ty #[v,x]).run Tryz.prog w=.ok v' w'∧RowI B w' v' (zs++ys)∧w.grownBy w' v.ownBlock∧(v'.ownBlock=v.ownBlock∨v'.ownBlock=some w.heap.size):=by
 obtain⟨a,c,rfl,hc,hx⟩:=hx
 by_cases hy:ys=[]
 ·subst hy
  obtain⟨b,d,rfl,hd⟩:=hv.cap
  refine⟨_,w,zY ty b _ d a c w hd,by rw[List.append_nil];exact hv,⟨rfl,rfl,rfl,qq1 _,fun _ _ _=>rfl⟩,Or.inl rfl⟩
 ·have hpos:0<ys.length:=List.length_pos_iff.2 hy
  obtain⟨i3,hi3,hz0,hz1,hz2⟩:=info_parts Tryz.info3
  obtain⟨g,o,rfl,_⟩:=hx 0 hpos
  have hcl:∀j u,(ys.map (Value.int .i64))[j]?=some u→w.cell? ((⟨g,o,none⟩:Addr).add j)=some u:=fun j u hu=>by
   have hj:j<ys.length:=by have:=(List.getElem?_eq_some_iff.1 hu).1;simpa using this
   obtain⟨g',o',e,_,_,hc⟩:=hx j hj
   simp only[Option.some.injEq,Addr.mk.injEq,and_true]at e
   obtain⟨rfl,rfl⟩:=e
   rw[Addr.add_lit,hc]
   simpa[List.getD_eq_getElem?_getD,List.getElem?_eq_getElem hj]using hu
  obtain⟨v',w',h1,h2,h3,h4,h5⟩:=run_append_own_at (P:=Tryz.prog) w B 73 ty 3 i3 (.int .i64 0) 1 8 Tryz.underlying73 hi3 hz0 hz1 hz2 rfl (by decide) v zs.length (zs.map (Value.int .i64)) hv ⟨g,o,none⟩ ys.length c (ys.map (Value.int .i64)) (by simp) hcl (by intro u hu;obtain⟨x,_,rfl⟩:=List.mem_map.1 hu;rfl) (by unfold maxLen;omega) (by omega) hB
  refine⟨v',w',h1,?_,h3,h5⟩
  show w'.ownsRow B 3 1 v' (zs++ys).length ((zs++ys).map (Value.int .i64))
  rw[qb,List.map_append]
  exact h2
theorem ze{ops:Array Oper}{rest:List Oper}{o:Oper}{a:Act}{Q:Exit→Act→World→Prop}{w:World}(hgd:o.guard=none)(s x:Operand)(ho:o.op=.call { callee:=.builtin .append,args:=#[s,x],argTypes:=#[73,73] })
  (B:Nat) (A:Nat→Prop) (v xv:Value) (zs ys:List Int) (hs:a.eval s=v) (hx:a.eval x=xv) (hv:RowI B w v zs) (hxv:Rds A w xv ys) (hb:zs.length+ys.length≤1000) (hB:B≤w.heap.size)
  (h:∀v' w',RowI B w' v' (zs++ys)→w.grownBy w' v.ownBlock→(v'.ownBlock=v.ownBlock∨v'.ownBlock=some w.heap.size)→wpList Tryz.prog ops Q rest (a.put o.dst v') w'):wpList Tryz.prog ops Q (o::rest) a w:=by
 refine wpList_plain hgd fun K hK=>?_
 obtain⟨v',w',hr,h2,h3,h4⟩:=zv o.type hv hxv hb hB
 unfold Oper.wp execOp
 simp only[ho,resolve,invoke,builtin,Sem.run_bind,Sem.run_pure,Result.andThen_ok,List.map_toArray,List.map_cons,List.map_nil,hs,hx,hr]
 exact hK _ _ (h v' w' h2 h3 h4)
theorem zS{ops:Array Oper}{o:Oper}{a:Act}{w:World}{K:Act→World→Prop}{Q:Exit→Act→World→Prop}{E:Prop}(hgd:o.guard=none)(s x:Operand)(ho:o.op=.call { callee:=.builtin .append,args:=#[s,x],argTypes:=#[73,73] })
  (B:Nat) (A:Nat→Prop) (v xv:Value) (zs ys:List Int) (hs:a.eval s=v) (hx:a.eval x=xv) (hv:RowI B w v zs) (hxv:Rds A w xv ys) (hb:zs.length+ys.length≤1000) (hB:B≤w.heap.size)
  (h:∀v' w',RowI B w' v' (zs++ys)→w.grownBy w' v.ownBlock→(v'.ownBlock=v.ownBlock∨v'.ownBlock=some w.heap.size)→K (a.put o.dst v') w') :
  if Region.wanted o (yielded ops a.tmps)=true then Oper.wp Tryz.prog o a w K Q else E:=by
 have hw:Region.wanted o (yielded ops a.tmps)=true:=by simp[Region.wanted,hgd]
 rw[if_pos hw]
 obtain⟨v',w',hr,h2,h3,h4⟩:=zv o.type hv hxv hb hB
 unfold Oper.wp execOp
 simp only[ho,resolve,invoke,builtin,Sem.run_bind,Sem.run_pure,Result.andThen_ok,List.map_toArray,List.map_cons,List.map_nil,hs,hx,hr]
 exact h v' w' h2 h3 h4
structure Kx (X:Nat→Prop) (w w':World):Prop where
 os:w'.os=w.os
 tape:w'.tape=w.tape
 output:w'.output=w.output
 size:w.heap.size≤w'.heap.size
 block:∀k,k<w.heap.size→¬X k→w'.heap[k]?=w.heap[k]?
theorem Kx.refl(X:Nat→Prop)(w:World):Kx X w w:=⟨rfl,rfl,rfl,qq1 _,fun _ _ _=>rfl⟩
theorem Kx.trans{X Y:Nat→Prop}{a b c:World}(h:Kx X a b)(k:Kx Y b c)(hY:∀j,Y j→X j∨a.heap.size≤j):Kx X a c:=
 ⟨k.os.trans h.os,k.tape.trans h.tape,k.output.trans h.output,qq2 h.size k.size,fun i hi hX=>by
  refine(k.block i (qq3 hi h.size) (fun e=>?_)).trans (h.block i hi hX)
  rcases hY i e with h1|h1
  ·exact hX h1
  ·omega⟩
theorem Kx.later{X:Nat→Prop}{w w1 w2:World}(h:Kx X w w1)(hb:Below w1.heap.size w1 w2):Kx X w w2:=
 h.trans (Y:=fun _=>False) ⟨hb.os,hb.tape,hb.output,hb.size,fun k hk _=>hb.block k hk⟩ (fun _ e=>e.elim)
theorem Below.kx{X:Nat→Prop}{w w':World}(h:Below w.heap.size w w'):Kx X w w':=⟨h.os,h.tape,h.output,h.size,fun k hk _=>h.block k hk⟩
theorem Kx.set{X:Nat→Prop}{w0 w:World}(h:Kx X w0 w){M:Nat}(hM:X M∨w0.heap.size≤M)(j:Nat)(u:Value):Kx X w0 (w.setCell ⟨M,j,none⟩ u):=
 h.trans (Y:=fun k=>k=M) ⟨rfl,rfl,rfl,by simp,fun k _ hk=>qq5 _ _ _ _ (by show k≠M;exact hk)⟩ (fun j e=>by rw[e];exact hM)
theorem Rds.at{A:Nat→Prop}{w:World}{a:Option Addr}{n c:Nat}{xs:List Int}(h:Rds A w (.slice a n c) xs){k:Nat}(hk:k<xs.length):∃b o,a=some ⟨b,o,none⟩∧A b∧b<w.heap.size∧w.cell? ⟨b,o+k,none⟩=some (.int .i64 (xs.getD k 0)):=by
 obtain⟨a2,c2,hv,_,h⟩:=h
 simp only[Value.slice.injEq]at hv
 obtain⟨rfl,_,rfl⟩:=hv
 exact h k hk
set_option maxRecDepth 100000 in
set_option maxHeartbeats 2000000 in
theorem zhc(v:Value)(ts:Zl)(w:World)(hp:Zf w v ts)(h30:ts.length≤30) :
  Calls Tryz.prog 81 #[v] w fun e w'=>e=.returned (.slice (some ⟨w.heap.size,0,none⟩) ts.length ts.length)∧w'.rowIs w.heap.size 3 ts.length (Zo (wkOf ts))∧Below w.heap.size w w':=by
 obtain⟨hl,a,c,rfl,hpc⟩:=hp
 have hmk:=fun wx=>run_make_row' (P:=Tryz.prog) 73 3 (.int .i64 0) 8 Tryz.underlying73 Tryz.info3 rfl .i64 .i64 ts.length (by omega) (by omega) wx
 go_enter Tryz.func81,Tryz.ntmps81
 go_wp2
 clear hmk
 go_loopw [11] (fun s11 wr=>∃m:Nat,m≤ts.length∧s11=.int .i64 m∧Hid (wr.rowIs w.heap.size 3 ts.length (Zo (fun k=>if k<m then wkOf ts k else 0)))∧Below w.heap.size w wr) (fun s11 _=>ts.length-(intOf s11).toNat)
 case atStart=>exact⟨0,Nat.zero_le _,rfl,(World.rowIs_made w (.int .i64 0) ts.length 3).congr (fun k _=>rfl),(qq4 _ _).alloc (qq1 _) _⟩
 case round=>
  obtain⟨m,hm,rfl,hrow,hB⟩:=hrel
  by_cases hml:m<ts.length
  ·rcases hpc with rfl|⟨b,o,rfl,hbl,hc⟩
   ·simp at hml
   obtain⟨hc1,nv,hc2,hin⟩:=hc m hml
   obtain⟨a2,c2,rfl⟩:∃a2 c2,nv=.slice a2 (Za ts m).length c2:=by
    obtain⟨_,a2,c2,h,_⟩:=hin
    exact⟨a2,c2,h⟩
   have hc1':=(hB.cell (p:=⟨b,o+m*2,none⟩) hbl).trans hc1
   have hc2':=(hB.cell (p:=⟨b,o+m*2+1,none⟩) hbl).trans hc2
   have HE:Hid (wkOf ts m=(ts.getD m (0,[])).1):=rfl
   clear hc hc1 hc2 hin
   generalize (ts.getD m (0,[])).1=wk at *
   generalize (Za ts m).length=nl at *
   have hra:=hrow.out.alloc (.cells #[.int .i64 wk,.slice a2 nl c2] 94)
   have hr0:=hrow.out
   have hfr:=hra.frozen m
   have hce:=hra.cell hml
   have HN:Hid (((wr.setCell ⟨w.heap.size,m,none⟩ (.int .i64 wk)).alloc (.cells #[.int .i64 wk,.slice a2 nl c2] 94)).rowIs w.heap.size 3 ts.length (Zo (fun k=>if k<m+1 then wkOf ts k else 0))):=by
    refine((yd hr0).alloc _).congr (fun k hk=>?_)
    unfold Zo upd
    dsimp only
    by_cases e:k=m
    ·subst e;rw[if_pos rfl,if_pos (by omega),HE.out]
    ·rw[if_neg e]
     by_cases e2:k<m
     ·rw[if_pos e2,if_pos (by omega)]
     ·rw[if_neg e2,if_neg (by omega)]
   have hB2:Below w.heap.size w ((wr.setCell ⟨w.heap.size,m,none⟩ (.int .i64 wk)).alloc (.cells #[.int .i64 wk,.slice a2 nl c2] 94)):=(hB.setCell (p:=⟨w.heap.size,m,none⟩) (qq1 _) _).alloc (by simp;exact hB.size) _
   unfold Zo at hce
   have hlt:=hrow.out.lt
   clear hra hrow hr0
   go_wp2
   go_roundw
   case rel=>exact⟨m+1,by omega,by go_num,HN,hB2⟩
   case measure=>simp[intOf];omega
  ·have hke:m=ts.length:=by omega
   clear hpc
   have HR:Hid (wr.rowIs w.heap.size 3 ts.length (Zo (wkOf ts))):=hrow.out.congr (fun k hk=>by unfold Zo;dsimp only;rw[if_pos (by omega)])
   clear hrow
   subst hke
   go_wp2
   go_ret
   exact⟨rfl,HR.out,hB⟩
theorem enters20:∀args w,(callFunc 115 args).run Tryz.prog w=.ok (.enter 115 args) w:=enters_of Tryz.func115 (by kernel_rfl) rfl
theorem ziP(L:Nat→Int)(n N:Nat)(a:Addr)(y:Int)(w:World)(hc:w.cell? a=some (.slice (some ⟨N,0,none⟩) n n))(hrow:w.rowIs N 3 n (Zo L))(_:n≤30)(h0:0≤y)(h1:y<n) :
  Calls Tryz.prog 115 (#[.int .i64 y]++#[.pointer (some a)]) w fun e w'=>e=.returned (.bool (undB L y))∧w'=w:=by
 obtain⟨k,rfl⟩:=qc h0
 show Calls Tryz.prog 115 #[.int .i64 k,.pointer (some a)] w _
 have hk:k<n:=by omega
 have hcell:=hrow.cell hk
 have hlt:=hrow.lt
 unfold Zo at hcell
 unfold undB
 rw[Int.toNat_natCast]
 generalize L k=x at *
 clear hrow
 by_cases hx:0<x
 all_goals
  go_enter Tryz.func115,Tryz.ntmps115
  go_wp2
  go_ret
  exact⟨zM (by simp[hx]),rfl⟩
theorem zK(w:World)(x:Int):Rds (fun _=>True) (w.alloc (.cells #[.int .i64 x] 3)) (.slice (some ⟨w.heap.size,0,none⟩) 1 1) [x]:=
 ⟨_,_,rfl,qq1 _,fun k hk=>⟨w.heap.size,0,rfl,trivial,by simp,by
  have hk0:k=0:=by simp at hk;omega
  subst hk0
  unfold World.cell?
  dsimp only
  rw[blk_alloc_new]
  rfl⟩⟩
theorem RowI.later{b:Nat}{w w':World}{v:Value}{zs:List Int}(h:RowI b w v zs)(hb:Below w.heap.size w w'):RowI b w' v zs:=h.of_blocks (fun _ e=>hb.block _ (h.low e).2)
set_option maxRecDepth 100000 in
set_option maxHeartbeats 2000000 in
theorem zgM(v:Value)(ts:Zl)(L:Nat→Int)(N:Nat)(w:World)(hp:Zf w v ts)(hrow:w.rowIs N 3 ts.length (Zo L))(hr:ZA ts)(h30:ts.length≤30) :
  Calls Tryz.prog 82 #[v,.slice (some ⟨N,0,none⟩) ts.length ts.length] w fun e w'=>(∃rv,e=.returned rv∧RowI w.heap.size w' rv (Zb (Zx ts L ts.length)))∧Below w.heap.size w w':=by
 have HP:Hid (Zf w v ts):=hp
 obtain⟨hl,a,c,rfl,hpc⟩:=hp
 have hbw:Below w.heap.size w (w.alloc (.cells #[.slice (some ⟨N,0,none⟩) ts.length ts.length] 73)):=(qq4 _ _).alloc (qq1 _) _
 have hbox:(w.alloc (.cells #[.slice (some ⟨N,0,none⟩) ts.length ts.length] 73)).cell? ⟨w.heap.size,0,none⟩=some (.slice (some ⟨N,0,none⟩) ts.length ts.length):=by
  unfold World.cell?
  dsimp only
  rw[blk_alloc_new]
  rfl
 have hrw:=hrow.alloc (.cells #[.slice (some ⟨N,0,none⟩) ts.length ts.length] 73)
 have hsz:(w.alloc (.cells #[.slice (some ⟨N,0,none⟩) ts.length ts.length] 73)).heap.size=w.heap.size+1:=by simp
 have hN:=hrow.lt
 clear hpc hrow
 go_enter Tryz.func82,Tryz.ntmps82
 go_wp2
 obtain⟨W,hW⟩:∃W,W=w.alloc (.cells #[.slice (some ⟨N,0,none⟩) ts.length ts.length] 73):=⟨_,rfl⟩
 obtain⟨B,hB⟩:∃B,B=w.heap.size:=⟨_,rfl⟩
 rw[←hW]at hbw hbox hrw hsz ⊢
 have HB:Hid (B=w.heap.size):=hB
 rw[←hB]at hbox ⊢
 have hBW:B<W.heap.size:=by omega
 have HRW:Hid (W.rowIs N 3 ts.length (Zo L)):=hrw
 have HBX:Hid (W.cell? ⟨B,0,none⟩=some (.slice (some ⟨N,0,none⟩) ts.length ts.length)):=hbox
 have HBW:Hid (Below w.heap.size w W):=hbw
 have HS:Hid (W.heap.size=w.heap.size+1):=hsz
 clear hW hB hbw hrw hbox hsz
 go_loopw [6,12] (fun s6 s12 wr=>∃k:Nat,k≤ts.length∧s12=.int .i64 k∧Hid (RowI W.heap.size wr s6 (Zb (Zx ts L k)))∧Below W.heap.size W wr) (fun _ s12 _=>ts.length-(intOf s12).toNat)
 case atStart=>exact⟨0,Nat.zero_le _,rfl,RowI.nil _ _,qq4 _ _⟩
 case round=>
  obtain⟨k,hk,rfl,hR,hb⟩:=hrel
  obtain⟨la,lc,rfl⟩:=hR.out.shape
  have hrow:wr.rowIs N 3 ts.length (Zo L):=HRW.out.of_block (hb.block _ (by have:=HS.out;omega))
  have hbox:wr.cell? ⟨B,0,none⟩=some (.slice (some ⟨N,0,none⟩) ts.length ts.length):=(hb.cell (p:=⟨B,0,none⟩) hBW).trans HBX.out
  by_cases hkl:k<ts.length
  ·have hpw:=(HP.out.later HBW.out).later hb
   obtain⟨_,a',c',hva,hpc⟩:=hpw
   obtain⟨rfl,-,rfl⟩:a=a'∧True∧c=c':=by simp at hva;exact⟨hva.1,trivial,hva.2⟩
   clear hva
   rcases hpc with h|⟨b,o,rfl,hbl,hc⟩
   ·subst h;simp at hkl
   obtain⟨hc1,nv,hc2,hin⟩:=hc k hkl
   obtain⟨a2,c2,rfl⟩:∃a2 c2,nv=.slice a2 (Za ts k).length c2:=by
    obtain⟨_,a2,c2,h,_⟩:=hin
    exact⟨a2,c2,h⟩
   clear hc
   have HT:Hid (Zx ts L (k+1)=Zx ts L k++if rdyB ts L k then [k] else []):=zbb ts L k
   have hba:Below wr.heap.size wr (wr.alloc (.cells #[.int .i64 (ts.getD k (0,[])).1,.slice a2 (Za ts k).length c2] 94)):=(qq4 _ _).alloc (qq1 _) _
   have hin2:=hin.later hba
   have hrow2:=hrow.alloc (.cells #[.int .i64 (ts.getD k (0,[])).1,.slice a2 (Za ts k).length c2] 94)
   have hbox2:=(hba.cell (p:=⟨B,0,none⟩) (by show B<_;have:=hb.size;omega)).trans hbox
   have hund:=fun y (h0:0≤y) (h1:y<(ts.length:Int))=>ziP L ts.length N ⟨B,0,none⟩ y _ hbox2 hrow2 h30 h0 h1
   have hcf:=yA _ (Za ts k) 115 #[.pointer (some ⟨B,0,none⟩)] (undB L) _ hin2 ⟨enters20,fun x hx=>hund x (hr k hkl x hx).1 (hr k hkl x hx).2⟩
   have hu:=hund (k:Int) (by omega) (by omega)
   have HB2:Hid (Below wr.heap.size wr (wr.alloc (.cells #[.int .i64 (ts.getD k (0,[])).1,.slice a2 (Za ts k).length c2] 94))):=hba
   have hua:undB L (k:Int)=decide (0<L k):=by unfold undB;rw[Int.toNat_natCast]
   rw[hua]at hu
   have hu:Calls Tryz.prog 115 #[.int .i64 k,.pointer (some ⟨B,0,none⟩)] _ _:=hu
   have hsb:=hb.size
   have hrb:rdyB ts L k=(decide (0<L k)&&!(Za ts k).any (undB L)):=rfl
   have hlen:(Zb (Zx ts L k)).length≤30:=by rw[zd];have:=qS ts L k;omega
   have HR:Hid (∀wx,Below wr.heap.size wr wx→RowI W.heap.size wx (.slice la (Zb (Zx ts L k)).length lc) (Zb (Zx ts L k))):=fun wx hx=>hR.out.later hx
   have HRN:Hid (rdyB ts L k=false→Zb (Zx ts L (k+1))=Zb (Zx ts L k)):=fun e=>by rw[HT.out,e];simp
   have HRY:Hid (rdyB ts L k=true→Zb (Zx ts L (k+1))=Zb (Zx ts L k)++[(k:Int)]):=fun e=>by rw[HT.out,e];simp[Zb]
   rw[hrb]at HRN HRY
   clear hR HT hund hrow hrow2 hbox hbox2 hin hin2 hba hrb hua
   generalize (ts.getD k (0,[])).1=wk at *
   generalize (Za ts k).any (undB L)=ab at *
   generalize (Za ts k).length=nl at *
   generalize hxs:Zb (Zx ts L k)=l at *
   clear hxs
   cases hd:decide (0<L k)
   ·rw[hd]at HRN hu
    have e:=HRN.out (by simp)
    have HE:Hid (Zb (Zx ts L (k+1))=l):=e
    clear e HRN HRY hd hcf
    go_wp2_with (first|(go_at_call 115;refine hu.mono ?_;clear hu;rintro e w' ⟨rfl,rfl⟩))
    go_roundw
    case rel=>exact⟨k+1,by omega,by go_num,by show RowI _ _ _ _;rw[HE.out];exact HR.out _ HB2.out,hb.trans (HB2.out.mono hsb)⟩
    case measure=>simp[intOf];omega
   ·rw[hd]at HRN HRY hu
    cases ab
    ·have e:=HRY.out (by simp)
     have HE:Hid (Zb (Zx ts L (k+1))=l++[(k:Int)]):=e
     clear e HRN HRY hd
     have hoa:=(HR.out _ HB2.out).alloc (.cells #[.int .i64 k] 3)
     have hba2:Below W.heap.size W ((wr.alloc (.cells #[.int .i64 wk,.slice a2 nl c2] 94)).alloc (.cells #[.int .i64 k] 3)):=(hb.trans (HB2.out.mono hsb)).alloc (by simp;omega) _
     have HO:Hid (Rds (fun _=>True) ((wr.alloc (.cells #[.int .i64 wk,.slice a2 nl c2] 94)).alloc (.cells #[.int .i64 k] 3)) (.slice (some ⟨wr.heap.size+1,0,none⟩) 1 1) [(k:Int)]):=by
      have:=zK (wr.alloc (.cells #[.int .i64 wk,.slice a2 nl c2] 94)) k
      rw[nblk_alloc]at this
      exact this
     go_wp2_with (first|(go_at_call 115;refine hu.mono ?_;clear hu;rintro e w' ⟨rfl,rfl⟩)|(go_at_call 111;refine hcf.mono ?_;clear hcf;rintro e w' ⟨rfl,rfl⟩)|(at_builtin;refine ze rfl (.tmp 27) (.tmp 29) rfl W.heap.size (fun _=>True) (.slice la l.length lc) (.slice (some ⟨wr.heap.size+1,0,none⟩) 1 1) l [(k:Int)] rfl rfl hoa HO.out (by simp;omega) (by simp;omega) ?_;intro v2 w2 hown2 hgr2 hat2))
     have hb2:Below W.heap.size W w2:=hba2.grown hgr2 (by simp;omega) (fun j e=>(hoa.low e).1)
     have HN:Hid (RowI W.heap.size w2 v2 (Zb (Zx ts L (k+1)))):=by show RowI _ _ _ _;rw[HE.out];exact hown2
     clear hown2 hgr2 hat2 hoa HO HR hba2
     go_wp2
     go_roundw
     case rel=>exact⟨k+1,by omega,by go_num,HN,hb2⟩
     case measure=>simp[intOf];omega
    ·have e:=HRN.out (by simp)
     have HE:Hid (Zb (Zx ts L (k+1))=l):=e
     clear e HRN HRY hd
     go_wp2_with (first|(go_at_call 115;refine hu.mono ?_;clear hu;rintro e w' ⟨rfl,rfl⟩)|(go_at_call 111;refine hcf.mono ?_;clear hcf;rintro e w' ⟨rfl,rfl⟩))
     go_roundw
     case rel=>exact⟨k+1,by omega,by go_num,by show RowI _ _ _ _;rw[HE.out];exact HR.out _ HB2.out,hb.trans (HB2.out.mono hsb)⟩
     case measure=>simp[intOf];omega
  ·have hke:k=ts.length:=by omega
   have HE:Hid (RowI w.heap.size wr (.slice la (Zb (Zx ts L k)).length lc) (Zb (Zx ts L ts.length))):=by
    have:=hR.out.mono (b':=w.heap.size) (by have:=HS.out;omega)
    rw[hke]at this ⊢;exact this
   have hbe:Below w.heap.size w wr:=HBW.out.trans (hb.mono (by have:=HS.out;omega))
   clear hR hke
   go_wp2
   go_ret
   exact⟨⟨_,rfl,HE.out⟩,hbe⟩
def gErr(q hands:Int):Int:=if q=0 then (if hands<1∨6<hands then 1 else 0) else q
set_option maxHeartbeats 1000000 in
theorem zaU(v:Value)(ts:Zl)(hands:Int)(w:World)(hp:Zf w v ts) :
  Calls Tryz.prog 80 #[v,.int .i64 hands] w fun e w'=>(∃p q,Zc ts p q∧e=.returned (errV (gErr q hands)))∧Below w.heap.size w w':=by
 have hck:=yY v ts w hp
 obtain⟨hl,a,c,rfl,hp⟩:=hp
 clear hp
 go_enter Tryz.func80,Tryz.ntmps80
 go_wp2_with fail
 refine hck.mono ?_
 rintro e w1 ⟨⟨p,q,rfl,hc⟩,hb1⟩
 clear hck
 by_cases hq:q=0
 ·subst hq
  rw[zI]
  by_cases h1:hands<1
  ·have HE:Hid (errV (gErr 0 hands)=.iface 97 (.int .i64 1)):=by show _=_;unfold gErr;rw[if_pos rfl,if_pos (Or.inl h1)];rfl
   go_wp2
   go_ret
   exact⟨⟨p,0,hc,by rw[HE.out];rfl⟩,hb1⟩
  ·by_cases h2:6<hands
   ·have HE:Hid (errV (gErr 0 hands)=.iface 97 (.int .i64 1)):=by show _=_;unfold gErr;rw[if_pos rfl,if_pos (Or.inr h2)];rfl
    go_wp2
    go_ret
    exact⟨⟨p,0,hc,by rw[HE.out];rfl⟩,hb1⟩
   ·have HE:Hid (errV (gErr 0 hands)=.nilIface):=by show _=_;unfold gErr;rw[if_pos rfl,if_neg (by omega)];rfl
    go_wp2
    go_ret
    exact⟨⟨p,0,hc,by rw[HE.out];rfl⟩,hb1⟩
 ·have hev:=zu hq
  rw[hev]
  have HE:Hid (errV (gErr q hands)=.iface 97 (.int .i64 q)):=by show _=_;unfold gErr;rw[if_neg hq];exact hev
  clear hev
  go_wp2
  go_ret
  exact⟨⟨p,q,hc,by rw[HE.out];rfl⟩,hb1⟩
def flat(bs:List (Nat×Nat×Nat)):List Value:=bs.flatMap (fun b=>[.int .i64 b.1,.int .i64 b.2.1,.int .i64 b.2.2])
theorem zan(a b:List (Nat×Nat×Nat)):flat (a++b)=flat a++flat b:=by simp[flat]
theorem zhv(b:Nat×Nat×Nat):flat [b]=[.int .i64 b.1,.int .i64 b.2.1,.int .i64 b.2.2]:=rfl
theorem ziC{bs:List (Nat×Nat×Nat)}{k:Nat}(hk:k<bs.length):(flat bs)[k*3]?=some (.int .i64 (bs.getD k (0,0,0)).1)∧(flat bs)[k*3+1]?=some (.int .i64 (bs.getD k (0,0,0)).2.1)∧(flat bs)[k*3+2]?=some (.int .i64 (bs.getD k (0,0,0)).2.2):=by
 induction bs generalizing k with
 | nil=>simp at hk
 | cons b r ih=>
  have e:flat (b::r)=flat [b]++flat r:=zan [b] r
  rw[e]
  cases k with
  | zero=>exact⟨rfl,rfl,rfl⟩
  | succ k=>
   have hl:(flat [b]).length=3:=rfl
   rw[List.getElem?_append_right (by rw[hl];omega),List.getElem?_append_right (by rw[hl];omega),List.getElem?_append_right (by rw[hl];omega),hl]
   rw[show(k+1)*3-3=k*3 by omega,show(k+1)*3+1-3=k*3+1 by omega,show(k+1)*3+2-3=k*3+2 by omega]
   simpa using ih (k:=k) (by simp at hk;omega)
def RowB(b:Nat)(w:World)(v:Value)(bs:List (Nat×Nat×Nat)):Prop:=w.ownsRow b 102 3 v bs.length (flat bs)
theorem RowB.of_blocks{b:Nat}{w w':World}{v:Value}{bs:List (Nat×Nat×Nat)}(h:RowB b w v bs)(hk:∀k,v.ownBlock=some k→w'.heap[k]?=w.heap[k]?):RowB b w' v bs:=by
 rcases h.2 with⟨rfl,hn⟩|⟨g,cap,cur,rfl,hb,hh,hr⟩
 ·exact⟨h.1,Or.inl ⟨rfl,hn⟩⟩
 ·exact⟨h.1,Or.inr ⟨g,cap,cur,rfl,hb,(hk g rfl).trans hh,hr⟩⟩
theorem RowB.mono{b b':Nat}{w:World}{v:Value}{bs:List (Nat×Nat×Nat)}(h:RowB b w v bs)(hb:b'≤b):RowB b' w v bs:=by
 rcases h.2 with hn|⟨g,cap,cur,hv,hg,r⟩
 ·exact⟨h.1,Or.inl hn⟩
 ·exact⟨h.1,Or.inr ⟨g,cap,cur,hv,qq2 hb hg,r⟩⟩
theorem RowB.low{b:Nat}{w:World}{v:Value}{bs:List (Nat×Nat×Nat)}(h:RowB b w v bs){k:Nat}(hk:v.ownBlock=some k):b≤k∧k<w.heap.size:=World.ownsRow.lt h k hk
theorem RowB.shape{b:Nat}{w:World}{v:Value}{bs:List (Nat×Nat×Nat)}(h:RowB b w v bs):∃a c,v=.slice a bs.length c:=by
 rcases h.2 with⟨rfl,hn⟩|⟨g,cap,cur,rfl,_,_,hc,_⟩
 ·exact⟨none,0,by rw[hn]⟩
 ·exact⟨_,_,rfl⟩
theorem RowB.nil(b:Nat)(w:World):RowB b w (.slice none 0 0) []:=World.ownsRow_nil _ _ _ _
theorem RowB.later{b:Nat}{w w':World}{v:Value}{bs:List (Nat×Nat×Nat)}(h:RowB b w v bs)(hb:Below w.heap.size w w'):RowB b w' v bs:=h.of_blocks (fun _ e=>hb.block _ (h.low e).2)
theorem RowB.full{b:Nat}{w:World}{v:Value}{bs:List (Nat×Nat×Nat)}(h:RowB b w v bs)(hz:0<bs.length):∃g c,v=.slice (some ⟨g,0,none⟩) bs.length c∧b≤g∧g<w.heap.size∧bs.length≤c∧∀k,k<bs.length→
  w.cell? ⟨g,k*3,none⟩=some (.int .i64 (bs.getD k (0,0,0)).1)∧w.cell? ⟨g,k*3+1,none⟩=some (.int .i64 (bs.getD k (0,0,0)).2.1)∧w.cell? ⟨g,k*3+2,none⟩=some (.int .i64 (bs.getD k (0,0,0)).2.2):=by
 rcases h.2 with⟨_,h0⟩|⟨g,cap,cur,hv,hb,hh,hc,hm,_⟩
 ·omega
 ·subst hv
  refine⟨g,cap,rfl,hb,(Array.getElem?_eq_some_iff.1 hh).1,hc,fun k hk=>?_⟩
  obtain⟨e1,e2,e3⟩:=ziC hk
  exact⟨(World.ownsRow.cellAt h (k*3) (by omega)).trans e1,(World.ownsRow.cellAt h (k*3+1) (by omega)).trans e2,(World.ownsRow.cellAt h (k*3+2) (by omega)).trans e3⟩
theorem RowB.not_row{C b n:Nat}{w:World}{v:Value}{bs:List (Nat×Nat×Nat)}{t:TypeId}{f:Nat→Value}(h:RowB C w v bs)(hb:v.ownBlock=some b)(h':w.rowIs b t n f):t=102:=by
 rcases h.2 with⟨rfl,_⟩|⟨g,cap,cur,rfl,_,hh,_⟩
 ·simp[Value.ownBlock]at hb
 ·simp only[Value.ownBlock,Option.some.injEq]at hb
  subst hb
  obtain⟨c,hb',_⟩:=h'
  rw[hh]at hb'
  simp at hb'
  exact hb'.2.symm
theorem RowB.not_ints{C C' b:Nat}{w:World}{v v':Value}{bs:List (Nat×Nat×Nat)}{zs:List Int}(h:RowB C w v bs)(hb:v.ownBlock=some b)(h':RowI C' w v' zs)(hb':v'.ownBlock=some b):False:=by
 rcases h.2 with⟨rfl,_⟩|⟨g,cap,cur,rfl,_,hh,_⟩
 ·simp[Value.ownBlock]at hb
 ·simp only[Value.ownBlock,Option.some.injEq]at hb
  subst hb
  rcases h'.2 with⟨rfl,_⟩|⟨g',cap',cur',rfl,_,hh',_⟩
  ·simp[Value.ownBlock]at hb'
  ·simp only[Value.ownBlock,Option.some.injEq]at hb'
   subst hb'
   rw[hh]at hh'
   simp at hh'
theorem RowI.past{C C':Nat}{w w':World}{v v':Value}{bs:List (Nat×Nat×Nat)}{zs:List Int}(h':RowI C' w v' zs)(h:RowB C w v bs)(hg:w.grownBy w' v.ownBlock):RowI C' w' v' zs:=
 h'.of_blocks (fun k hk=>hg.block k (h'.low hk).2 (fun e=>h.not_ints e.symm h' hk))
structure GMem (N n:Nat) (w wr:World) (L:Nat→Int) (bv:Value) (bs:List (Nat×Nat×Nat)):Prop where
 row:wr.rowIs N 3 n (Zo L)
 bits:RowB N wr bv bs
 below:Below N w wr
theorem GMem.later{N n:Nat}{w wr w':World}{L:Nat→Int}{bv:Value}{bs:List (Nat×Nat×Nat)}(h:GMem N n w wr L bv bs)(hb:Below wr.heap.size wr w'):GMem N n w w' L bv bs:=
 ⟨h.row.of_block (hb.block _ h.row.lt),h.bits.later hb,h.below.trans (hb.mono (Nat.le_of_lt h.row.lt))⟩
theorem GMem.app{N n:Nat}{w wr w':World}{L:Nat→Int}{bv bv':Value}{bs:List (Nat×Nat×Nat)}{b:Nat×Nat×Nat}(h:GMem N n w wr L bv bs)
  (ho:w'.ownsRow N 102 3 bv' (bs.length+1) (flat bs++[.int .i64 b.1,.int .i64 b.2.1,.int .i64 b.2.2])) (hg:wr.grownBy w' bv.ownBlock):GMem N n w w' L bv' (bs++[b]):=by
 refine⟨h.row.of_block (hg.block _ h.row.lt (fun e=>absurd (h.bits.not_row e.symm h.row) (by decide))),?_,h.below.grown hg (Nat.le_of_lt h.row.lt) (fun j e=>(h.bits.low e).1)⟩
 show w'.ownsRow N 102 3 bv' (bs++[b]).length (flat (bs++[b]))
 rw[zan,zhv,qb]
 exact ho
theorem GMem.set{N n:Nat}{w wr:World}{L:Nat→Int}{bv:Value}{bs:List (Nat×Nat×Nat)}(h:GMem N n w wr L bv bs)(x:Nat)(u:Int):GMem N n w (wr.setCell ⟨N,x,none⟩ (.int .i64 u)) (upd L x u) bv bs:=
 ⟨yd h.row,h.bits.of_blocks (fun k hk=>qq5 wr ⟨N,x,none⟩ _ k (fun e=>by
  have e:k=N:=e
  subst e
  exact absurd (h.bits.not_row hk h.row) (by decide))),h.below.setCell (p:=⟨N,x,none⟩) (qq1 _) _⟩
theorem Tryz.info102:(Tryz.prog.info? 102).map (fun i=>(i.zero,i.size,i.bytes))=some (some (.agg #[.int .i64 0,.int .i64 0,.int .i64 0]),3,24):=by kernel_rfl
end
end Go.Proofs.YtlfbdjeojgbniaaGreatDoor

import Derived.Test.YtlfbdjeojgbniaaGreatDoorRan16
namespace Go.Proofs.YtlfbdjeojgbniaaGreatDoor.Prk
open Go.RowKit Go.Deep
theorem Tryz.info3:(Tryz.prog.info? 3).map (fun i=>(i.zero,i.size,i.bytes))=some (some (.int .i64 0),1,8):=by kernel_rfl
theorem Tryz.size3:(Tryz.prog.info? 3).map (·.size)=some 1:=by kernel_rfl
def RowI(b:Nat)(w:World)(v:Value)(zs:List Int):Prop:=w.ownsRow b 3 1 v zs.length (zs.map (Value.int .i64))
theorem RowI.of_blocks{b:Nat}{w w':World}{v:Value}{zs:List Int}(h:RowI b w v zs)(hk:∀k,v.ownBlock=some k→w'.heap[k]?=w.heap[k]?):RowI b w' v zs:=by
 rcases h.2 with⟨rfl,hn⟩|⟨g,cap,cur,rfl,hb,hh,hr⟩
 ·exact⟨h.1,Or.inl ⟨rfl,hn⟩⟩
 ·exact⟨h.1,Or.inr ⟨g,cap,cur,rfl,hb,(hk g rfl).trans hh,hr⟩⟩
theorem RowI.low{b:Nat}{w:World}{v:Value}{zs:List Int}(h:RowI b w v zs){k:Nat}(hk:v.ownBlock=some k):b≤k∧k<w.heap.size:=World.ownsRow.lt h k hk
theorem RowI.cap{B:Nat}{w:World}{v:Value}{zs:List Int}(h:RowI B w v zs):∃a c,v=.slice a zs.length c∧zs.length≤c:=by
 rcases h.2 with⟨rfl,hn⟩|⟨g,cap,cur,rfl,_,_,hc,_⟩
 ·exact⟨none,0,by rw[hn],by omega⟩
 ·exact⟨_,_,rfl,hc⟩
theorem RowI.shape{B:Nat}{w:World}{v:Value}{zs:List Int}(h:RowI B w v zs):∃a c,v=.slice a zs.length c:=by
 obtain⟨a,c,hv,_⟩:=h.cap
 exact⟨a,c,hv⟩
theorem RowI.nil(b:Nat)(w:World):RowI b w (.slice none 0 0) []:=World.ownsRow_nil _ _ _ _
theorem RowI.cell{b g n c:Nat}{w:World}{zs:List Int}(h:RowI b w (.slice (some ⟨g,0,none⟩) n c) zs){k:Nat}(hk:k<zs.length):w.cell? ⟨g,k,none⟩=some (.int .i64 (zs.getD k 0)):=by
 have:=World.ownsRow.cells h (g:=g) rfl k (.int .i64 (zs.getD k 0)) (by simp[List.getD_eq_getElem?_getD,List.getElem?_eq_getElem hk])
 rwa [Addr.add_lit,Nat.zero_add]at this
theorem RowI.full{b:Nat}{w:World}{v:Value}{zs:List Int}(h:RowI b w v zs)(hz:0<zs.length):∃g c,v=.slice (some ⟨g,0,none⟩) zs.length c∧b≤g∧g<w.heap.size∧zs.length≤c∧c≤maxLen:=by
 rcases h.2 with⟨_,h0⟩|⟨g,cap,cur,hv,hb,hh,hc,hm,_⟩
 ·omega
 ·exact⟨g,cap,hv,hb,(Array.getElem?_eq_some_iff.1 hh).1,hc,hm⟩
def Rds(A:Nat→Prop)(w:World)(v:Value)(xs:List Int):Prop:=
 ∃a c,v=.slice a xs.length c∧xs.length≤c∧∀k,k<xs.length→∃b o,a=some ⟨b,o,none⟩∧A b∧b<w.heap.size∧w.cell? ⟨b,o+k,none⟩=some (.int .i64 (xs.getD k 0))
theorem Rds.mono{A A':Nat→Prop}{w:World}{v:Value}{xs:List Int}(h:Rds A w v xs)(hA:∀b,A b→A' b):Rds A' w v xs:=by
 obtain⟨a,c,hv,hl,h⟩:=h
 refine⟨a,c,hv,hl,fun k hk=>?_⟩
 obtain⟨b,o,ha,hb,hw⟩:=h k hk
 exact⟨b,o,ha,hA b hb,hw⟩
theorem RowI.rds{b:Nat}{w:World}{v:Value}{xs:List Int}(h:RowI b w v xs):Rds (fun k=>v.ownBlock=some k) w v xs:=by
 obtain⟨a,c,rfl,hc⟩:=h.cap
 refine⟨a,c,rfl,hc,fun k hk=>?_⟩
 obtain⟨g,c',hv,hg⟩:=h.full (by omega)
 simp only[Value.slice.injEq]at hv
 obtain⟨rfl,_,rfl⟩:=hv
 exact⟨g,0,rfl,rfl,hg.2.1,by rw[Nat.zero_add];exact h.cell hk⟩
structure Ks (S:Nat) (o:Option Nat) (w w':World):Prop where
 os:w'.os=w.os
 tape:w'.tape=w.tape
 output:w'.output=w.output
 size:w.heap.size≤w'.heap.size
 block:∀k,k<w.heap.size→k≠S→o≠some k→w'.heap[k]?=w.heap[k]?
theorem Ks.refl(S:Nat)(o:Option Nat)(w:World):Ks S o w w:=⟨rfl,rfl,rfl,qq1 _,fun _ _ _ _=>rfl⟩
theorem Ks.trans{S:Nat}{o o':Option Nat}{a b c:World}(h:Ks S o a b)(k:Ks S o' b c)(ho:∀j,o'=some j→o=some j∨a.heap.size≤j):Ks S o a c:=
 ⟨k.os.trans h.os,k.tape.trans h.tape,k.output.trans h.output,qq2 h.size k.size,fun i hi hS hO=>by
  refine(k.block i (qq3 hi h.size) hS (fun e=>?_)).trans (h.block i hi hS hO)
  rcases ho i e with h1|h1
  ·exact hO h1
  ·omega⟩
theorem Ks.alloc{S:Nat}{o:Option Nat}{w0 w:World}(h:Ks S o w0 w)(x:Obj):Ks S o w0 (w.alloc x):=
 ⟨h.os,h.tape,h.output,by have:=h.size;simp;omega,fun k hk hS hO=>(qa _ _ _ (qq3 hk h.size)).trans (h.block k hk hS hO)⟩
theorem Ks.setS{S:Nat}{o:Option Nat}{w0 w:World}(h:Ks S o w0 w)(j:Nat)(u:Value):Ks S o w0 (w.setCell ⟨S,j,none⟩ u):=
 ⟨h.os,h.tape,h.output,by simpa using h.size,fun k hk hS hO=>(qq5 _ _ _ _ (by show k≠S;exact hS)).trans (h.block k hk hS hO)⟩
theorem Ks.grown{S:Nat}{o o':Option Nat}{w0 w w':World}(h:Ks S o w0 w)(hg:w.grownBy w' o')(ho:∀j,o'=some j→o=some j∨w0.heap.size≤j):Ks S o w0 w':=
 h.trans ⟨hg.os,hg.tape,hg.output,hg.size,fun k hk _ hO=>hg.block k hk (fun e=>hO e.symm)⟩ ho
structure Pk (S hands:Nat) (xs:List Int) (v:Value) (w:World):Prop where
 cells:w.heap[S]?=some (.cells #[.int .i64 hands,v] 159 (0,0))
 row:RowI (S+1) w v xs
 six:hands≤6
 nd:xs.Nodup
 rng:∀x,x∈xs→0≤x∧x<hands
theorem zby{α:Type}[DecidableEq α]{l m:List α}(hd:l.Nodup)(hs:∀x,x∈l→x∈m):l.length≤m.length:=by
 induction l generalizing m with
 | nil=>simp
 | cons a l ih=>
  have ha:=hs a (List.mem_cons_self ..)
  have hd':=List.nodup_cons.1 hd
  have:=ih (m:=m.erase a) hd'.2 (fun x hx=>by
   have hne:x≠a:=by intro e;subst e;exact hd'.1 hx
   exact(List.mem_erase_of_ne hne).2 (hs x (List.mem_cons_of_mem _ hx)))
  rw[List.length_erase_of_mem ha]at this
  have:=List.length_pos_of_mem ha
  simp only[List.length_cons]
  omega
theorem Pk.le{S hands:Nat}{xs:List Int}{v:Value}{w:World}(h:Pk S hands xs v w):xs.length≤hands:=by
 have:=zby (m:=(List.range hands).map (fun k:Nat=>(k:Int))) h.nd (fun x hx=>by
  have:=h.rng x hx
  exact List.mem_map.2 ⟨x.toNat,List.mem_range.2 (by omega),by omega⟩)
 simpa using this
theorem Pk.lt{S hands:Nat}{xs:List Int}{v:Value}{w:World}(h:Pk S hands xs v w):S<w.heap.size:=(Array.getElem?_eq_some_iff.1 h.cells).1
theorem Pk.c0{S hands:Nat}{xs:List Int}{v:Value}{w:World}(h:Pk S hands xs v w):w.cell? ⟨S,0,none⟩=some (.int .i64 hands):=by simp[World.cell?,h.cells]
theorem Pk.c1{S hands:Nat}{xs:List Int}{v:Value}{w:World}(h:Pk S hands xs v w):w.cell? ⟨S,1,none⟩=some v:=by simp[World.cell?,h.cells]
theorem Pk.fz{S hands:Nat}{xs:List Int}{v:Value}{w:World}(h:Pk S hands xs v w)(j:Nat):w.frozen? ⟨S,j,none⟩=false:=by simp[World.frozen?,h.cells]
theorem Pk.of_blocks{S hands:Nat}{xs:List Int}{v:Value}{w w':World}(h:Pk S hands xs v w)(h1:w'.heap[S]?=w.heap[S]?)(h2:∀k,v.ownBlock=some k→w'.heap[k]?=w.heap[k]?):Pk S hands xs v w':=
 ⟨h1.trans h.cells,h.row.of_blocks h2,h.six,h.nd,h.rng⟩
theorem Pk.alloc{S hands:Nat}{xs:List Int}{v:Value}{w:World}(h:Pk S hands xs v w)(x:Obj):Pk S hands xs v (w.alloc x):=h.of_blocks (qa _ _ _ h.lt) (fun _ e=>qa _ _ _ (h.row.low e).2)
theorem Pk.later{S hands:Nat}{xs:List Int}{v:Value}{w w':World}(h:Pk S hands xs v w)(hb:Below w.heap.size w w'):Pk S hands xs v w':=h.of_blocks (hb.block _ h.lt) (fun _ e=>hb.block _ (h.row.low e).2)
theorem Pk.set{S hands:Nat}{xs ys:List Int}{v v':Value}{w w1:World}(h:Pk S hands xs v w)(h1:w1.heap[S]?=w.heap[S]?)(hr:RowI (S+1) w1 v' ys)(hd:ys.Nodup)(hy:∀x,x∈ys→0≤x∧x<hands):Pk S hands ys v' (w1.setCell ⟨S,1,none⟩ v'):=by
 have hS:w1.heap[S]?=some (.cells #[.int .i64 hands,v] 159 (0,0)):=h1.trans h.cells
 refine⟨?_,hr.of_blocks (fun k e=>qq5 _ _ _ _ (by show k≠S;have:=(hr.low e).1;omega)),h.six,hd,hy⟩
 rw[setCell_eq_setRow w1 S 1 _ 159 (0,0) v' hS,setRow_heap w1 S _ _ 159 _ hS]
 rfl
def Near(n:Nat)(v v':Value):Prop:=∀k,v'.ownBlock=some k→v.ownBlock=some k∨n≤k
theorem zY(ty:TypeId)(b:Option Addr)(n c:Nat)(a:Option Addr)(c':Nat)(w:World)(h:n≤c):(Builtin.append_ #[73,73] ty #[.slice b n c,.slice a 0 c']).run Tryz.prog w=.ok (.slice b n c) w:=by
 unfold Builtin.append_
 cases b with
 | none=>
  cases a with
  | none=>go_simp
  | some a=>go_simp
 | some b=>
  cases a with
  | none=>go_simp
  | some a=>go_simp
theorem zv(ty:TypeId){B:Nat}{A:Nat→Prop}{v x:Value}{zs ys:List Int}{w:World}(hv:RowI B w v zs)(hx:Rds A w x ys)(hb:zs.length+ys.length≤1000)(hB:B≤w.heap.size) :
  ∃v' w',(Builtin.append_ #[73,73] ty #[v,x]).run Tryz.prog w=.ok v' w'∧RowI B w' v' (zs++ys)∧w.grownBy w' v.ownBlock∧(v'.ownBlock=v.ownBlock∨v'.ownBlock=some w.heap.size):=by
 obtain⟨a,c,rfl,hc,hx⟩:=hx
 by_cases hy:ys=[]
 ·subst hy
  obtain⟨b,d,rfl,hd⟩:=hv.cap
  refine⟨_,w,zY ty b _ d a c w hd,by rw[List.append_nil];exact hv,⟨rfl,rfl,rfl,qq1 _,fun _ _ _=>rfl⟩,Or.inl rfl⟩
 ·have hpos:0<ys.length:=List.length_pos_iff.2 hy
  obtain⟨i3,hi3,hz0,hz1,hz2⟩:=info_parts Tryz.info3
  obtain⟨g,o,rfl,_⟩:=hx 0 hpos
  have hcl:∀j u,(ys.map (Value.int .i64))[j]?=some u→w.cell? ((⟨g,o,none⟩:Addr).add j)=some u:=fun j u hu=>by
   have hj:j<ys.length:=by have:=(List.getElem?_eq_some_iff.1 hu).1;simpa using this
   obtain⟨g',o',e,_,_,hc⟩:=hx j hj
   simp only[Option.some.injEq,Addr.mk.injEq,and_true]at e
   obtain⟨rfl,rfl⟩:=e
   rw[Addr.add_lit,hc]
   simpa[List.getD_eq_getElem?_getD,List.getElem?_eq_getElem hj]using hu
  obtain⟨v',w',h1,h2,h3,h4,h5⟩:=run_append_own_at (P:=Tryz.prog) w B 73 ty 3 i3 (.int .i64 0) 1 8 Tryz.underlying73 hi3 hz0 hz1 hz2 rfl (by decide) v zs.length (zs.map (Value.int .i64)) hv ⟨g,o,none⟩ ys.length c (ys.map (Value.int .i64)) (by simp) hcl (by intro u hu;obtain⟨x,_,rfl⟩:=List.mem_map.1 hu;rfl) (by unfold maxLen;omega) (by omega) hB
  refine⟨v',w',h1,?_,h3,h5⟩
  show w'.ownsRow B 3 1 v' (zs++ys).length ((zs++ys).map (Value.int .i64))
  rw[qb,List.map_append]
  exact h2
theorem ze{ops:Array Oper}{rest:List Oper}{o:Oper}{a:Act}{Q:Exit→Act→World→Prop}{w:World}(hgd:o.guard=none)(s x:Operand)(ho:o.op=.call { callee:=.builtin .append,args:=#[s,x],argTypes:=#[73,73] })
  (B:Nat) (A:Nat→Prop) (v xv:Value) (zs ys:List Int) (hs:a.eval s=v) (hx:a.eval x=xv) (hv:RowI B w v zs) (hxv:Rds A w xv ys) (hb:zs.length+ys.length≤1000) (hB:B≤w.heap.size)
  (h:∀v' w',RowI B w' v' (zs++ys)→w.grownBy w' v.ownBlock→(v'.ownBlock=v.ownBlock∨v'.ownBlock=some w.heap.size)→wpList Tryz.prog ops Q rest (a.put o.dst v') w'):wpList Tryz.prog ops Q (o::rest) a w:=by
 refine wpList_plain hgd fun K hK=>?_
 obtain⟨v',w',hr,h2,h3,h4⟩:=zv o.type hv hxv hb hB
 unfold Oper.wp execOp
 simp only[ho,resolve,invoke,builtin,Sem.run_bind,Sem.run_pure,Result.andThen_ok,List.map_toArray,List.map_cons,List.map_nil,hs,hx,hr]
 exact hK _ _ (h v' w' h2 h3 h4)
end Go.Proofs.YtlfbdjeojgbniaaGreatDoor.Prk
namespace Go.Proofs.YtlfbdjeojgbniaaGreatDoor.Prk
open Go.RowKit Go.Deep
theorem zn(g:Nat):∀(vs:List Value) (o:Nat) (w:World),w.grownBy (w.setCells g o vs) (some g)
 | [],_,w=>⟨rfl,rfl,rfl,qq1 _,fun _ _ _=>rfl⟩
 | v::r,o,w=>by
  have h1:w.grownBy (w.setCell ⟨g,o,none⟩ v) (some g):=⟨rfl,rfl,rfl,by simp,fun k _ hne=>qq5 _ _ _ _ (by show k≠g;intro e;exact hne (by rw[e]))⟩
  exact h1.trans (zn g r (o+1) _)
theorem yg(g:Nat)(t:TypeId):∀(vs:List Value) (o:Nat) (w:World) (cur:Array Value),w.heap[g]?=some (.cells cur t (0,0))→∃cur',(w.setCells g o vs).heap[g]?=some (.cells cur' t (0,0))∧cur'.size=cur.size
 | [],_,_,cur,h=>⟨cur,h,rfl⟩
 | v::r,o,w,cur,h=>by
  have h1:(w.setCell ⟨g,o,none⟩ v).heap[g]?=some (.cells (cur.setIfInBounds o v) t (0,0)):=by
   rw[setCell_eq_setRow w g o cur t (0,0) v h,setRow_heap w g cur _ t _ h]
  obtain⟨cur',h2,h3⟩:=yg g t r (o+1) _ _ h1
  exact⟨cur',h2,by rw[h3];simp⟩
theorem RowI.cut{b g n c:Nat}{w w':World}{zs ys:List Int}(h:RowI b w (.slice (some ⟨g,0,none⟩) n c) zs){cur':Array Value}{cur:Array Value}(hc:w.heap[g]?=some (.cells cur 3 (0,0)))(h':w'.heap[g]?=some (.cells cur' 3 (0,0)))(hs:cur'.size=cur.size)(hy:ys.length≤zs.length)(hcell:∀k,k<ys.length→w'.cell? ⟨g,k,none⟩=some (.int .i64 (ys.getD k 0))):RowI b w' (.slice (some ⟨g,0,none⟩) ys.length c) ys:=by
 rcases h.2 with⟨hv,_⟩|⟨g',cap,cur2,hv,hb,hh,hcp,hm,hsz,_⟩
 ·simp at hv
 ·simp only[Value.slice.injEq,Option.some.injEq,Addr.mk.injEq,and_true]at hv
  obtain⟨rfl,rfl,rfl⟩:=hv
  rw[hc]at hh
  simp only[Option.some.injEq,Obj.cells.injEq,and_true]at hh
  obtain rfl:=hh
  refine⟨by simp,Or.inr ⟨g,c,cur',rfl,hb,h',by omega,hm,by omega,?_⟩⟩
  apply List.ext_getElem?
  intro k
  rw[Nat.mul_one,List.getElem?_take]
  by_cases hk:k<ys.length
  ·have h1:=hcell k hk
   rw[cell_of_row w' g k cur' 3 (0,0) h']at h1
   rw[if_pos hk,Array.getElem?_toList,h1]
   simp[List.getD_eq_getElem?_getD,List.getElem?_eq_getElem hk]
  ·rw[if_neg hk,List.getElem?_eq_none (by simpa using hk)]
theorem xN(b:Nat)(v:Value)(zs:List Int)(j:Nat)(w:World)(h:RowI b w v zs)(hj:j≤zs.length) :
  Calls Tryz.prog 187 #[v,.int .i64 0,.int .i64 j] w fun e w'=>∃v',e=.returned v'∧RowI b w' v' (zs.drop j)∧w.grownBy w' v.ownBlock∧v'.ownBlock=v.ownBlock:=by
 by_cases hz:zs=[]
 ·subst hz
  obtain rfl:j=0:=by simpa using hj
  obtain⟨a,c,rfl⟩:=h.shape
  refine(Tryz.slices_Delete_int_empty a c w).mono ?_
  rintro e w' ⟨rfl,rfl⟩
  exact⟨_,rfl,h,⟨rfl,rfl,rfl,qq1 _,fun _ _ _=>rfl⟩,rfl⟩
 ·obtain⟨g,c,rfl,hb,hg,hc,hm⟩:=h.full (List.length_pos_iff.2 hz)
  obtain⟨cur,hcur⟩:∃cur,w.heap[g]?=some (.cells cur 3 (0,0)):=by
   rcases h.2 with⟨hv,_⟩|⟨g',cap,cur2,hv,_,hh,_⟩
   ·simp at hv
   ·simp only[Value.slice.injEq,Option.some.injEq,Addr.mk.injEq,and_true]at hv
    obtain⟨rfl,_⟩:=hv
    exact⟨_,hh⟩
  have hfz:∀k,w.frozen? ⟨g,k,none⟩=false:=fun k=>by simp[World.frozen?,hcur]
  refine(Tryz.slices_Delete_int_cells g 0 zs.length c 0 j zs w (qq1 _) hc (by unfold maxLen at hm;omega) (Nat.zero_le _) hj (fun k hk=>by rw[Nat.zero_add];exact h.cell hk) (fun k _=>hfz _)).mono ?_
  rintro e w' ⟨rfl,q,rfl⟩
  have hl:zs.length-(j-0)=(zs.drop j).length:=by simp
  rw[hl]
  obtain⟨cur',hc1,hc2⟩:=yg g 3 (((zs.take zs.length).take 0++(zs.take zs.length).drop j++List.replicate (j-0) 0).map (Value.int .i64)) 0 (w.drewN q) cur hcur
  have hL:(((zs.take zs.length).take 0++(zs.take zs.length).drop j++List.replicate (j-0) 0).map (Value.int .i64)).length=zs.length:=by simp;omega
  refine⟨_,rfl,h.cut hcur hc1 hc2 (by simp) (fun k hk=>?_),⟨(zn g _ 0 _).os,(zn g _ 0 _).tape,(zn g _ 0 _).output,(zn g _ 0 (w.drewN q)).size,(zn g _ 0 (w.drewN q)).block⟩,rfl⟩
  have hk':k<zs.length-j:=by simpa using hk
  have:=World.cell?_setCells_in g (((zs.take zs.length).take 0++(zs.take zs.length).drop j++List.replicate (j-0) 0).map (Value.int .i64)) 0 (w.drewN q) (fun i hi=>by rw[Nat.zero_add];have:=h.cell (k:=i) (by omega);show(w.cell? _).isSome=true;rw[this];rfl) k (by omega)
  rw[Nat.zero_add]at this
  rw[this]
  simp only[List.getElem_map,List.take_length,List.take_zero,List.nil_append]
  rw[List.getElem_append_left (by simpa using hk)]
  simp[List.getD_eq_getElem?_getD]
  rw[qq7 (by omega)]
  rfl
end Go.Proofs.YtlfbdjeojgbniaaGreatDoor.Prk
namespace Go.Proofs.YtlfbdjeojgbniaaGreatDoor.Prk
open Go.RowKit Go.Deep
def errV(k:Int):Value:=.iface 97 (.int .i64 k)
theorem zfD(hands:Int)(w:World)(h:hands<1∨6<hands):Calls Tryz.prog 42 #[.int .i64 hands] w fun e w'=>e=.returned (.tuple #[.pointer none,errV 1])∧w'=w:=by
 by_cases h1:hands<1
 ·go_enter Tryz.func42,Tryz.ntmps42
  go_wp2
  go_ret2
  exact⟨rfl,rfl⟩
 ·have h2:6<hands:=by omega
  go_enter Tryz.func42,Tryz.ntmps42
  go_wp2
  go_ret2
  exact⟨rfl,rfl⟩
theorem zaJ(hands:Nat)(w:World)(h1:1≤hands)(h2:hands≤6):Calls Tryz.prog 42 #[.int .i64 hands] w fun e w'=>e=.returned (.tuple #[.pointer (some ⟨w.heap.size,0,none⟩),.nilIface])∧Pk w.heap.size hands [] (.slice none 0 0) w'∧Below w.heap.size w w':=by
 have g1:¬(hands:Int)<1:=by omega
 have g2:¬(6:Int)<(hands:Int):=by omega
 go_enter Tryz.func42,Tryz.ntmps42
 go_wp2
 go_ret2
 refine⟨rfl,⟨?_,RowI.nil _ _,h2,by simp,by simp⟩,(qq4 _ _).alloc (qq1 _) _⟩
 exact heap_alloc_new w _
theorem xk(x:Int)(zs:List Int)(k:Nat)(hlt:k<zs.length)(hno:x∉zs.take k)(h:zs.getD k 0≠x):x∉zs.take (k+1):=by
 intro hx
 rw[qq8 hlt]at hx
 have he:zs.getD k 0=zs[k]:=by rw[qq6,qq7 hlt];rfl
 rcases List.mem_append.1 hx with hx|hx
 ·exact hno hx
 ·exact h (by rw[he];exact(List.mem_singleton.1 hx).symm)
theorem zeT{x:Int}{zs:List Int}{k:Nat}(hlt:k<zs.length)(h:zs.getD k 0=x):x∈zs:=by
 rw[qq6,qq7 hlt]at h
 rw[←h];exact List.getElem_mem hlt
def memB(zs:List Int)(x:Int):Bool:=decide (x∈zs)
theorem zM{a b:Bool}(h:a=b):Ending.returned (.bool a)=.returned (.bool b):=by rw[h]
set_option maxHeartbeats 800000 in
theorem zgm(A:Nat→Prop)(v:Value)(zs:List Int)(x:Int)(w:World)(hz:Rds A w v zs)(hx:zs.length≤1000) :
  Calls Tryz.prog 182 #[v,.int .i64 x] w fun e w'=>(∃r,e=.returned (.int .i64 r)∧decide (0≤r)=memB zs x)∧w'=w:=by
 obtain⟨a,c,rfl,-,hz⟩:=hz
 have HZ:Hid (∀k,k<zs.length→∃b o,a=some ⟨b,o,none⟩∧A b∧b<w.heap.size∧w.cell? ⟨b,o+k,none⟩=some (.int .i64 (zs.getD k 0))):=hz
 clear hz
 go_enter Tryz.func182,Tryz.ntmps182
 go_wp2
 go_loop [8] (fun i=>∃k:Nat,k≤zs.length∧i=.int .i64 k∧Hid (x∉zs.take k)) (fun i=>zs.length-(intOf i).toNat)
 case atStart=>exact⟨0,Nat.zero_le _,rfl,by simp[Hid]⟩
 case round=>
  obtain⟨k,hk,rfl,hno⟩:=hrel
  by_cases hkl:k<zs.length
  ·obtain⟨b,o,rfl,-,-,hck⟩:=HZ.out k hkl
   generalize hy:zs.getD k 0=y at hck
   have HY:Hid (zs.getD k 0=y):=hy
   clear hy
   by_cases e:x=y
   ·have he:(x==y)=true:=by simp[e]
    have HM:Hid (x∈zs):=zeT hkl (HY.out.trans e.symm)
    clear e
    go_wp2
    go_ret
    exact⟨⟨_,rfl,by simp[memB,HM.out]⟩,rfl⟩
   ·have he:(x==y)=false:=by simp[e]
    have HM:Hid (x∉zs.take (k+1)):=xk x zs k hkl hno.out (by rw[HY.out];exact fun h=>e h.symm)
    clear e
    go_wp2
    go_round
    case rel=>exact⟨k+1,by omega,by go_num,HM⟩
    case measure=>simp[intOf];omega
  ·have HM:Hid (x∉zs):=by have:=hno.out;rwa [List.take_of_length_le (by omega)]at this
   go_wp2
   go_ret
   exact⟨⟨_,rfl,by simp[memB,HM.out]⟩,rfl⟩
theorem zcj(A:Nat→Prop)(v:Value)(zs:List Int)(x:Int)(w:World)(hz:Rds A w v zs)(hx:zs.length≤1000) :
  Calls Tryz.prog 155 #[v,.int .i64 x] w fun e w'=>e=.returned (.bool (memB zs x))∧w'=w:=by
 have hcall:=zgm A v zs x w hz hx
 generalize memB zs x=m at hcall ⊢
 clear hz hx
 go_enter Tryz.func155,Tryz.ntmps155
 go_wp2_with fail
 refine hcall.mono ?_
 rintro e w' ⟨⟨r,rfl,hr⟩,rfl⟩
 by_cases h:0≤r
 ·have hm:m=true:=by rw[←hr];simp[h]
  clear hcall hr
  go_wp2
  go_ret
  exact⟨zM hm.symm,rfl⟩
 ·have hm:m=false:=by rw[←hr];simp;omega
  clear hcall hr
  go_wp2
  go_ret
  exact⟨zM (by rw[hm];simp;omega),rfl⟩
theorem zi8(S hands:Nat)(xs:List Int)(v:Value)(h:Int)(w:World)(hp:Pk S hands xs v w)(hh:h<0∨(hands:Int)≤h) :
  Calls Tryz.prog 124 #[.pointer (some ⟨S,0,none⟩),.int .i64 h] w fun e w'=>e=.returned (.tuple #[.bool false,errV 1])∧w'=w:=by
 have hc:=hp.c0
 have h6:=hp.six
 clear hp
 by_cases h1:h<0
 ·go_enter Tryz.func124,Tryz.ntmps124
  go_wp2
  go_ret2
  exact⟨rfl,rfl⟩
 ·have h2:(hands:Int)≤h:=by omega
  go_enter Tryz.func124,Tryz.ntmps124
  go_wp2
  go_ret2
  exact⟨rfl,rfl⟩
theorem zed(S hands:Nat)(xs:List Int)(v:Value)(h:Int)(w:World)(hp:Pk S hands xs v w)(h0:0≤h)(hh:h<(hands:Int)) :
  Calls Tryz.prog 124 #[.pointer (some ⟨S,0,none⟩),.int .i64 h] w fun e w'=>e=.returned (.tuple #[.bool (!memB xs h),.nilIface])∧w'=w:=by
 have hc:=hp.c0
 have hc1:=hp.c1
 have h6:=hp.six
 have hct:=zcj _ v xs h w hp.row.rds (by have:=hp.le;omega)
 obtain⟨a,c,rfl⟩:=hp.row.shape
 generalize memB xs h=m at hct ⊢
 clear hp
 have g1:¬h<0:=by omega
 have g2:¬(hands:Int)≤h:=by omega
 go_enter Tryz.func124,Tryz.ntmps124
 go_wp2_with (first|(go_at_call 155;refine hct.mono ?_;clear hct;rintro e w' ⟨rfl,rfl⟩))
 go_ret2
 exact⟨rfl,rfl⟩
theorem RowI.whole(w:World)(N n:Nat)(ys:List Int)(hn:ys.length=n)(h60:n≤60)(h:w.heap[N]?=some (.cells (ys.map (Value.int .i64)).toArray 3 (0,0))):RowI N w (.slice (some ⟨N,0,none⟩) n n) ys:=by
 subst hn
 exact⟨by simp,Or.inr ⟨N,_,_,rfl,qq1 _,h,qq1 _,by unfold maxLen;omega,by simp,by simp[List.take_of_length_le]⟩⟩
theorem zK(w:World)(x:Int):Rds (fun _=>True) (w.alloc (.cells #[.int .i64 x] 3)) (.slice (some ⟨w.heap.size,0,none⟩) 1 1) [x]:=
 ((RowI.whole _ _ 1 _ rfl (by omega) (heap_alloc_new w _)).rds).mono (fun _ _=>trivial)
theorem ziW(S hands:Nat)(xs:List Int)(v:Value)(h:Int)(w:World)(hp:Pk S hands xs v w)(h0:0≤h)(hh:h<(hands:Int))(hx:h∉xs) :
  Calls Tryz.prog 161 #[.pointer (some ⟨S,0,none⟩),.int .i64 h] w fun e w'=>e=.returned .nilIface∧∃v',Pk S hands (xs++[h]) v' w'∧Ks S v.ownBlock w w'∧Near w.heap.size v v':=by
 have ha:=zed S hands xs v h w hp h0 hh
 have hm:memB xs h=false:=by simp[memB,hx]
 rw[hm]at ha
 simp only[Bool.not_false]at ha
 have HS:Hid (Pk S hands xs v w):=hp
 have HX:Hid (h∉xs∧0≤h∧h<(hands:Int)):=⟨hx,h0,hh⟩
 have hlt:=hp.lt
 have hle:=hp.le
 have hc:=hp.c1
 have h6:=hp.six
 have hca:(w.alloc (.cells #[.int .i64 h] 3)).cell? ⟨S,1,none⟩=some v:=(hp.alloc _).c1
 obtain⟨a,c,rfl⟩:=hp.row.shape
 have HO:Hid (Rds (fun _=>True) (w.alloc (.cells #[.int .i64 h] 3)) (.slice (some ⟨w.heap.size,0,none⟩) 1 1) [h]):=zK w h
 clear hp hm hx h0 hh
 go_enter Tryz.func161,Tryz.ntmps161
 go_wp2_with (first|(go_at_call 124;refine ha.mono ?_;clear ha;rintro e w ⟨rfl,rfl⟩)|(at_builtin;go_loud (refine ze rfl (.tmp 23) (.tmp 25) rfl (S+1) (fun _=>True) (.slice a xs.length c) (.slice (some ⟨w.heap.size,0,none⟩) 1 1) xs [h] rfl rfl (HS.out.alloc _).row HO.out (by simp;omega) (by simp;omega) ?_;intro v2 w2 hown hgr hat;obtain⟨a2,c2,rfl⟩:=hown.shape;rw[List.length_append]at hown hat;have hbk:=(hgr.block S (by simp;omega) (fun e=>by have:=(HS.out.row.low e.symm).1;omega)).trans (qa _ _ _ hlt);have hz2:=(World.frozen?_of_block (a:=⟨S,1,none⟩) hbk).trans (HS.out.fz 1);have hc2:=(qq9 (a:=⟨S,1,none⟩) hbk).trans hc;clear hc hca)))
 go_ret
 have hk:Ks S (Value.slice a xs.length c).ownBlock w w2:=((Ks.refl _ _ _).alloc _).grown hgr (fun j e=>Or.inl e)
 refine⟨rfl,_,HS.out.set hbk hown (List.nodup_append.2 ⟨HS.out.nd,by simp,fun x hx y hy e=>?_⟩) (fun x hx=>?_),hk.setS _ _,fun k e=>?_⟩
 ·rw[List.mem_singleton.1 hy]at e
  exact HX.out.1 (e▸hx)
 ·rcases List.mem_append.1 hx with hx|hx
  ·exact HS.out.rng x hx
  ·rw[List.mem_singleton.1 hx];exact HX.out.2
 ·rcases hat with h1|h1
  ·exact Or.inl (h1.symm.trans e)
  ·have e2:=h1.symm.trans e
   simp at e2
   exact Or.inr (by omega)
end Go.Proofs.YtlfbdjeojgbniaaGreatDoor.Prk
namespace Go.Proofs.YtlfbdjeojgbniaaGreatDoor.Prk
open Go.RowKit Go.Deep
theorem j5(n:Nat):(madeCells #[.int .i64 0] n).size=n:=by simp[madeCells]
set_option maxHeartbeats 1000000 in
theorem zjb(S hands most:Nat)(xs:List Int)(v:Value)(w:World)(h:Pk S hands xs v w) :
  Calls Tryz.prog 185 #[.pointer (some ⟨S,0,none⟩),.int .i64 most] w fun e w'=>∃lv v',e=.returned (.tuple #[lv,.nilIface])∧RowI w.heap.size w' lv (xs.take most)∧Pk S hands (xs.drop most) v' w'∧Ks S v.ownBlock w w'∧Near w.heap.size v v'∧v'.ownBlock≠lv.ownBlock:=by
 have HS:Hid (Pk S hands xs v w):=h
 have hc:=h.c1
 have hle:xs.length≤6:=qq2 h.le h.six
 have hlt:=h.lt
 obtain⟨a,c,rfl⟩:=h.row.shape
 obtain⟨n,hn⟩:∃n,n=min most xs.length:=⟨_,rfl⟩
 have et:xs.take most=xs.take n:=by rw[hn,List.take_eq_take_min]
 have ed:xs.drop most=xs.drop n:=by
  rcases Nat.le_total most xs.length with h|h
  ·rw[hn,Nat.min_eq_left h]
  ·rw[hn,Nat.min_eq_right h,List.drop_eq_nil_of_le h,List.drop_length]
 rw[et,ed]
 have hmin:min (most:Int) (xs.length:Int)=(n:Int):=by omega
 have hn60:n≤60:=by omega
 have hnx:n≤xs.length:=by omega
 have g1:¬(most:Int)<0:=by omega
 have hmk:=fun wx=>run_make_row' (P:=Tryz.prog) 73 3 (.int .i64 0) 8 Tryz.underlying73 Tryz.info3 rfl .i64 .i64 n (by omega) (by omega) wx
 obtain⟨cs,hcs⟩:∃cs,cs=(xs.take n).map (Value.int .i64):=⟨_,rfl⟩
 have HC:Hid (cs=(xs.take n).map (Value.int .i64)):=hcs
 have hcl:cs.length=n:=by rw[hcs];simp;omega
 obtain⟨z,hz⟩:∃z,z=(madeCells #[.int .i64 0] n).toList:=⟨_,rfl⟩
 have HZ:Hid (z.length=n):=by show z.length=n;rw[hz,Array.length_toList,j5]
 have hg:(w.alloc (.cells (madeCells #[.int .i64 0] n) 3)).heap[w.heap.size]?=some (.cells z.toArray 3 (0,0)):=by rw[hz,Array.toArray_toList];exact heap_alloc_new w _
 have HG:Hid ((w.alloc (.cells (madeCells #[.int .i64 0] n) 3)).heap[w.heap.size]?=some (.cells z.toArray 3 (0,0))):=hg
 have hsr:0<cs.length→∃ad,a=some ad∧∀j u,cs[j]?=some u→(w.alloc (.cells (madeCells #[.int .i64 0] n) 3)).cell? (ad.add j)=some u:=by
  intro hp
  obtain⟨g,c',hv,hgb,hgs,_⟩:=h.row.full (by omega)
  simp only[Value.slice.injEq]at hv
  obtain⟨rfl,_,rfl⟩:=hv
  refine⟨_,rfl,fun j u hu=>?_⟩
  have hj:j<n:=by have:=(List.getElem?_eq_some_iff.1 hu).1;omega
  rw[Addr.add_lit,Nat.zero_add,qq9 (qa _ _ _ hgs),h.row.cell (by omega)]
  rw[hcs]at hu
  simp[hj,List.getElem?_eq_getElem (show j<xs.length by omega)]at hu
  simp[List.getD_eq_getElem?_getD,List.getElem?_eq_getElem (show j<xs.length by omega),hu]
 have HSR:Hid (0<cs.length→∃ad,a=some ad∧∀j u,cs[j]?=some u→(w.alloc (.cells (madeCells #[.int .i64 0] n) 3)).cell? (ad.add j)=some u):=hsr
 have H1:Hid (∀u∈cs,u.oneCell'=true):=by
  intro u hu
  rw[hcs]at hu
  obtain⟨x,_,rfl⟩:=List.mem_map.1 hu
  rfl
 have HL:Hid (cs.length=n):=hcl
 clear h hn et ed hcs hcl hz hg hsr
 go_enter Tryz.func185,Tryz.ntmps185
 go_wp2_with (first|(refine wpList_copy_splice rfl (.tmp 18) (.tmp 22) 73 73 rfl 3 Tryz.underlying73 Tryz.size3 (some ⟨w.heap.size,0,none⟩) a n n xs.length c rfl rfl w.heap.size 0 z 3 HG.out cs (HL.out.trans (Nat.min_eq_right hnx).symm) (fun hp=>⟨rfl,HSR.out hp⟩) (by have:=HL.out;have:=HZ.out;omega) H1.out w.heap.size w ((qq4 _ _).alloc (qq1 _) _) (qq1 _) ?_;intro w2 HG2 hB2;have hS2:=HS.out.later hB2;have hc2:=hS2.c1;have HS2:Hid (Pk S hands xs (.slice a xs.length c) w2):=hS2;have HB2:Hid (Below w.heap.size w w2):=hB2;have hdel:=xN (S+1) _ xs n w2 hS2.row hnx;clear hc hS2 hB2 hmk)|(go_at_call 187;refine hdel.mono ?_;clear hdel;rintro e w3 ⟨v3,rfl,hr3,hg3,ho3⟩;obtain⟨a3,c3,rfl⟩:=hr3.shape;have hbk:=hg3.block S HS2.out.lt (fun e=>by have:=(HS2.out.row.low e.symm).1;omega);have hz3:=(World.frozen?_of_block (a:=⟨S,1,none⟩) hbk).trans (HS2.out.fz 1);have hc3:=(qq9 (a:=⟨S,1,none⟩) hbk).trans HS2.out.c1;have HR3:Hid (RowI (S+1) w3 (.slice a3 (xs.drop n).length c3) (xs.drop n)):=hr3;clear hr3 hc2))
 go_ret2
 have hr3:=HR3.out
 rw[List.length_drop]at hr3 ho3
 have hkw:Ks S (Value.slice a xs.length c).ownBlock w w2:=⟨HB2.out.os,HB2.out.tape,HB2.out.output,HB2.out.size,fun k hk _ _=>HB2.out.block k hk⟩
 have hsp:splice z 0 cs=(xs.take n).map (Value.int .i64):=by
  unfold splice
  rw[List.take_zero,List.nil_append,Nat.zero_add,List.drop_eq_nil_of_le (by have:=HL.out;have:=HZ.out;omega),List.append_nil]
  exact HC.out
 have hN:∀k,(Value.slice a xs.length c).ownBlock=some k→k<w.heap.size:=fun k e=>(HS.out.row.low e).2
 have hNw:w.heap.size<w2.heap.size:=by
  have:=HG2.out
  exact(Array.getElem?_eq_some_iff.1 this).1
 refine⟨_,_,rfl,(RowI.whole w2 w.heap.size n (xs.take n) (by simp;omega) hn60 (by rw[←hsp];exact HG2.out)).of_blocks (fun k e=>?_),HS2.out.set hbk hr3 (HS2.out.nd.sublist (List.drop_sublist _ _)) (fun x hx=>HS2.out.rng x (List.mem_of_mem_drop hx)),(hkw.grown hg3 (fun j e=>Or.inl e)).setS _ _,fun k e=>Or.inl (ho3.symm.trans e),fun e=>?_⟩
 ·simp only[Value.ownBlock,Option.some.injEq]at e
  subst e
  refine(qq5 _ _ _ _ (by show w.heap.size≠S;omega)).trans (hg3.block _ hNw (fun e=>?_))
  have:=hN _ e.symm
  omega
 ·have:=hN w.heap.size (by rw[←ho3];exact e)
  omega
end Go.Proofs.YtlfbdjeojgbniaaGreatDoor.Prk
namespace Go.Proofs.YtlfbdjeojgbniaaGreatDoor
section
open Go.RowKit Go.Deep
def Xz(s:Deed):List Value:=[.int .i64 s.1,.int .i64 s.2.1,.int .i64 s.2.2.1,.int .i64 s.2.2.2]
def flat4(l:List Deed):List Value:=l.flatMap Xz
theorem xO(a b:List Deed):flat4 (a++b)=flat4 a++flat4 b:=by simp[flat4]
theorem jW(s:Deed):flat4 [s]=Xz s:=by simp[flat4]
theorem zhu{l:List Deed}{k:Nat}(hk:k<l.length):∀j,j<4→(flat4 l)[k*4+j]?=(Xz (l.getD k (0,0,0,0)))[j]?:=by
 induction l generalizing k with
 | nil=>simp at hk
 | cons b r ih=>
  intro j hj
  have e:flat4 (b::r)=Xz b++flat4 r:=by rw[←jW];exact xO [b] r
  have hl:(Xz b).length=4:=rfl
  rw[e]
  cases k with
  | zero=>
   rw[List.getElem?_append_left (by rw[hl];omega)]
   simp
  | succ k=>
   rw[List.getElem?_append_right (by rw[hl];omega),hl]
   rw[show(k+1)*4+j-4=k*4+j by omega]
   simpa using ih (k:=k) (by simp at hk;omega) j hj
def RowD(b:Nat)(w:World)(v:Value)(l:List Deed):Prop:=w.ownsRow b 91 4 v l.length (flat4 l)
theorem RowD.of_blocks{b:Nat}{w w':World}{v:Value}{l:List Deed}(h:RowD b w v l)(hk:∀k,v.ownBlock=some k→w'.heap[k]?=w.heap[k]?):RowD b w' v l:=by
 rcases h.2 with⟨rfl,hn⟩|⟨g,cap,cur,rfl,hb,hh,hr⟩
 ·exact⟨h.1,Or.inl ⟨rfl,hn⟩⟩
 ·exact⟨h.1,Or.inr ⟨g,cap,cur,rfl,hb,(hk g rfl).trans hh,hr⟩⟩
theorem RowD.mono{b b':Nat}{w:World}{v:Value}{l:List Deed}(h:RowD b w v l)(hb:b'≤b):RowD b' w v l:=by
 rcases h.2 with hn|⟨g,cap,cur,hv,hg,r⟩
 ·exact⟨h.1,Or.inl hn⟩
 ·exact⟨h.1,Or.inr ⟨g,cap,cur,hv,qq2 hb hg,r⟩⟩
theorem RowD.low{b:Nat}{w:World}{v:Value}{l:List Deed}(h:RowD b w v l){k:Nat}(hk:v.ownBlock=some k):b≤k∧k<w.heap.size:=World.ownsRow.lt h k hk
theorem RowD.shape{b:Nat}{w:World}{v:Value}{l:List Deed}(h:RowD b w v l):∃a c,v=.slice a l.length c:=by
 rcases h.2 with⟨rfl,hn⟩|⟨g,cap,cur,rfl,_,_,hc,_⟩
 ·exact⟨none,0,by rw[hn]⟩
 ·exact⟨_,_,rfl⟩
theorem RowD.later{b:Nat}{w w':World}{v:Value}{l:List Deed}(h:RowD b w v l)(hb:Below w.heap.size w w'):RowD b w' v l:=h.of_blocks (fun _ e=>hb.block _ (h.low e).2)
theorem RowD.full{b:Nat}{w:World}{v:Value}{l:List Deed}(h:RowD b w v l)(hz:0<l.length):∃g c,v=.slice (some ⟨g,0,none⟩) l.length c∧b≤g∧g<w.heap.size∧l.length≤c∧∀k,k<l.length→∀j,j<4→w.cell? ⟨g,k*4+j,none⟩=(Xz (l.getD k (0,0,0,0)))[j]?:=by
 rcases h.2 with⟨_,h0⟩|⟨g,cap,cur,hv,hb,hh,hc,hm,_⟩
 ·omega
 ·subst hv
  exact⟨g,cap,rfl,hb,(Array.getElem?_eq_some_iff.1 hh).1,hc,fun k hk j hj=>(World.ownsRow.cellAt h (k*4+j) (by omega)).trans (zhu hk j hj)⟩
theorem RowD.nil(b:Nat)(w:World):RowD b w (.slice none 0 0) []:=World.ownsRow_nil _ _ _ _
theorem RowD.one(w:World)(d:Deed):RowD w.heap.size (w.alloc (.cells #[.int .i64 d.1,.int .i64 d.2.1,.int .i64 d.2.2.1,.int .i64 d.2.2.2] 91)) (.slice (some ⟨w.heap.size,0,none⟩) 1 1) [d]:=
 ⟨by simp[flat4,Xz],Or.inr ⟨w.heap.size,1,_,rfl,qq1 _,blk_alloc_new w _,qq1 _,by unfold maxLen;omega,by simp,by simp[flat4,Xz]⟩⟩
theorem xr(w:World)(q:Nat)(hq:q=w.heap.size)(a b c d:Value)(t:TypeId):∀j u,[a,b,c,d][j]?=some u→(w.alloc (.cells #[a,b,c,d] t)).cell? ((⟨q,0,none⟩:Addr).add j)=some u:=by
 intro j u hu
 subst hq
 rw[Addr.add_lit,Nat.zero_add]
 unfold World.cell?
 dsimp only
 rw[blk_alloc_new]
 show(#[a,b,c,d])[j]?=some u
 simpa using hu
theorem Tryz.infoDeed:(Tryz.prog.info? 91).map (fun i=>(i.zero,i.size,i.bytes))=some (some (.agg #[.int .i64 0,.int .i64 0,.int .i64 0,.int .i64 0]),4,32):=by kernel_rfl
def YL(w:World)(v:Value)(ds:List Deed):Prop:=
 ds.length*32≤140737488351232∧∃a c,v=.slice a ds.length c∧(ds=[]∨∃b o,a=some ⟨b,o,none⟩∧b<w.heap.size∧∀k,k<ds.length→∀j,j<4→w.cell? ⟨b,o+k*4+j,none⟩=(Xz (ds.getD k (0,0,0,0)))[j]?)
theorem RowD.at{b:Nat}{w:World}{v:Value}{ds:List Deed}(h:RowD b w v ds)(hl:ds.length*32≤140737488351232):YL w v ds:=by
 refine⟨hl,?_⟩
 by_cases h0:ds=[]
 ·obtain⟨a,c,rfl⟩:=h.shape
  exact⟨a,c,rfl,Or.inl h0⟩
 ·obtain⟨g,c,rfl,_,hlt,_,hc⟩:=h.full (List.length_pos_iff.2 h0)
  exact⟨_,c,rfl,Or.inr ⟨g,0,rfl,hlt,fun k hk j hj=>by rw[Nat.zero_add];exact hc k hk j hj⟩⟩
theorem YL.later{w w':World}{v:Value}{ds:List Deed}(h:YL w v ds)(hb:Below w.heap.size w w'):YL w' v ds:=by
 obtain⟨hl,a,c,hv,h⟩:=h
 refine⟨hl,a,c,hv,?_⟩
 rcases h with h|⟨b,o,ha,hlt,hc⟩
 ·exact Or.inl h
 ·exact Or.inr ⟨b,o,ha,qq3 hlt hb.size,fun k hk j hj=>(hb.cell (p:=⟨b,o+k*4+j,none⟩) hlt).trans (hc k hk j hj)⟩
theorem YL.four{w:World}{a:Option Addr}{n c:Nat}{ds:List Deed}(h:YL w (.slice a n c) ds){k:Nat}(hk:k<ds.length):∃b o,a=some ⟨b,o,none⟩∧b<w.heap.size∧w.cell? ⟨b,o+k*4,none⟩=some (.int .i64 (ds.getD k (0,0,0,0)).1)∧w.cell? ⟨b,o+k*4+1,none⟩=some (.int .i64 (ds.getD k (0,0,0,0)).2.1)∧w.cell? ⟨b,o+k*4+2,none⟩=some (.int .i64 (ds.getD k (0,0,0,0)).2.2.1)∧w.cell? ⟨b,o+k*4+3,none⟩=some (.int .i64 (ds.getD k (0,0,0,0)).2.2.2):=by
 obtain⟨_,a2,c2,hv,h⟩:=h
 simp only[Value.slice.injEq]at hv
 obtain⟨rfl,_,_⟩:=hv
 rcases h with h|⟨b,o,ha,hlt,hc⟩
 ·rw[h]at hk;simp at hk
 ·exact⟨b,o,ha,hlt,hc k hk 0 (by omega),hc k hk 1 (by omega),hc k hk 2 (by omega),hc k hk 3 (by omega)⟩
theorem zhL(w:World)(a b c d:Int):(w.alloc (.cells #[.int .i64 a,.int .i64 b,.int .i64 c,.int .i64 d] 91)).cell? ⟨w.heap.size,0,none⟩=some (.int .i64 a)∧(w.alloc (.cells #[.int .i64 a,.int .i64 b,.int .i64 c,.int .i64 d] 91)).cell? ⟨w.heap.size,1,none⟩=some (.int .i64 b)∧(w.alloc (.cells #[.int .i64 a,.int .i64 b,.int .i64 c,.int .i64 d] 91)).cell? ⟨w.heap.size,2,none⟩=some (.int .i64 c)∧(w.alloc (.cells #[.int .i64 a,.int .i64 b,.int .i64 c,.int .i64 d] 91)).cell? ⟨w.heap.size,3,none⟩=some (.int .i64 d):=by
 unfold World.cell?
 dsimp only
 rw[blk_alloc_new]
 exact⟨rfl,rfl,rfl,rfl⟩
end
end Go.Proofs.YtlfbdjeojgbniaaGreatDoor

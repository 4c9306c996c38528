import Derived.Test.YtlfbdjeojgbniaaGreatDoorRan16
namespace Go.Proofs.YtlfbdjeojgbniaaGreatDoor.Hnd
open Go.RowKit Go.Deep
def RowI(b:Nat)(w:World)(v:Value)(zs:List Int):Prop:=w.ownsRow b 3 1 v zs.length (zs.map (Value.int .i64))
theorem RowI.of_blocks{b:Nat}{w w':World}{v:Value}{zs:List Int}(h:RowI b w v zs)(hk:∀k,v.ownBlock=some k→w'.heap[k]?=w.heap[k]?):RowI b w' v zs:=by
 rcases h.2 with⟨rfl,hn⟩|⟨g,cap,cur,rfl,hb,hh,hr⟩
 ·exact⟨h.1,Or.inl ⟨rfl,hn⟩⟩
 ·exact⟨h.1,Or.inr ⟨g,cap,cur,rfl,hb,(hk g rfl).trans hh,hr⟩⟩
theorem RowI.mono{b b':Nat}{w:World}{v:Value}{zs:List Int}(h:RowI b w v zs)(hb:b'≤b):RowI b' w v zs:=by
 rcases h.2 with hn|⟨g,cap,cur,hv,hg,r⟩
 ·exact⟨h.1,Or.inl hn⟩
 ·exact⟨h.1,Or.inr ⟨g,cap,cur,hv,qq2 hb hg,r⟩⟩
theorem RowI.low{b:Nat}{w:World}{v:Value}{zs:List Int}(h:RowI b w v zs){k:Nat}(hk:v.ownBlock=some k):b≤k∧k<w.heap.size:=World.ownsRow.lt h k hk
theorem RowI.cap{B:Nat}{w:World}{v:Value}{zs:List Int}(h:RowI B w v zs):∃a c,v=.slice a zs.length c∧zs.length≤c:=by
 rcases h.2 with⟨rfl,hn⟩|⟨g,cap,cur,rfl,_,_,hc,_⟩
 ·exact⟨none,0,by rw[hn],by omega⟩
 ·exact⟨_,_,rfl,hc⟩
theorem RowI.shape{B:Nat}{w:World}{v:Value}{zs:List Int}(h:RowI B w v zs):∃a c,v=.slice a zs.length c:=by
 obtain⟨a,c,hv,_⟩:=h.cap
 exact⟨a,c,hv⟩
theorem RowI.nil(b:Nat)(w:World):RowI b w (.slice none 0 0) []:=World.ownsRow_nil _ _ _ _
theorem RowI.alloc{b:Nat}{w:World}{v:Value}{zs:List Int}(h:RowI b w v zs)(o:Obj):RowI b (w.alloc o) v zs:=h.of_blocks (fun _ e=>qa _ _ _ (h.low e).2)
theorem RowI.cell{b g n c:Nat}{w:World}{zs:List Int}(h:RowI b w (.slice (some ⟨g,0,none⟩) n c) zs){k:Nat}(hk:k<zs.length):w.cell? ⟨g,k,none⟩=some (.int .i64 (zs.getD k 0)):=by
 have:=World.ownsRow.cells h (g:=g) rfl k (.int .i64 (zs.getD k 0)) (by simp[List.getD_eq_getElem?_getD,List.getElem?_eq_getElem hk])
 rwa [Addr.add_lit,Nat.zero_add]at this
theorem RowI.full{b:Nat}{w:World}{v:Value}{zs:List Int}(h:RowI b w v zs)(hz:0<zs.length):∃g c,v=.slice (some ⟨g,0,none⟩) zs.length c∧b≤g∧g<w.heap.size∧zs.length≤c∧c≤maxLen:=by
 rcases h.2 with⟨_,h0⟩|⟨g,cap,cur,hv,hb,hh,hc,hm,_⟩
 ·omega
 ·exact⟨g,cap,hv,hb,(Array.getElem?_eq_some_iff.1 hh).1,hc,hm⟩
def Rds(A:Nat→Prop)(w:World)(v:Value)(xs:List Int):Prop:=
 ∃a c,v=.slice a xs.length c∧xs.length≤c∧∀k,k<xs.length→∃b o,a=some ⟨b,o,none⟩∧A b∧b<w.heap.size∧w.cell? ⟨b,o+k,none⟩=some (.int .i64 (xs.getD k 0))
theorem Rds.mono{A A':Nat→Prop}{w:World}{v:Value}{xs:List Int}(h:Rds A w v xs)(hA:∀b,A b→A' b):Rds A' w v xs:=by
 obtain⟨a,c,hv,hl,h⟩:=h
 refine⟨a,c,hv,hl,fun k hk=>?_⟩
 obtain⟨b,o,ha,hb,hw⟩:=h k hk
 exact⟨b,o,ha,hA b hb,hw⟩
theorem Rds.of_blocks{A:Nat→Prop}{w w':World}{v:Value}{xs:List Int}(h:Rds A w v xs)(hs:w.heap.size≤w'.heap.size)(hk:∀b,A b→b<w.heap.size→w'.heap[b]?=w.heap[b]?):Rds A w' v xs:=by
 obtain⟨a,c,hv,hl,h⟩:=h
 refine⟨a,c,hv,hl,fun k hk'=>?_⟩
 obtain⟨b,o,ha,hb,hw,hc⟩:=h k hk'
 exact⟨b,o,ha,hb,by omega,(qq9 (hk b hb hw)).trans hc⟩
theorem RowI.rds{b:Nat}{w:World}{v:Value}{xs:List Int}(h:RowI b w v xs):Rds (fun k=>v.ownBlock=some k) w v xs:=by
 obtain⟨a,c,rfl,hc⟩:=h.cap
 refine⟨a,c,rfl,hc,fun k hk=>?_⟩
 obtain⟨g,c',hv,hg⟩:=h.full (by omega)
 simp only[Value.slice.injEq]at hv
 obtain⟨rfl,_,rfl⟩:=hv
 exact⟨g,0,rfl,rfl,hg.2.1,by rw[Nat.zero_add];exact h.cell hk⟩
theorem zY(ty:TypeId)(b:Option Addr)(n c:Nat)(a:Option Addr)(c':Nat)(w:World)(h:n≤c):(Builtin.append_ #[73,73] ty #[.slice b n c,.slice a 0 c']).run Tryz.prog w=.ok (.slice b n c) w:=by
 unfold Builtin.append_
 cases b with
 | none=>
  cases a with
  | none=>go_simp
  | some a=>go_simp
 | some b=>
  cases a with
  | none=>go_simp
  | some a=>go_simp
theorem zv(ty:TypeId){B:Nat}{A:Nat→Prop}{v x:Value}{zs ys:List Int}{w:World}(hv:RowI B w v zs)(hx:Rds A w x ys)(hb:zs.length+ys.length≤1000)(hB:B≤w.heap.size) :
  ∃v' w',(Builtin.append_ #[73,73] ty #[v,x]).run Tryz.prog w=.ok v' w'∧RowI B w' v' (zs++ys)∧w.grownBy w' v.ownBlock∧(v'.ownBlock=v.ownBlock∨v'.ownBlock=some w.heap.size):=by
 obtain⟨a,c,rfl,hc,hx⟩:=hx
 by_cases hy:ys=[]
 ·subst hy
  obtain⟨b,d,rfl,hd⟩:=hv.cap
  refine⟨_,w,zY ty b _ d a c w hd,by rw[List.append_nil];exact hv,⟨rfl,rfl,rfl,qq1 _,fun _ _ _=>rfl⟩,Or.inl rfl⟩
 ·have hpos:0<ys.length:=List.length_pos_iff.2 hy
  obtain⟨i3,hi3,hz0,hz1,hz2⟩:=info_parts Tryz.info3
  obtain⟨g,o,rfl,_⟩:=hx 0 hpos
  have hcl:∀j u,(ys.map (Value.int .i64))[j]?=some u→w.cell? ((⟨g,o,none⟩:Addr).add j)=some u:=fun j u hu=>by
   have hj:j<ys.length:=by have:=(List.getElem?_eq_some_iff.1 hu).1;simpa using this
   obtain⟨g',o',e,_,_,hc⟩:=hx j hj
   simp only[Option.some.injEq,Addr.mk.injEq,and_true]at e
   obtain⟨rfl,rfl⟩:=e
   rw[Addr.add_lit,hc]
   simpa[List.getD_eq_getElem?_getD,List.getElem?_eq_getElem hj]using hu
  obtain⟨v',w',h1,h2,h3,h4,h5⟩:=run_append_own_at (P:=Tryz.prog) w B 73 ty 3 i3 (.int .i64 0) 1 8 Tryz.underlying73 hi3 hz0 hz1 hz2 rfl (by decide) v zs.length (zs.map (Value.int .i64)) hv ⟨g,o,none⟩ ys.length c (ys.map (Value.int .i64)) (by simp) hcl (by intro u hu;obtain⟨x,_,rfl⟩:=List.mem_map.1 hu;rfl) (by unfold maxLen;omega) (by omega) hB
  refine⟨v',w',h1,?_,h3,h5⟩
  show w'.ownsRow B 3 1 v' (zs++ys).length ((zs++ys).map (Value.int .i64))
  rw[qb,List.map_append]
  exact h2
theorem ze{ops:Array Oper}{rest:List Oper}{o:Oper}{a:Act}{Q:Exit→Act→World→Prop}{w:World}(hgd:o.guard=none)(s x:Operand)(ho:o.op=.call { callee:=.builtin .append,args:=#[s,x],argTypes:=#[73,73] })
  (B:Nat) (A:Nat→Prop) (v xv:Value) (zs ys:List Int) (hs:a.eval s=v) (hx:a.eval x=xv) (hv:RowI B w v zs) (hxv:Rds A w xv ys) (hb:zs.length+ys.length≤1000) (hB:B≤w.heap.size)
  (h:∀v' w',RowI B w' v' (zs++ys)→w.grownBy w' v.ownBlock→(v'.ownBlock=v.ownBlock∨v'.ownBlock=some w.heap.size)→wpList Tryz.prog ops Q rest (a.put o.dst v') w'):wpList Tryz.prog ops Q (o::rest) a w:=by
 refine wpList_plain hgd fun K hK=>?_
 obtain⟨v',w',hr,h2,h3,h4⟩:=zv o.type hv hxv hb hB
 unfold Oper.wp execOp
 simp only[ho,resolve,invoke,builtin,Sem.run_bind,Sem.run_pure,Result.andThen_ok,List.map_toArray,List.map_cons,List.map_nil,hs,hx,hr]
 exact hK _ _ (h v' w' h2 h3 h4)
theorem RowI.whole(w:World)(N n:Nat)(ys:List Int)(hn:ys.length=n)(h60:n≤60)(h:w.heap[N]?=some (.cells (ys.map (Value.int .i64)).toArray 3 (0,0))):RowI N w (.slice (some ⟨N,0,none⟩) n n) ys:=by
 subst hn
 exact⟨by simp,Or.inr ⟨N,_,_,rfl,qq1 _,h,qq1 _,by unfold maxLen;omega,by simp,by simp[List.take_of_length_le]⟩⟩
def Yr(va vb:Value):Prop:=∀k,va.ownBlock=some k→vb.ownBlock=some k→False
theorem Yr.symm{va vb:Value}(h:Yr va vb):Yr vb va:=fun k h1 h2=>h k h2 h1
theorem yU{B:Nat}{w1 w2:World}{va vb v':Value}{nb:Nat}{xb:List Value}(hb:w1.ownsRow B 3 1 vb nb xb)(hap:Yr va vb)(hg:w1.grownBy w2 va.ownBlock)(hat:v'.ownBlock=va.ownBlock∨v'.ownBlock=some w1.heap.size):w2.ownsRow B 3 1 vb nb xb∧Yr v' vb:=by
 refine⟨hb.kept hg ?_,fun k h1 h2=>?_⟩
 ·cases h:vb.ownBlock with
  | none=>exact Or.inl rfl
  | some k=>exact Or.inr (fun e=>hap k e.symm h)
 ·rcases hat with h|h
  ·exact hap k (h.symm.trans h1) h2
  ·have:=(hb.lt k h2).2
   rw[h]at h1
   simp only[Option.some.injEq]at h1
   omega
structure CutM (n k:Nat) (xs la lb:List Int) (w wr:World) (va vb:Value):Prop where
 ea:la=xs.take (min k n)
 eb:lb=(xs.take k).drop n
 a:RowI w.heap.size wr va la
 b:RowI w.heap.size wr vb lb
 ap:Yr va vb
 below:Below w.heap.size w wr
theorem yw(xs:List Int){k:Nat}(h:k<xs.length):xs.take (k+1)=xs.take k++[xs.getD k 0]:=by
 rw[qq8 h,qq6,qq7 h];rfl
theorem zK(w:World)(x:Int):Rds (fun _=>True) (w.alloc (.cells #[.int .i64 x] 3)) (.slice (some ⟨w.heap.size,0,none⟩) 1 1) [x]:=
 ((RowI.whole _ _ 1 _ rfl (by omega) (heap_alloc_new w _)).rds).mono (fun _ _=>trivial)
set_option maxRecDepth 100000 in
set_option maxHeartbeats 2000000 in
theorem yN(A:Nat→Prop)(v:Value)(xs:List Int)(n:Nat)(w:World)(h:Rds A w v xs)(hx:xs.length≤100) :
  Calls Tryz.prog 70 #[v,.int .i64 n] w fun e w'=>∃va vb,e=.returned (.tuple #[va,vb])∧RowI w.heap.size w' va (xs.take n)∧RowI w.heap.size w' vb (xs.drop n)∧Yr va vb∧Below w.heap.size w w':=by
 obtain⟨a1,c1,rfl,hl1,h⟩:=h
 have H:Hid (∀k,k<xs.length→∃b o,a1=some ⟨b,o,none⟩∧A b∧b<w.heap.size∧w.cell? ⟨b,o+k,none⟩=some (.int .i64 (xs.getD k 0))):=h
 clear h hl1
 go_enter Tryz.func70,Tryz.ntmps70
 go_wp2
 go_loopw [6,7,8] (fun va vb s8 wr=>∃(k:Nat) (la lb:List Int),k≤xs.length∧s8=.int .i64 k∧Hid (CutM n k xs la lb w wr va vb)) (fun _ _ s8 _=>xs.length-(intOf s8).toNat)
 case atStart=>exact⟨0,[],[],Nat.zero_le _,rfl,⟨by simp,by simp,RowI.nil _ _,RowI.nil _ _,fun k h=>by simp[Value.ownBlock]at h,qq4 _ _⟩⟩
 case round=>
  obtain⟨k,la,lb,hk,rfl,hM⟩:=hrel
  obtain⟨aa,ac,rfl⟩:=hM.out.a.shape
  obtain⟨ba,bc,rfl⟩:=hM.out.b.shape
  have hla:la.length≤100:=by rw[hM.out.ea];simp;omega
  have hlb:lb.length≤100:=by rw[hM.out.eb];simp;omega
  by_cases hkl:k<xs.length
  ·obtain⟨b1,o1,rfl,_,hb1,hc1⟩:=H.out k hkl
   have hc2:=(hM.out.below.cell (p:=⟨b1,o1+k,none⟩) hb1).trans hc1
   have hT:=yw xs hkl
   have HT:Hid (xs.take (k+1)=xs.take k++[xs.getD k 0]):=hT
   clear hc1 hT
   generalize xs.getD k 0=x at *
   have hsz:=hM.out.below.size
   have HO:Hid (Rds (fun _=>True) (wr.alloc (.cells #[.int .i64 x] 3)) (.slice (some ⟨wr.heap.size,0,none⟩) 1 1) [x]):=zK wr x
   by_cases hkn:k<n
   ·have hkn':(k:Int)<(n:Int):=by omega
    have hoa:=hM.out.a.alloc (.cells #[.int .i64 x] 3)
    go_wp2_with (first|(at_builtin;refine ze rfl (.tmp 18) (.tmp 23) rfl w.heap.size (fun _=>True) (.slice aa la.length ac) (.slice (some ⟨wr.heap.size,0,none⟩) 1 1) la [x] rfl rfl hoa HO.out (by simp;omega) (by simp;omega) ?_;intro v2 w2 hown2 hgr2 hat2))
    obtain⟨hb2,hap2⟩:=yU (hM.out.b.alloc (.cells #[.int .i64 x] 3)) hM.out.ap hgr2 (by simpa using hat2)
    have hM2:Hid (CutM n (k+1) xs (la++[x]) lb w w2 v2 (.slice ba lb.length bc)):=by
     refine⟨?_,?_,hown2,hb2,hap2,(hM.out.below.alloc hsz _).grown hgr2 (by simp;omega) (fun j e=>(hM.out.a.low e).1)⟩
     ·rw[show min (k+1) n=k+1 by omega,HT.out,hM.out.ea,show min k n=k by omega]
     ·rw[hM.out.eb,List.drop_eq_nil_of_le (by simp;omega),List.drop_eq_nil_of_le (by simp;omega)]
    clear hM hown2 hgr2 hat2 hb2 hap2 hoa HO
    go_wp2
    go_roundw
    case rel=>exact⟨k+1,_,_,by omega,by go_num,hM2⟩
    case measure=>simp[intOf];omega
   ·have hkn':¬(k:Int)<(n:Int):=by omega
    have hob:=hM.out.b.alloc (.cells #[.int .i64 x] 3)
    go_wp2_with (first|(at_builtin;refine ze rfl (.tmp 25) (.tmp 30) rfl w.heap.size (fun _=>True) (.slice ba lb.length bc) (.slice (some ⟨wr.heap.size,0,none⟩) 1 1) lb [x] rfl rfl hob HO.out (by simp;omega) (by simp;omega) ?_;intro v2 w2 hown2 hgr2 hat2))
    obtain⟨ha2,hap2⟩:=yU (hM.out.a.alloc (.cells #[.int .i64 x] 3)) hM.out.ap.symm hgr2 (by simpa using hat2)
    have hM2:Hid (CutM n (k+1) xs la (lb++[x]) w w2 (.slice aa la.length ac) v2):=by
     refine⟨?_,?_,ha2,hown2,hap2.symm,(hM.out.below.alloc hsz _).grown hgr2 (by simp;omega) (fun j e=>(hM.out.b.low e).1)⟩
     ·rw[show min (k+1) n=min k n by omega]
      exact hM.out.ea
     ·rw[HT.out,List.drop_append_of_le_length (by simp;omega),hM.out.eb]
    clear hM hown2 hgr2 hat2 ha2 hap2 hob HO
    go_wp2
    go_roundw
    case rel=>exact⟨k+1,_,_,by omega,by go_num,hM2⟩
    case measure=>simp[intOf];omega
  ·have hke:k=xs.length:=by omega
   have hkl':¬(k:Int)<(xs.length:Int):=by omega
   have HA:Hid (RowI w.heap.size wr (.slice aa la.length ac) (xs.take n)):=by
    have:=hM.out.a
    have e:=hM.out.ea
    rw[show xs.take (min k n)=xs.take n from by rw[hke,Nat.min_comm,←List.take_eq_take_min]]at e
    rwa [e]at this ⊢
   have HBB:Hid (RowI w.heap.size wr (.slice ba lb.length bc) (xs.drop n)):=by
    have:=hM.out.b
    have e:=hM.out.eb
    rw[hke,List.take_length]at e
    rwa [e]at this ⊢
   have HL:Hid (Below w.heap.size w wr):=hM.out.below
   have HP:Hid (Yr (.slice aa la.length ac) (.slice ba lb.length bc)):=hM.out.ap
   clear hM
   go_wp2
   go_ret2
   exact⟨_,_,rfl,HA.out,HBB.out,HP.out,HL.out⟩
end Go.Proofs.YtlfbdjeojgbniaaGreatDoor.Hnd
namespace Go.Proofs.YtlfbdjeojgbniaaGreatDoor.Hnd
open Go.RowKit Go.Deep
structure Kd (S:Nat) (o:Option Nat) (w w':World):Prop where
 os:w'.os=w.os
 tape:w'.tape=w.tape
 output:w'.output=w.output
 size:w.heap.size≤w'.heap.size
 block:∀k,k<w.heap.size→k≠S→o≠some k→w'.heap[k]?=w.heap[k]?
theorem Kd.refl(S:Nat)(o:Option Nat)(w:World):Kd S o w w:=⟨rfl,rfl,rfl,qq1 _,fun _ _ _ _=>rfl⟩
theorem Kd.trans{S:Nat}{o o':Option Nat}{a b c:World}(h:Kd S o a b)(k:Kd S o' b c)(ho:∀j,o'=some j→o=some j∨a.heap.size≤j):Kd S o a c:=
 ⟨k.os.trans h.os,k.tape.trans h.tape,k.output.trans h.output,qq2 h.size k.size,fun i hi hS hO=>by
  refine(k.block i (qq3 hi h.size) hS (fun e=>?_)).trans (h.block i hi hS hO)
  rcases ho i e with h1|h1
  ·exact hO h1
  ·omega⟩
theorem Kd.drewN{S:Nat}{o:Option Nat}{w0 w:World}(h:Kd S o w0 w)(n:Nat):Kd S o w0 (w.drewN n):=⟨h.os,h.tape,h.output,h.size,h.block⟩
theorem Kd.alloc{S:Nat}{o:Option Nat}{w0 w:World}(h:Kd S o w0 w)(x:Obj):Kd S o w0 (w.alloc x):=
 ⟨h.os,h.tape,h.output,by have:=h.size;simp;omega,fun k hk hS hO=>(qa _ _ _ (qq3 hk h.size)).trans (h.block k hk hS hO)⟩
theorem Kd.setS{S:Nat}{o:Option Nat}{w0 w:World}(h:Kd S o w0 w)(j:Nat)(u:Value):Kd S o w0 (w.setCell ⟨S,j,none⟩ u):=
 ⟨h.os,h.tape,h.output,by simpa using h.size,fun k hk hS hO=>(qq5 _ _ _ _ (by show k≠S;exact hS)).trans (h.block k hk hS hO)⟩
theorem Kd.grown{S:Nat}{o o':Option Nat}{w0 w w':World}(h:Kd S o w0 w)(hg:w.grownBy w' o')(ho:∀j,o'=some j→o=some j∨w0.heap.size≤j):Kd S o w0 w':=
 h.trans ⟨hg.os,hg.tape,hg.output,hg.size,fun k hk _ hO=>hg.block k hk (fun e=>hO e.symm)⟩ ho
theorem Kd.of_below{S:Nat}{o:Option Nat}{w w':World}(h:Below w.heap.size w w'):Kd S o w w':=⟨h.os,h.tape,h.output,h.size,fun k hk _ _=>h.block k hk⟩
def XR(n:Nat)(v v':Value):Prop:=∀k,v'.ownBlock=some k→v.ownBlock=some k∨n≤k
structure Mh (M room:Nat) (nr:Int) (xs:List Int) (v:Value) (w:World):Prop where
 cells:w.heap[M]?=some (.cells #[.int .i64 room,.int .i64 nr,v] 143 (0,0))
 row:RowI (M+1) w v xs
 near:nr=-1∨0≤nr
 le:xs.length≤room
 r16:room≤16
theorem Mh.lt{M room:Nat}{nr:Int}{xs:List Int}{v:Value}{w:World}(h:Mh M room nr xs v w):M<w.heap.size:=(Array.getElem?_eq_some_iff.1 h.cells).1
theorem Mh.c0{M room:Nat}{nr:Int}{xs:List Int}{v:Value}{w:World}(h:Mh M room nr xs v w):w.cell? ⟨M,0,none⟩=some (.int .i64 room):=by simp[World.cell?,h.cells]
theorem Mh.c1{M room:Nat}{nr:Int}{xs:List Int}{v:Value}{w:World}(h:Mh M room nr xs v w):w.cell? ⟨M,1,none⟩=some (.int .i64 nr):=by simp[World.cell?,h.cells]
theorem Mh.c2{M room:Nat}{nr:Int}{xs:List Int}{v:Value}{w:World}(h:Mh M room nr xs v w):w.cell? ⟨M,2,none⟩=some v:=by simp[World.cell?,h.cells]
theorem Mh.fz{M room:Nat}{nr:Int}{xs:List Int}{v:Value}{w:World}(h:Mh M room nr xs v w)(j:Nat):w.frozen? ⟨M,j,none⟩=false:=by simp[World.frozen?,h.cells]
theorem Mh.of_blocks{M room:Nat}{nr:Int}{xs:List Int}{v:Value}{w w':World}(h:Mh M room nr xs v w)(h1:w'.heap[M]?=w.heap[M]?)(h2:∀k,v.ownBlock=some k→w'.heap[k]?=w.heap[k]?):Mh M room nr xs v w':=
 ⟨h1.trans h.cells,h.row.of_blocks h2,h.near,h.le,h.r16⟩
theorem Mh.later{M room:Nat}{nr:Int}{xs:List Int}{v:Value}{w w':World}(h:Mh M room nr xs v w)(hb:Below w.heap.size w w'):Mh M room nr xs v w':=
 h.of_blocks (hb.block _ h.lt) (fun _ e=>hb.block _ (h.row.low e).2)
theorem Mh.setN{M room:Nat}{nr n:Int}{xs:List Int}{v:Value}{w:World}(h:Mh M room nr xs v w)(hn:n=-1∨0≤n):Mh M room n xs v (w.setCell ⟨M,1,none⟩ (.int .i64 n)):=by
 refine⟨?_,h.row.of_blocks (fun k e=>qq5 _ _ _ _ (by show k≠M;have:=(h.row.low e).1;omega)),hn,h.le,h.r16⟩
 rw[setCell_eq_setRow w M 1 _ 143 (0,0) _ h.cells,setRow_heap w M _ _ 143 _ h.cells];rfl
theorem Mh.setV{M room:Nat}{nr:Int}{xs ys:List Int}{v v':Value}{w w1:World}(h:Mh M room nr xs v w)(h1:w1.heap[M]?=w.heap[M]?)(hr:RowI (M+1) w1 v' ys)(hy:ys.length≤room):Mh M room nr ys v' (w1.setCell ⟨M,2,none⟩ v'):=by
 have hM:w1.heap[M]?=some (.cells #[.int .i64 room,.int .i64 nr,v] 143 (0,0)):=h1.trans h.cells
 refine⟨?_,hr.of_blocks (fun k e=>qq5 _ _ _ _ (by show k≠M;have:=(hr.low e).1;omega)),h.near,hy,h.r16⟩
 rw[setCell_eq_setRow w1 M 2 _ 143 (0,0) _ hM,setRow_heap w1 M _ _ 143 _ hM];rfl
theorem xL(B:Nat)(w:World)(q:Nat):Below B w (w.drewN q):=⟨rfl,rfl,rfl,qq1 _,fun _ _=>rfl⟩
theorem RowI.init{b:Nat}{w:World}{a:Option Addr}{c:Nat}{x:Int}{xs:List Int}(h:RowI b w (.slice a (xs.length+1) c) (xs++[x])):RowI b w (.slice a xs.length c) xs:=by
 rcases h.2 with⟨hv,h0⟩|⟨g,cap,cur,hv,hb,hh,hc,hm,hs,ht⟩
 ·simp at h0
 ·simp only[Value.slice.injEq]at hv
  obtain⟨rfl,_,rfl⟩:=hv
  simp only[List.length_append,List.length_singleton,Nat.mul_one,List.map_append]at hc ht
  refine⟨by simp,Or.inr ⟨g,c,cur,rfl,hb,hh,by omega,hm,hs,?_⟩⟩
  have:=congrArg (List.take xs.length) ht
  rw[List.take_take,Nat.min_eq_left (by omega)]at this
  rw[Nat.mul_one,this]
  simp
theorem ziK(M room:Nat)(nr:Int)(xs:List Int)(v:Value)(w:World)(h:Mh M room nr xs v w)(hn:nr≠-1) :
  Calls Tryz.prog 71 #[.pointer (some ⟨M,0,none⟩)] w fun e w'=>e=.returned (.tuple #[.int .i64 nr,.bool true])∧Mh M room (-1) xs v w'∧Kd M v.ownBlock w w':=by
 have HH:Hid (Mh M room nr xs v w):=h
 have hc1:=h.c1
 have hf1:=h.fz 1
 have h0:0≤nr:=h.near.resolve_left hn
 clear h hn
 go_enter Tryz.func71,Tryz.ntmps71
 go_wp2
 go_ret2
 exact⟨rfl,HH.out.setN (Or.inl rfl),(Kd.refl _ _ _).setS _ _⟩
theorem ziL(M room:Nat)(v:Value)(w:World)(h:Mh M room (-1) [] v w) :
  Calls Tryz.prog 71 #[.pointer (some ⟨M,0,none⟩)] w fun e w'=>e=.returned (.tuple #[.int .i64 0,.bool false])∧w'=w:=by
 have hc1:=h.c1
 have hc2:=h.c2
 obtain⟨a,c,rfl⟩:=h.row.shape
 simp only[List.length_nil]at hc2
 clear h
 go_enter Tryz.func71,Tryz.ntmps71
 go_wp2
 go_ret2
 exact⟨rfl,rfl⟩
set_option maxHeartbeats 2000000 in
theorem ziV(M room:Nat)(x:Int)(xs:List Int)(v:Value)(w:World)(h:Mh M room (-1) (xs++[x]) v w) :
  Calls Tryz.prog 71 #[.pointer (some ⟨M,0,none⟩)] w fun e w'=>e=.returned (.tuple #[.int .i64 x,.bool true])∧(∃v',Mh M room (-1) xs v' w'∧XR w.heap.size v v')∧Kd M v.ownBlock w w':=by
 have HH:Hid (Mh M room (-1) (xs++[x]) v w):=h
 have hc1:=h.c1
 have hc2:=h.c2
 have hf2:=h.fz 2
 have hle:=h.le
 have hr16:=h.r16
 obtain⟨g,c,rfl,hg,hgl,hcap,_⟩:=h.row.full (by simp)
 have hx:=h.row.cell (k:=xs.length) (by simp)
 rw[yb]at hx
 simp only[List.length_append,List.length_singleton]at *
 have HI:Hid (RowI (M+1) w (.slice (some ⟨g,0,none⟩) xs.length c) xs):=h.row.init
 have hne:(((xs.length+1:Nat):Int)==0)=false:=by simp;omega
 clear h
 go_enter Tryz.func71,Tryz.ntmps71
 go_wp2
 go_quiet (fail)
 go_wp2
 go_region
 go_wp2
 go_ret2
 exact⟨rfl,⟨_,HH.out.setV rfl (HI.out.of_blocks (fun _ _=>rfl)) (by omega),fun k e=>Or.inl e⟩,((Kd.refl _ _ _).drewN _).setS _ _⟩
end Go.Proofs.YtlfbdjeojgbniaaGreatDoor.Hnd
namespace Go.Proofs.YtlfbdjeojgbniaaGreatDoor.Hnd
open Go.RowKit Go.Deep
theorem qT{P:Program}{ops:Array Oper}{Q:Exit→Act→World→Prop}{i:Nat}{o:Oper}{K:Act→World→Prop}{a:Act}{w:World}{f:FuncId}{args:Array Value}(hi:ops[i]?=some o)(hw:Region.wanted o (yielded ops a.tmps)=true)
  (hr:(execOp a.eval o).run P w=.ok (.enter f args) w) (h:Calls P f args w fun
   | .returned v,w''=>K (a.put o.dst v) w''
   | .panicked chain,w''=>Q (.panic chain) a w''
   | .outgrown,_=>LetsOut Q):wpOp P ops Q i K a w:=by
 unfold wpOp
 rw[hi]
 dsimp only
 rw[hw,if_pos rfl]
 refine Or.inl ?_
 unfold Oper.wp
 rw[hr]
 exact h
section
variable {P:Program} {ops:Array Oper} {md:Region.Mode} {Q:Exit→Act→World→Prop} {S:World→Prop}
theorem zc{i:Nat}{oi:Oper}{v:Value}{fuel:Nat}{listed:Array Bool}{a:Act}{w:World}(d:Option Nat)(hi:ops[i]?=some oi)(hd:oi.dst=d)
  (hs:Region.noSelect ops=true) (hf:Region.free md ops listed i=true) (hr:(Region.ready md ops listed).contains i=true)
  (hQ:∀c a w,Q (.panic c) (a.put d v) w→Q (.panic c) a w) (hy:YieldsIf P ops S oi v a) (hS:S w)
  (h:wpAnyH P md ops Q S fuel (listed.setIfInBounds i true) (a.put d v) w):wpAnyH P md ops Q S (fuel+1) listed a w:=by
 subst hd
 exact wpAnyH_take hi hs hf hr hQ hy hS h
theorem yk{i:Nat}{o:Oper}{K:Act→World→Prop}{a:Act}{w:World}{f:FuncId}{args:Array Value}(d:Option Nat)(hi:ops[i]?=some o)(hd:o.dst=d)(hw:Region.wanted o (yielded ops a.tmps)=true)
  (hr:(execOp a.eval o).run P w=.ok (.enter f args) w) (h:Calls P f args w fun
   | .returned v,w''=>K (a.put d v) w''
   | .panicked chain,w''=>Q (.panic chain) a w''
   | .outgrown,_=>LetsOut Q):wpOp P ops Q i K a w:=by
 subst hd
 exact qT hi hw hr h
end
theorem yG{n:Int}(h0:0≤n)(h1:n<9223372036854775808):IntKind.i64.wrap n=n:=by rw[IntKind.wrap_i64];omega
theorem Rds.nil(A:Nat→Prop)(w:World):Rds A w (.slice none 0 0) []:=⟨none,0,rfl,qq1 _,fun k hk=>by simp at hk⟩
theorem Rds.setM{A:Nat→Prop}{M:Nat}{w:World}{v:Value}{xs:List Int}(h:Rds A w v xs)(hA:∀b,A b→b≠M)(x:Nat)(u:Value):Rds A (w.setCell ⟨M,x,none⟩ u) v xs:=
 h.of_blocks (by simp) (fun b hb _=>qq5 _ _ _ _ (by show b≠M;exact hA b hb))
set_option maxHeartbeats 4000000 in
theorem zi4(M room:Nat)(nr:Int)(xs:List Int)(v:Value)(w:World)(h:Mh M room nr xs v w) :
  Calls Tryz.prog 74 #[.pointer (some ⟨M,0,none⟩)] w fun e w'=>(∃ov,e=.returned ov∧Rds (fun k=>w.heap.size≤k) w' ov (xs.take ((xs.length+1) / 2)))∧(∃v',Mh M room nr (xs.drop ((xs.length+1) / 2)) v' w'∧XR w.heap.size v v')∧Kd M v.ownBlock w w':=by
 have HH:Hid (Mh M room nr xs v w):=h
 have hc2:=h.c2
 have hle:=h.le
 have hr16:=h.r16
 have hlt:=h.lt
 have HR:Hid (RowI (M+1) w v xs):=h.row
 obtain⟨a,c,rfl⟩:=h.row.shape
 obtain⟨n,hn⟩:∃n,n=(xs.length+1) / 2:=⟨_,rfl⟩
 have hq:((xs.length:Int)+1).tdiv 2=(n:Int):=by rw[Int.tdiv_eq_ediv_of_nonneg (by omega)];omega
 have hq2:((xs.length:Int)+1) / 2=(n:Int):=by omega
 have hw1:IntKind.i64.wrap ((xs.length:Int)+1)=(xs.length:Int)+1:=yG (by omega) (by omega)
 have hw2:IntKind.i64.wrap (n:Int)=(n:Int):=yG (by omega) (by omega)
 have hdl:(xs.drop n).length≤room:=by simp;omega
 have hcu:=fun q=>yN _ (.slice a xs.length c) xs n (w.drewN q) (HR.out.of_blocks (w':=w.drewN q) (fun _ _=>rfl)).rds (by omega)
 rw[←hn]
 clear h hn
 generalize xs.take n=o at *
 generalize xs.drop n=r at *
 go_enter Tryz.func74,Tryz.ntmps74
 go_wp2
 have HS:w.drew.cell? ⟨M,2,none⟩=some (.slice a xs.length c):=hc2
 refine wp_region_held (S:=fun W'=>W'.cell? ⟨M,2,none⟩=some (.slice a xs.length c)) (by kernel_rfl) ?_
 refine zc (i:=0) (v:=?v0) (some 6) rfl rfl (by kernel_rfl) (by kernel_rfl) (by kernel_rfl) (fun _ _ _ h=>h) (Or.inl ⟨by rfl,?hy0⟩) HS ?_
 case hy0=>
  intro wz hSz
  go_simp
  try rfl
 refine zc (i:=1) (v:=?v1) (some 7) rfl rfl (by kernel_rfl) (by kernel_rfl) (by kernel_rfl) (fun _ _ _ h=>h) (Or.inl ⟨by rfl,?hy1⟩) HS ?_
 case hy1=>
  intro wz hSz
  go_simp
  try rfl
 refine zc (i:=2) (v:=?v2) (some 8) rfl rfl (by kernel_rfl) (by kernel_rfl) (by kernel_rfl) (fun _ _ _ h=>h) (Or.inl ⟨by rfl,?hy2⟩) HS ?_
 case hy2=>
  intro wz hSz
  go_simp
  try rfl
 refine zc (i:=3) (v:=?v3) (some 9) rfl rfl (by kernel_rfl) (by kernel_rfl) (by kernel_rfl) (fun _ _ _ h=>h) (Or.inl ⟨by rfl,?hy3⟩) HS ?_
 case hy3=>
  intro wz hSz
  go_simp
  try rfl
 refine zc (i:=4) (v:=?v4) (some 10) rfl rfl (by kernel_rfl) (by kernel_rfl) (by kernel_rfl) (fun _ _ _ h=>h) (Or.inl ⟨by rfl,?hy4⟩) HS ?_
 case hy4=>
  intro wz hSz
  go_simp
  try rfl
 refine zc (i:=5) (v:=?v5) (some 11) rfl rfl (by kernel_rfl) (by kernel_rfl) (by kernel_rfl) (fun _ _ _ h=>h) (Or.inl ⟨by rfl,?hy5⟩) HS ?_
 case hy5=>
  intro wz hSz
  go_simp
  try rfl
 refine zc (i:=6) (v:=?v6) (some 12) rfl rfl (by kernel_rfl) (by kernel_rfl) (by kernel_rfl) (fun _ _ _ h=>h) (Or.inl ⟨by rfl,?hy6⟩) HS ?_
 case hy6=>
  intro wz hSz
  go_simp
  try rfl
 refine zc (i:=7) (v:=?v7) (some 13) rfl rfl (by kernel_rfl) (by kernel_rfl) (by kernel_rfl) (fun _ _ _ h=>h) (Or.inl ⟨by rfl,?hy7⟩) HS ?_
 case hy7=>
  intro wz hSz
  go_simp
  try rfl
 refine zc (i:=8) (v:=?v8) (some 14) rfl rfl (by kernel_rfl) (by kernel_rfl) (by kernel_rfl) (fun _ _ _ h=>h) (Or.inl ⟨by rfl,?hy8⟩) HS ?_
 case hy8=>
  intro wz hSz
  go_simp
  try rfl
 refine zc (i:=9) (v:=?v9) (some 15) rfl rfl (by kernel_rfl) (by kernel_rfl) (by kernel_rfl) (fun _ _ _ h=>h) (Or.inl ⟨by rfl,?hy9⟩) HS ?_
 case hy9=>
  intro wz hSz
  go_simp
  try rfl
 refine zc (i:=10) (v:=?v10) (some 16) rfl rfl (by kernel_rfl) (by kernel_rfl) (by kernel_rfl) (fun _ _ _ h=>h) (Or.inl ⟨by rfl,?hy10⟩) HS ?_
 case hy10=>
  intro wz hSz
  go_simp
  try rfl
 refine wpAnyH_all (rs:=[11]) (by kernel_rfl) (by simp) (fun j hj=>?_)
 obtain rfl:=List.mem_singleton.1 hj
 refine yk (f:=70) (args:=#[.slice a xs.length c,.int .i64 n]) (some 17) rfl rfl (by rfl) ?hcall ?_
 case hcall=>
  go_simp
  all_goals (first|rfl|(rw[hw1,hq,hw2]))
 refine(hcu 1).mono ?_
 rintro e w1 ⟨va,vb,rfl,hra,hrb,hap,hb1⟩
 have HB1:Hid (Below w.heap.size w w1):=(xL _ _ 1).trans hb1
 have HH1:Hid (Mh M room nr xs (.slice a xs.length c) w1):=HH.out.later HB1.out
 have HS1:=HH1.out.c2
 have HA:Hid (RowI w.heap.size w1 va o):=hra
 have HBR:Hid (RowI w.heap.size w1 vb r):=hrb
 obtain⟨aa,ac,rfl⟩:=hra.shape
 obtain⟨ba,bc,rfl⟩:=hrb.shape
 refine⟨HS1,?_⟩
 refine zc (i:=12) (v:=?v12) (some 5) rfl rfl (by kernel_rfl) (by kernel_rfl) (by kernel_rfl) (fun _ _ _ h=>h) (Or.inl ⟨by rfl,?hy12⟩) HS1 ?_
 case hy12=>
  intro wz hSz
  go_simp
  try rfl
 refine zc (i:=13) (v:=?v13) (some 18) rfl rfl (by kernel_rfl) (by kernel_rfl) (by kernel_rfl) (fun _ _ _ h=>h) (Or.inl ⟨by rfl,?hy13⟩) HS1 ?_
 case hy13=>
  intro wz hSz
  go_simp
  try rfl
 refine zc (i:=14) (v:=?v14) (some 19) rfl rfl (by kernel_rfl) (by kernel_rfl) (by kernel_rfl) (fun _ _ _ h=>h) (Or.inl ⟨by rfl,?hy14⟩) HS1 ?_
 case hy14=>
  intro wz hSz
  go_simp
  try rfl
 refine zc (i:=15) (v:=?v15) (some 3) rfl rfl (by kernel_rfl) (by kernel_rfl) (by kernel_rfl) (fun _ _ _ h=>h) (Or.inl ⟨by rfl,?hy15⟩) HS1 ?_
 case hy15=>
  intro wz hSz
  go_simp
  try rfl
 refine zc (i:=16) (v:=?v16) (some 4) rfl rfl (by kernel_rfl) (by kernel_rfl) (by kernel_rfl) (fun _ _ _ h=>h) (Or.inl ⟨by rfl,?hy16⟩) HS1 ?_
 case hy16=>
  intro wz hSz
  go_simp
  try rfl
 refine wpAnyH_done (by kernel_rfl) ?_ _
 have hf2:=HH1.out.fz 2
 clear hra hrb hap hb1 hcu hq hq2 hc2 HS hw1 hw2
 go_wp2
 go_ret
 exact⟨⟨_,rfl,(HA.out.rds.mono (fun k e=>(HA.out.low e).1)).setM (fun b hb=>by omega) _ _⟩,⟨_,HH1.out.setV rfl (HBR.out.mono (by omega)) hdl,fun k e=>Or.inr (HBR.out.low e).1⟩,(Kd.of_below HB1.out).setS _ _⟩
end Go.Proofs.YtlfbdjeojgbniaaGreatDoor.Hnd

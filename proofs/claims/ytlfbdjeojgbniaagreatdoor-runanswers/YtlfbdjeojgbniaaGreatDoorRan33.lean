import Derived.Test.YtlfbdjeojgbniaaGreatDoorRan32
import Derived.Test.YtlfbdjeojgbniaaGreatDoorRan08
import Derived.Test.YtlfbdjeojgbniaaGreatDoorRan25
namespace Go.Proofs.YtlfbdjeojgbniaaGreatDoor
section
open Go.RowKit Go.Deep
def Zp(N:Nat)(w:World)(nv:Value)(zs:List Int):Prop:=w.ownsRow N 3 1 nv zs.length (zs.map (Value.int .i64))
theorem Zp.later{N:Nat}{w w':World}{nv:Value}{zs:List Int}(h:Zp N w nv zs)(hb:Below w.heap.size w w'):Zp N w' nv zs:=
 World.ownsRow.kept (row:=none) h ⟨hb.os,hb.tape,hb.output,hb.size,fun k hk _=>hb.block k hk⟩ (by cases nv.ownBlock <;> simp)
theorem Zp.nil(N:Nat)(w:World):Zp N w (.slice none 0 0) []:=World.ownsRow_nil _ _ _ _
theorem Zp.of{B:Nat}{w:World}{v:Value}{ns:List Nat}(h:ZQ B w v ns):Zp B w v (ns.map Int.ofNat):=by
 obtain⟨h1,h2⟩:=h
 refine⟨by simp,?_⟩
 rcases h2 with⟨hv,h0⟩|⟨g,cap,cur,hv,hgb,hh,hn,hc,hs,ht⟩
 ·exact Or.inl ⟨hv,by simpa using h0⟩
 ·refine Or.inr ⟨g,cap,cur,by simpa using hv,hgb,hh,by simpa using hn,hc,hs,?_⟩
  rw[List.length_map,ht,List.map_map]
  rfl
theorem Zp.mono{N M:Nat}{w:World}{nv:Value}{zs:List Int}(h:Zp N w nv zs)(hm:M≤N):Zp M w nv zs:=by
 refine⟨h.1,?_⟩
 rcases h.2 with h2|⟨g,cap,cur,hv,hb,h3⟩
 ·exact Or.inl h2
 ·exact Or.inr ⟨g,cap,cur,hv,qq2 hm hb,h3⟩
theorem Zp.shape{N:Nat}{w:World}{nv:Value}{zs:List Int}(h:Zp N w nv zs):∃a c,nv=.slice a zs.length c:=by
 rcases h.2 with⟨hv,h0⟩|⟨g,cap,cur,hv,_⟩
 ·exact⟨none,0,by rw[hv,h0]⟩
 ·exact⟨_,_,hv⟩
theorem zaI{W:World}{k:Nat}{x y a b:Value}{t:TypeId}(h:W.heap[k]?=some (.cells #[x,y] t (0,0))) :
  ((W.setCell ⟨k,0,none⟩ a).setCell ⟨k,1,none⟩ b).cell? ⟨k,0,none⟩=some a∧((W.setCell ⟨k,0,none⟩ a).setCell ⟨k,1,none⟩ b).cell? ⟨k,1,none⟩=some b:=by
 have:((W.setCell ⟨k,0,none⟩ a).setCell ⟨k,1,none⟩ b).heap[k]?=some (.cells #[a,b] t (0,0)):=by simp[World.setCell,Array.getElem?_modify,h]
 constructor <;> simp[World.cell?,this]
theorem qK{B:Nat}{w W:World}{k:Nat}{a b:Value}(h:Below B w W)(hk:B≤k):Below B w ((W.setCell ⟨k,0,none⟩ a).setCell ⟨k,1,none⟩ b):=(h.setCell (p:=⟨k,0,none⟩) hk a).setCell (p:=⟨k,1,none⟩) hk b
theorem Zp.two{N:Nat}{W:World}{k:Nat}{x y a b nv:Value}{zs:List Int}(h:Zp N W nv zs)(hk:W.heap[k]?=some (.cells #[x,y] 94 (0,0))):Zp N ((W.setCell ⟨k,0,none⟩ a).setCell ⟨k,1,none⟩ b) nv zs:=by
 have hne:nv.ownBlock≠some k:=by
  rcases h.2 with⟨hv,_⟩|⟨g,cap,cur,hv,_,hh,_⟩
  ·subst hv;simp[Value.ownBlock]
  ·subst hv
   simp only[Value.ownBlock,ne_eq,Option.some.injEq]
   rintro rfl
   rw[hk]at hh
   simp at hh
 exact ownsRow_setCell_other (a:=⟨k,1,none⟩) (ownsRow_setCell_other (a:=⟨k,0,none⟩) h hne a) hne b
set_option maxRecDepth 100000 in
set_option maxHeartbeats 4000000 in
theorem zcJ(l:List UInt8)(w:World)(hl:l.length≤1048576)(he:Synt w)(hm:Lens w) :
  Calls Tryz.prog 39 #[.string ⟨l.toArray⟩] w fun e w'=>((∃wk nv zs,ZN l=some (wk,zs)∧e=.returned (.tuple #[.agg #[.int .i64 wk,nv],.bool true])∧Zp w.heap.size w' nv zs)∨(ZN l=none∧e=.returned (.tuple #[.agg #[.int .i64 0,.slice none 0 0],.bool false])))∧Below w.heap.size w w':=by
 have hb0:Below w.heap.size w (w.alloc (.cells #[.int .i64 0,.slice none 0 0] 94)):=(qq4 _ _).alloc (qq1 _) _
 have hcut:=zaG l 60 (w.alloc (.cells #[.int .i64 0,.slice none 0 0] 94)) hl (hm.later hb0)
 have hl1:=jm 60 l
 have hl2:=yf 60 l
 have HT:Hid (ZN l=match Ze (cutB 60 l).1 with|none=>none|some w=>if (cutB 60 l).2.2 then (Y8 (cutB 60 l).2.1).map (fun ns=>((w:Int),ns)) else some ((w:Int),[])):=rfl
 generalize (cutB 60 l).1=a at *
 generalize (cutB 60 l).2.1=r at *
 generalize (cutB 60 l).2.2=f at *
 have hblk0:(w.alloc (.cells #[.int .i64 0,.slice none 0 0] 94)).heap[w.heap.size]?=some (.cells #[.int .i64 0,.slice none 0 0] 94 (0,0)):=blk_alloc_new _ _
 have hsz0:(w.alloc (.cells #[.int .i64 0,.slice none 0 0] 94)).heap.size=w.heap.size+1:=nblk_alloc _ _
 have HE:Hid (Synt w):=he
 have HM:Hid (Lens w):=hm
 clear he hm
 go_enter Tryz.func39,Tryz.ntmps39
 go_wp2_with fail
 refine hcut.mono ?_
 rintro e w2 ⟨rfl,hb2⟩
 rw[hsz0]at hb2
 have hB2:Below w.heap.size w w2:=hb0.trans (hb2.mono (by omega))
 have hk2:w2.heap[w.heap.size]?=some (.cells #[.int .i64 0,.slice none 0 0] 94 (0,0)):=(hb2.block _ (by omega)).trans hblk0
 have hrn:=qk a w2 (by omega) (HE.out.later hB2)
 clear hcut
 go_wp2_with fail
 refine hrn.mono ?_
 rintro e w3 ⟨rfl,hb3⟩
 have hB3:Below w.heap.size w w3:=hB2.trans (hb3.mono hB2.size)
 have hs2:w.heap.size<w2.heap.size:=lt_of_block hk2
 have hk3:w3.heap[w.heap.size]?=some (.cells #[.int .i64 0,.slice none 0 0] 94 (0,0)):=(hb3.block _ hs2).trans hk2
 have hs3:w.heap.size<w3.heap.size:=lt_of_block hk3
 have c0:w3.cell? ⟨w.heap.size,0,none⟩=some (.int .i64 0):=by simp[World.cell?,hk3]
 have c1:w3.cell? ⟨w.heap.size,1,none⟩=some (.slice none 0 0):=by simp[World.cell?,hk3]
 have f0:w3.frozen? ⟨w.heap.size,0,none⟩=false:=by simp[World.frozen?,hk3]
 have f1:w3.frozen? ⟨w.heap.size,1,none⟩=false:=by simp[World.frozen?,hk3]
 clear hrn hblk0 hsz0 hb2 hk2 hb0 hB2 hs2
 have HK3:Hid (w3.heap[w.heap.size]?=some (.cells #[.int .i64 0,.slice none 0 0] 94 (0,0))):=hk3
 clear hk3 hb3
 cases hn:Ze a with
 | none=>
  have HN:Hid (ZN l=none):=by rw[HT.out,hn];rfl
  clear hn HT
  simp only[Option.getD_none,Option.isSome_none]
  go_wp2
  obtain⟨q0,q1⟩:=zaI (a:=.int .i64 0) (b:=.slice none 0 0) HK3.out
  exact bodyPost_ret (v:=.tuple #[.agg #[.int .i64 0,.slice none 0 0],.bool false]) (by simp[results,go_sem,q0,q1]) rfl ⟨Or.inr ⟨HN.out,rfl⟩,qK hB3 (qq1 _)⟩
 | some n=>
  simp only[Option.getD_some,Option.isSome_some]
  cases f with
  | false=>
   have HN:Hid (ZN l=some ((n:Int),[])):=by rw[HT.out,hn];rfl
   clear hn HT
   go_wp2
   obtain⟨q0,q1⟩:=zaI (a:=.int .i64 (n:Int)) (b:=.slice none 0 0) HK3.out
   exact bodyPost_ret (v:=.tuple #[.agg #[.int .i64 (n:Int),.slice none 0 0],.bool true]) (by simp[results,go_sem,q0,q1]) rfl ⟨Or.inl ⟨n,.slice none 0 0,[],HN.out,rfl,Zp.nil _ _⟩,qK hB3 (qq1 _)⟩
  | true=>
   have hrs:=zaA r w3 (by omega) (HE.out.later hB3) (HM.out.later hB3)
   have HN:Hid (ZN l=(Y8 r).map (fun ns=>((n:Int),ns))):=by rw[HT.out,hn];rfl
   clear hn HT
   go_wp2_with fail
   refine hrs.mono ?_
   rintro e w4 ⟨hres,hb4⟩
   clear hrs
   have hB4:Below w.heap.size w w4:=hB3.trans (hb4.mono hB3.size)
   have hk4:w4.heap[w.heap.size]?=some (.cells #[.int .i64 0,.slice none 0 0] 94 (0,0)):=(hb4.block _ hs3).trans HK3.out
   have hs4:w.heap.size<w4.heap.size:=lt_of_block hk4
   have d0:w4.cell? ⟨w.heap.size,0,none⟩=some (.int .i64 0):=by simp[World.cell?,hk4]
   have d1:w4.cell? ⟨w.heap.size,1,none⟩=some (.slice none 0 0):=by simp[World.cell?,hk4]
   have g0:w4.frozen? ⟨w.heap.size,0,none⟩=false:=by simp[World.frozen?,hk4]
   have g1:w4.frozen? ⟨w.heap.size,1,none⟩=false:=by simp[World.frozen?,hk4]
   have HK4:Hid (w4.heap[w.heap.size]?=some (.cells #[.int .i64 0,.slice none 0 0] 94 (0,0))):=hk4
   have HSZ:Hid (w.heap.size≤w3.heap.size):=hB3.size
   clear hk4 c0 c1 f0 f1 hb4 hB3 HK3
   rcases hres with⟨ns,v,hall,rfl,hown⟩|⟨hall,rfl⟩
   ·have HN2:Hid (ZN l=some ((n:Int),ns.map Int.ofNat)):=by rw[HN.out];unfold Y8;rw[hall];rfl
    have hrow:=Zp.of hown
    obtain⟨va,vc,rfl⟩:=hrow.shape
    have HR:Hid (Zp w.heap.size w4 (.slice va (ns.map Int.ofNat).length vc) (ns.map Int.ofNat)):=hrow.mono HSZ.out
    clear hall hown hrow HN
    generalize ns.map Int.ofNat=zs at *
    go_wp2
    obtain⟨q0,q1⟩:=zaI (a:=.int .i64 (n:Int)) (b:=.slice va zs.length vc) HK4.out
    exact bodyPost_ret (v:=.tuple #[.agg #[.int .i64 (n:Int),.slice va zs.length vc],.bool true]) (by simp[results,go_sem,q0,q1]) rfl ⟨Or.inl ⟨n,_,zs,HN2.out,rfl,HR.out.two HK4.out⟩,qK hB4 (qq1 _)⟩
   ·have HN2:Hid (ZN l=none):=by rw[HN.out];unfold Y8;rw[hall];rfl
    clear hall HN
    go_wp2
    obtain⟨q0,q1⟩:=zaI (a:=.int .i64 0) (b:=.slice none 0 0) HK4.out
    exact bodyPost_ret (v:=.tuple #[.agg #[.int .i64 0,.slice none 0 0],.bool false]) (by simp[results,go_sem,q0,q1]) rfl ⟨Or.inr ⟨HN2.out,rfl⟩,qK hB4 (qq1 _)⟩
def Zy(N:Nat)(w:World)(v:Value)(ts:Zl):Prop:=
 ∃xs,w.ownsRow N 94 2 v ts.length xs∧∀j,j<ts.length→xs[j*2]?=some (.int .i64 (ts.getD j (0,[])).1)∧∃nv,xs[j*2+1]?=some nv∧Zp N w nv (Za ts j)
theorem Zp.grown{M:Nat}{w w':World}{nv v:Value}{zs:List Int}{N n:Nat}{xs:List Value}(h:Zp M w nv zs)(ho:w.ownsRow N 94 2 v n xs)(hg:w.grownBy w' v.ownBlock):Zp M w' nv zs:=by
 refine World.ownsRow.kept h hg ?_
 rcases ho.2 with⟨hv,_⟩|⟨g,cap,cur,hv,_,hh,_⟩
 ·subst hv;cases nv.ownBlock <;> simp[Value.ownBlock]
 ·subst hv
  rcases h.2 with⟨hv2,_⟩|⟨g2,cap2,cur2,hv2,_,hh2,_⟩
  ·subst hv2;exact Or.inl rfl
  ·subst hv2
   right
   simp only[Value.ownBlock,ne_eq,Option.some.injEq]
   rintro rfl
   rw[hh]at hh2
   simp at hh2
theorem Zy.nil(N:Nat)(w:World):Zy N w (.slice none 0 0) []:=⟨[],World.ownsRow_nil _ _ _ _,fun j hj=>by simp at hj⟩
theorem Zy.later{N:Nat}{w w':World}{v:Value}{ts:Zl}(h:Zy N w v ts)(hb:Below w.heap.size w w'):Zy N w' v ts:=by
 obtain⟨xs,ho,hx⟩:=h
 refine⟨xs,ho.kept (row:=none) ⟨hb.os,hb.tape,hb.output,hb.size,fun k hk _=>hb.block k hk⟩ (by cases v.ownBlock <;> simp),fun j hj=>?_⟩
 obtain⟨h1,nv,h2,h3⟩:=hx j hj
 exact⟨h1,nv,h2,h3.later hb⟩
theorem Zy.shape{N:Nat}{w:World}{v:Value}{ts:Zl}(h:Zy N w v ts):∃a c,v=.slice a ts.length c:=by
 obtain⟨xs,ho,_⟩:=h
 rcases ho.2 with⟨hv,h0⟩|⟨g,cap,cur,hv,_⟩
 ·exact⟨none,0,by rw[hv,h0]⟩
 ·exact⟨_,_,hv⟩
theorem Zy.append{N:Nat}{w w':World}{v v' nv:Value}{ts:Zl}{xs:List Value}{wk:Int}{zs:List Int}
  (ho:w.ownsRow N 94 2 v ts.length xs) (hx:∀j,j<ts.length→xs[j*2]?=some (.int .i64 (ts.getD j (0,[])).1)∧∃nv,xs[j*2+1]?=some nv∧Zp N w nv (Za ts j))
  (hn:Zp N w nv zs) (ho':w'.ownsRow N 94 2 v' (ts.length+1) (xs++[.int .i64 wk,nv])) (hg:w.grownBy w' v.ownBlock):Zy N w' v' (ts++[(wk,zs)]):=by
 have hl:xs.length=ts.length*2:=ho.1
 refine⟨xs++[.int .i64 wk,nv],by simpa using ho',fun j hj=>?_⟩
 simp at hj
 by_cases e:j=ts.length
 ·subst e
  unfold Za
  rw[yb]
  refine⟨by rw[←hl];simp,nv,by rw[←hl];simp,hn.grown ho hg⟩
 ·have hlt:j<ts.length:=by omega
  obtain⟨h1,nv2,h2,h3⟩:=hx j hlt
  unfold Za at h3 ⊢
  rw[jY _ _ _ _ hlt]
  exact⟨by rw[List.getElem?_append_left (by omega)];exact h1,nv2,by rw[List.getElem?_append_left (by omega)];exact h2,h3.grown ho hg⟩
theorem Zp.ints{M:Nat}{w:World}{nv:Value}{zs:List Int}(h:Zp M w nv zs)(hl:zs.length*8≤140737488351232):Z0 w nv zs:=by
 refine⟨hl,?_⟩
 rcases h.2 with⟨hv,h0⟩|⟨g,cap,cur,hv,_,hh,_⟩
 ·exact⟨none,0,by rw[hv,h0],Or.inl (List.eq_nil_of_length_eq_zero h0)⟩
 ·subst hv
  refine⟨_,_,rfl,Or.inr ⟨g,0,rfl,lt_of_block hh,fun k hk=>?_⟩⟩
  have:=World.ownsRow.cellAt h k (by omega)
  rw[Nat.zero_add,this]
  simp[hk]
theorem Zy.planAt{N:Nat}{w:World}{v:Value}{ts:Zl}(h:Zy N w v ts)(hl:ts.length*32≤140737488351232)(hn:∀j,j<ts.length→(Za ts j).length*8≤140737488351232):Zf w v ts:=by
 obtain⟨xs,ho,hx⟩:=h
 refine⟨hl,?_⟩
 rcases ho.2 with⟨hv,h0⟩|⟨g,cap,cur,hv,_,hh,_⟩
 ·exact⟨none,0,by rw[hv,h0],Or.inl (List.eq_nil_of_length_eq_zero h0)⟩
 ·subst hv
  refine⟨_,_,rfl,Or.inr ⟨g,0,rfl,lt_of_block hh,fun k hk=>?_⟩⟩
  obtain⟨h1,nv,h2,h3⟩:=hx k hk
  have e1:=ho.cellAt (k*2) (by omega)
  have e2:=ho.cellAt (k*2+1) (by omega)
  rw[Nat.zero_add]
  exact⟨by rw[e1];exact h1,nv,by rw[e2];exact h2,h3.ints (hn k hk)⟩
theorem Zy.of_blocks{N:Nat}{w w':World}{v:Value}{ts:Zl}(h:Zy N w v ts)(hk:∀k,N≤k→k<w.heap.size→w'.heap[k]?=w.heap[k]?):Zy N w' v ts:=by
 have key:∀{t sz n:Nat} {v:Value} {xs:List Value},w.ownsRow N t sz v n xs→w'.ownsRow N t sz v n xs:=by
  rintro t sz n v xs ⟨h1,h2⟩
  refine⟨h1,?_⟩
  rcases h2 with h2|⟨g,cap,cur,hv,hb,hh,h3⟩
  ·exact Or.inl h2
  ·exact Or.inr ⟨g,cap,cur,hv,hb,(hk g hb (lt_of_block hh)).trans hh,h3⟩
 obtain⟨xs,ho,hx⟩:=h
 refine⟨xs,key ho,fun j hj=>?_⟩
 obtain⟨h1,nv,h2,h3⟩:=hx j hj
 exact⟨h1,nv,h2,key h3⟩
theorem Zy.planNew{N:Nat}{w:World}{v:Value}{ts:Zl}(h:Zy N w v ts)(hl:ts.length*32≤140737488351232)(hn:∀j,j<ts.length→(Za ts j).length*8≤140737488351232):ZX N w v ts:=
 fun W hW=>(h.of_blocks (w':=W) hW).planAt hl hn
theorem z7(c:UInt8)(l:List UInt8):(Zd c l).length≤l.length+1:=by
 induction l with
 | nil=>simp[Zd]
 | cons b r ih=>
  rw[yn]
  split
  ·simp;omega
  ·cases hs:Zd c r with
   | nil=>simp
   | cons x xs=>rw[hs]at ih;simp at ih ⊢;omega
theorem yW{α β:Type}(f:α→Option β)(l:List α)(ys:List β)(h:Zq f l=some ys):ys.length=l.length:=by
 induction l generalizing ys with
 | nil=>simp[Zq]at h;subst h;rfl
 | cons a r ih=>
  simp only[Zq]at h
  cases ha:f a with
  | none=>simp[ha]at h
  | some b=>
   cases hr:Zq f r with
   | none=>simp[ha,hr]at h
   | some bs=>simp[ha,hr]at h;subst h;simp[ih bs hr]
theorem zbk(l:List UInt8)(t:Int×List Int)(h:ZN l=some t):t.2.length≤l.length+1:=by
 unfold ZN at h
 cases hn:Ze (cutB 60 l).1 with
 | none=>simp[hn]at h
 | some w=>
  rw[hn]at h
  simp only at h
  split at h
  ·obtain⟨zs,hz,rfl⟩:=Option.map_eq_some_iff.1 h
   unfold Y8 at hz
   obtain⟨ns,hns,rfl⟩:=Option.map_eq_some_iff.1 hz
   have h1:=yW _ _ _ hns
   have h2:=z7 44 (cutB 60 l).2.1
   have h3:=yf 60 l
   simp;omega
  ·simp at h;subst h;simp
def Few(ts:Zl):Prop:=∀t,t∈ts→t.2.length≤1048577
theorem Few.needs{ts:Zl}(h:Few ts)(j:Nat):(Za ts j).length≤1048577:=by
 unfold Za
 by_cases hj:j<ts.length
 ·rw[qq6,qq7 hj];exact h _ (List.getElem_mem hj)
 ·rw[List.getD_eq_getElem?_getD,List.getElem?_eq_none (by omega)];simp
theorem Few.take{ts:Zl}(h:Few ts)(n:Nat):Few (ts.take n):=fun t ht=>h t (List.mem_of_mem_take ht)
def Ys(l:List UInt8)(done:List (List UInt8))(rest:List UInt8)(more:Bool):Prop:=
 ZW l=Zq ZN (done++(if more then Zd 32 rest else []))
theorem Ys.start(l:List UInt8):Ys l [] l (!l.isEmpty):=by
 unfold Ys ZW
 cases l with
 | nil=>rfl
 | cons b r=>simp
theorem Ys.step{l:List UInt8}{done:List (List UInt8)}{rest:List UInt8}(h:Ys l done rest true):Ys l (done++[(cutB 32 rest).1]) (cutB 32 rest).2.1 (cutB 32 rest).2.2:=by
 unfold Ys at h ⊢
 rw[h,List.append_assoc]
 simp only[↓reduceIte]
 conv=>lhs;rw[yj 32 rest]
 rfl
theorem Ys.bad{l:List UInt8}{done:List (List UInt8)}{rest:List UInt8}(h:Ys l done rest true)(hx:ZN (cutB 32 rest).1=none):ZW l=none:=by
 unfold Ys at h
 rw[h]
 simp only[↓reduceIte]
 rw[yj 32 rest]
 exact qH ZN _ _ _ hx
set_option maxRecDepth 100000 in
set_option maxHeartbeats 4000000 in
theorem zfb(l:List UInt8)(w:World)(hl:l.length≤1048576)(he:Synt w)(hm:Lens w) :
  Calls Tryz.prog 10 #[.string ⟨l.toArray⟩] w fun e w'=>((ZW l=none∧e=.returned (.tuple #[.slice none 0 0,errV 2]))∨
   (∃ts p q,ZW l=some ts∧Few ts∧Zc (ts.take 31) p q∧((q≠0∧e=.returned (.tuple #[.slice none 0 0,errV q]))∨(q=0∧∃v,e=.returned (.tuple #[v,.nilIface])∧ZX w.heap.size w' v (ts.take 31)))))∧Below w.heap.size w w':=by
 obtain⟨i30,hi30,hz0,hz1,hz2⟩:=info_parts Tryz.info94
 have HE:Hid (Synt w):=he
 have HM:Hid (Lens w):=hm
 clear he hm
 go_enter Tryz.func10,Tryz.ntmps10
 go_wp2
 go_loopg [4,6,7] (l.length+1) (fun gg s4 s6 s7 wr=>∃done rest more ts,s6=.string ⟨(rest:List UInt8).toArray⟩∧s7=.bool more∧Hid (Zy w.heap.size wr s4 (ts.take 31))∧Hid (Ys l done rest more)∧Hid (Zq ZN done=some ts)∧Hid (Few ts)∧Below w.heap.size w wr∧rest.length≤l.length∧YX rest more≤gg)
 case atStart=>exact⟨[],l,_,[],rfl,rfl,Zy.nil _ _,Ys.start l,rfl,fun t ht=>by simp at ht,qq4 _ _,qq1 _,by unfold YX;split <;> omega⟩
 case round=>
  obtain⟨done,rest,more,ts,rfl,rfl,hown,hst,hall,hfew,hb,hrl,hg⟩:=hrel
  cases more
  ·have HT:Hid (ZW l=some ts):=by
    have:=hst.out
    unfold Ys at this
    simp only[Bool.false_eq_true,↓reduceIte,List.append_nil]at this
    rw[this.trans hall.out];rfl
   have hlen:(ts.take 31).length≤31:=by simp;omega
   have hpa:Zf wr _ (ts.take 31):=hown.out.planAt (by omega) (fun j _=>by have:=(hfew.out.take 31).needs j;omega)
   have hpn:ZX w.heap.size wr _ (ts.take 31):=hown.out.planNew (by omega) (fun j _=>by have:=(hfew.out.take 31).needs j;omega)
   have hck:=yY _ _ wr hpa
   have HP:Hid (ZX w.heap.size wr _ (ts.take 31)):=hpn
   clear hpa hpn hst hall hown
   go_wp2_with fail
   refine hck.mono ?_
   rintro e w2 ⟨⟨p,q,rfl,hc⟩,hb2⟩
   clear hck
   have hB2:Below w.heap.size w w2:=hb.trans (hb2.mono hb.size)
   by_cases hq:q=0
   ·subst hq
    rw[zI]
    go_wp2
    go_ret2
    exact⟨Or.inr ⟨ts,p,0,HT.out,hfew.out,hc,Or.inr ⟨rfl,_,rfl,HP.out.later hb2⟩⟩,hB2⟩
   ·have hev:=zu hq
    rw[hev]
    have HV:Hid (errV q=.iface 97 (.int .i64 q)):=hev
    clear hev
    go_wp2
    go_ret2
    exact⟨Or.inr ⟨ts,p,q,HT.out,hfew.out,hc,Or.inl ⟨hq,by rw[HV.out];rfl⟩⟩,hB2⟩
  ·have hcut:=zaG rest 32 wr (by omega) (HM.out.later hb)
   have hr:=zau 32 rest
   have hl1:=jm 32 rest
   have hl2:=yf 32 rest
   have HBad:Hid (ZN (cutB 32 rest).1=none→ZW l=none):=fun h=>hst.out.bad h
   have HStep:Hid (Ys l (done++[(cutB 32 rest).1]) (cutB 32 rest).2.1 (cutB 32 rest).2.2):=hst.out.step
   generalize hc1:(cutB 32 rest).1=word at *
   generalize hc2:(cutB 32 rest).2.1=rest2 at *
   generalize hc3:(cutB 32 rest).2.2=more2 at *
   clear hc1 hc2 hc3 hst
   go_wp2_with fail
   refine hcut.mono ?_
   rintro e w2 ⟨rfl,hb2⟩
   have hB2:Below w.heap.size w w2:=hb.trans (hb2.mono hb.size)
   have hrt:=zcJ word w2 (by omega) (HE.out.later hB2) (HM.out.later hB2)
   clear hcut
   go_wp2_with fail
   refine hrt.mono ?_
   rintro e w3 ⟨hres,hb3⟩
   clear hrt
   have hB3:Below w.heap.size w w3:=hB2.trans (hb3.mono hB2.size)
   have hown3:=(hown.out.later hb2).later hb3
   rcases hres with⟨wk,nv,zs,htask,rfl,hrow⟩|⟨htask,rfl⟩
   ·have HA:Hid (Zq ZN (done++[word])=some (ts++[(wk,zs)])):=yy _ _ _ _ _ hall.out htask
    have HF:Hid (Few (ts++[(wk,zs)])):=by
     intro t ht
     rcases List.mem_append.1 ht with h|h
     ·exact hfew.out t h
     ·have:=zbk word _ htask
      rw[List.mem_singleton.1 h];simp at this ⊢;omega
    obtain⟨na,nc,rfl⟩:=hrow.shape
    obtain⟨sa,sc,rfl⟩:=hown3.shape
    clear htask hall hfew hown hb2 hb3
    by_cases h30:ts.length≤30
    ·have hlen:(ts.take 31).length≤30:=by simp;omega
     have htk:ts.take 31=ts:=List.take_of_length_le (by omega)
     have hi:((ts.take 31).length:Int)≤30:=by omega
     have hbA:Below w3.heap.size w3 ((w3.alloc (.cells #[.int .i64 wk,.slice na zs.length nc] 94)).alloc (.cells #[.int .i64 wk,.slice na zs.length nc] 94)):=((qq4 _ _).alloc (qq1 _) _).alloc (by simp) _
     obtain⟨xs,ho,hx⟩:=hown3.later hbA
     have HR:Hid (Zp w.heap.size ((w3.alloc (.cells #[.int .i64 wk,.slice na zs.length nc] 94)).alloc (.cells #[.int .i64 wk,.slice na zs.length nc] 94)) (.slice na zs.length nc) zs):=(hrow.later hbA).mono hB2.size
     have HX:Hid (∀j,j<(ts.take 31).length→xs[j*2]?=some (.int .i64 ((ts.take 31).getD j (0,[])).1)∧∃nv,xs[j*2+1]?=some nv∧Zp w.heap.size ((w3.alloc (.cells #[.int .i64 wk,.slice na zs.length nc] 94)).alloc (.cells #[.int .i64 wk,.slice na zs.length nc] 94)) nv (Za (ts.take 31) j)):=hx
     have HTK:Hid (ts.take 31=ts):=htk
     clear hx htk hown3 hrow
     generalize htt:ts.take 31=tt at *
     clear htt
     go_wp2_with (at_builtin;refine wpList_append_own _ rfl (.tmp 33) (.tmp 35) 27 rfl w.heap.size 94 i30 (.agg #[.int .i64 0,.slice none 0 0]) 2 32 Tryz.underlying27 hi30 hz0 hz1 hz2 rfl (by decide) _ tt.length xs rfl ho ⟨w3.heap.size+1,0,none⟩ 1 1 [.int .i64 wk,.slice na zs.length nc] rfl rfl ?c1 ?c2 ?c3 ?c4 ?c5 ?_)
     case c1=>
      have h2:=cell_two_new (w3.alloc (.cells #[.int .i64 wk,.slice na zs.length nc] 94)) (.int .i64 wk) (.slice na zs.length nc) 94
      rw[nblk_alloc]at h2
      exact h2
     case c2=>intro u hu;simp at hu;rcases hu with rfl|rfl <;> rfl
     case c3=>unfold maxLen;omega
     case c4=>omega
     case c5=>have:=hB3.size;simp;omega
     intro v' w4 hown' hgrow _
     have hB4:Below w.heap.size w w4:=(hB3.trans (hbA.mono hB3.size)).grown hgrow (by have:=hB3.size;simp;omega) (fun j e=>(ho.lt j e).1)
     have HO:Hid (Zy w.heap.size w4 v' ((ts++[(wk,zs)]).take 31)):=by
      have:=Zy.append ho HX.out HR.out hown' hgrow
      rw[List.take_of_length_le (by simp;omega)]
      rw[←HTK.out]
      exact this
     clear hown' hgrow ho hbA HX HR
     go_wp2
     go_roundg (YX rest2 more2)
     case measure=>omega
     case rel=>exact⟨done++[word],rest2,more2,ts++[(wk,zs)],rfl,rfl,HO,HStep,HA,HF,hB4,by omega,qq1 _⟩
    ·have hlen:(ts.take 31).length=31:=by simp;omega
     have hi:¬((ts.take 31).length:Int)≤30:=by omega
     have hbA:Below w3.heap.size w3 (w3.alloc (.cells #[.int .i64 wk,.slice na zs.length nc] 94)):=(qq4 _ _).alloc (qq1 _) _
     have HO:Hid (Zy w.heap.size (w3.alloc (.cells #[.int .i64 wk,.slice na zs.length nc] 94)) (.slice sa (ts.take 31).length sc) ((ts++[(wk,zs)]).take 31)):=by
      have:=hown3.later hbA
      rw[List.take_append_of_le_length (by omega)]
      exact this
     clear hown3 hrow hlen
     generalize (ts.take 31).length=tl at *
     go_wp2
     go_roundg (YX rest2 more2)
     case measure=>omega
     case rel=>exact⟨done++[word],rest2,more2,ts++[(wk,zs)],rfl,rfl,HO,HStep,HA,HF,hB3.trans (hbA.mono hB3.size),by omega,qq1 _⟩
   ·have HF:Hid (ZW l=none):=HBad.out htask
    clear htask hown3 hown
    go_wp2
    go_ret2
    exact⟨Or.inl ⟨HF.out,rfl⟩,hB3.alloc hB3.size _⟩
theorem zaX(c:UInt8)(ws:List (List UInt8))(x:List UInt8):Z8 c (ws++[x])=if ws=[] then x else Z8 c ws++c::x:=by
 induction ws with
 | nil=>rfl
 | cons a r ih=>
  cases r with
  | nil=>rfl
  | cons b r=>
   have e:Z8 c ((a::b::r)++[x])=a++c::Z8 c ((b::r)++[x]):=rfl
   rw[e,ih]
   simp[Z8]
def ZL(zs:List Int)(k:Nat):List UInt8:=if zs.take k=[] then [] else 60::Z8 44 ((zs.take k).map digs)
def YR(k:Nat):Nat:=if k=0 then 60 else 44
theorem xh(zs:List Int):ZL zs 0=[]:=by simp[ZL]
theorem xg(zs:List Int)(k:Nat)(hk:k<zs.length):ZL zs (k+1)=(ZL zs k++[UInt8.ofNat (YR k)])++digs (zs.getD k 0):=by
 have he:zs.getD k 0=zs[k]:=by rw[qq6,qq7 hk];rfl
 unfold ZL
 rw[qq8 hk,if_neg (fun e=>by have:=congrArg List.length e;simp only[List.length_append,List.length_singleton,List.length_nil]at this;omega),List.map_append,List.map_singleton,zaX,he]
 by_cases h0:k=0
 ·subst h0;simp[YR]
 ·have h1:zs.take k≠[]:=by
   intro e
   have:=congrArg List.length e
   simp only[List.length_take,List.length_nil]at this;omega
  rw[if_neg (by simpa using h1),if_neg h1]
  simp[YR,h0]
theorem xw(zs:List Int):ZL zs zs.length=if zs=[] then [] else 60::Z8 44 (zs.map digs):=by
 unfold ZL;rw[List.take_length]
theorem y2(z:Int)(h:0≤z∧z<100):(digs z).length≤2:=by
 unfold digs
 by_cases h1:z.toNat<10
 ·rw[zA _ h1];simp
 ·rw[xl _ (by omega) (by omega)];simp
theorem xx(zs:List Int)(h:∀z,z∈zs→0≤z∧z<100):∀k,k≤zs.length→(ZL zs k).length≤3*k:=by
 intro k
 induction k with
 | zero=>intro _;rw[xh];simp
 | succ k ih=>
  intro hk
  rw[xg zs k (by omega)]
  have hm:zs.getD k 0∈zs:=by rw[qq6,qq7 (by omega)];exact List.getElem_mem _
  have:=y2 _ (h _ hm)
  have:=ih (by omega)
  simp at *;omega
set_option maxRecDepth 100000 in
set_option maxHeartbeats 4000000 in
theorem jd(w0 w:World)(b:Nat)(acc:List UInt8)(wk:Int)(nv:Value)(zs:List Int)(hb0:Below w0.heap.size w0 w)(h:Zu w0.heap.size b w acc)(hz:Z0 w0 nv zs)(hw:0≤wk∧wk<100)(hs:∀z,z∈zs→0≤z∧z<100)
  (hl:acc.length+10≤50000000) (hzl:zs.length≤10000000) :
  Calls Tryz.prog 121 #[.pointer (some ⟨b,0,none⟩),.agg #[.int .i64 wk,nv]] w fun e w'=>e=.returned (.tuple #[])∧Zu w0.heap.size b w' (acc++Z6 (wk,zs))∧Below w0.heap.size w0 w':=by
 obtain⟨n,rfl⟩:=qc hw.1
 have hdl:=y2 (n:Int) hw
 have HTX:Hid (Z6 ((n:Int),zs)=digs (n:Int)++ZL zs zs.length):=by unfold Z6;rw[xw];rfl
 have hbA:Below w0.heap.size w0 (w.alloc (.cells #[.int .i64 (n:Int),nv] 94)):=hb0.alloc hb0.size _
 obtain⟨a2,c2,hnv⟩:∃a2 c2,nv=.slice a2 zs.length c2:=by
  obtain⟨_,a2,c2,h,_⟩:=hz
  exact⟨a2,c2,h⟩
 subst hnv
 have hnum:=fun W=>putNumber n (by omega) W
 have h1:Zu w0.heap.size b (w.alloc (.cells #[.int .i64 (n:Int),.slice a2 zs.length c2] 94)) acc:=h.later ((qq4 _ _).alloc (qq1 _) _)
 have hps:=putString w0.heap.size b acc (digs (n:Int)) _ h1 (by omega) hbA.size
 have HZ:Hid (Z0 w0 (.slice a2 zs.length c2) zs):=hz
 have hblk:(w.alloc (.cells #[.int .i64 (n:Int),.slice a2 zs.length c2] 94)).heap[w.heap.size]?=some (.cells #[.int .i64 (n:Int),.slice a2 zs.length c2] 94 (0,0)):=blk_alloc_new _ _
 have HB:Hid (Zu w0.heap.size b w acc):=h
 clear hz h h1
 have hblt:b<w.heap.size:=by
  rcases HB.out with h|h
  ·exact h.lt
  ·exact h.lt
 have hnb:w.heap.size≠b:=by omega
 go_enter Tryz.func121,Tryz.ntmps121
 go_wp2_with (go_at_call 95;refine(hnum _).mono ?_;rintro e w' ⟨rfl,rfl⟩)
 refine hps.mono ?_
 rintro e w2 ⟨⟨kk,rfl⟩,h2,hb2,hk2⟩
 have hB2:Below w0.heap.size w0 w2:=hbA.trans hb2
 have hblk2:=hk2 _ _ _ hblk (by decide) hnb
 have c1:w2.cell? ⟨w.heap.size,1,none⟩=some (.slice a2 zs.length c2):=by simp[World.cell?,hblk2]
 have H2:Hid (Zu w0.heap.size b w2 (acc++digs (n:Int))):=h2
 clear hps hblk hblk2 hk2 hb2 hbA h2 hnum HB
 go_wp2
 go_loopw [4,15] (fun s4 s15 wr=>∃k:Nat,k≤zs.length∧s15=.int .i64 k∧s4=.int .u8 (YR k:Nat)∧Hid (Zu w0.heap.size b wr ((acc++digs (n:Int))++ZL zs k))∧Below w0.heap.size w0 wr) (fun _ s15 _=>zs.length-(intOf s15).toNat)
 case atStart=>exact⟨0,Nat.zero_le _,rfl,rfl,by rw[xh,List.append_nil];exact H2,hB2⟩
 case round=>
  clear H2 hB2 c1
  obtain⟨k,hk,rfl,rfl,hbu,hB⟩:=hrel
  by_cases hkl:k<zs.length
  ·obtain⟨hl8,sa,sc,hsv,hcs⟩:=HZ.out
   simp only[Value.slice.injEq]at hsv
   obtain⟨rfl,_,rfl⟩:=hsv
   rcases hcs with rfl|⟨b2,o2,rfl,hbl2,hcells⟩
   ·simp at hkl
   have hck:=(hB.cell (p:=⟨b2,o2+k,none⟩) hbl2).trans (hcells k hkl)
   have hmem:zs.getD k 0∈zs:=by rw[qq6,qq7 hkl];exact List.getElem_mem hkl
   have hzb:=hs _ hmem
   have hstep:=xg zs k hkl
   have hnl:=xx zs hs k hk
   have hdz:=y2 _ hzb
   generalize hzz:zs.getD k 0=z at *
   obtain⟨m,rfl⟩:=qc hzb.1
   have HST:Hid (ZL zs (k+1)=(ZL zs k++[UInt8.ofNat (YR k)])++digs (m:Int)):=hstep
   have hmk:YR k<256:=by unfold YR;split <;> omega
   have hmk1:Hid (YR (k+1)=44):=by unfold YR;rw[if_neg (by omega)];rfl
   have hpb:=putByte w0.heap.size b ((acc++digs (n:Int))++ZL zs k) (YR k) hmk wr hbu.out (by simp only[List.length_append];omega) hB.size
   have hpn:=fun W=>putNumber m (by omega) W
   clear hcells hmem hstep hzz HZ hbu
   go_wp2_with fail
   refine hpb.mono ?_
   rintro e w3 ⟨rfl,h3,hb3,_⟩
   have hB3:Below w0.heap.size w0 w3:=hB.trans hb3
   have hps3:=putString w0.heap.size b _ (digs (m:Int)) w3 h3 (by simp only[List.length_append,List.length_singleton];omega) hB3.size
   clear hpb h3
   go_wp2_with (go_at_call 95;refine(hpn _).mono ?_;rintro e w' ⟨rfl,rfl⟩)
   refine hps3.mono ?_
   rintro e w4 ⟨⟨kk2,rfl⟩,h4,hb4,_⟩
   have HB4:Hid (Zu w0.heap.size b w4 ((acc++digs (n:Int))++ZL zs (k+1))):=by
    rw[HST.out]
    simpa[Hid]using h4
   clear hps3 h4 hpn
   go_wp2
   go_roundw
   case rel=>exact⟨k+1,by omega,by go_num,by rw[hmk1.out];rfl,HB4,hB3.trans hb4⟩
   case measure=>simp[intOf];omega
  ·have hke:k=zs.length:=by omega
   have HK:Hid (k=zs.length):=hke
   clear hke
   go_wp2
   go_end0
   refine⟨rfl,?_,hB⟩
   rw[HTX.out,←HK.out,←List.append_assoc]
   exact hbu.out
theorem zgP(zs:List Int)(hr:rising zs=true)(h0:∀z,z∈zs→0≤z):∀k,k<zs.length→(k:Int)≤zs.getD k 0:=by
 intro k
 induction k with
 | zero=>
  intro hk
  have hm:zs.getD 0 0∈zs:=by rw[qq6,qq7 hk];exact List.getElem_mem hk
  have:=h0 _ hm
  simpa using this
 | succ k ih=>
  intro hk
  have h1:=ih (by omega)
  have h2:=(xX zs).1 hr k hk
  omega
theorem xY(zs:List Int)(n:Nat)(hr:rising zs=true)(h:∀z,z∈zs→0≤z∧z<n):zs.length≤n:=by
 by_cases h0:zs.length=0
 ·omega
 ·have h1:=zgP zs hr (fun z hz=>(h z hz).1) (zs.length-1) (by omega)
  have hm:zs.getD (zs.length-1) 0∈zs:=by rw[qq6,qq7 (by omega)];exact List.getElem_mem _
  have:=(h _ hm).2
  omega
theorem xa{ts:Zl}{k:Nat}(h:ZJ ts k=0):(1≤(ts.getD k (0,[])).1∧(ts.getD k (0,[])).1≤20)∧(∀z,z∈Za ts k→0≤z∧z<ts.length)∧rising (Za ts k)=true:=by
 unfold ZJ ZT at h
 split at h
 ·simp at h
 ·rename_i hw
  split at h
  ·simp at h
  ·rename_i hn
   split at h
   ·rename_i hr
    refine⟨by omega,fun z hz=>?_,hr⟩
    cases hc:Zr z ts.length with
    | true=>simpa[Zr]using hc
    | false=>exact absurd (List.any_eq_true.2 ⟨z,hz,by simp[hc]⟩) hn
   ·simp at h
def Zt(ts:Zl)(k:Nat):List UInt8:=Z8 32 ((ts.take k).map Z6)
theorem za7(ts:Zl):Zt ts 0=[]:=rfl
theorem xy(ts:Zl):Zt ts ts.length=Yq ts:=by unfold Zt Yq;rw[List.take_length]
theorem xi(ts:Zl)(k:Nat)(hk:k<ts.length):Zt ts (k+1)=(if k=0 then Zt ts k else Zt ts k++[UInt8.ofNat 32])++Z6 (ts.getD k (0,[])):=by
 have he:ts.getD k (0,[])=ts[k]:=by rw[qq6,qq7 hk];rfl
 unfold Zt
 rw[qq8 hk,List.map_append,List.map_singleton,zaX,he]
 by_cases h0:k=0
 ·subst h0;simp[Z8]
 ·have h1:(ts.take k).map Z6≠[]:=by
   intro e
   have:=congrArg List.length e
   simp only[List.length_map,List.length_take,List.length_nil]at this;omega
  rw[if_neg h1,if_neg h0]
  simp
theorem x9(t:Int×List Int)(h:Small t)(hl:t.2.length≤30):(Z6 t).length≤92:=by
 obtain⟨w,zs⟩:=t
 have h1:=y2 w h.1
 have h2:=xx zs h.2 zs.length (qq1 _)
 have e:Z6 (w,zs)=digs w++ZL zs zs.length:=by unfold Z6;rw[xw]
 rw[e,qb]
 simp at hl;omega
theorem xz(ts:Zl)(h:∀k,k<ts.length→(Z6 (ts.getD k (0,[]))).length≤92):∀k,k≤ts.length→(Zt ts k).length≤93*k:=by
 intro k
 induction k with
 | zero=>intro _;rw[za7];simp
 | succ k ih=>
  intro hk
  rw[xi ts k (by omega),qb]
  have h1:=h k (by omega)
  have h2:=ih (by omega)
  split
  ·omega
  ·rw[qb,List.length_singleton];omega
set_option maxRecDepth 100000 in
set_option maxHeartbeats 4000000 in
theorem zfd(v:Value)(ts:Zl)(w:World)(hp:Zf w v ts) :
  Calls Tryz.prog 90 #[v] w fun e w'=>(∃p q,Zc ts p q∧((q≠0∧e=.returned (.tuple #[.string ⟨#[]⟩,errV q]))∨(q=0∧e=.returned (.tuple #[.string ⟨(Yq ts).toArray⟩,.nilIface]))))∧Below w.heap.size w w':=by
 have hck:=yY v ts w hp
 obtain⟨hl,a,c,rfl,hp⟩:=hp
 go_enter Tryz.func90,Tryz.ntmps90
 go_wp2_with fail
 refine hck.mono ?_
 rintro e w1 ⟨⟨p,q,rfl,hc⟩,hb1⟩
 clear hck
 by_cases hq:q=0
 ·subst hq
  rw[zI]
  have h30:=(hc.ok rfl).2.1
  have herr:=(hc.ok rfl).2.2.1
  have HC:Hid (Zc ts p 0):=hc
  clear hc
  have HSm:Hid (∀k,k<ts.length→Small ((ts.getD k (0,[])).1,Za ts k)∧(Za ts k).length≤30):=fun k hk=>by
   obtain⟨h1,h2,h3⟩:=xa (herr k hk)
   have:=xY _ _ h3 h2
   exact⟨⟨by simp only;omega,fun z hz=>by have:=h2 z hz;omega⟩,by omega⟩
  have HTL:Hid (∀k,k≤ts.length→(Zt ts k).length≤93*k):=xz ts (fun k hk=>by
   have:=HSm.out k hk
   exact x9 _ this.1 this.2)
  clear herr
  have hbu0:Zu w.heap.size w1.heap.size (w1.alloc (.cells #[.pointer none,.slice none 0 0] 56)) []:=
   Or.inl ⟨hb1.size,.slice none 0 0,blk_alloc_new _ _,World.ownsRow_nil _ _ _ _,by simp[Value.ownBlock]⟩
  have hB0:Below w.heap.size w (w1.alloc (.cells #[.pointer none,.slice none 0 0] 56)):=hb1.alloc hb1.size _
  go_wp2
  go_loopw [19] (fun s19 wr=>∃k:Nat,k≤ts.length∧s19=.int .i64 k∧Hid (Zu w.heap.size w1.heap.size wr (Zt ts k))∧Below w.heap.size w wr) (fun s19 _=>ts.length-(intOf s19).toNat)
  case atStart=>exact⟨0,Nat.zero_le _,rfl,hbu0,hB0⟩
  case round=>
   clear hbu0 hB0
   obtain⟨k,hk,rfl,hbu,hB⟩:=hrel
   by_cases hkl:k<ts.length
   ·rcases hp with rfl|⟨b,o,rfl,hbl,hcs⟩
    ·simp at hkl
    obtain⟨hc1,nv,hc2,hin⟩:=hcs k hkl
    obtain⟨a2,c2,rfl⟩:∃a2 c2,nv=.slice a2 (Za ts k).length c2:=by
     obtain⟨_,a2,c2,h,_⟩:=hin
     exact⟨a2,c2,h⟩
    have hc1':=(hB.cell (p:=⟨b,o+k*2,none⟩) hbl).trans hc1
    have hc2':=(hB.cell (p:=⟨b,o+k*2+1,none⟩) hbl).trans hc2
    obtain⟨hsm,hnl⟩:=HSm.out k hkl
    have htl:=HTL.out k hk
    have HST:Hid (Zt ts (k+1)=(if k=0 then Zt ts k else Zt ts k++[UInt8.ofNat 32])++Z6 ((ts.getD k (0,[])).1,Za ts k)):=xi ts k hkl
    have HIN:Hid (Z0 w (.slice a2 (Za ts k).length c2) (Za ts k)):=hin
    have HS1:Hid (Small ((ts.getD k (0,[])).1,Za ts k)):=hsm
    clear hcs hc1 hc2 hin hsm
    generalize (ts.getD k (0,[])).1=wk at *
    have hbT:Below wr.heap.size wr (wr.alloc (.cells #[.int .i64 wk,.slice a2 (Za ts k).length c2] 94)):=(qq4 _ _).alloc (qq1 _) _
    have hBT:Below w.heap.size w (wr.alloc (.cells #[.int .i64 wk,.slice a2 (Za ts k).length c2] 94)):=hB.trans (hbT.mono hB.size)
    have hbuT:=hbu.out.later hbT
    by_cases hk0:k=0
    ·have hki:¬(0:Int)<(k:Int):=by omega
     have HST0:Hid (Zt ts (k+1)=Zt ts k++Z6 (wk,Za ts k)):=by rw[HST.out,if_pos hk0];rfl
     have hwt:=jd w _ w1.heap.size _ wk _ (Za ts k) hBT hbuT HIN.out HS1.out.1 HS1.out.2 (by omega) (by omega)
     have HK0:Hid (k=0):=hk0
     clear hk0 hbuT hbu HST
     go_wp2_with (go_at_call 121;refine hwt.mono ?_;rintro e w2 ⟨rfl,h2,hb2⟩)
     go_roundw
     case rel=>exact⟨k+1,by omega,by go_num,by rw[HST0.out];exact h2,hb2⟩
     case measure=>simp[intOf];omega
    ·have hki:(0:Int)<(k:Int):=by omega
     have HST0:Hid (Zt ts (k+1)=(Zt ts k++[UInt8.ofNat 32])++Z6 (wk,Za ts k)):=by rw[HST.out,if_neg hk0];rfl
     have hpb:=putByte w.heap.size w1.heap.size (Zt ts k) 32 (by omega) _ hbuT (by omega) hBT.size
     have hblk:(wr.alloc (.cells #[.int .i64 wk,.slice a2 (Za ts k).length c2] 94)).heap[wr.heap.size]?=some (.cells #[.int .i64 wk,.slice a2 (Za ts k).length c2] 94 (0,0)):=blk_alloc_new _ _
     have hne:wr.heap.size≠w1.heap.size:=by
      have:w1.heap.size<wr.heap.size:=by
       rcases hbu.out with h|h
       ·exact h.lt
       ·exact h.lt
      omega
     clear hbuT hbu HST hk0
     go_wp2_with fail
     refine hpb.mono ?_
     rintro e w2 ⟨rfl,h2,hb2,hkp⟩
     have hblk2:=hkp _ _ _ hblk (by decide) hne
     have d0:w2.cell? ⟨wr.heap.size,0,none⟩=some (.int .i64 wk):=by simp[World.cell?,hblk2]
     have d1:w2.cell? ⟨wr.heap.size,1,none⟩=some (.slice a2 (Za ts k).length c2):=by simp[World.cell?,hblk2]
     have hB2:Below w.heap.size w w2:=hBT.trans hb2
     have hwt:=jd w w2 w1.heap.size _ wk _ (Za ts k) hB2 h2 HIN.out HS1.out.1 HS1.out.2 (by simp only[List.length_append,List.length_singleton];omega) (by omega)
     clear hpb hblk hblk2 hkp h2 hb2
     go_wp2_with (go_at_call 121;refine hwt.mono ?_;rintro e w3 ⟨rfl,h3,hb3⟩)
     go_roundw
     case rel=>exact⟨k+1,by omega,by go_num,by rw[HST0.out];exact h3,hb3⟩
     case measure=>simp[intOf];omega
   ·have hke:k=ts.length:=by omega
    have hst:=Tryz.Builder_String_any w.heap.size w1.heap.size (Zt ts k) wr hbu.out hB.size
    have HT:Hid (Zt ts k=Yq ts):=by rw[hke,xy];rfl
    clear hke hp
    go_wp2_with (go_at_call 22;refine hst.mono ?_;rintro e w2 ⟨rfl,hb2⟩)
    go_ret2
    exact⟨⟨p,0,HC.out,Or.inr ⟨rfl,by rw[←HT.out];rfl⟩⟩,hB.trans hb2⟩
 ·have hev:=zu hq
  rw[hev]
  have HV:Hid (errV q=.iface 97 (.int .i64 q)):=hev
  clear hev hp
  go_wp2
  go_ret2
  exact⟨⟨p,q,hc,Or.inl ⟨hq,by rw[HV.out];rfl⟩⟩,hb1⟩
end
end Go.Proofs.YtlfbdjeojgbniaaGreatDoor

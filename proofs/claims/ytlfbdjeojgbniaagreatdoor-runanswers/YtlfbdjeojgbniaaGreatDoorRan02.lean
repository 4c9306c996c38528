import Derived.Test.YtlfbdjeojgbniaaGreatDoorRan01
namespace Go.Proofs.YtlfbdjeojgbniaaGreatDoor
section
inductive Tree where
 | num (ds:List UInt8)
 | seq (a b:Tree)
 | par (a b:Tree)
def ZR(b:UInt8):Bool:=decide (48≤b.toNat)&&decide (b.toNat≤57)
def numR(s:List UInt8):Option (Tree×List UInt8):=
 match s.takeWhile ZR with
 | []=>none
 | d::ds=>if d=48 then none else some (.num (d::ds),s.dropWhile ZR)
inductive Kind where
 | link
 | chain
 | chainL (t:Tree)
 | weave
 | weaveL (t:Tree)
inductive Gr:Kind→List UInt8→Option (Tree×List UInt8)→Prop
 | num {s:List UInt8}:s.head?≠some 40→Gr .link s (numR s)
 | opened {s:List UInt8}:Gr .weave s none→Gr .link (40::s) none
 | unshut {s s2:List UInt8} {t:Tree}:Gr .weave s (some (t,s2))→s2.head?≠some 41→Gr .link (40::s) none
 | signs {s s2:List UInt8} {t:Tree}:Gr .weave s (some (t,41::s2))→Gr .link (40::s) (some (t,s2))
 | chainNo {s:List UInt8}:Gr .link s none→Gr .chain s none
 | chainOf {s s2:List UInt8} {t:Tree} {r:Option (Tree×List UInt8)}:Gr .link s (some (t,s2))→Gr (.chainL t) s2 r→Gr .chain s r
 | chainEnd {s:List UInt8} {t:Tree}:s.head?≠some 59→Gr (.chainL t) s (some (t,s))
 | chainBad {s:List UInt8} {t:Tree}:Gr .link s none→Gr (.chainL t) (59::s) none
 | chainMore {s s2:List UInt8} {t t2:Tree} {r:Option (Tree×List UInt8)}:Gr .link s (some (t2,s2))→Gr (.chainL (.seq t t2)) s2 r→Gr (.chainL t) (59::s) r
 | weaveNo {s:List UInt8}:Gr .chain s none→Gr .weave s none
 | weaveOf {s s2:List UInt8} {t:Tree} {r:Option (Tree×List UInt8)}:Gr .chain s (some (t,s2))→Gr (.weaveL t) s2 r→Gr .weave s r
 | weaveEnd {s:List UInt8} {t:Tree}:s.head?≠some 124→Gr (.weaveL t) s (some (t,s))
 | weaveBad {s:List UInt8} {t:Tree}:Gr .chain s none→Gr (.weaveL t) (124::s) none
 | weaveMore {s s2:List UInt8} {t t2:Tree} {r:Option (Tree×List UInt8)}:Gr .chain s (some (t2,s2))→Gr (.weaveL (.par t t2)) s2 r→Gr (.weaveL t) (124::s) r
theorem Gr.det{k:Kind}{s:List UInt8}{r r':Option (Tree×List UInt8)}(h:Gr k s r)(h':Gr k s r'):r=r':=by
 induction h generalizing r' with
 | num hn=>
  cases h' with
  | num=>rfl
  | opened=>simp at hn
  | unshut=>simp at hn
  | signs=>simp at hn
 | opened _ ih=>
  cases h' with
  | num hn=>simp at hn
  | opened=>rfl
  | unshut=>rfl
  | signs g=>have:=ih g;cases this
 | unshut _ hs ih=>
  cases h' with
  | num hn=>simp at hn
  | opened=>rfl
  | unshut=>rfl
  | signs g=>have:=ih g;simp at this;obtain⟨_,rfl⟩:=this;simp at hs
 | signs _ ih=>
  cases h' with
  | num hn=>simp at hn
  | opened g=>have:=ih g;cases this
  | unshut g hs=>have:=ih g;simp at this;obtain⟨_,rfl⟩:=this;simp at hs
  | signs g=>have:=ih g;simp at this;obtain⟨rfl,rfl⟩:=this;rfl
 | chainNo _ ih=>
  cases h' with
  | chainNo=>rfl
  | chainOf g=>have:=ih g;cases this
 | chainOf _ _ ih1 ih2=>
  cases h' with
  | chainNo g=>have:=ih1 g;cases this
  | chainOf g1 g2=>have:=ih1 g1;simp at this;obtain⟨rfl,rfl⟩:=this;exact ih2 g2
 | chainEnd hn=>
  cases h' with
  | chainEnd=>rfl
  | chainBad=>simp at hn
  | chainMore=>simp at hn
 | chainBad _ ih=>
  cases h' with
  | chainEnd hn=>simp at hn
  | chainBad=>rfl
  | chainMore g=>have:=ih g;cases this
 | chainMore _ _ ih1 ih2=>
  cases h' with
  | chainEnd hn=>simp at hn
  | chainBad g=>have:=ih1 g;cases this
  | chainMore g1 g2=>have:=ih1 g1;simp at this;obtain⟨rfl,rfl⟩:=this;exact ih2 g2
 | weaveNo _ ih=>
  cases h' with
  | weaveNo=>rfl
  | weaveOf g=>have:=ih g;cases this
 | weaveOf _ _ ih1 ih2=>
  cases h' with
  | weaveNo g=>have:=ih1 g;cases this
  | weaveOf g1 g2=>have:=ih1 g1;simp at this;obtain⟨rfl,rfl⟩:=this;exact ih2 g2
 | weaveEnd hn=>
  cases h' with
  | weaveEnd=>rfl
  | weaveBad=>simp at hn
  | weaveMore=>simp at hn
 | weaveBad _ ih=>
  cases h' with
  | weaveEnd hn=>simp at hn
  | weaveBad=>rfl
  | weaveMore g=>have:=ih g;cases this
 | weaveMore _ _ ih1 ih2=>
  cases h' with
  | weaveEnd hn=>simp at hn
  | weaveBad g=>have:=ih1 g;cases this
  | weaveMore g1 g2=>have:=ih1 g1;simp at this;obtain⟨rfl,rfl⟩:=this;exact ih2 g2
def Tree.count:Tree→Nat
 | .num _=>1
 | .seq a b=>a.count+b.count
 | .par a b=>a.count+b.count
def Tree.first(n:Nat):Tree→List Nat
 | .num _=>[n]
 | .seq a _=>a.first n
 | .par a b=>a.first n++b.first (n+a.count)
def Tree.last(n:Nat):Tree→List Nat
 | .num _=>[n]
 | .seq a b=>b.last (n+a.count)
 | .par a b=>a.last n++b.last (n+a.count)
def Tree.work(V:List UInt8→Int):Tree→Int
 | .num ds=>V ds
 | .seq a b=>a.work V+b.work V
 | .par a b=>a.work V+b.work V
def Tree.span(V:List UInt8→Int):Tree→Int
 | .num ds=>V ds
 | .seq a b=>a.span V+b.span V
 | .par a b=>max (a.span V) (b.span V)
def setN(zs:List Int)(ts:Zl)(x:Nat):Zl:=ts.set x ((ts.getD x (0,[])).1,zs)
def YB(fs:List Nat)(zs:List Int)(ts:Zl):Zl:=fs.foldl (setN zs) ts
def Zj(l:List Nat):List Int:=l.map Int.ofNat
def Tree.lay(V:List UInt8→Int):Tree→Zl→Zl
 | .num ds,ts=>ts++[(V ds,[])]
 | .seq a b,ts=>YB (b.first (ts.length+a.count)) (Zj (a.last ts.length)) (b.lay V (a.lay V ts))
 | .par a b,ts=>b.lay V (a.lay V ts)
theorem xo(zs:List Int)(ts:Zl)(x:Nat):(setN zs ts x).length=ts.length:=by simp[setN]
theorem yM(fs:List Nat)(zs:List Int)(ts:Zl):(YB fs zs ts).length=ts.length:=by
 induction fs generalizing ts with
 | nil=>rfl
 | cons f r ih=>show(YB r zs (setN zs ts f)).length=_;rw[ih,xo]
theorem Tree.lay_length(V:List UInt8→Int)(t:Tree):∀ts,(t.lay V ts).length=ts.length+t.count:=by
 induction t with
 | num ds=>intro ts;simp[Tree.lay,Tree.count]
 | seq a b iha ihb=>intro ts;simp only[Tree.lay,Tree.count,yM];rw[ihb,iha];omega
 | par a b iha ihb=>intro ts;simp only[Tree.lay,Tree.count];rw[ihb,iha];omega
theorem zac(zs:List Int)(ts:Zl)(x y:Nat):(setN zs ts x).getD y (0,[])=if x=y∧x<ts.length then ((ts.getD x (0,[])).1,zs) else ts.getD y (0,[]):=by
 unfold setN
 simp only[List.getD_eq_getElem?_getD,List.getElem?_set]
 by_cases h:x=y
 ·subst h
  by_cases hl:x<ts.length
  ·simp[hl]
  ·simp[hl]
 ·simp[h]
theorem yS(fs:List Nat)(zs:List Int)(ts:Zl)(y:Nat)(hy:y<ts.length):(YB fs zs ts).getD y (0,[])=if y∈fs then ((ts.getD y (0,[])).1,zs) else ts.getD y (0,[]):=by
 induction fs generalizing ts with
 | nil=>simp[YB]
 | cons f r ih=>
  show(YB r zs (setN zs ts f)).getD y (0,[])=_
  rw[ih _ (by rw[xo];exact hy)]
  by_cases h2:f=y
  ·have e:(setN zs ts f).getD y (0,[])=((ts.getD y (0,[])).1,zs):=by rw[zac,if_pos ⟨h2,by omega⟩,h2]
   rw[e,if_pos (show y∈f::r by rw[h2];exact List.mem_cons_self)]
   split <;> rfl
  ·have e:(setN zs ts f).getD y (0,[])=ts.getD y (0,[]):=by rw[zac,if_neg (fun h=>h2 h.1)]
   rw[e]
   by_cases h1:y∈r
   ·rw[if_pos h1,if_pos (List.mem_cons_of_mem _ h1)]
   ·rw[if_neg h1,if_neg (fun h=>(List.mem_cons.1 h).elim (fun h=>h2 h.symm) h1)]
theorem Tree.first_range(t:Tree):∀n x,x∈t.first n→n≤x∧x<n+t.count:=by
 induction t with
 | num ds=>intro n x h;simp[Tree.first]at h;subst h;simp[Tree.count]
 | seq a b iha _=>intro n x h;have:=iha n x h;simp only[Tree.count];omega
 | par a b iha ihb=>
  intro n x h
  simp only[Tree.first,List.mem_append]at h
  simp only[Tree.count]
  rcases h with h|h
  ·have:=iha n x h;omega
  ·have:=ihb _ x h;omega
theorem Tree.last_range(t:Tree):∀n x,x∈t.last n→n≤x∧x<n+t.count:=by
 induction t with
 | num ds=>intro n x h;simp[Tree.last]at h;subst h;simp[Tree.count]
 | seq a b _ ihb=>intro n x h;have:=ihb _ x h;simp only[Tree.count];omega
 | par a b iha ihb=>
  intro n x h
  simp only[Tree.last,List.mem_append]at h
  simp only[Tree.count]
  rcases h with h|h
  ·have:=iha n x h;omega
  ·have:=ihb _ x h;omega
theorem Tree.first_len(t:Tree):∀n,(t.first n).length≤t.count:=by
 induction t with
 | num ds=>intro n;simp[Tree.first,Tree.count]
 | seq a b iha _=>intro n;have:=iha n;simp only[Tree.first,Tree.count];omega
 | par a b iha ihb=>intro n;have:=iha n;have:=ihb (n+a.count);simp only[Tree.first,Tree.count,List.length_append];omega
theorem Tree.last_len(t:Tree):∀n,(t.last n).length≤t.count:=by
 induction t with
 | num ds=>intro n;simp[Tree.last,Tree.count]
 | seq a b _ ihb=>intro n;have:=ihb (n+a.count);simp only[Tree.last,Tree.count];omega
 | par a b iha ihb=>intro n;have:=iha n;have:=ihb (n+a.count);simp only[Tree.last,Tree.count,List.length_append];omega
theorem Tree.last_pos(t:Tree):∀n,0<(t.last n).length:=by
 induction t with
 | num ds=>intro n;simp[Tree.last]
 | seq a b _ ihb=>intro n;exact ihb _
 | par a b iha _=>intro n;have:=iha n;simp only[Tree.last,List.length_append];omega
theorem Tree.first_pos(t:Tree):∀n,0<(t.first n).length:=by
 induction t with
 | num ds=>intro n;simp[Tree.first]
 | seq a b iha _=>intro n;exact iha _
 | par a b iha _=>intro n;have:=iha n;simp only[Tree.first,List.length_append];omega
theorem Tree.lay_old(V:List UInt8→Int)(t:Tree):∀ts y,y<ts.length→(t.lay V ts).getD y (0,[])=ts.getD y (0,[]):=by
 induction t with
 | num ds=>intro ts y hy;simp[Tree.lay,List.getElem?_append_left hy]
 | seq a b iha ihb=>
  intro ts y hy
  simp only[Tree.lay]
  rw[yS _ _ _ _ (by rw[b.lay_length,a.lay_length];omega),if_neg,ihb _ _ (by rw[a.lay_length];omega),iha _ _ hy]
  intro h
  have:=b.first_range _ _ h
  omega
 | par a b iha ihb=>
  intro ts y hy
  simp only[Tree.lay]
  rw[ihb _ _ (by rw[a.lay_length];omega),iha _ _ hy]
theorem Tree.first_free(V:List UInt8→Int)(t:Tree):∀ts x,x∈t.first ts.length→Za (t.lay V ts) x=[]:=by
 induction t with
 | num ds=>
  intro ts x h
  simp[Tree.first]at h
  subst h
  simp[Za,Tree.lay]
 | seq a b iha ihb=>
  intro ts x h
  have hr:=a.first_range _ _ h
  unfold Za
  simp only[Tree.lay]
  rw[yS _ _ _ _ (by rw[b.lay_length,a.lay_length];omega),if_neg,b.lay_old V _ _ (by rw[a.lay_length];omega)]
  ·exact iha ts x h
  ·intro h2
   have:=b.first_range _ _ h2
   omega
 | par a b iha ihb=>
  intro ts x h
  simp only[Tree.first,List.mem_append]at h
  unfold Za
  simp only[Tree.lay]
  rcases h with h|h
  ·have hr:=a.first_range _ _ h
   rw[b.lay_old V _ _ (by rw[a.lay_length];omega)]
   exact iha ts x h
  ·rw[←a.lay_length V ts]at h
   exact ihb _ x h
theorem Tree.work_le{V:List UInt8→Int}{m:Int}(hV:∀ds,0≤V ds∧V ds≤m)(t:Tree):0≤t.work V∧t.work V≤m*t.count:=by
 induction t with
 | num ds=>have:=hV ds;simp[Tree.work,Tree.count];omega
 | seq a b iha ihb=>simp only[Tree.work,Tree.count];rw[Int.natCast_add,Int.mul_add];omega
 | par a b iha ihb=>simp only[Tree.work,Tree.count];rw[Int.natCast_add,Int.mul_add];omega
theorem Tree.span_le{V:List UInt8→Int}{m:Int}(hV:∀ds,0≤V ds∧V ds≤m)(t:Tree):0≤t.span V∧t.span V≤t.work V:=by
 induction t with
 | num ds=>have:=hV ds;simp[Tree.work,Tree.span];omega
 | seq a b iha ihb=>simp only[Tree.work,Tree.span];omega
 | par a b iha ihb=>simp only[Tree.work,Tree.span];omega
end
section
open Go.RowKit Go.Deep
def RowW(b:Nat)(w:World)(v:Value)(zs:List Int):Prop:=w.ownsRow b 3 1 v zs.length (zs.map (Value.int .i64))
def RowT(b:Nat)(A:Nat→Prop)(w:World)(v:Value)(ts:Zl):Prop:=
 ∃xs,w.ownsRow b 94 2 v ts.length xs∧∀j,j<ts.length→xs[j*2]?=some (.int .i64 (ts.getD j (0,[])).1)∧∃nv,xs[j*2+1]?=some nv∧RowW b w nv (Za ts j)∧∀k,nv.ownBlock=some k→A k
def Rd(R:Nat)(l:List UInt8)(i:Nat)(ts:Zl)(A:Nat→Prop)(w:World):Prop:=
 ∃tv,w.heap[R]?=some (.cells #[.string ⟨l.toArray⟩,.int .i64 i,tv] 234 (0,0))∧RowT (R+1) A w tv ts
structure Kp (R:Nat) (w w':World):Prop where
 os:w'.os=w.os
 tape:w'.tape=w.tape
 output:w'.output=w.output
 size:w.heap.size≤w'.heap.size
 block:∀k,k<w.heap.size→k≠R→¬(R<k∧∃cs fr,w.heap[k]?=some (.cells cs 94 fr))→w'.heap[k]?=w.heap[k]?
theorem Kp.refl(R:Nat)(w:World):Kp R w w:=⟨rfl,rfl,rfl,qq1 _,fun _ _ _ _=>rfl⟩
theorem Kp.trans{R:Nat}{a b c:World}(h:Kp R a b)(k:Kp R b c):Kp R a c:=
 ⟨k.os.trans h.os,k.tape.trans h.tape,k.output.trans h.output,qq2 h.size k.size,fun i hi hR hT=>by
  have e:=h.block i hi hR hT
  exact(k.block i (qq3 hi h.size) hR (by rw[e];exact hT)).trans e⟩
theorem Kp.below{R:Nat}{w w':World}(h:Kp R w w')(hR:R≤w.heap.size):Below R w w':=
 ⟨h.os,h.tape,h.output,h.size,fun k hk=>h.block k (by omega) (by omega) (fun hc=>by omega)⟩
theorem Kp.grown{R:Nat}{w0 w w':World}{row:Option Nat}(h:Kp R w0 w)(hg:w.grownBy w' row)
  (hr:∀k,row=some k→k=R∨w0.heap.size≤k∨(R<k∧∃cs fr,w.heap[k]?=some (.cells cs 94 fr))):Kp R w0 w':=
 ⟨hg.os.trans h.os,hg.tape.trans h.tape,hg.output.trans h.output,qq2 h.size hg.size,fun i hi hR hT=>by
  have e:=h.block i hi hR hT
  refine(hg.block i (qq3 hi h.size) (fun hc=>?_)).trans e
  rcases hr i hc.symm with h1|h1|⟨h1,h2⟩
  ·exact hR h1
  ·omega
  ·rw[e]at h2;exact hT ⟨h1,h2⟩⟩
theorem Kp.alloc{R:Nat}{w0 w:World}(h:Kp R w0 w)(o:Obj):Kp R w0 (w.alloc o):=h.grown (World.grownBy_alloc w o none) (fun k e=>by cases e)
theorem yJ(w:World)(p:Addr)(u:Value):w.grownBy (w.setCell p u) (some p.block):=⟨rfl,rfl,rfl,by simp,fun k _ hk=>qq5 _ _ _ _ (fun e=>hk (by rw[e]))⟩
theorem Kp.setR{R:Nat}{w0 w:World}(h:Kp R w0 w)(j:Nat)(u:Value):Kp R w0 (w.setCell ⟨R,j,none⟩ u):=h.grown (yJ w ⟨R,j,none⟩ u) (fun k e=>by cases e;exact Or.inl rfl)
theorem Kp.setNew{R:Nat}{w0 w:World}(h:Kp R w0 w){b:Nat}(hb:w0.heap.size≤b)(j:Nat)(u:Value):Kp R w0 (w.setCell ⟨b,j,none⟩ u):=h.grown (yJ w ⟨b,j,none⟩ u) (fun k e=>by cases e;exact Or.inr (Or.inl hb))
theorem Kp.drewN{R:Nat}{w0 w:World}(h:Kp R w0 w)(n:Nat):Kp R w0 (w.drewN n):=⟨h.os,h.tape,h.output,h.size,h.block⟩
theorem Kp.of_below{R:Nat}{w0 w w':World}(h:Kp R w0 w)(hb:Below w.heap.size w w'):Kp R w0 w':=
 h.grown (row:=none) ⟨hb.os,hb.tape,hb.output,hb.size,fun k hk _=>hb.block k hk⟩ (fun k e=>by cases e)
theorem Kp.other{R:Nat}{w w':World}(h:Kp R w w'){k:Nat}{cs:Array Value}{t:TypeId}{fr:Nat×Nat}(hk:w.heap[k]?=some (.cells cs t fr))(hR:k≠R)(ht:t≠94):w'.heap[k]?=some (.cells cs t fr):=by
 refine(h.block k (lt_of_block hk) hR (fun⟨_,c,f,e⟩=>?_)).trans hk
 rw[hk]at e
 simp only[Option.some.injEq,Obj.cells.injEq]at e
 exact ht e.2.1
theorem Rd.typed{R i:Nat}{l:List UInt8}{ts:Zl}{A:Nat→Prop}{w:World}(h:Rd R l i ts A w):∃cs,w.heap[R]?=some (.cells cs 234 (0,0)):=by
 obtain⟨tv,h,_⟩:=h
 exact⟨_,h⟩
theorem Rd.lt{R i:Nat}{l:List UInt8}{ts:Zl}{A:Nat→Prop}{w:World}(h:Rd R l i ts A w):R<w.heap.size:=by
 obtain⟨cs,h⟩:=h.typed
 exact lt_of_block h
theorem RowW.block{b:Nat}{w:World}{v:Value}{zs:List Int}(h:RowW b w v zs){k:Nat}(hk:v.ownBlock=some k):∃cs,w.heap[k]?=some (.cells cs 3 (0,0)):=by
 rcases h.2 with⟨rfl,_⟩|⟨g,cap,cur,rfl,_,hh,_⟩
 ·simp[Value.ownBlock]at hk
 ·simp only[Value.ownBlock,Option.some.injEq]at hk
  subst hk
  exact⟨cur,hh⟩
theorem RowW.of_blocks{b:Nat}{w w':World}{v:Value}{zs:List Int}(h:RowW b w v zs)(hk:∀k,v.ownBlock=some k→w'.heap[k]?=w.heap[k]?):RowW b w' v zs:=by
 rcases h.2 with⟨rfl,hn⟩|⟨g,cap,cur,rfl,hb,hh,hr⟩
 ·exact⟨h.1,Or.inl ⟨rfl,hn⟩⟩
 ·exact⟨h.1,Or.inr ⟨g,cap,cur,rfl,hb,(hk g rfl).trans hh,hr⟩⟩
theorem RowW.kp{R b:Nat}{w w':World}{v:Value}{zs:List Int}{cs:Array Value}(h:RowW b w v zs)(hR:w.heap[R]?=some (.cells cs 234 (0,0)))(hk:Kp R w w'):RowW b w' v zs:=by
 refine h.of_blocks fun k e=>?_
 obtain⟨c,hc⟩:=h.block e
 exact(hk.other hc (fun e=>by rw[e,hR]at hc;simp at hc) (by decide)).trans hc.symm
theorem RowW.mono{b b':Nat}{w:World}{v:Value}{zs:List Int}(h:RowW b w v zs)(hb:b'≤b):RowW b' w v zs:=by
 rcases h.2 with hn|⟨g,cap,cur,hv,hg,r⟩
 ·exact⟨h.1,Or.inl hn⟩
 ·exact⟨h.1,Or.inr ⟨g,cap,cur,hv,qq2 hb hg,r⟩⟩
theorem RowW.low{b:Nat}{w:World}{v:Value}{zs:List Int}(h:RowW b w v zs){k:Nat}(hk:v.ownBlock=some k):b≤k∧k<w.heap.size:=World.ownsRow.lt h k hk
theorem RowW.shape{b:Nat}{w:World}{v:Value}{zs:List Int}(h:RowW b w v zs):∃a c,v=.slice a zs.length c:=by
 rcases h.2 with⟨rfl,hn⟩|⟨g,cap,cur,rfl,_⟩
 ·exact⟨none,0,by rw[hn]⟩
 ·exact⟨_,_,rfl⟩
theorem RowW.ints{b:Nat}{w:World}{v:Value}{zs:List Int}(h:RowW b w v zs)(hl:zs.length*8≤140737488351232):Z0 w v zs:=by
 refine⟨hl,?_⟩
 rcases h.2 with⟨hv,h0⟩|⟨g,cap,cur,hv,_,hh,_⟩
 ·exact⟨none,0,by rw[hv,h0],Or.inl (List.eq_nil_of_length_eq_zero h0)⟩
 ·subst hv
  refine⟨_,_,rfl,Or.inr ⟨g,0,rfl,lt_of_block hh,fun k hk=>?_⟩⟩
  have e:=World.ownsRow.cellAt h k (by omega)
  rw[Nat.zero_add,e]
  simp[hk]
theorem RowW.lit(w:World)(b:Nat)(hb:b≤w.heap.size)(x:Int):RowW b (w.alloc (.cells #[.int .i64 x] 3)) (.slice (some ⟨w.heap.size,0,none⟩) 1 1) [x]:=by
 have h:=World.ownsRow_lit (base:=b) (e:=3) (size:=1) w #[.int .i64 x] 1 hb (by unfold maxLen;omega) rfl
 exact h
theorem RowT.of_blocks{b:Nat}{A:Nat→Prop}{w w':World}{v:Value}{ts:Zl}(h:RowT b A w v ts)(hk:∀k,b≤k→k<w.heap.size→(A k∨v.ownBlock=some k)→w'.heap[k]?=w.heap[k]?):RowT b A w' v ts:=by
 obtain⟨xs,ho,hx⟩:=h
 refine⟨xs,?_,fun j hj=>?_⟩
 ·rcases ho.2 with⟨rfl,hn⟩|⟨g,cap,cur,rfl,hb,hh,hr⟩
  ·exact⟨ho.1,Or.inl ⟨rfl,hn⟩⟩
  ·exact⟨ho.1,Or.inr ⟨g,cap,cur,rfl,hb,(hk g hb (lt_of_block hh) (Or.inr rfl)).trans hh,hr⟩⟩
 ·obtain⟨h1,nv,h2,h3,h4⟩:=hx j hj
  exact⟨h1,nv,h2,h3.of_blocks (fun k e=>hk k (h3.low e).1 (h3.low e).2 (Or.inl (h4 k e))),h4⟩
theorem RowT.allow{b:Nat}{A A':Nat→Prop}{w:World}{v:Value}{ts:Zl}(h:RowT b A w v ts)(hA:∀k,A k→k<w.heap.size→A' k):RowT b A' w v ts:=by
 obtain⟨xs,ho,hx⟩:=h
 refine⟨xs,ho,fun j hj=>?_⟩
 obtain⟨h1,nv,h2,h3,h4⟩:=hx j hj
 exact⟨h1,nv,h2,h3,fun k e=>hA k (h4 k e) (h3.low e).2⟩
theorem RowT.shape{b:Nat}{A:Nat→Prop}{w:World}{v:Value}{ts:Zl}(h:RowT b A w v ts):∃a c,v=.slice a ts.length c:=by
 obtain⟨xs,ho,_⟩:=h
 rcases ho.2 with⟨rfl,hn⟩|⟨g,cap,cur,rfl,_⟩
 ·exact⟨none,0,by rw[hn]⟩
 ·exact⟨_,_,rfl⟩
theorem RowT.nil(b:Nat)(A:Nat→Prop)(w:World):RowT b A w (.slice none 0 0) []:=⟨[],World.ownsRow_nil _ _ _ _,fun j hj=>by simp at hj⟩
theorem RowT.append{b:Nat}{A:Nat→Prop}{w w':World}{v v':Value}{ts:Zl}{xs:List Value}{wk:Int}
  (ho:w.ownsRow b 94 2 v ts.length xs) (hx:∀j,j<ts.length→xs[j*2]?=some (.int .i64 (ts.getD j (0,[])).1)∧∃nv,xs[j*2+1]?=some nv∧RowW b w nv (Za ts j)∧∀k,nv.ownBlock=some k→A k)
  (ho':w'.ownsRow b 94 2 v' (ts.length+1) (xs++[.int .i64 wk,.slice none 0 0])) (hg:w.grownBy w' v.ownBlock):RowT b A w' v' (ts++[(wk,[])]):=by
 have hl:xs.length=ts.length*2:=ho.1
 have kept:∀{nv:Value} {zs:List Int},RowW b w nv zs→RowW b w' nv zs:=fun {nv zs} hn=>hn.of_blocks fun k e=>by
  refine hg.block k (hn.low e).2 (fun hc=>?_)
  obtain⟨cs,hcs⟩:=hn.block e
  rcases ho.2 with⟨hv,_⟩|⟨g,cap,cur,hv,_,hh,_⟩
  ·subst hv;simp[Value.ownBlock]at hc
  ·subst hv
   simp only[Value.ownBlock,Option.some.injEq]at hc
   subst hc
   rw[hcs]at hh
   simp at hh
 refine⟨xs++[.int .i64 wk,.slice none 0 0],by simpa using ho',fun j hj=>?_⟩
 simp at hj
 by_cases e:j=ts.length
 ·subst e
  unfold Za
  rw[yb]
  refine⟨by rw[←hl];simp,.slice none 0 0,by rw[←hl];simp,World.ownsRow_nil _ _ _ _,fun k e=>by simp[Value.ownBlock]at e⟩
 ·have hlt:j<ts.length:=by omega
  obtain⟨h1,nv2,h2,h3,h4⟩:=hx j hlt
  unfold Za at h3 ⊢
  rw[jY _ _ _ _ hlt]
  exact⟨by rw[List.getElem?_append_left (by omega)];exact h1,nv2,by rw[List.getElem?_append_left (by omega)];exact h2,kept h3,h4⟩
theorem RowT.set{b:Nat}{A:Nat→Prop}{w:World}{g cap x:Nat}{nv:Value}{ts:Zl}{zs:List Int}(h:RowT b A w (.slice (some ⟨g,0,none⟩) ts.length cap) ts)(hx:x<ts.length)(hn:RowW b w nv zs)(hA:∀k,nv.ownBlock=some k→A k) :
  RowT b A (w.setCell ⟨g,x*2+1,none⟩ nv) (.slice (some ⟨g,0,none⟩) ts.length cap) (setN zs ts x):=by
 obtain⟨xs,ho,hxs⟩:=h
 obtain⟨ho',hg⟩:=ho.stored (x*2+1) nv
 have hlx:xs.length=ts.length*2:=ho.1
 have kept:∀{mv:Value} {zs:List Int},RowW b w mv zs→RowW b (w.setCell ⟨g,x*2+1,none⟩ nv) mv zs:=fun {mv zs} hn=>by
  refine hn.of_blocks fun k e=>?_
  refine hg.block k (hn.low e).2 (fun hc=>?_)
  obtain⟨cs,hcs⟩:=hn.block e
  rcases ho.2 with⟨hv,_⟩|⟨g',cap',cur,hv,_,hh,_⟩
  ·cases hv
  ·simp only[Value.slice.injEq,Option.some.injEq,Addr.mk.injEq,and_true,true_and]at hv
   obtain⟨rfl,_⟩:=hv
   rw[←Option.some.inj hc,hcs]at hh
   simp at hh
 refine⟨xs.set (x*2+1) nv,by rw[xo];exact ho',fun j hj=>?_⟩
 rw[xo]at hj
 obtain⟨h1,nv2,h2,h3,h4⟩:=hxs j hj
 unfold Za
 rw[zac]
 by_cases e:x=j
 ·subst e
  rw[if_pos ⟨rfl,hx⟩]
  exact⟨by rw[List.getElem?_set_ne (by omega)];exact h1,nv,by simp[List.getElem?_set];omega,kept hn,hA⟩
 ·rw[if_neg (fun h=>e h.1)]
  exact⟨by rw[List.getElem?_set_ne (by omega)];exact h1,nv2,by rw[List.getElem?_set_ne (by omega)];exact h2,kept h3,h4⟩
theorem RowT.planAt{b:Nat}{A:Nat→Prop}{w:World}{v:Value}{ts:Zl}(h:RowT b A w v ts)(hl:ts.length*32≤140737488351232)(hn:∀j,j<ts.length→(Za ts j).length*8≤140737488351232):Zf w v ts:=by
 obtain⟨xs,ho,hx⟩:=h
 refine⟨hl,?_⟩
 rcases ho.2 with⟨hv,h0⟩|⟨g,cap,cur,hv,_,hh,_⟩
 ·exact⟨none,0,by rw[hv,h0],Or.inl (List.eq_nil_of_length_eq_zero h0)⟩
 ·subst hv
  refine⟨_,_,rfl,Or.inr ⟨g,0,rfl,lt_of_block hh,fun k hk=>?_⟩⟩
  obtain⟨h1,nv,h2,h3,_⟩:=hx k hk
  have e1:=ho.cellAt (k*2) (by omega)
  have e2:=ho.cellAt (k*2+1) (by omega)
  rw[Nat.zero_add]
  exact⟨by rw[e1];exact h1,nv,by rw[e2];exact h2,h3.ints (hn k hk)⟩
theorem Rd.of_heap{R i:Nat}{l:List UInt8}{ts:Zl}{A:Nat→Prop}{w w':World}(h:Rd R l i ts A w)(e:∀k,k<w.heap.size→w'.heap[k]?=w.heap[k]?):Rd R l i ts A w':=by
 obtain⟨tv,h1,h2⟩:=h
 exact⟨tv,(e R (lt_of_block h1)).trans h1,h2.of_blocks (fun k _ hk _=>e k hk)⟩
theorem Rd.later{R i:Nat}{l:List UInt8}{ts:Zl}{A:Nat→Prop}{w w':World}(h:Rd R l i ts A w)(hb:Below w.heap.size w w'):Rd R l i ts A w':=h.of_heap hb.block
theorem Rd.alloc{R i:Nat}{l:List UInt8}{ts:Zl}{A:Nat→Prop}{w:World}(h:Rd R l i ts A w)(o:Obj):Rd R l i ts A (w.alloc o):=h.of_heap (fun _ hk=>qa _ _ _ hk)
theorem Rd.drewN{R i:Nat}{l:List UInt8}{ts:Zl}{A:Nat→Prop}{w:World}(h:Rd R l i ts A w)(n:Nat):Rd R l i ts A (w.drewN n):=h.of_heap (fun _ _=>rfl)
theorem Rd.allow{R i:Nat}{l:List UInt8}{ts:Zl}{A A':Nat→Prop}{w:World}(h:Rd R l i ts A w)(hA:∀k,A k→k<w.heap.size→A' k):Rd R l i ts A' w:=by
 obtain⟨tv,h1,h2⟩:=h
 exact⟨tv,h1,h2.allow hA⟩
theorem Rd.cells{R i:Nat}{l:List UInt8}{ts:Zl}{A:Nat→Prop}{w:World}(h:Rd R l i ts A w) :
  w.cell? ⟨R,0,none⟩=some (.string ⟨l.toArray⟩)∧w.cell? ⟨R,1,none⟩=some (.int .i64 i)∧(∃tv,w.cell? ⟨R,2,none⟩=some tv∧RowT (R+1) A w tv ts)∧∀j,w.frozen? ⟨R,j,none⟩=false:=by
 obtain⟨tv,h1,h2⟩:=h
 exact⟨by simp[World.cell?,h1],by simp[World.cell?,h1],⟨tv,by simp[World.cell?,h1],h2⟩,fun j=>by simp[World.frozen?,h1]⟩
theorem Rd.place{R i:Nat}{l:List UInt8}{ts:Zl}{A:Nat→Prop}{w:World}(h:Rd R l i ts A w)(k:Nat):Rd R l k ts A (w.setCell ⟨R,1,none⟩ (.int .i64 k)):=by
 obtain⟨tv,h1,h2⟩:=h
 refine⟨tv,?_,h2.of_blocks (fun k hk _ _=>qq5 _ _ _ _ (by show k≠R;omega))⟩
 have:=heap_setCell_same w R 1 _ 234 (.int .i64 k) h1
 simpa using this
theorem zdr(b:UInt8)(w:World):Calls Tryz.prog 225 #[.int .u8 (b.toNat:Int)] w fun e w'=>e=.returned (.bool (ZR b))∧w'=w:=by
 by_cases h1:48≤b.toNat
 ·by_cases h2:b.toNat≤57
  ·have g1:(48:Int)≤(b.toNat:Int):=by omega
   have g2:(b.toNat:Int)≤57:=by omega
   go_enter Tryz.func225,Tryz.ntmps225
   go_wp2
   go_ret
   exact⟨by simp[ZR,h1,h2],rfl⟩
  ·have g1:(48:Int)≤(b.toNat:Int):=by omega
   have g2:¬(b.toNat:Int)≤57:=by omega
   go_enter Tryz.func225,Tryz.ntmps225
   go_wp2
   go_ret
   exact⟨by simp[ZR,h1,h2],rfl⟩
 ·have g1:¬(48:Int)≤(b.toNat:Int):=by omega
  go_enter Tryz.func225,Tryz.ntmps225
  go_wp2
  go_ret
  exact⟨by simp[ZR,h1],rfl⟩
theorem yl{l:List UInt8}{i:Nat}(h:i<l.length):(l.drop i).head?=some l[i]:=by rw[List.drop_eq_getElem_cons h];rfl
theorem xc{l:List UInt8}{i:Nat}(h:l.length≤i):(l.drop i).head?=none:=by rw[List.drop_of_length_le h];rfl
set_option maxRecDepth 100000 in
set_option maxHeartbeats 1000000 in
theorem jK(R:Nat)(l:List UInt8)(i:Nat)(ts:Zl)(A:Nat→Prop)(c:UInt8)(w:World)(hl:l.length≤200)(hi:i≤l.length)(hr:Rd R l i ts A w) :
  Calls Tryz.prog 177 #[.pointer (some ⟨R,0,none⟩),.int .u8 (c.toNat:Int)] w fun e w'=>Kp R w w'∧
   (((l.drop i).head?≠some c∧e=.returned (.bool false)∧Rd R l i ts A w')∨(i<l.length∧l.drop i=c::l.drop (i+1)∧e=.returned (.bool true)∧Rd R l (i+1) ts A w')):=by
 obtain⟨h0,h1,_,hf⟩:=hr.cells
 have hf1:=hf 1
 have HR:Hid (Rd R l i ts A w):=hr
 clear hr hf
 by_cases hil:i<l.length
 ·have hsz:i<(⟨l.toArray⟩:ByteArray).size:=by show i<l.toArray.size;simpa using hil
  have hxe:(⟨l.toArray⟩:ByteArray)[i]'hsz=l[i]:=rfl
  have hne:((i:Int)==(l.length:Int))=false:=by simp;omega
  have hli:(i:Int)<(l.length:Int):=by omega
  by_cases hc:l[i]=c
  ·have hb:(((((⟨l.toArray⟩:ByteArray)[i]'hsz).toNat:Int)) != (c.toNat:Int))=false:=by rw[hxe,hc];simp
   have HD:Hid (l.drop i=c::l.drop (i+1)):=by show _=_;rw[List.drop_eq_getElem_cons hil,hc]
   clear hxe hc
   go_enter Tryz.func177,Tryz.ntmps177
   go_wp2
   go_quiet (fail)
   go_wp2
   go_ret
   refine⟨?_,Or.inr ⟨hil,HD.out,rfl,?_⟩⟩
   ·exact((Kp.refl R w).setR 1 _).drewN _
   ·exact(HR.out.place (i+1)).drewN _
  ·have hb:(((((⟨l.toArray⟩:ByteArray)[i]'hsz).toNat:Int)) != (c.toNat:Int))=true:=by
    rw[hxe,bne_iff_ne]
    intro e
    exact hc (UInt8.toNat_inj.1 (by omega))
   have HD:Hid ((l.drop i).head?≠some c):=by show _≠_;rw[yl hil];simpa using hc
   clear hxe hc
   go_enter Tryz.func177,Tryz.ntmps177
   go_wp2
   go_quiet (fail)
   go_wp2
   go_ret
   exact⟨(Kp.refl R w).drewN _,Or.inl ⟨HD.out,rfl,HR.out.drewN _⟩⟩
 ·have hie:i=l.length:=by omega
  have HD:Hid ((l.drop i).head?≠some c):=by show _≠_;rw[xc (by omega)];simp
  subst hie
  have hne:((l.length:Int)==(l.length:Int))=true:=by simp
  clear hil
  go_enter Tryz.func177,Tryz.ntmps177
  go_wp2
  go_quiet (fail)
  go_wp2
  go_ret
  exact⟨(Kp.refl R w).drewN _,Or.inl ⟨HD.out,rfl,HR.out.drewN _⟩⟩
def cap1(n:Nat)(d:UInt8):Nat:=min (10*n+(d.toNat-48)) 21
def V1(ds:List UInt8):Int:=(ds.foldl cap1 0:Nat)
theorem zfF(ds:List UInt8)(n:Nat)(h:n≤21):ds.foldl cap1 n≤21:=by
 induction ds generalizing n with
 | nil=>exact h
 | cons d r ih=>exact ih _ (by unfold cap1;omega)
theorem ziS(ds:List UInt8):0≤V1 ds∧V1 ds≤21:=by
 have:=zfF ds 0 (by omega)
 unfold V1;omega
theorem zaD{p q:List UInt8}(h:∀x,x∈p→ZR x=true)(hq:∀x,q.head?=some x→ZR x=false):(p++q).takeWhile ZR=p∧(p++q).dropWhile ZR=q:=by
 induction p with
 | nil=>
  cases q with
  | nil=>exact⟨rfl,rfl⟩
  | cons b r=>have:=hq b rfl;simp[this]
 | cons a r ih=>
  have h1:=h a (by simp)
  have h2:=ih (fun x hx=>h x (by simp[hx]))
  simp[h1,h2.1,h2.2]
def YZ(l:List UInt8)(i k:Nat)(p:List UInt8):Prop:=l.drop i=p++l.drop k∧(∀x,x∈p→ZR x=true)∧k=i+p.length∧k≤l.length
theorem YZ.start{l:List UInt8}{i:Nat}(h:i≤l.length):YZ l i i []:=⟨rfl,fun x hx=>by simp at hx,by simp,h⟩
theorem YZ.step{l:List UInt8}{i k:Nat}{p:List UInt8}(h:YZ l i k p)(hk:k<l.length)(hd:ZR l[k]=true):YZ l i (k+1) (p++[l[k]]):=by
 obtain⟨h1,h2,h3,h4⟩:=h
 refine⟨by rw[h1,List.drop_eq_getElem_cons hk];simp,fun x hx=>?_,by simp;omega,by omega⟩
 rcases List.mem_append.1 hx with hx|hx
 ·exact h2 x hx
 ·rw[List.mem_singleton.1 hx];exact hd
theorem YZ.ends{l:List UInt8}{i k:Nat}{p:List UInt8}(h:YZ l i k p)(hk:∀x,(l.drop k).head?=some x→ZR x=false):(l.drop i).takeWhile ZR=p∧(l.drop i).dropWhile ZR=l.drop k:=by
 rw[h.1]
 exact zaD h.2.1 hk
theorem j8{s:List UInt8}(h:s.takeWhile ZR=[]):numR s=none:=by unfold numR;rw[h]
theorem j9{s r:List UInt8}(h:s.takeWhile ZR=48::r):numR s=none:=by unfold numR;rw[h];simp
theorem y4{s r:List UInt8}{d:UInt8}(h:s.takeWhile ZR=d::r)(hd:d≠48):numR s=some (.num (d::r),s.dropWhile ZR):=by unfold numR;rw[h];simp[hd]
def Yz:Value:=.iface 97 (.int .i64 2)
def Qw(R:Nat)(l:List UInt8)(i:Nat)(ts:Zl)(A:Nat→Prop)(w:World)(e:Ending)(w':World):Prop:=
 Kp R w w'∧((numR (l.drop i)=none∧e=.panicked [{ v:=Yz,recovered:=false }])∨
  ∃p k,numR (l.drop i)=some (.num p,l.drop k)∧i<k∧k≤l.length∧e=.returned (.int .i64 (V1 p))∧Rd R l k ts A w'∧w'.cell? ⟨R,2,none⟩=w.cell? ⟨R,2,none⟩)
set_option maxRecDepth 100000 in
set_option maxHeartbeats 4000000 in
theorem ze3(R:Nat)(l:List UInt8)(i:Nat)(ts:Zl)(A:Nat→Prop)(w:World)(hl:l.length≤200)(hi:i≤l.length)(hr:Rd R l i ts A w) :
  Calls Tryz.prog 224 #[.pointer (some ⟨R,0,none⟩)] w (Qw R l i ts A w):=by
 obtain⟨h0,h1,_,hf⟩:=hr.cells
 have HR:Hid (Rd R l i ts A w):=hr
 clear hr hf
 go_enter Tryz.func224,Tryz.ntmps224
 go_wp2
 clear h0 h1
 go_loopg [4] l.length (fun gg s4 wr=>∃k p,s4=.int .i64 (p.foldl cap1 0:Nat)∧Hid (YZ l i k p)∧Hid (Rd R l k ts A wr)∧Hid (Kp R w wr)∧l.length-k≤gg∧Hid (wr.cell? ⟨R,2,none⟩=w.cell? ⟨R,2,none⟩))
 case atStart=>exact⟨i,[],rfl,YZ.start hi,HR,Kp.refl _ _,by omega,rfl⟩
 case round=>
  clear HR
  obtain⟨k,p,rfl,hn,HR,HK,hg,H2⟩:=hrel
  obtain⟨h0,h1,_,hf⟩:=HR.out.cells
  have hf1:=hf 1
  clear hf
  have hcap:=zfF p 0 (by omega)
  have HC:Hid (∀d,(p++[d]).foldl cap1 0=min (10*p.foldl cap1 0+(d.toNat-48)) 21):=fun d=>by show _=_;rw[List.foldl_append];rfl
  have HV:Hid (V1 p=(p.foldl cap1 0:Nat)):=rfl
  generalize p.foldl cap1 0=n at *
  have hkl:=hn.out.2.2.2
  by_cases hil:k<l.length
  ·have hsz:k<(⟨l.toArray⟩:ByteArray).size:=by show k<l.toArray.size;simpa using hil
   have hxe:(⟨l.toArray⟩:ByteArray)[k]'hsz=l[k]:=rfl
   have hli:(k:Int)<(l.length:Int):=by omega
   have hcall:=fun m=>zdr ((⟨l.toArray⟩:ByteArray)[k]'hsz) (wr.drewN m)
   cases hd:ZR l[k]
   ·rw[hxe,hd]at hcall
    have HE:Hid (∀x,(l.drop k).head?=some x→ZR x=false):=fun x hx=>by
     rw[yl hil]at hx
     rw[←Option.some.inj hx];exact hd
    rw[←hxe]at hcall
    clear hxe hd
    rcases p with _|⟨d,r⟩
    ·have hki:k=i:=by have:=hn.out.2.2.1;simpa using this
     subst hki
     have HNO:Hid (numR (l.drop k)=none):=j8 (hn.out.ends HE.out).1
     have hkk:((k:Int)==(k:Int))=true:=by simp
     go_wp2
     go_quiet ((go_at_call 225;refine Calls.quiet_of_same (hcall _)))
     go_wp2
     exact⟨rfl,HK.out.drewN _,Or.inl ⟨HNO.out,rfl⟩⟩
    ·have hik:i<k:=by have:=hn.out.2.2.1;simp at this;omega
     have hiL:i<l.length:=by omega
     have hszi:i<(⟨l.toArray⟩:ByteArray).size:=by show i<l.toArray.size;simpa using hiL
     have hxi:(⟨l.toArray⟩:ByteArray)[i]'hszi=l[i]:=rfl
     have hld:l[i]=d:=by
      have h1:=hn.out.1
      rw[List.drop_eq_getElem_cons hiL]at h1
      exact(List.cons.inj h1).1
     have hki:((k:Int)==(i:Int))=false:=by simp;omega
     have hki':¬(k:Int)=(i:Int):=by omega
     have hli2:(i:Int)<(l.length:Int):=by omega
     have hTW:=hn.out.ends HE.out
     by_cases h48:d=48
     ·subst h48
      have HNO:Hid (numR (l.drop i)=none):=j9 hTW.1
      have h48':((((⟨l.toArray⟩:ByteArray)[i]'hszi).toNat:Int)==48)=true:=by rw[hxi,hld];rfl
      have h48i:((l[i].toNat:Int)==48)=true:=by rw[hld];rfl
      clear hTW hxi hld
      go_wp2
      go_quiet ((go_at_call 225;refine Calls.quiet_of_same (hcall _)))
      go_wp2
      exact⟨rfl,HK.out.drewN _,Or.inl ⟨HNO.out,rfl⟩⟩
     ·have HSO:Hid (numR (l.drop i)=some (.num (d::r),l.drop k)):=by
       show _=_
       rw[y4 hTW.1 h48,hTW.2]
      have hne:¬l[i].toNat=48:=by rw[hld];intro e;exact h48 (UInt8.toNat_inj.1 e)
      have h48':((((⟨l.toArray⟩:ByteArray)[i]'hszi).toNat:Int)==48)=false:=by rw[hxi];simp;omega
      have h48i:((l[i].toNat:Int)==48)=false:=by simp;omega
      clear hTW hxi hld hne
      go_wp2
      go_quiet ((go_at_call 225;refine Calls.quiet_of_same (hcall _)))
      go_wp2
      go_ret
      exact⟨HK.out.drewN _,Or.inr ⟨_,k,HSO.out,hik,hkl,by rw[HV.out];rfl,HR.out.drewN _,H2.out⟩⟩
   ·rw[hxe,hd]at hcall
    have HS:Hid (YZ l i (k+1) (p++[l[k]])):=hn.out.step hil hd
    have hdb:48≤l[k].toNat∧l[k].toNat≤57:=by simpa[ZR]using hd
    have hd1:(48:Int)≤(l[k].toNat:Int):=by omega
    have hd2:(l[k].toNat:Int)≤57:=by omega
    have HCD:=HC.out l[k]
    rw[←hxe]at hcall
    by_cases hm:10*(n:Int)+((l[k].toNat:Int)-48)≤21
    ·go_wp2
     go_quiet ((go_at_call 225;refine Calls.quiet_of_same (hcall _)))
     go_wp2
     clear hcall
     go_quiet (fail)
     go_wp2
     go_roundg (l.length-(k+1))
     case measure=>omega
     case rel=>exact⟨k+1,p++[l[k]],by rw[HCD];go_num,HS,(HR.out.place (k+1)).drewN _,(HK.out.setR 1 _).drewN _,qq1 _,(World.cell?_setCell_other wr ⟨R,1,none⟩ ⟨R,2,none⟩ _ (by simp)).trans H2.out⟩
    ·go_wp2
     go_quiet ((go_at_call 225;refine Calls.quiet_of_same (hcall _)))
     go_wp2
     clear hcall
     go_quiet (fail)
     go_wp2
     go_roundg (l.length-(k+1))
     case measure=>omega
     case rel=>exact⟨k+1,p++[l[k]],by rw[HCD];go_num,HS,(HR.out.place (k+1)).drewN _,(HK.out.setR 1 _).drewN _,qq1 _,(World.cell?_setCell_other wr ⟨R,1,none⟩ ⟨R,2,none⟩ _ (by simp)).trans H2.out⟩
  ·have hke:k=l.length:=by omega
   have HE:Hid (∀x,(l.drop k).head?=some x→ZR x=false):=fun x hx=>by rw[xc (by omega)]at hx;cases hx
   have hli:decide ((k:Int)<(l.length:Int))=false:=decide_eq_false (by omega)
   have HKE:Hid (k=l.length):=hke
   clear hke
   rcases p with _|⟨d,r⟩
   ·have hki:k=i:=by have:=hn.out.2.2.1;simpa using this
    subst hki
    have HNO:Hid (numR (l.drop k)=none):=j8 (hn.out.ends HE.out).1
    have hkk:((k:Int)==(k:Int))=true:=by simp
    go_wp2
    go_quiet (fail)
    go_wp2
    exact⟨rfl,HK.out.drewN _,Or.inl ⟨HNO.out,rfl⟩⟩
   ·have hik:i<k:=by have:=hn.out.2.2.1;simp at this;omega
    have hiL:i<l.length:=by omega
    have hszi:i<(⟨l.toArray⟩:ByteArray).size:=by show i<l.toArray.size;simpa using hiL
    have hxi:(⟨l.toArray⟩:ByteArray)[i]'hszi=l[i]:=rfl
    have hld:l[i]=d:=by
     have h1:=hn.out.1
     rw[List.drop_eq_getElem_cons hiL]at h1
     exact(List.cons.inj h1).1
    have hki:((k:Int)==(i:Int))=false:=by simp;omega
    have hki':¬(k:Int)=(i:Int):=by omega
    have hli2:(i:Int)<(l.length:Int):=by omega
    have hTW:=hn.out.ends HE.out
    by_cases h48:d=48
    ·subst h48
     have HNO:Hid (numR (l.drop i)=none):=j9 hTW.1
     have h48':((((⟨l.toArray⟩:ByteArray)[i]'hszi).toNat:Int)==48)=true:=by rw[hxi,hld];rfl
     have h48i:((l[i].toNat:Int)==48)=true:=by rw[hld];rfl
     clear hTW hxi hld
     go_wp2
     go_quiet (fail)
     go_wp2
     exact⟨rfl,HK.out.drewN _,Or.inl ⟨HNO.out,rfl⟩⟩
    ·have HSO:Hid (numR (l.drop i)=some (.num (d::r),l.drop k)):=by
      show _=_
      rw[y4 hTW.1 h48,hTW.2]
     have hne:¬l[i].toNat=48:=by rw[hld];intro e;exact h48 (UInt8.toNat_inj.1 e)
     have h48':((((⟨l.toArray⟩:ByteArray)[i]'hszi).toNat:Int)==48)=false:=by rw[hxi];simp;omega
     have h48i:((l[i].toNat:Int)==48)=false:=by simp;omega
     clear hTW hxi hld hne
     go_wp2
     go_quiet (fail)
     go_wp2
     go_ret
     exact⟨HK.out.drewN _,Or.inr ⟨_,k,HSO.out,hik,hkl,by rw[HV.out];rfl,HR.out.drewN _,H2.out⟩⟩
end
end Go.Proofs.YtlfbdjeojgbniaaGreatDoor

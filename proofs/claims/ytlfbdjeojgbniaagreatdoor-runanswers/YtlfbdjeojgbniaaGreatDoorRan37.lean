import Derived.Test.YtlfbdjeojgbniaaGreatDoorRan36
import Derived.Test.YtlfbdjeojgbniaaGreatDoorRan22
namespace Go.Proofs.YtlfbdjeojgbniaaGreatDoor
section
open Go.RowKit Go.Deep Go.Extern.Stop Go.Stop Go.Extern
theorem yp(w:World)(b j:Nat)(v:Value)(c:Array Value)(t:TypeId)(h:w.heap[b]?=some (.cells c t (0,0))):(w.setCell ⟨b,j,none⟩ v).heap[b]?=some (.cells (c.setIfInBounds j v) t (0,0)):=by
 simp[World.setCell,Array.getElem?_modify,h]
theorem zbU{w:World}{b:Nat}{v:Value}{t:TypeId}(h:w.heap[b]?=some (.cells #[v] t (0,0))):w.frozen? ⟨b,0,none⟩=false:=by
 unfold World.frozen?
 rw[h]
 rfl
theorem below4{w:World}(a b c d:Obj):Below w.heap.size w ((((w.alloc a).alloc b).alloc c).alloc d):=
 ((((qq4 _ _).alloc (qq1 _) _).alloc (by simp) _).alloc (by simp <;> omega) _).alloc (by simp <;> omega) _
theorem zeh(n:Int)(h1:1≤n)(h8:n≤8){q:Addr}(w:World)(hv:Vars q w):Calls Tryz.prog 61 #[.agg #[.iface 97 (.int .i64 n)]] w fun e w'=>e=.returned (.string ⟨(Ye n).toArray⟩)∧Below w.heap.size w w':=by
 have b2:Below w.heap.size w ((w.alloc (.cells #[.iface 97 (.int .i64 n)] 132)).alloc (.cells #[.int .i64 0] 97)):=((qq4 _ _).alloc (qq1 _) _).alloc (by simp) _
 have k2:((w.alloc (.cells #[.iface 97 (.int .i64 n)] 132)).alloc (.cells #[.int .i64 0] 97)).heap[w.heap.size+1]?=some (.cells #[.int .i64 0] 97 (0,0)):=by
  have:=blk_alloc_new (w.alloc (.cells #[.iface 97 (.int .i64 n)] 132)) (.cells #[.int .i64 0] 97)
  rwa [nblk_alloc]at this
 have hA:=ziq n ⟨w.heap.size+1,0,none⟩ (.int .i64 0) ((w.alloc (.cells #[.iface 97 (.int .i64 n)] 132)).alloc (.cells #[.int .i64 0] 97)) (hv.typ.later b2) (yH k2) (zbU k2)
 have hA2:=hA.mono (R':=fun e w'=>e=.returned (.bool true)∧w'.cell? ⟨w.heap.size+1,0,none⟩=some (.int .i64 n)∧Below w.heap.size w w') (fun e w' ⟨e1,e2⟩=>by
  subst e2
  have b6:=below4 (w:=((w.alloc (.cells #[.iface 97 (.int .i64 n)] 132)).alloc (.cells #[.int .i64 0] 97))) (.cells #[.pointer (some ⟨w.heap.size+1,0,none⟩)] 178) (.cells #[.pointer (some ⟨16,178,none⟩),.pointer (some ⟨((w.alloc (.cells #[.iface 97 (.int .i64 n)] 132)).alloc (.cells #[.int .i64 0] 97)).heap.size,0,none⟩),.int .u64 150] 213) (.cells #[.pointer (some ⟨16,178,none⟩),.pointer (some ⟨((w.alloc (.cells #[.iface 97 (.int .i64 n)] 132)).alloc (.cells #[.int .i64 0] 97)).heap.size,0,none⟩),.int .u64 150] 213) (.cells #[.iface 97 (.int .i64 n)] 132)
  have b7:=b6.alloc b6.size (.cells #[.int .i64 n] 97)
  have k7:=(b7.block _ (lt_of_block k2)).trans k2
  have k8:=yp _ (w.heap.size+1) 0 (.int .i64 n) _ _ k7
  refine⟨e1,yH k8,(b2.trans (b7.mono b2.size)).setCell (p:=⟨w.heap.size+1,0,none⟩) (by show w.heap.size≤w.heap.size+1;omega) _⟩)
 have hE:=fun wx=>zdf n h1 h8 wx
 clear hA hv b2 k2
 go_enter Tryz.func61,Tryz.ntmps61
 go_wp2_with (first|(go_at_call 98;refine hA2.mono ?_;clear hA2;rintro e w2 ⟨rfl,hc,hb2⟩;have HB2:Hid (Below w.heap.size w w2):=hb2;clear hb2)|(go_at_call 99;refine(hE _).mono ?_;rintro e w3 ⟨rfl,hb3⟩;have HB3:Hid (Below w.heap.size w w3):=HB2.out.trans (hb3.mono HB2.out.size);clear hb3))
 go_ret
 exact⟨rfl,HB3.out⟩
theorem zeg{q:Addr}(w:World)(hv:Vars q w):Calls Tryz.prog 61 #[.agg #[badV q]] w fun e w'=>e=.returned (.string ⟨badT.toArray⟩)∧Below w.heap.size w w':=by
 have b2:Below w.heap.size w ((w.alloc (.cells #[badV q] 132)).alloc (.cells #[.int .i64 0] 97)):=((qq4 _ _).alloc (qq1 _) _).alloc (by simp) _
 have k2:((w.alloc (.cells #[badV q] 132)).alloc (.cells #[.int .i64 0] 97)).heap[w.heap.size+1]?=some (.cells #[.int .i64 0] 97 (0,0)):=by
  have:=blk_alloc_new (w.alloc (.cells #[badV q] 132)) (.cells #[.int .i64 0] 97)
  rwa [nblk_alloc]at this
 have k1:((w.alloc (.cells #[badV q] 132)).alloc (.cells #[.int .i64 0] 97)).heap[w.heap.size]?=some (.cells #[badV q] 132 (0,0)):=(blk_alloc_lt _ _ _ (by simp)).trans (blk_alloc_new _ _)
 have hA:=ziX q ⟨w.heap.size+1,0,none⟩ (.int .i64 0) ((w.alloc (.cells #[badV q] 132)).alloc (.cells #[.int .i64 0] 97)) (hv.typ.later b2) (yH k2) (zbU k2)
 have hA2:=hA.mono (R':=fun e w'=>e=.returned (.bool false)∧w'.cell? ⟨w.heap.size,0,none⟩=some (badV q)∧w'.cell? q=some (.string ⟨badT.toArray⟩)∧Below w.heap.size w w') (fun e w' ⟨e1,e2⟩=>by
  subst e2
  have b6:=below4 (w:=((w.alloc (.cells #[badV q] 132)).alloc (.cells #[.int .i64 0] 97))) (.cells #[.pointer (some ⟨w.heap.size+1,0,none⟩)] 178) (.cells #[.pointer (some ⟨16,178,none⟩),.pointer (some ⟨((w.alloc (.cells #[badV q] 132)).alloc (.cells #[.int .i64 0] 97)).heap.size,0,none⟩),.int .u64 150] 213) (.cells #[.pointer (some ⟨16,178,none⟩),.pointer (some ⟨((w.alloc (.cells #[badV q] 132)).alloc (.cells #[.int .i64 0] 97)).heap.size,0,none⟩),.int .u64 150] 213) (.cells #[badV q] 132)
  have hb:=b2.trans (b6.mono b2.size)
  have k6:=(b6.block _ (lt_of_block k1)).trans k1
  exact⟨e1,yH k6,(hb.cell (p:=q) hv.qlt).trans hv.txt,hb⟩)
 have mS:=Tryz.methodErrorS
 clear hA hv b2 k1 k2
 unfold badV at hA2 ⊢
 unfold badT at hA2 ⊢
 go_enter Tryz.func61,Tryz.ntmps61
 go_wp2_with (first|(go_at_call 98;refine hA2.mono ?_;clear hA2;rintro e w2 ⟨rfl,hc,hq,hb2⟩;have HB2:Hid (Below w.heap.size w w2):=hb2;clear hb2)|go_in)
 go_ret
 exact⟨rfl,HB2.out⟩
end
section
open Go.RowKit Go.Deep
theorem jU{ts:Zl}(hg:Good ts)(hands:Nat)(g:Gs)(h pick:Nat):(gdeeds ts hands g h pick).length≤31:=by
 unfold gdeeds
 split
 ·simp
 split
 ·split
  ·simp
  ·unfold Xn
   rw[List.length_cons,List.length_map,List.length_take]
   have:=zdD ts g.S (g.task h).toNat
   have:=hg.le
   omega
 split
 ·simp
 split
 ·simp
 split
 ·simp
 split
 ·simp
 ·simp
theorem jF{l:List Deed}(h:∀d,d∈l→ZI d=0)(hl:l.length≤31):(rowT l).length≤20000:=by
 unfold rowT
 split
 ·simp
 ·have key:∀m:List Deed,(∀d,d∈m→ZI d=0)→(m.flatMap (fun x=>Zn x++[59])).length≤18*m.length:=by
   intro m
   induction m with
   | nil=>intro _;simp
   | cons d r ih=>
    intro h
    have h1:=jq (h d (by simp))
    have h2:=ih (fun x hx=>h x (by simp[hx]))
    rw[List.flatMap_cons,qb,qb]
    have e1:([59]:List UInt8).length=1:=rfl
    have e2:(d::r).length=r.length+1:=rfl
    omega
  have:=key l h
  omega
theorem zdi:∀l:List Deed,(∀d,d∈l→ZI d=0)→Y7 l=0:=by
 intro l
 induction l with
 | nil=>intro _;rfl
 | cons d r ih=>
  intro h
  unfold Y7
  rw[if_pos (h d (by simp))]
  exact ih (fun x hx=>h x (by simp[hx]))
theorem zc9{l:List Deed}(h:∀d,d∈l→ZI d=0)(hl:l.length≤1000):ZZ l=0:=by
 unfold ZZ
 rw[if_neg (by omega)]
 exact zdi l h
theorem qd(t:Tree)(h:∀ds,ds∈t.leaves→1≤V1 ds∧V1 ds≤20):0≤t.span V1∧t.span V1≤t.work V1∧t.work V1≤20*(t.count:Int):=by
 induction t with
 | num ds=>
  have:=h ds (by simp[Tree.leaves])
  simp only[Tree.span,Tree.work,Tree.count]
  omega
 | seq a b iha ihb=>
  have h1:=iha (fun d hd=>h d (by simp[Tree.leaves,hd]))
  have h2:=ihb (fun d hd=>h d (by simp[Tree.leaves,hd]))
  simp only[Tree.span,Tree.work,Tree.count]
  omega
 | par a b iha ihb=>
  have h1:=iha (fun d hd=>h d (by simp[Tree.leaves,hd]))
  have h2:=ihb (fun d hd=>h d (by simp[Tree.leaves,hd]))
  simp only[Tree.span,Tree.work,Tree.count]
  omega
theorem zfG{ts:Zl}{p q:Int}(h:Zc ts p q)(hq:q≠0):1≤q∧q≤8:=by
 cases h using Zc.elim with
 | full=>omega
 | task k _ _ _ h4=>
  unfold ZJ ZT at h4 ⊢
  split
  ·omega
  ·split
   ·omega
   ·split
    ·rename_i a b c;rw[if_neg a,if_neg b,if_pos c]at h4;exact absurd rfl h4
    ·omega
 | ring=>omega
 | none=>exact absurd rfl hq
theorem zfR{l:List UInt8}{q:Int}(h:Yg l q)(hq:q≠0):1≤q∧q≤8:=by
 rcases h with⟨_,rfl⟩|⟨_,_,rfl⟩|⟨t,_,_,_,rfl⟩
 ·omega
 ·omega
 ·unfold ZY at hq ⊢
  split
  ·omega
  ·split
   ·omega
   ·rename_i a b;rw[if_neg a,if_neg b]at hq;exact absurd rfl hq
theorem zaO{ts:Zl}{p q:Int}(h:Zc (ts.take 31) p q):Zc ts p q:=by
 by_cases hl:ts.length≤31
 ·rw[List.take_of_length_le hl]at h;exact h
 ·obtain⟨rfl,rfl⟩:=h.det (Zc.full (by simp;omega))
  exact Zc.full (by omega)
theorem zfx{ts:Zl}{p:Int}(h:Zc (ts.take 31) p 0):ts.take 31=ts:=by
 have:=(h.ok rfl).2.1
 rw[List.length_take]at this
 exact List.take_of_length_le (by omega)
theorem jz{ts:Zl}(hc:Zc ts 0 0):(Yq ts).length≤20000:=by
 obtain⟨_,h30,herr,_⟩:=hc.ok rfl
 have hsm:∀k,k<ts.length→Small ((ts.getD k (0,[])).1,Za ts k)∧(Za ts k).length≤30:=fun k hk=>by
  obtain⟨h1,h2,h3⟩:=xa (herr k hk)
  have:=xY _ _ h3 h2
  exact⟨⟨by simp only;omega,fun z hz=>by have:=h2 z hz;omega⟩,by omega⟩
 have:=xz ts (fun k hk=>x9 _ (hsm k hk).1 (hsm k hk).2) ts.length (qq1 _)
 rw[xy]at this
 omega
theorem y3(n:Nat)(h:n<10000):(digs (n:Int)).length≤4:=by
 unfold digs
 rw[Int.toNat_natCast]
 by_cases h1:n<10
 ·rw[zA n h1];simp
 rw[yq n (by omega)]
 by_cases h2:n / 10<10
 ·rw[zA _ h2];simp
 rw[yq (n / 10) (by omega)]
 by_cases h3:n / 10 / 10<10
 ·rw[zA _ h3];simp
 rw[yq (n / 10 / 10) (by omega),zA _ (by omega)]
 simp
theorem jN(a b:Nat)(ha:a<10000)(hb:b<10000):(twoT (a:Int) (b:Int)).length≤9:=by
 unfold twoT
 have:=y3 a ha
 have:=y3 b hb
 simp
 omega
theorem zZ(l m:List UInt8):(⟨l.toArray⟩:ByteArray)++⟨m.toArray⟩=⟨(l++m).toArray⟩:=by
 apply ByteArray.ext
 simp
set_option maxRecDepth 100000 in
theorem zdK{q:Addr}(a b:Nat)(ha:a<10000)(hb:b<10000)(w:World)(hv:Vars q w):Calls Tryz.prog 87 #[.int .i64 (a:Int),.int .i64 (b:Int)] w fun e w'=>e=.returned (.string ⟨(twoT (a:Int) (b:Int)).toArray⟩)∧Below w.heap.size w w':=by
 have h1:=qN a (by omega) w hv
 have h2:Hid (∀wx,Below w.heap.size w wx→Calls Tryz.prog 95 #[.int .i64 (b:Int)] wx fun e w'=>e=.returned (.string ⟨(digs (b:Int)).toArray⟩)∧Below wx.heap.size wx w'):=fun wx hbx=>qN b (by omega) wx (hv.later hbx)
 have l1:=y3 a ha
 have l2:=y3 b hb
 have HT:Hid ((⟨(digs (a:Int)).toArray⟩:ByteArray)++⟨#[32]⟩++⟨(digs (b:Int)).toArray⟩=⟨(twoT (a:Int) (b:Int)).toArray⟩):=by
  show _=_
  rw[show(⟨#[32]⟩:ByteArray)=⟨[(32:UInt8)].toArray⟩ from rfl,zZ,zZ]
  simp[twoT]
 clear hv ha hb
 go_enter Tryz.func87,Tryz.ntmps87
 go_wp2_with fail
 refine h1.mono ?_
 clear h1
 rintro e w1 ⟨rfl,hb1⟩
 have h3:=h2.out w1 hb1
 clear h2
 go_wp2_with fail
 refine h3.mono ?_
 clear h3
 rintro e w2 ⟨rfl,hb2⟩
 go_wp2
 go_ret
 exact⟨by rw[HT.out];rfl,hb1.trans (hb2.mono hb1.size)⟩
theorem zeH(v:Value)(ts:Zl)(w:World)(hp:Zf w v ts)(hc:Zc ts 0 0)(hands room:Int)(hh:hands<1∨6<hands) :
  Calls Tryz.prog 13 #[v,.int .i64 hands,.int .i64 room] w fun e w'=>e=.returned (.tuple #[.pointer none,.iface 97 (.int .i64 1)])∧Below w.heap.size w w':=by
 have hjn:=zdE v ts w hp hc
 have HPK:Hid (∀w1,Calls Tryz.prog 42 #[.int .i64 hands] w1 fun e w'=>e=.returned (.tuple #[.pointer none,.iface 97 (.int .i64 1)])∧w'=w1):=fun w1=>Prk.zfD hands w1 hh
 obtain⟨pa,pc,rfl⟩:∃a c,v=.slice a ts.length c:=by obtain⟨hl,a,c,hv,-⟩:=hp;exact⟨a,c,hv⟩
 clear hp hc hh
 go_enter Tryz.func13,Tryz.ntmps13
 go_wp2_with (first|(go_at_call 12;refine hjn.mono ?_;clear hjn;rintro e w1 ⟨J,M,A,D,C,rfl,-,-,hb1⟩;have hpk:=HPK.out w1;clear HPK)|(go_at_call 42;refine hpk.mono ?_;clear hpk;rintro e w1 ⟨rfl,rfl⟩))
 go_ret2
 exact⟨rfl,hb1⟩
end
section
open Go.RowKit Go.Deep
def Qr(q:Addr)(R:Desk→List UInt8→Prop)(d:Desk)(o:List UInt8)(ev:Value):Prop:=
 (ev=.nilIface∧R d o)∨(∃n:Int,1≤n∧n≤8∧ev=.iface 97 (.int .i64 n)∧R d (Ye n))∨(ev=badV q∧R d badT)
def Zi(q:Addr)(W0:World)(Y X:Nat→Prop)(S:Nat)(R:Desk→List UInt8→Prop)(w:World)(e:Ending)(w':World):Prop:=
 ∃d' o ev,e=.returned (.tuple #[.string ⟨o.toArray⟩,ev])∧Qr q R d' o ev∧o.length≤20000∧YJ W0 Y X S d' w w'
variable {q:Addr} {W0:World} {Y X:Nat→Prop} {S:Nat} {d:Desk} {w:World}
theorem Zi.told{R:Desk→List UInt8→Prop}{d':Desk}{o:List UInt8}{w':World}(hr:R d' o)(hl:o.length≤20000)(hm:YJ W0 Y X S d' w w'):Zi q W0 Y X S R w (.returned (.tuple #[.string ⟨o.toArray⟩,.nilIface])) w':=⟨d',o,_,rfl,Or.inl ⟨rfl,hr⟩,hl,hm⟩
theorem Zi.err{R:Desk→List UInt8→Prop}{d':Desk}{n:Int}{w':World}(h1:1≤n)(h8:n≤8)(hr:R d' (Ye n))(hm:YJ W0 Y X S d' w w'):Zi q W0 Y X S R w (.returned (.tuple #[.string ⟨#[]⟩,.iface 97 (.int .i64 n)])) w':=⟨d',[],_,rfl,Or.inr (Or.inl ⟨n,h1,h8,rfl,hr⟩),by simp,hm⟩
theorem Zi.bad{R:Desk→List UInt8→Prop}{d':Desk}{w':World}(hr:R d' badT)(hm:YJ W0 Y X S d' w w'):Zi q W0 Y X S R w (.returned (.tuple #[.string ⟨#[]⟩,badV q])) w':=⟨d',[],_,rfl,Or.inr (Or.inr ⟨rfl,hr⟩),by simp,hm⟩
theorem zV{w:World}{pv gv:Value}(h:w.heap[S]?=some (.cells #[pv,gv] 51 (0,0))):w.cell? ⟨S,0,none⟩=some pv∧w.cell? ⟨S,1,none⟩=some gv∧w.frozen? ⟨S,0,none⟩=false∧w.frozen? ⟨S,1,none⟩=false:=by
 refine⟨?_,?_,?_,?_⟩
 ·unfold World.cell?;rw[h];rfl
 ·unfold World.cell?;rw[h];rfl
 ·unfold World.frozen?;rw[h];rfl
 ·unfold World.frozen?;rw[h];rfl
theorem zF{w:World}{v:Value}{ts:Zl}(h:Zf w v ts):∃a c,v=.slice a ts.length c:=by
 obtain⟨_,a,c,hv,_⟩:=h
 exact⟨a,c,hv⟩
theorem ZB.belowV(h:ZB W0 Y X S d w)(hv:Vars q W0):Vars q w:=hv.later h.bel
set_option maxRecDepth 100000 in
set_option maxHeartbeats 2000000 in
theorem zbC(h:ZB W0 Y X S d w)(hv:Vars q W0)(l:List UInt8)(hl:l.length≤1048576) :
  Calls Tryz.prog 49 #[.pointer (some ⟨S,0,none⟩),.string ⟨l.toArray⟩] w (Zi q W0 Y X S (YH d l) w):=by
 have hpa:=zgA l w (by omega)
 have HD:Hid (ZB W0 Y X S d w):=h
 have HV:Hid (Vars q W0):=hv
 clear h hv
 go_enter Tryz.func49,Tryz.ntmps49
 go_wp2_with fail
 refine hpa.mono ?_
 clear hpa
 rintro e w1 ⟨hb1,⟨n,hn,hwe,rfl⟩|⟨t,tv,hok,rfl,hpn⟩⟩
 ·have HN:Hid (Yg l n∧n≠0):=⟨hwe,hn⟩
  have HB:Hid (Below w.heap.size w w1):=hb1
  rw[zu hn]
  clear hwe hb1 hn
  go_wp2
  go_ret2
  obtain⟨hwe,hn⟩:=HN.out
  have hq:=zfR hwe hn
  exact Zi.err hq.1 hq.2 (Or.inl ⟨n,hn,hwe,rfl,rfl⟩) (HD.out.stays HB.out)
 ·have hf:=qd t hok.facts.2
  have hcn:=hok.facts.1
  obtain⟨tw,htw⟩:=qc (show 0≤t.work V1 by omega)
  obtain⟨tp,htp⟩:=qc hf.1
  obtain⟨a,c,rfl⟩:=zF hpn.at
  have h2:=HD.out.later hb1
  obtain⟨pv,gv,e1,-,-⟩:=h2.mem
  obtain⟨c0,-,f0,-⟩:=zV e1
  have HM:Hid (YJ W0 Y X S { d with ts:=t.lay V1 [] } w (w1.setCell ⟨S,0,none⟩ (.slice a (t.lay V1 []).length c))):=HD.out.putPlan hb1 hpn hok.check
  have HP:Hid (∀wx,wx=w1.setCell ⟨S,0,none⟩ (.slice a (t.lay V1 []).length c)→Calls Tryz.prog 87 #[.int .i64 (tw:Int),.int .i64 (tp:Int)] wx fun e w'=>e=.returned (.string ⟨(twoT (tw:Int) (tp:Int)).toArray⟩)∧Below wx.heap.size wx w'):=fun wx e=>by
   subst e
   obtain⟨Y',X',hd',-⟩:=HM.out
   exact zdK tw tp (by omega) (by omega) _ (HV.out.later hd'.bel)
  have HW:Hid (YH d l { d with ts:=t.lay V1 [] } (twoT (tw:Int) (tp:Int))):=Or.inr ⟨t,hok,rfl,by rw[htw,htp]⟩
  have HL:Hid ((twoT (tw:Int) (tp:Int)).length≤20000):=qq2 (jN tw tp (by omega) (by omega)) (by omega)
  rw[htw,htp]
  clear e1 h2 hpn hb1 hf hok hcn htw htp
  generalize (t.lay V1 []).length=n at *
  generalize (twoT (tw:Int) (tp:Int))=o at *
  go_wp2_with (first|(go_at_call 87;refine(HP.out _ rfl).mono ?_;rintro e w3 ⟨rfl,hb3⟩;have HB3:Hid (Below (w1.setCell ⟨S,0,none⟩ (.slice a n c)).heap.size (w1.setCell ⟨S,0,none⟩ (.slice a n c)) w3):=hb3;clear hb3))
  go_ret2
  exact Zi.told HW.out HL.out (HM.out.later HB3.out)
set_option maxRecDepth 100000 in
set_option maxHeartbeats 2000000 in
theorem zcI(h:ZB W0 Y X S d w)(hv:Vars q W0)(l:List UInt8)(hl:l.length≤1048576) :
  Calls Tryz.prog 50 #[.pointer (some ⟨S,0,none⟩),.string ⟨l.toArray⟩] w (Zi q W0 Y X S (YQ d l) w):=by
 have hpa:=zfb l w hl (h.belowV hv).syn (h.belowV hv).len
 have HD:Hid (ZB W0 Y X S d w):=h
 clear h hv
 go_enter Tryz.func50,Tryz.ntmps50
 go_wp2_with fail
 refine hpa.mono ?_
 clear hpa
 rintro e w1 ⟨⟨ht,rfl⟩|⟨ts,p,n,ht,-,hc,⟨hn,rfl⟩|⟨rfl,v,rfl,hpn⟩⟩,hb1⟩
 ·rw[zu (by decide)]
  have HB:Hid (Below w.heap.size w w1):=hb1
  have HT:Hid (ZW l=none):=ht
  clear ht hb1
  go_wp2
  go_ret2
  exact Zi.err (by decide) (by decide) (Or.inl ⟨HT.out,rfl,rfl⟩) (HD.out.stays HB.out)
 ·rw[zu hn]
  have HN:Hid (ZW l=some ts∧Zc ts p n∧n≠0):=⟨ht,zaO hc,hn⟩
  have HB:Hid (Below w.heap.size w w1):=hb1
  clear ht hb1 hc hn
  go_wp2
  go_ret2
  obtain⟨ht,hc,hn⟩:=HN.out
  have hq:=zfG hc hn
  exact Zi.err hq.1 hq.2 (Or.inr ⟨ts,p,n,ht,hc,Or.inl ⟨hn,rfl,rfl⟩⟩) (HD.out.stays HB.out)
 ·have hc2:=zaO hc
  rw[zfx hc]at hpn
  obtain⟨rfl,-⟩:=hc2.ok rfl
  obtain⟨a,c,rfl⟩:=zF hpn.at
  have h2:=HD.out.later hb1
  obtain⟨pv,gv,e1,-,-⟩:=h2.mem
  obtain⟨c0,-,f0,-⟩:=zV e1
  have HM:Hid (YJ W0 Y X S { d with ts:=ts } w (w1.setCell ⟨S,0,none⟩ (.slice a ts.length c))):=HD.out.putPlan hb1 hpn hc2
  have HW:Hid (YQ d l { d with ts:=ts } okT):=Or.inr ⟨ts,0,0,ht,hc2,Or.inr ⟨rfl,rfl,rfl⟩⟩
  clear e1 h2 hpn hb1 hc hc2 ht
  go_wp2
  go_ret2
  exact Zi.told (o:=okT) HW.out (by decide) HM.out
theorem zh5(h:ZB W0 Y X S d w)(v:Value) :
  Calls Tryz.prog 52 #[.pointer (some ⟨S,0,none⟩),v] w (Zi q W0 Y X S (fun d' o=>d'=d∧o=Yq d.ts) w):=by
 obtain⟨pv,gv,e1,e2,-⟩:=h.mem
 have hp:=zdN pv d.ts w e2.at h.ok.pl
 have HL:Hid ((Yq d.ts).length≤20000):=jz h.ok.pl
 obtain⟨a,c,rfl⟩:=zF e2.at
 obtain⟨c0,-,f0,-⟩:=zV e1
 have HD:Hid (ZB W0 Y X S d w):=h
 clear e1 e2 h
 go_enter Tryz.func52,Tryz.ntmps52
 go_wp2_with (first|(go_at_call 90;refine hp.mono ?_;clear hp;rintro e w1 ⟨rfl,hb1⟩;have HB:Hid (Below w.heap.size w w1):=hb1;clear hb1))
 go_ret2
 exact Zi.told ⟨rfl,rfl⟩ HL.out (HD.out.stays HB.out)
end
section
open Go.RowKit Go.Deep
variable {q:Addr} {W0:World} {Y X:Nat→Prop} {S:Nat} {d:Desk} {w:World}
def XU(w:World)(v:Value)(ns:List Nat):Prop:=∃g c,v=.slice (some ⟨g,0,none⟩) ns.length c∧∀k,k<ns.length→w.cell? ⟨g,k,none⟩=some (.int .i64 (ns.getD k 0:Nat))
theorem ZQ.args{B:Nat}{w:World}{v:Value}{ns:List Nat}(h:ZQ B w v ns)(hn:0<ns.length):XU w v ns:=by
 rcases h.2 with⟨rfl,hz⟩|⟨g,cap,cur,rfl,hb,hh,hr⟩
 ·omega
 ·refine⟨g,cap,rfl,fun k hk=>?_⟩
  have:=World.ownsRow.cells h (g:=g) rfl k (.int .i64 (ns.getD k 0:Nat)) (by simp[natV,List.getD_eq_getElem?_getD,List.getElem?_eq_getElem hk])
  rwa [Addr.add_lit,Nat.zero_add]at this
set_option maxRecDepth 100000 in
theorem zgo(h:ZB W0 Y X S d w)(hv:Vars q W0)(v:Value) :
  Calls Tryz.prog 56 #[.pointer (some ⟨S,0,none⟩),v] w (Zi q W0 Y X S (fun d' o=>d'=d∧YP d o) w):=by
 obtain⟨pv,gv,e1,-,hg⟩:=h.mem
 obtain⟨-,c1,-,f1⟩:=zV e1
 have HD:Hid (ZB W0 Y X S d w):=h
 have HV:Hid (Vars q W0):=hv
 have hokg:=h.ok.gg
 clear e1 h hv
 obtain⟨dts,dg⟩:=d
 cases dg with
 | none=>
  obtain rfl:gv=.pointer none:=hg
  clear hokg
  go_enter Tryz.func56,Tryz.ntmps56
  go_wp2
  go_ret2
  exact Zi.err (by decide) (by decide) ⟨rfl,rfl⟩ (HD.out.stays (qq4 _ _))
 | some x=>
  obtain⟨t,hands,g⟩:=x
  obtain⟨G,rfl,hgx⟩:=hg
  have hle:=hgx.left
  have hun:=ye g.S t.length
  have h30:=((hokg t hands g rfl).1.ok rfl).2.1
  have HI:Hid (∀wx,Below w.heap.size w wx→Calls Tryz.prog 95 #[.int .i64 ((unseen g.S t.length:Nat):Int)] wx fun e w'=>e=.returned (.string ⟨(digs ((unseen g.S t.length:Nat):Int)).toArray⟩)∧Below wx.heap.size wx w'):=fun wx hbx=>qN _ (by omega) wx ((HD.out.belowV HV.out).later hbx)
  have HL:Hid ((digs ((unseen g.S t.length:Nat):Int)).length≤20000):=qq2 (y3 _ (by omega)) (by omega)
  have HR:Hid (YP ⟨dts,some (t,hands,g)⟩ (digs ((unseen g.S t.length:Nat):Int))):=rfl
  clear hgx hokg hun h30
  generalize unseen g.S t.length=n at *
  go_enter Tryz.func56,Tryz.ntmps56
  go_wp2_with (first|(go_at_call 15;refine hle.mono ?_;clear hle;rintro e w1 ⟨rfl,hb1⟩;have HB:Hid (Below w.heap.size w w1):=hb1;clear hb1)|(go_at_call 95;refine(HI.out _ HB.out).mono ?_;rintro e w2 ⟨rfl,hb2⟩;have HB2:Hid (Below w.heap.size w w2):=HB.out.trans (hb2.mono HB.out.size);clear hb2))
  go_ret2
  exact Zi.told ⟨rfl,HR.out⟩ HL.out (HD.out.stays HB2.out)
set_option maxRecDepth 100000 in
set_option maxHeartbeats 4000000 in
theorem zdC(h:ZB W0 Y X S d w)(v:Value)(n:Nat)(ha:XU w v [n]) :
  Calls Tryz.prog 54 #[.pointer (some ⟨S,0,none⟩),v] w (Zi q W0 Y X S (Yi d n) w):=by
 obtain⟨pv,gv,e1,e2,-⟩:=h.mem
 obtain⟨c0,-,f0,-⟩:=zV e1
 obtain⟨ga,gc,rfl,hcell⟩:=ha
 have hn0:w.cell? ⟨ga,0,none⟩=some (.int .i64 (n:Int)):=hcell 0 (by simp)
 have HD:Hid (ZB W0 Y X S d w):=h
 have HP:Hid (Zf w pv d.ts):=e2.at
 have HC:Hid (Zc d.ts 0 0):=h.ok.pl
 obtain⟨a,c,rfl⟩:=zF e2.at
 clear e1 e2 h hcell
 by_cases hn:1≤n∧n≤6
 ·have hg:∀k,Calls Tryz.prog 13 #[.slice a d.ts.length c,.int .i64 (n:Int),.int .i64 4] (w.drewN k) fun e w'=>∃G,e=.returned (.tuple #[.pointer (some ⟨G,0,none⟩),.nilIface])∧GX (fun k=>k<w.heap.size) G 4 n d.ts (gnew d.ts) w'∧Below w.heap.size w w':=fun k=>by
   have hb:Below w.heap.size w (w.drewN k):=⟨rfl,rfl,rfl,qq1 _,fun _ _=>rfl⟩
   refine(ziZ (room:=4) (HP.out.later hb) HC.out hn.1 hn.2 (by omega) (by omega)).mono ?_
   rintro e w' ⟨G,rfl,hgx,hb2⟩
   exact⟨G,rfl,hgx,hb.trans hb2⟩
  have HR:Hid (Yi d n { d with gang:=some (d.ts,n,gnew d.ts) } okT):=(by
   show Yi _ _ _ _
   unfold Yi
   rw[if_pos hn]
   exact⟨rfl,rfl⟩)
  have HN:Hid (1≤n∧n≤6):=hn
  clear hn HP HC
  generalize d.ts.length=m at *
  go_enter Tryz.func54,Tryz.ntmps54
  go_wp2
  go_region_with (first|(go_at_call 13;refine(hg _).mono ?_;clear hg;rintro e w1 ⟨G,rfl,hgx,hb1⟩;have HG:Hid (GX (fun k=>k<w.heap.size) G 4 n d.ts (gnew d.ts) w1):=hgx;have HB:Hid (Below w.heap.size w w1):=hb1;clear hgx hb1))
  all_goals
   have h2:=HD.out.later HB.out
   obtain⟨pv2,gv2,e1,-,-⟩:=h2.mem
   obtain⟨-,c1,-,f1⟩:=zV e1
   have HM:Hid (YJ W0 Y X S { d with gang:=some (d.ts,n,gnew d.ts) } w (w1.setCell ⟨S,1,none⟩ (.pointer (some ⟨G,0,none⟩)))):=HD.out.putGang HB.out HG.out HN.out.1 HN.out.2
   clear h2 e1
   go_wp2
   go_ret2
   exact Zi.told (o:=okT) HR.out (by decide) HM.out
 ·have hg:∀k,Calls Tryz.prog 13 #[.slice a d.ts.length c,.int .i64 (n:Int),.int .i64 4] (w.drewN k) fun e w'=>e=.returned (.tuple #[.pointer none,.iface 97 (.int .i64 1)])∧Below w.heap.size w w':=fun k=>by
   have hb:Below w.heap.size w (w.drewN k):=⟨rfl,rfl,rfl,qq1 _,fun _ _=>rfl⟩
   refine(zeH _ d.ts _ (HP.out.later hb) HC.out (n:Int) 4 (by omega)).mono ?_
   rintro e w' ⟨rfl,hb2⟩
   exact⟨rfl,hb.trans hb2⟩
  have HR:Hid (Yi d n d (Ye 1)):=(by
   show Yi _ _ _ _
   unfold Yi
   rw[if_neg hn]
   exact⟨rfl,rfl⟩)
  clear hn HP HC
  generalize d.ts.length=m at *
  go_enter Tryz.func54,Tryz.ntmps54
  go_wp2
  go_region_with (first|(go_at_call 13;refine(hg _).mono ?_;clear hg;rintro e w1 ⟨rfl,hb1⟩;have HB:Hid (Below w.heap.size w w1):=hb1;clear hb1))
  all_goals
   go_wp2
   go_ret2
   exact Zi.err (by decide) (by decide) HR.out (HD.out.stays HB.out)
end
section
open Go.RowKit Go.Deep
variable {q:Addr} {W0:World} {Y X:Nat→Prop} {S:Nat} {d:Desk} {w:World}
theorem drewS(w:World)(k:Nat):Below w.heap.size w (w.drewN k):=⟨rfl,rfl,rfl,qq1 _,fun _ _=>rfl⟩
theorem zeI{ts:Zl}{n:Nat}{e:Ending}(hc:Zc ts 0 0)(hn:1≤n∧n≤6)(h:Xg ts (n:Int) e):∃s:Nat,s≤600∧YO ts n s∧e=.returned (.tuple #[.int .i64 s,.nilIface]):=by
 rcases h with⟨p,q,hc',hq,_⟩|⟨_,_,_,s,hs,rfl⟩
 ·obtain⟨_,rfl⟩:=hc.det hc'
  refine absurd ?_ hq
  unfold gErr
  rw[if_pos rfl,if_neg (by omega)]
 ·rw[Int.toNat_natCast]at hs
  exact⟨s,hs.le hc.works.1 hn.1,hs,rfl⟩
theorem zgj{ts:Zl}{n:Nat}{e:Ending}(hc:Zc ts 0 0)(hn:¬(1≤n∧n≤6))(h:Xg ts (n:Int) e):e=.returned (.tuple #[.int .i64 0,.iface 97 (.int .i64 1)]):=by
 rcases h with⟨p,q,hc',hq,rfl⟩|⟨_,h1,h6,_⟩
 ·obtain⟨_,rfl⟩:=hc.det hc'
  have:gErr 0 (n:Int)=1:=by unfold gErr;rw[if_pos rfl,if_pos (by omega)]
  rw[this];rfl
 ·omega
theorem jS{ts:Zl}{n:Nat}{e:Ending}(hc:Zc ts 0 0)(hn:1≤n∧n≤6)(h:Xu ts (n:Int) e):∃(b:Nat) (ord:List Nat),b<10000∧Z9 ts ord∧(b:Int)=(workTo ts ts.length+((n:Int)-1)*Ya (ZO ts ord) ts.length) / (n:Int)∧e=.returned (.tuple #[.int .i64 b,.nilIface]):=by
 rcases h with⟨p,q,hc',hq,_⟩|⟨_,_,_,ord,ho,rfl⟩
 ·obtain⟨_,rfl⟩:=hc.det hc'
  refine absurd ?_ hq
  unfold gErr
  rw[if_pos rfl,if_neg (by omega)]
 ·obtain⟨hs0,hs1⟩:=jl hc ho
  obtain⟨hm0,hm1⟩:=j0 (hands:=(n:Int)) (by omega) (by omega) hs0 hs1
  have hw:=hc.works.1.all
  have h0:0≤(workTo ts ts.length+((n:Int)-1)*Ya (ZO ts ord) ts.length) / (n:Int):=Int.ediv_nonneg (by omega) (by omega)
  have h1:(workTo ts ts.length+((n:Int)-1)*Ya (ZO ts ord) ts.length) / (n:Int)≤workTo ts ts.length+((n:Int)-1)*Ya (ZO ts ord) ts.length:=Int.ediv_le_self _ (by omega)
  obtain⟨b,hb⟩:=qc h0
  exact⟨b,ord,by omega,ho,hb.symm,by rw[hb]⟩
set_option maxRecDepth 100000 in
set_option maxHeartbeats 4000000 in
theorem zdp(h:ZB W0 Y X S d w)(hv:Vars q W0)(v:Value)(n:Nat)(ha:XU w v [n]) :
  Calls Tryz.prog 53 #[.pointer (some ⟨S,0,none⟩),v] w (Zi q W0 Y X S (Yv d n) w):=by
 obtain⟨pv,gv,e1,e2,-⟩:=h.mem
 have HS:Hid (w.heap[S]?=some (.cells #[pv,gv] 51 (0,0))):=e1
 obtain⟨c0,-,-,-⟩:=zV e1
 obtain⟨ga,gc,rfl,hcell⟩:=ha
 have hn0:w.cell? ⟨ga,0,none⟩=some (.int .i64 (n:Int)):=hcell 0 (by simp)
 have HN0:Hid (w.cell? ⟨ga,0,none⟩=some (.int .i64 (n:Int))):=hn0
 have HGA:Hid (ga<w.heap.size):=qL hn0
 have HD:Hid (ZB W0 Y X S d w):=h
 have HV:Hid (Vars q W0):=hv
 have HP:Hid (Zf w pv d.ts):=e2.at
 have HC:Hid (Zc d.ts 0 0):=h.ok.pl
 obtain⟨a,c,rfl⟩:=zF e2.at
 clear e1 e2 h hcell hv
 by_cases hn:1≤n∧n≤6
 ·have hl:∀k,Calls Tryz.prog 11 #[.slice a d.ts.length c,.int .i64 (n:Int)] (w.drewN k) fun e w'=>(∃s:Nat,s≤600∧Hid (YO d.ts n s)∧e=.returned (.tuple #[.int .i64 s,.nilIface]))∧Below w.heap.size w w':=fun k=>by
   refine(zdw _ d.ts (n:Int) _ (HP.out.later (drewS w k))).mono ?_
   rintro e w' ⟨ho,hb2⟩
   exact⟨zeI HC.out hn ho,(drewS w k).trans hb2⟩
  have HBD:Hid (∀wx,Below w.heap.size w wx→∀k,Calls Tryz.prog 91 #[.slice a d.ts.length c,.int .i64 (n:Int)] (wx.drewN k) fun e w'=>(∃(b:Nat) (ord:List Nat),b<10000∧Hid (Z9 d.ts ord∧(b:Int)=(workTo d.ts d.ts.length+((n:Int)-1)*Ya (ZO d.ts ord) d.ts.length) / (n:Int))∧e=.returned (.tuple #[.int .i64 b,.nilIface]))∧Below wx.heap.size wx w'):=fun wx hbx k=>by
   refine(zfY _ d.ts (n:Int) _ ((HP.out.later hbx).later (drewS wx k))).mono ?_
   rintro e w' ⟨ho,hb2⟩
   obtain⟨b,ord,h1,h2,h3,h4⟩:=jS HC.out hn ho
   exact⟨⟨b,ord,h1,⟨h2,h3⟩,h4⟩,(drewS wx k).trans hb2⟩
  have HR:Hid (∀(s b:Nat) (ord:List Nat),YO d.ts n s→(Z9 d.ts ord∧(b:Int)=(workTo d.ts d.ts.length+((n:Int)-1)*Ya (ZO d.ts ord) d.ts.length) / (n:Int))→Yv d n d (twoT (s:Int) (b:Int))):=fun s b ord h1 h2=>⟨rfl,Or.inr ⟨hn,s,ord,h1,h2.1,by rw[h2.2]⟩⟩
  have HPR:Hid (∀(s b:Nat) wx,s≤600→b<10000→Below w.heap.size w wx→Calls Tryz.prog 87 #[.int .i64 (s:Int),.int .i64 (b:Int)] wx fun e w'=>e=.returned (.string ⟨(twoT (s:Int) (b:Int)).toArray⟩)∧Below wx.heap.size wx w'):=fun s b wx h1 h2 hb=>zdK s b (by omega) h2 wx ((HD.out.belowV HV.out).later hb)
  clear HP HC hn
  go_enter Tryz.func53,Tryz.ntmps53
  go_wp2
  go_region_with (first|(go_at_call 11;refine(hl _).mono ?_;clear hl;rintro e w1 ⟨⟨s,hs6,hst,rfl⟩,hb1⟩;have HS6:Hid (s≤600):=hs6;have HB:Hid (Below w.heap.size w w1):=hb1;clear hb1 hs6))
  all_goals
   have c0:=(zV ((HB.out.block S (lt_of_block HS.out)).trans HS.out)).1
   have hn1:=(HB.out.cell (p:=⟨ga,0,none⟩) HGA.out).trans HN0.out
   have hbd:=HBD.out w1 HB.out
   go_wp2
   go_region_with (first|(go_at_call 91;refine(hbd _).mono ?_;clear hbd;rintro e w2 ⟨⟨b,ord,hb4,hor,rfl⟩,hb2⟩;have HB4:Hid (b<10000):=hb4;have HB2:Hid (Below w.heap.size w w2):=HB.out.trans (hb2.mono HB.out.size);clear hb2 hb4))
   all_goals
    have hpr:=HPR.out s b w2 HS6.out HB4.out HB2.out
    have HTL:Hid ((twoT (s:Int) (b:Int)).length≤20000):=qq2 (jN s b (by have:=HS6.out;omega) HB4.out) (by omega)
    go_wp2_with (first|(go_at_call 87;refine hpr.mono ?_;clear hpr;rintro e w3 ⟨rfl,hb3⟩;have HB3:Hid (Below w.heap.size w w3):=HB2.out.trans (hb3.mono HB2.out.size);clear hb3))
    go_ret2
    exact Zi.told (HR.out s b ord hst.out hor.out) HTL.out (HD.out.stays HB3.out)
 ·have hl:∀k,Calls Tryz.prog 11 #[.slice a d.ts.length c,.int .i64 (n:Int)] (w.drewN k) fun e w'=>e=.returned (.tuple #[.int .i64 0,.iface 97 (.int .i64 1)])∧Below w.heap.size w w':=fun k=>by
   refine(zdw _ d.ts (n:Int) _ (HP.out.later (drewS w k))).mono ?_
   rintro e w' ⟨ho,hb2⟩
   exact⟨zgj HC.out hn ho,(drewS w k).trans hb2⟩
  have HR:Hid (Yv d n d (Ye 1)):=⟨rfl,Or.inl ⟨hn,rfl⟩⟩
  clear HP HC hn HS HN0 HGA
  go_enter Tryz.func53,Tryz.ntmps53
  go_wp2
  go_region_with (first|(go_at_call 11;refine(hl _).mono ?_;clear hl;rintro e w1 ⟨rfl,hb1⟩;have HB:Hid (Below w.heap.size w w1):=hb1;clear hb1))
  all_goals
   go_wp2
   go_ret2
   exact Zi.err (by decide) (by decide) HR.out (HD.out.stays HB.out)
end
end Go.Proofs.YtlfbdjeojgbniaaGreatDoor

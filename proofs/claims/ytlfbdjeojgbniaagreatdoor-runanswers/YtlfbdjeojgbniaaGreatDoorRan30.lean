import Derived.Test.YtlfbdjeojgbniaaGreatDoorRan29
namespace Go.Proofs.YtlfbdjeojgbniaaGreatDoor
section
open Go.RowKit Go.Deep
open Spl.Dsp (Gq gArr)
theorem zh4{ts:Zl}(hc:Zc ts 0 0):∀i,i<ts.length→Zv ts i≤20:=fun i hi=>by
 have h2:=(hc.ok rfl).2.2.1 i hi
 unfold ZJ ZT at h2
 have h3:¬((ts.getD i (0,[])).1<1∨20<(ts.getD i (0,[])).1):=fun e=>by rw[if_pos e]at h2;omega
 unfold Zv
 omega
def lowW(w:World)(n:Nat):World:={ w with heap:=w.heap.extract 0 n }
theorem qQ{w:World}{n:Nat}(h:n≤w.heap.size):(lowW w n).heap.size=n:=by
 show(w.heap.extract 0 n).size=n
 rw[Array.size_extract]
 omega
theorem zcA{w:World}{n k:Nat}(h:n≤w.heap.size)(hk:k<n):(lowW w n).heap[k]?=w.heap[k]?:=by
 show(w.heap.extract 0 n)[k]?=w.heap[k]?
 rw[Array.getElem?_extract,if_pos (by omega),Nat.zero_add]
variable {M room hands:Nat} {ts:Zl} {g:Gs} {own:Nat→Nat} {gq:Gq} {vf vh:Value} {HB hc DB dc:Nat} {Hk:Nat→Nat} {vk:Nat→Value} {Bd:Bs} {w0 v0 w w' w'':World} {p:Value}
theorem Dg.away2(h:Dg M room hands ts g own gq vf vh HB hc DB dc Hk vk Bd w0 w)(hp:Zf v0 gq.p ts)(hs:v0.heap.size=w0.heap.size)(hb:Below v0.heap.size v0 w')(K:Kc own (fun c=>c=9) w w'):Dg M room hands ts g (relabel own w.heap.size 9) gq vf vh HB hc DB dc Hk vk ⟨fun _=>False,w'⟩ v0 w':=by
 exact {
  blk:=(K.block M h.ltM (by have:=h.lM;first|omega|exact id)).trans h.blk
  lM:=by rw[za h.ltM];exact h.lM
  fr:=h.fr.kc h.lf (by simp) K
  hp:=h.hp.kc h.lh (by simp) K
  lf:=h.lf.re h.fr
  lh:=h.lh.re h.hp
  apart:=h.apart
  le60:=h.le60
  tk:=h.tk.kc h.ltk (by simp) K
  ltk:=h.ltk.re h.tk
  wk:=h.wk.kc h.lwk (by simp) K
  lwk:=h.lwk.re h.wk
  row:=h.row.kc h.lrw (by simp) K
  lrw:=h.lrw.re h.row
  zle:=h.zle
  hs:=h.hs
  hblt:=qq3 h.hblt K.size
  lHB:=by rw[za h.hblt];exact h.lHB
  hcell:=fun k hk=>(qq9 (a:=⟨HB,k,none⟩) (K.block HB h.hblt (by have:=h.lHB;first|omega|exact id))).trans (h.hcell k hk)
  hand:=fun k hk=>(h.hand k hk).of_blocks (K.block _ (h.hand k hk).lt (by have:=(h.lH k hk).1;first|omega|exact id)) (fun j e=>K.block j ((h.hand k hk).row.low e).2 (by have:=(h.lH k hk).2 j e;first|omega|exact id))
  lH:=fun k hk=>⟨by rw[za (h.hand k hk).lt];exact(h.lH k hk).1,fun j e=>by rw[za ((h.hand k hk).row.low e).2];exact(h.lH k hk).2 j e⟩
  hMk:=h.hMk
  dn:=h.dn
  drow:=h.drow.of_block (K.block DB h.drow.lt (by have:=h.lDB;first|omega|exact id))
  lDB:=by rw[za h.drow.lt];exact h.lDB
  plan:=hp
  base:=by rw[hs];exact h.base
  far:=fun _ hk=>hk.elim
  w1le:=qq1 _
  io:=⟨rfl,rfl,rfl⟩
  below:=hb
  lowL:=fun k hk=>by rw[za (by have:=h.ltM;have:=h.base;omega)];exact h.lowL k (by omega) }
def DX(Q:Nat)(X:Nat→Prop)(M hands:Nat)(ts:Zl)(g:Gs)(w:World):Prop:=
 ∃own p Bd w0,∃Z:Nat→Prop,DgO own M 4 hands ts p g Bd w0 w∧(∀k,X k→own k=9)∧(∀k,Z k→X k∧k<w0.heap.size∧k≠Q)∧Y6 Z w0 p ts
variable {W0:World} {X Y Z:Nat→Prop} {Q:Nat} {d d':Desk}
theorem DX.away(h:DX Q X M hands ts g w)(hQ:X Q)(K:Kx (fun k=>k=Q) w w'):DX Q (Yx X w.heap.size w'.heap.size) M hands ts g w':=by
 obtain⟨own,p,Bd,w0,Z,⟨gq,vf,vh,HB,hc,DB,dc,Hk,vk,rfl,hD⟩,hX,hZ,hY⟩:=h
 have hsz:w0.heap.size≤w'.heap.size:=qq2 hD.below.size K.size
 refine⟨relabel own w.heap.size 9,gq.p,⟨fun _=>False,w'⟩,lowW w' w0.heap.size,Z,⟨gq,vf,vh,HB,hc,DB,dc,Hk,vk,rfl,hD.away2 ?_ (qQ hsz) ?_ ?_⟩,fun k hk=>?_,fun k hk=>?_,?_⟩
 ·exact hY _ (fun k hk=>(zcA hsz (hZ k hk).2.1).trans ((K.block k (qq3 (hZ k hk).2.1 hD.below.size) (hZ k hk).2.2).trans (hD.below.block k (hZ k hk).2.1)))
 ·exact⟨rfl,rfl,rfl,by rw[qQ hsz];exact hsz,fun k hk=>by rw[qQ hsz]at hk;exact(zcA hsz hk).symm⟩
 ·exact⟨K.os,K.tape,K.output,K.size,fun k hk ho=>K.block k hk (fun e=>ho (by rw[e];exact hX Q hQ))⟩
 ·rcases hk with hk|hk
  ·by_cases hl:k<w.heap.size
   ·rw[za hl];exact hX k hk
   ·exact zj (by omega)
  ·exact zj hk.1
 ·obtain⟨h1,h2,h3⟩:=hZ k hk
  exact⟨Or.inl h1,by rw[qQ hsz];exact h2,h3⟩
 ·exact hY.kept (fun k hk=>(zcA hsz (hZ k hk).2.1).trans ((K.block k (qq3 (hZ k hk).2.1 hD.below.size) (hZ k hk).2.2).trans (hD.below.block k (hZ k hk).2.1)))
theorem DX.hands1(h:DX Q X M hands ts g w):∃HB hc,w.cell? ⟨M,1,none⟩=some (.slice (some ⟨HB,0,none⟩) hands hc):=by
 obtain⟨own,p,Bd,w0,Z,⟨gq,vf,vh,HB,hc,DB,dc,Hk,vk,rfl,hD⟩,-⟩:=h
 exact⟨HB,hc,by rw[hD.c.2.1,hD.hs]⟩
theorem DX.left(h:DX Q X M hands ts g w)(h30:ts.length≤30):Calls Tryz.prog 26 #[.pointer (some ⟨M,0,none⟩)] w fun e w'=>e=.returned (.int .i64 (unseen g.S ts.length))∧Below w.heap.size w w':=by
 obtain⟨own,p,Bd,w0,Z,hD,-⟩:=h
 exact zf5 M 4 hands ts p g Bd w0 w hD.e h30
theorem DX.step(h:DX Q X M hands ts g w)(hX:∀k,X k→k<w.heap.size)(hI:Inv ts 4 hands g)(hg:Good ts)(hw:∀i,i<ts.length→1≤Zv ts i∧Zv ts i≤100)(h6:hands≤6)(j pick:Nat)(hj:j<hands)(hp63:pick<9223372036854775808) :
  Calls Tryz.prog 36 #[.pointer (some ⟨M,0,none⟩),.int .i64 j,.int .i64 pick] w fun e w'=>∃v,e=.returned v∧RowD w.heap.size w' v (gdeeds ts hands g j pick)∧DX Q X M hands ts (gstep ts 4 hands g j pick) w'∧X0 X w w':=by
 obtain⟨own,p,Bd,w0,Z,hD,hO,hZ,hY⟩:=h
 refine(zf6 hD hI hg hw (by omega) (by omega) h6 j pick hj hp63).mono ?_
 rintro e w' ⟨v,rfl,hv,own',Bd',hD',hwt⟩
 exact⟨v,rfl,hv,⟨own',p,Bd',w0,Z,hD',fun k hk=>(hwt.block k (hX k hk) (hO k hk)).2,hZ,hY⟩,hwt.os,hwt.tape,hwt.output,hwt.size,fun k hk=>(hwt.block k (hX k hk) (hO k hk)).1⟩
def X8(Q:Nat)(X:Nat→Prop):Option (Zl×Nat×Gs)→Value→Value→World→Prop
 | none,ov,gv,_=>ov=.bool false∧gv=.pointer none
 | some (ts,hands,g),ov,gv,w=>ov=.bool true∧∃M,gv=.pointer (some ⟨M,0,none⟩)∧DX Q X M hands ts g w
theorem X8.away{o:Option (Zl×Nat×Gs)}{ov gv:Value}(h:X8 Q X o ov gv w)(hQ:X Q)(K:Kx (fun k=>k=Q) w w'):X8 Q (Yx X w.heap.size w'.heap.size) o ov gv w':=by
 cases o with
 | none=>exact h
 | some x=>
  obtain⟨h0,M,h1,h2⟩:=h
  exact⟨h0,M,h1,h2.away hQ K⟩
structure ZH (W0:World) (Q:Nat) (d:Desk) (w:World):Prop where
 q:W0.heap.size=Q
 bel:Below Q W0 w
 mem:∃pv ov gv,w.heap[Q]?=some (.cells #[pv,ov,gv] 30 (0,0))∧∃Y X:Nat→Prop,(∀k,k≤Q→X k)∧(∀k,X k→k<w.heap.size)∧(∀k,Y k→X k∧Q<k)∧Y6 Y w pv d.ts∧X8 Q X d.gang ov gv w
 ok:d.Ok
theorem zds(hb:Below w.heap.size w w'):Kx X w w':=⟨hb.os,hb.tape,hb.output,hb.size,fun k hk _=>hb.block k hk⟩
theorem zji(Q:Nat)(w:World)(j:Nat)(u:Value):Kx (fun k=>k=Q) w (w.setCell ⟨Q,j,none⟩ u):=
 ⟨rfl,rfl,rfl,by simp,fun k _ hk=>qq5 _ _ _ _ (by show k≠Q;exact hk)⟩
theorem zhs{pv ov gv u:Value}(h:w.heap[Q]?=some (.cells #[pv,ov,gv] 30 (0,0))):(w.setCell ⟨Q,0,none⟩ u).heap[Q]?=some (.cells #[u,ov,gv] 30 (0,0)):=by
 simp[World.setCell,Array.getElem?_modify,h]
theorem zdd{pv ov gv u:Value}(h:w.heap[Q]?=some (.cells #[pv,ov,gv] 30 (0,0))):(w.setCell ⟨Q,1,none⟩ u).heap[Q]?=some (.cells #[pv,u,gv] 30 (0,0)):=by
 simp[World.setCell,Array.getElem?_modify,h]
theorem zht{pv ov gv u:Value}(h:w.heap[Q]?=some (.cells #[pv,ov,gv] 30 (0,0))):(w.setCell ⟨Q,2,none⟩ u).heap[Q]?=some (.cells #[pv,ov,u] 30 (0,0)):=by
 simp[World.setCell,Array.getElem?_modify,h]
theorem zR{pv ov gv:Value}(h:w.heap[Q]?=some (.cells #[pv,ov,gv] 30 (0,0))):w.cell? ⟨Q,0,none⟩=some pv∧w.cell? ⟨Q,1,none⟩=some ov∧w.cell? ⟨Q,2,none⟩=some gv∧(∀j,w.frozen? ⟨Q,j,none⟩=false):=by
 refine⟨?_,?_,?_,fun j=>?_⟩ <;> simp[World.cell?,World.frozen?,h]
theorem ZH.lt(h:ZH W0 Q d w):Q<w.heap.size:=by
 obtain⟨pv,ov,gv,h1,-⟩:=h.mem
 exact(Array.getElem?_eq_some_iff.1 h1).1
theorem ZH.later(h:ZH W0 Q d w)(hb:Below w.heap.size w w'):ZH W0 Q d w':=by
 obtain⟨pv,ov,gv,h1,Y,X,h2,h3,h4,h5,h6⟩:=h.mem
 have hlt:=h.lt
 refine⟨h.q,⟨hb.os.trans h.bel.os,hb.tape.trans h.bel.tape,hb.output.trans h.bel.output,qq2 h.bel.size hb.size,fun k hk=>(hb.block k (by omega)).trans (h.bel.block k hk)⟩,⟨pv,ov,gv,(hb.block Q hlt).trans h1,Y,Yx X w.heap.size w'.heap.size,fun k hk=>Or.inl (h2 k hk),fun k hk=>?_,fun k hk=>⟨Or.inl (h4 k hk).1,(h4 k hk).2⟩,h5.kept (fun k hk=>hb.block k (h3 k (h4 k hk).1)),h6.away (h2 Q (qq1 _)) (zds hb)⟩,h.ok⟩
 rcases hk with hk|hk
 ·exact qq3 (h3 k hk) hb.size
 ·exact hk.2
theorem ZH.putPlan(h:ZH W0 Q d w)(hb:Below w.heap.size w w'){v:Value}(hp:ZX w.heap.size w' v ts)(hc:Zc ts 0 0):ZH W0 Q { d with ts:=ts } (w'.setCell ⟨Q,0,none⟩ v):=by
 have hlt:=h.lt
 have hl:=h.later hb
 obtain⟨pv,ov,gv,h1,Y,X,h2,h3,h4,h5,h6⟩:=h.mem
 have hsz:=hb.size
 have K:Kx (fun k=>k=Q) w (w'.setCell ⟨Q,0,none⟩ v):=⟨hb.os,hb.tape,hb.output,by simpa using hsz,fun k hk hn=>(qq5 _ _ _ _ (by show k≠Q;exact hn)).trans (hb.block k hk)⟩
 refine⟨h.q,hl.bel.setCell (p:=⟨Q,0,none⟩) (qq1 _) v,⟨v,ov,gv,zhs ((hb.block Q hlt).trans h1),fun k=>w.heap.size≤k∧k<w'.heap.size,Yx X w.heap.size (w'.setCell ⟨Q,0,none⟩ v).heap.size,fun k hk=>Or.inl (h2 k hk),fun k hk=>?_,fun k hk=>⟨Or.inr ⟨hk.1,by simpa using hk.2⟩,by omega⟩,?_,h6.away (h2 Q (qq1 _)) K⟩,⟨hc,h.ok.gg⟩⟩
 ·rcases hk with hk|hk
  ·have:=h3 k hk
   simp only[World.size_setCell];omega
  ·exact hk.2
 ·intro W hW
  exact hp W (fun k e1 e2=>(hW k ⟨e1,e2⟩).trans (qq5 _ _ _ _ (by show k≠Q;omega)))
theorem ZH.turned(h:ZH W0 Q d w):∃pv ov gv,w.heap[Q]?=some (.cells #[pv,ov,gv] 30 (0,0))∧Zf (w.setCell ⟨Q,1,none⟩ (.bool true)) pv d.ts∧∀w' M hands,1≤hands→hands≤6→(∃own Bd,DgO own M 4 hands d.ts pv (gnew d.ts) Bd (w.setCell ⟨Q,1,none⟩ (.bool true)) w')→
  w'.heap[Q]?=some (.cells #[pv,.bool true,gv] 30 (0,0))∧ZH W0 Q { d with gang:=some (d.ts,hands,gnew d.ts) } (w'.setCell ⟨Q,2,none⟩ (.pointer (some ⟨M,0,none⟩))):=by
 have hlt:=h.lt
 obtain⟨pv,ov,gv,h1,Y,X,h2,h3,h4,h5,h6⟩:=h.mem
 have hY1:Y6 Y (w.setCell ⟨Q,1,none⟩ (.bool true)) pv d.ts:=h5.kept (fun k hk=>qq5 _ _ _ _ (by have:=(h4 k hk).2;show k≠Q;omega))
 have hb1:=h.bel.setCell (p:=⟨Q,1,none⟩) (qq1 _) (.bool true)
 have e1:(w.setCell ⟨Q,1,none⟩ (.bool true)).heap[Q]?=some (.cells #[pv,.bool true,gv] 30 (0,0)):=zdd h1
 have hs1:(w.setCell ⟨Q,1,none⟩ (.bool true)).heap.size=w.heap.size:=by simp
 refine⟨pv,ov,gv,h1,hY1.at,?_⟩
 generalize w.setCell ⟨Q,1,none⟩ (.bool true)=w1 at *
 rintro w' M hands hh1 hh6 ⟨own,Bd,hD⟩
 have hB:Below w1.heap.size w1 w':=by obtain⟨gq,vf,vh,HB,hc,DB,dc,Hk,vk,-,hD⟩:=hD;exact hD.below
 have hlow:∀k,k<w1.heap.size→own k=9:=by obtain⟨gq,vf,vh,HB,hc,DB,dc,Hk,vk,-,hD⟩:=hD;exact hD.lowL
 have e2:=(hB.block Q (by omega)).trans e1
 have hDX:DX Q (fun k=>k<w1.heap.size) M hands d.ts (gnew d.ts) w':=⟨own,pv,_,w1,Y,hD,hlow,fun k hk=>⟨by have:=h3 k (h4 k hk).1;omega,by have:=h3 k (h4 k hk).1;omega,by have:=(h4 k hk).2;omega⟩,hY1⟩
 have K:=zji Q w' 2 (.pointer (some ⟨M,0,none⟩))
 have hDX2:=hDX.away (by show Q<_;omega) K
 refine⟨e2,h.q,?_,⟨pv,.bool true,_,zht e2,Y,_,fun k hk=>Or.inl (by show k<_;omega),fun k hk=>?_,fun k hk=>⟨Or.inl (by have:=h3 k (h4 k hk).1;show k<_;omega),(h4 k hk).2⟩,?_,rfl,M,rfl,hDX2⟩,⟨h.ok.pl,fun t hands' g' e=>?_⟩⟩
 ·refine Below.setCell (p:=⟨Q,2,none⟩) ?_ (qq1 _) _
  exact⟨hB.os.trans hb1.os,hB.tape.trans hb1.tape,hB.output.trans hb1.output,qq2 hb1.size hB.size,fun k hk=>(hB.block k (by have hk':k<Q:=hk;omega)).trans (hb1.block k hk)⟩
 ·rcases hk with hk|hk
  ·have hk':k<w1.heap.size:=hk
   have:=hB.size
   simp only[World.size_setCell];omega
  ·exact hk.2
 ·exact hY1.kept (fun k hk=>(qq5 _ _ _ _ (by have:=(h4 k hk).2;show k≠Q;omega)).trans (hB.block k (by have:=h3 k (h4 k hk).1;omega)))
 ·cases e
  exact⟨h.ok.pl,hh1,hh6,Inv.new hh1⟩
theorem ZH.gang(h:ZH W0 Q d w){t:Zl}{n:Nat}{g:Gs}(e:d.gang=some (t,n,g)):∃pv M,w.heap[Q]?=some (.cells #[pv,.bool true,.pointer (some ⟨M,0,none⟩)] 30 (0,0))∧
  (∃HB hc,w.cell? ⟨M,1,none⟩=some (.slice (some ⟨HB,0,none⟩) n hc))∧n≤6∧
  (Calls Tryz.prog 26 #[.pointer (some ⟨M,0,none⟩)] w fun e w'=>e=.returned (.int .i64 (unseen g.S t.length))∧Below w.heap.size w w')∧
  (∀j pick:Nat,j<n→pick<9223372036854775808→∀q,Calls Tryz.prog 36 #[.pointer (some ⟨M,0,none⟩),.int .i64 j,.int .i64 pick] (w.drewN q) fun e w'=>∃v,e=.returned v∧RowD w.heap.size w' v (gdeeds t n g j pick)∧ZH W0 Q { d with gang:=some (t,n,gstep t 4 n g j pick) } w'):=by
 obtain⟨hc,hn1,hn6,hI⟩:=h.ok.gg t n g e
 have hgood:=hc.good
 obtain⟨pv,ov,gv,h1,Y,X,h2,h3,h4,h5,h6⟩:=h.mem
 rw[e]at h6
 obtain⟨rfl,M,rfl,hDX⟩:=h6
 refine⟨pv,M,h1,hDX.hands1,hn6,hDX.left hgood.le,fun j pick hj hp63 q=>?_⟩
 have hb:Below w.heap.size w (w.drewN q):=⟨rfl,rfl,rfl,qq1 _,fun _ _=>rfl⟩
 have hdx:DX Q (Yx X w.heap.size (w.drewN q).heap.size) M n t g (w.drewN q):=hDX.away (h2 Q (qq1 _)) (zds hb)
 have hXl:∀k,Yx X w.heap.size (w.drewN q).heap.size k→k<(w.drewN q).heap.size:=fun k hk=>by
  rcases hk with hk|hk
  ·exact h3 k hk
  ·exact hk.2
 refine(hdx.step hXl hI hgood (fun i hi=>⟨qE hc i hi,by have:=zh4 hc i hi;omega⟩) hn6 j pick hj hp63).mono ?_
 rintro e' w' ⟨v,rfl,hv,hd,hk⟩
 refine⟨v,rfl,hv,h.q,⟨hk.os.trans h.bel.os,hk.tape.trans h.bel.tape,hk.output.trans h.bel.output,qq2 h.bel.size hk.size,fun k e1=>(hk.block k (Or.inl (h2 k (by omega)))).trans (h.bel.block k e1)⟩,⟨pv,_,_,(hk.block Q (Or.inl (h2 Q (qq1 _)))).trans h1,Y,_,fun k e1=>Or.inl (h2 k e1),fun k e1=>qq3 (hXl k e1) hk.size,fun k e1=>⟨Or.inl (h4 k e1).1,(h4 k e1).2⟩,h5.kept (fun k e1=>hk.block k (Or.inl (h4 k e1).1)),rfl,M,rfl,hd⟩,⟨h.ok.pl,fun t' n' g' e1=>?_⟩⟩
 cases e1
 exact⟨hc,hn1,hn6,hI.step hgood (qE hc) (by omega) hj pick⟩
end
section
open Go.RowKit Go.Deep
theorem drewDl(w:World)(q:Nat):Below w.heap.size w (w.drewN q):=⟨rfl,rfl,rfl,qq1 _,fun _ _=>rfl⟩
theorem qY(l:List UInt8)(f i:Nat):(⟨l.toArray⟩:ByteArray).extract f i=⟨((l.drop f).take (i-f)).toArray⟩:=by
 apply ByteArray.ext
 simp
theorem jf(l m:List UInt8):(⟨l.toArray⟩:ByteArray)++⟨m.toArray⟩=⟨(l++m).toArray⟩:=by
 apply ByteArray.ext
 simp
theorem zbS(n:Nat)(hn:n<10):(⟨#[48,49,50,51,52,53,54,55,56,57]⟩:ByteArray).extract n (n+1)=⟨[UInt8.ofNat (48+n)].toArray⟩:=by
 have h:∀k:Fin 10,(⟨#[48,49,50,51,52,53,54,55,56,57]⟩:ByteArray).extract k.val (k.val+1)=⟨[UInt8.ofNat (48+k.val)].toArray⟩:=by decide +kernel
 exact h ⟨n,hn⟩
theorem qC{a b:ByteArray}(h:a=b):Ending.returned (.string a)=.returned (.string b):=by rw[h]
theorem zaQ:∀n:Nat,(Lib.decDigits n).length≤n+1:=by
 intro n
 induction n using Nat.strongRecOn with
 | ind n ih=>
  by_cases h:n<10
  ·rw[zA n h];simp
  ·rw[yq n (by omega)]
   have:=ih (n / 10) (by omega)
   simp;omega
set_option maxRecDepth 100000 in
theorem zdc:∀(n:Nat) (w:World),n≤1000000→Calls Tryz.prog 9 #[.int .i64 n] w fun e w'=>e=.returned (.string ⟨(Lib.decDigits n).toArray⟩)∧w'=w:=by
 intro n
 induction n using Nat.strongRecOn with
 | ind n ih=>
  intro w hn
  by_cases h:n<10
  ·clear ih
   go_enter Tryz.func9,Tryz.ntmps9
   go_wp2
   go_ret
   exact⟨qC (by rw[zbS n h,zA n h]),rfl⟩
  ·have hi:=ih (n / 10) (by omega) w (by omega)
   have hm:n % 10<10:=Nat.mod_lt _ (by omega)
   have hdl:=zaQ (n / 10)
   have hn10:n / 10≤100000:=by omega
   have hI:¬(n:Int)<10:=by omega
   clear ih
   go_enter Tryz.func9,Tryz.ntmps9
   go_wp2_with fail
   rw[show((n:Int) / 10)=((n / 10:Nat):Int) by omega]
   refine hi.mono ?_
   rintro e w' ⟨rfl,rfl⟩
   rw[show((n:Int) % 10)=((n % 10:Nat):Int) by omega]
   go_wp2
   go_ret
   exact⟨qC (by rw[zbS _ hm,jf,yq n (by omega)]),rfl⟩
theorem qr(n:Nat)(w:World)(hn:n≤1000000):Calls Tryz.prog 9 #[.int .i64 n] w fun e w'=>e=.returned (.string ⟨(digs (n:Int)).toArray⟩)∧w'=w:=by
 unfold digs
 rw[Int.toNat_natCast]
 exact zdc n w hn
set_option maxRecDepth 100000 in
theorem zd4(a b:Nat)(w:World)(ha:a≤1000000)(hb:b≤1000000):Calls Tryz.prog 28 #[.int .i64 a,.int .i64 b] w fun e w'=>e=.returned (.string ⟨(twoT (a:Int) (b:Int)).toArray⟩)∧w'=w:=by
 have h1:=qr a w ha
 have h2:=qr b w hb
 have l1:(digs (a:Int)).length≤1000001:=by unfold digs;have:=zaQ (a:Int).toNat;omega
 have l2:(digs (b:Int)).length≤1000001:=by unfold digs;have:=zaQ (b:Int).toNat;omega
 have HT:Hid ((⟨(digs (a:Int)).toArray⟩:ByteArray)++⟨#[32]⟩++⟨(digs (b:Int)).toArray⟩=⟨(twoT (a:Int) (b:Int)).toArray⟩):=by
  show _=_
  rw[show(⟨#[32]⟩:ByteArray)=⟨[(32:UInt8)].toArray⟩ from rfl,jf,jf]
  simp[twoT]
 go_enter Tryz.func28,Tryz.ntmps28
 go_wp2_with fail
 refine h1.mono ?_
 rintro e w' ⟨rfl,rfl⟩
 go_wp2_with fail
 refine h2.mono ?_
 rintro e w' ⟨rfl,rfl⟩
 go_wp2
 go_ret
 exact⟨qC HT.out,rfl⟩
set_option maxRecDepth 100000 in
set_option maxHeartbeats 4000000 in
theorem ym(q:Int)(w:World)(h1:1≤q)(h8:q≤8):Calls Tryz.prog 25 #[.int .i64 q] w fun e w'=>e=.returned (.string ⟨(Ye q).toArray⟩)∧Below w.heap.size w w':=by
 have hq:q=1∨q=2∨q=3∨q=4∨q=5∨q=6∨q=7∨q=8:=by omega
 rcases hq with rfl|rfl|rfl|rfl|rfl|rfl|rfl|rfl
 all_goals
  go_enter Tryz.func25,Tryz.ntmps25
  go_wp2
  go_ret
  exact⟨rfl,(qq4 _ _).alloc (qq1 _) _⟩
set_option maxRecDepth 100000 in
set_option maxHeartbeats 4000000 in
theorem y9(l:List UInt8)(w:World)(hs:l.length≤1048576) :
  Calls Tryz.prog 23 #[.string ⟨l.toArray⟩] w fun e w'=>e=.returned (.tuple #[.string ⟨(cutB 32 l).1.toArray⟩,.string ⟨(cutB 32 l).2.1.toArray⟩,.bool (cutB 32 l).2.2])∧Below w.heap.size w w':=by
 go_enter Tryz.func23,Tryz.ntmps23
 go_wp2
 go_loopw [5] (fun s5 wr=>∃i:Nat,i≤l.length∧s5=.int .i64 i∧Hid ((32:UInt8)∉l.take i)∧Below w.heap.size w wr) (fun s5 _=>l.length-(intOf s5).toNat)
 case atStart=>exact⟨0,Nat.zero_le _,rfl,by simp[Hid],qq4 _ _⟩
 case round=>
  obtain⟨i,hi,rfl,hno,hb⟩:=hrel
  by_cases hil:i<l.length
  ·have hsz:i<(⟨l.toArray⟩:ByteArray).size:=by show i<l.toArray.size;simpa using hil
   by_cases hx:l[i]=32
   ·have hx':(((⟨l.toArray⟩:ByteArray)[i]'hsz).toNat:Int)=32:=by show((l[i]).toNat:Int)=_;rw[hx];rfl
    have HC:Hid (cutB 32 l=(l.take i,l.drop (i+1),true)):=by
     show _=_
     have e:l=l.take i++32::l.drop (i+1):=by
      conv=>lhs;rw[←List.take_append_drop i l,List.drop_eq_getElem_cons hil,hx]
     conv=>lhs;rw[e]
     exact zfH 32 _ _ hno.out
    have H1:Hid ((⟨l.toArray⟩:ByteArray).extract 0 i=⟨(cutB 32 l).1.toArray⟩):=by
     show _=_
     rw[qY,HC.out];simp
    have H2:Hid ((⟨l.toArray⟩:ByteArray).extract (i+1) l.length=⟨(cutB 32 l).2.1.toArray⟩):=by
     show _=_
     rw[qY,HC.out,List.take_of_length_le (by simp)]
    have H3:Hid ((cutB 32 l).2.2=true):=by rw[HC.out];rfl
    clear hx
    have b1:(i:Int)≤(l.length:Int):=by omega
    have b2:((i:Int)+1)≤(l.length:Int):=by omega
    have b3:(i+1)≤l.length:=by omega
    have hw1:IntKind.i64.wrap ((i:Int)+1)=((i+1:Nat):Int):=by rw[IntKind.wrap_i64];omega
    go_wp2
    go_quiet (fail)
    go_wp2
    rw[H1.out,H2.out]
    go_ret3
    exact⟨by rw[H3.out];rfl,hb.trans ((drewDl _ _).mono hb.size)⟩
   ·have hx':¬(((⟨l.toArray⟩:ByteArray)[i]'hsz).toNat:Int)=32:=fun e=>hx (by
     have e':((l[i]).toNat:Int)=32:=e
     exact UInt8.toNat_inj.1 (by show l[i].toNat=32;omega))
    have HN:Hid ((32:UInt8)∉l.take (i+1)):=by
     show _∉_
     rw[qq8 hil]
     intro hm
     rcases List.mem_append.1 hm with hm|hm
     ·exact hno.out hm
     ·exact hx (List.mem_singleton.1 hm).symm
    clear hx
    go_wp2
    go_roundw
    case rel=>exact⟨i+1,by omega,by go_num,HN,hb⟩
    case measure=>simp[intOf];omega
  ·have HC:Hid (cutB 32 l=(l,[],false)):=by
    show _=_
    have:=hno.out
    rw[List.take_of_length_le (by omega)]at this
    exact zaP 32 _ this
   go_wp2
   go_ret3
   exact⟨by rw[HC.out];rfl,hb⟩
end
end Go.Proofs.YtlfbdjeojgbniaaGreatDoor

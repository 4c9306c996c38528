import Derived.Test.YtlfbdjeojgbniaaGreatDoorRan26
namespace Go.Proofs.YtlfbdjeojgbniaaGreatDoor
section
open Go.RowKit Go.Deep
open Spl.Dsp (Gq gArr)
theorem yr{b t n:Nat}{w w':World}{v:Value}{xs:List Value}(h:w.ownsRow b t 1 v n xs)(hk:∀k,v.ownBlock=some k→w'.heap[k]?=w.heap[k]?):w'.ownsRow b t 1 v n xs:=by
 rcases h.2 with⟨rfl,hn⟩|⟨g,cap,cur,rfl,hb,hh,hr⟩
 ·exact⟨h.1,Or.inl ⟨rfl,hn⟩⟩
 ·exact⟨h.1,Or.inr ⟨g,cap,cur,rfl,hb,(hk g rfl).trans hh,hr⟩⟩
structure NG (M room kh kt kw:Nat) (ts:Zl) (p:Value) (own:Nat→Nat) (gq:Gq) (DB:Nat) (Hk:Nat→Nat) (N0:Nat) (wN w:World):Prop where
 blk:w.heap[M]?=some (.cells (gArr gq room (.slice none 0 0) (.slice none 0 0)) 86 (0,0))
 lM:own M=0
 hrow:w.ownsRow (M+1) 141 1 gq.hs kh ((List.range kh).map (fun j=>.pointer (some ⟨Hk j,0,none⟩)))
 lh:Lb own 1 gq.hs
 tk:RowI (M+1) w gq.tk (upto kt (fun _=>-1))
 ltk:Lb own 2 gq.tk
 wk:RowI (M+1) w gq.wk (upto kw (fun _=>0))
 lwk:Lb own 3 gq.wk
 rw0:gq.rw=.slice none 0 0
 hand:∀j,j<kh→Hnd.Mh (Hk j) room (-1) [] (.slice none 0 0) w
 lH:∀j,j<kh→own (Hk j)=10+j
 hMk:∀j,j<kh→M<Hk j
 dn:gq.dn=.slice (some ⟨DB,0,none⟩) ts.length ts.length
 drow:w.rowIs DB 4 ts.length (fun _=>.bool false)
 lDB:own DB=5
 hp:gq.p=p
 far:Below N0 wN w
 low:∀k,k<N0→own k=9
 n0:N0≤M∧M<w.heap.size
variable {M room kh kt kw:Nat} {ts:Zl} {p:Value} {own own':Nat→Nat} {gq:Gq} {DB N0:Nat} {Hk:Nat→Nat} {wN w w':World}
theorem NG.ltM(h:NG M room kh kt kw ts p own gq DB Hk N0 wN w):M<w.heap.size:=(Array.getElem?_eq_some_iff.1 h.blk).1
theorem NG.hlt(h:NG M room kh kt kw ts p own gq DB Hk N0 wN w){k:Nat}(e:gq.hs.ownBlock=some k):k<w.heap.size:=(World.ownsRow.lt h.hrow k e).2
theorem NG.pushT(h:NG M room kh kt kw ts p own gq DB Hk N0 wN w)(ho:∀k,k<w.heap.size→own' k=own k)(hs:w.heap.size≤w'.heap.size)(hio:w'.os=w.os∧w'.tape=w.tape∧w'.output=w.output)(K:∀k,k<w.heap.size→own k≠2→k≠M→w'.heap[k]?=w.heap[k]?){v:Value}(hr:RowI (M+1) w' v (upto (kt+1) (fun _=>-1)))(hl:Lb own' 2 v)(hb:w'.heap[M]?=some (.cells (gArr { gq with tk:=v } room (.slice none 0 0) (.slice none 0 0)) 86 (0,0))):NG M room kh (kt+1) kw ts p own' { gq with tk:=v } DB Hk N0 wN w':=
 {
  blk:=hb
  lM:=(ho M h.ltM).trans h.lM
  hrow:=yr h.hrow (fun k e=>K k (h.hlt e) (by rw[h.lh k e];omega) (fun e2=>by have:=h.lh k e;rw[e2,h.lM]at this;omega))
  lh:=fun k e=>(ho k (h.hlt e)).trans (h.lh k e)
  tk:=hr
  ltk:=hl
  wk:=h.wk.of_blocks (fun k e=>K k (h.wk.low e).2 (by rw[h.lwk k e];omega) (fun e2=>by have:=h.lwk k e;rw[e2,h.lM]at this;omega))
  lwk:=fun k e=>(ho k (h.wk.low e).2).trans (h.lwk k e)
  rw0:=h.rw0
  hand:=fun j hj=>(h.hand j hj).of_blocks (K _ (h.hand j hj).lt (by rw[h.lH j hj];omega) (fun e2=>by have:=h.lH j hj;rw[e2,h.lM]at this;omega)) (fun k e=>by simp[Value.ownBlock]at e)
  lH:=fun j hj=>(ho _ (h.hand j hj).lt).trans (h.lH j hj)
  hMk:=h.hMk
  dn:=h.dn
  drow:=h.drow.of_block (K DB h.drow.lt (by rw[h.lDB];omega) (fun e2=>by have:=h.lDB;rw[e2,h.lM]at this;omega))
  lDB:=(ho DB h.drow.lt).trans h.lDB
  hp:=h.hp
  far:=⟨hio.1.trans h.far.os,hio.2.1.trans h.far.tape,hio.2.2.trans h.far.output,qq2 h.far.size hs,fun k hk=>(K k (by have:=h.n0;omega) (by rw[h.low k hk];omega) (by have:=h.n0;omega)).trans (h.far.block k hk)⟩
  low:=fun k hk=>(ho k (by have:=h.n0;have:=h.ltM;omega)).trans (h.low k hk)
  n0:=⟨h.n0.1,qq3 h.n0.2 hs⟩ }
theorem NG.pushW(h:NG M room kh kt kw ts p own gq DB Hk N0 wN w)(ho:∀k,k<w.heap.size→own' k=own k)(hs:w.heap.size≤w'.heap.size)(hio:w'.os=w.os∧w'.tape=w.tape∧w'.output=w.output)(K:∀k,k<w.heap.size→own k≠3→k≠M→w'.heap[k]?=w.heap[k]?){v:Value}(hr:RowI (M+1) w' v (upto (kw+1) (fun _=>0)))(hl:Lb own' 3 v)(hb:w'.heap[M]?=some (.cells (gArr { gq with wk:=v } room (.slice none 0 0) (.slice none 0 0)) 86 (0,0))):NG M room kh kt (kw+1) ts p own' { gq with wk:=v } DB Hk N0 wN w':=
 {
  blk:=hb
  lM:=(ho M h.ltM).trans h.lM
  hrow:=yr h.hrow (fun k e=>K k (h.hlt e) (by rw[h.lh k e];omega) (fun e2=>by have:=h.lh k e;rw[e2,h.lM]at this;omega))
  lh:=fun k e=>(ho k (h.hlt e)).trans (h.lh k e)
  tk:=h.tk.of_blocks (fun k e=>K k (h.tk.low e).2 (by rw[h.ltk k e];omega) (fun e2=>by have:=h.ltk k e;rw[e2,h.lM]at this;omega))
  ltk:=fun k e=>(ho k (h.tk.low e).2).trans (h.ltk k e)
  wk:=hr
  lwk:=hl
  rw0:=h.rw0
  hand:=fun j hj=>(h.hand j hj).of_blocks (K _ (h.hand j hj).lt (by rw[h.lH j hj];omega) (fun e2=>by have:=h.lH j hj;rw[e2,h.lM]at this;omega)) (fun k e=>by simp[Value.ownBlock]at e)
  lH:=fun j hj=>(ho _ (h.hand j hj).lt).trans (h.lH j hj)
  hMk:=h.hMk
  dn:=h.dn
  drow:=h.drow.of_block (K DB h.drow.lt (by rw[h.lDB];omega) (fun e2=>by have:=h.lDB;rw[e2,h.lM]at this;omega))
  lDB:=(ho DB h.drow.lt).trans h.lDB
  hp:=h.hp
  far:=⟨hio.1.trans h.far.os,hio.2.1.trans h.far.tape,hio.2.2.trans h.far.output,qq2 h.far.size hs,fun k hk=>(K k (by have:=h.n0;omega) (by rw[h.low k hk];omega) (by have:=h.n0;omega)).trans (h.far.block k hk)⟩
  low:=fun k hk=>(ho k (by have:=h.n0;have:=h.ltM;omega)).trans (h.low k hk)
  n0:=⟨h.n0.1,qq3 h.n0.2 hs⟩ }
theorem NG.pushH(h:NG M room kh kt kw ts p own gq DB Hk N0 wN w)(ho:∀k,k<w.heap.size→own' k=own k)(hs:w.heap.size≤w'.heap.size)(hio:w'.os=w.os∧w'.tape=w.tape∧w'.output=w.output)(K:∀k,k<w.heap.size→own k≠1→k≠M→w'.heap[k]?=w.heap[k]?){v:Value}{Hk':Nat→Nat}(hr:w'.ownsRow (M+1) 141 1 v (kh+1) ((List.range (kh+1)).map (fun j=>.pointer (some ⟨Hk' j,0,none⟩))))(hl:Lb own' 1 v)(hj:∀j,j<kh→Hk' j=Hk j)(hm:Hnd.Mh (Hk' kh) room (-1) [] (.slice none 0 0) w')(hlm:own' (Hk' kh)=10+kh)(hmm:M<Hk' kh)(hb:w'.heap[M]?=some (.cells (gArr { gq with hs:=v } room (.slice none 0 0) (.slice none 0 0)) 86 (0,0))):NG M room (kh+1) kt kw ts p own' { gq with hs:=v } DB Hk' N0 wN w':=
 {
  blk:=hb
  lM:=(ho M h.ltM).trans h.lM
  hrow:=hr
  lh:=hl
  tk:=h.tk.of_blocks (fun k e=>K k (h.tk.low e).2 (by rw[h.ltk k e];omega) (fun e2=>by have:=h.ltk k e;rw[e2,h.lM]at this;omega))
  ltk:=fun k e=>(ho k (h.tk.low e).2).trans (h.ltk k e)
  wk:=h.wk.of_blocks (fun k e=>K k (h.wk.low e).2 (by rw[h.lwk k e];omega) (fun e2=>by have:=h.lwk k e;rw[e2,h.lM]at this;omega))
  lwk:=fun k e=>(ho k (h.wk.low e).2).trans (h.lwk k e)
  rw0:=h.rw0
  hand:=fun j hj2=>by
   by_cases e:j=kh
   ·subst e;exact hm
   ·rw[hj j (by omega)];exact(h.hand j (by omega)).of_blocks (K _ (h.hand j (by omega)).lt (by rw[h.lH j (by omega)];omega) (fun e2=>by have:=h.lH j (by omega);rw[e2,h.lM]at this;omega)) (fun k e=>by simp[Value.ownBlock]at e)
  lH:=fun j hj2=>by
   by_cases e:j=kh
   ·subst e;exact hlm
   ·rw[hj j (by omega)];exact(ho _ (h.hand j (by omega)).lt).trans (h.lH j (by omega))
  hMk:=fun j hj2=>by
   by_cases e:j=kh
   ·subst e;exact hmm
   ·rw[hj j (by omega)];exact h.hMk j (by omega)
  dn:=h.dn
  drow:=h.drow.of_block (K DB h.drow.lt (by rw[h.lDB];omega) (fun e2=>by have:=h.lDB;rw[e2,h.lM]at this;omega))
  lDB:=(ho DB h.drow.lt).trans h.lDB
  hp:=h.hp
  far:=⟨hio.1.trans h.far.os,hio.2.1.trans h.far.tape,hio.2.2.trans h.far.output,qq2 h.far.size hs,fun k hk=>(K k (by have:=h.n0;omega) (by rw[h.low k hk];omega) (by have:=h.n0;omega)).trans (h.far.block k hk)⟩
  low:=fun k hk=>(ho k (by have:=h.n0;have:=h.ltM;omega)).trans (h.low k hk)
  n0:=⟨h.n0.1,qq3 h.n0.2 hs⟩ }
end
section
open Go.RowKit Go.Deep
open Spl.Dsp (Gq gArr)
variable {M room k kt kw:Nat} {ts:Zl} {p:Value} {own:Nat→Nat} {gq:Gq} {DB N0:Nat} {Hk:Nat→Nat} {wN w w2:World}
theorem NG.c(h:NG M room k kt kw ts p own gq DB Hk N0 wN w):w.cell? ⟨M,0,none⟩=some gq.p∧w.cell? ⟨M,1,none⟩=some gq.hs∧w.cell? ⟨M,2,none⟩=some gq.tk∧w.cell? ⟨M,3,none⟩=some gq.wk∧w.cell? ⟨M,8,none⟩=some gq.dn:=by
 refine⟨?_,?_,?_,?_,?_⟩ <;> simp[World.cell?,h.blk,gArr]
theorem NG.fz(h:NG M room k kt kw ts p own gq DB Hk N0 wN w)(j:Nat):w.frozen? ⟨M,j,none⟩=false:=by simp[World.frozen?,h.blk]
def XM(room:Nat):Obj:=.cells #[.int .i64 room,.int .i64 (-1),.slice none 0 0] 143
theorem NG.hand1(h:NG M room k kt kw ts p own gq DB Hk N0 wN w)(h16:room≤16){ob:Obj}{g2 c2:Nat}(hgr:((w.alloc (XM room)).alloc ob).grownBy w2 gq.hs.ownBlock)(hat:(some g2:Option Nat)=gq.hs.ownBlock∨(some g2:Option Nat)=some ((w.alloc (XM room)).alloc ob).heap.size)
  (hown:w2.ownsRow (M+1) 141 1 (.slice (some ⟨g2,0,none⟩) (k+1) c2) (k+1) ((List.range k).map (fun j=>.pointer (some ⟨Hk j,0,none⟩))++[.pointer (some ⟨w.heap.size,0,none⟩)])) :
  w2.heap[M]?=w.heap[M]?∧∃own' Hk',NG M room (k+1) kt kw ts p own' { gq with hs:=.slice (some ⟨g2,0,none⟩) (k+1) c2 } DB Hk' N0 wN (w2.setCell ⟨M,1,none⟩ (.slice (some ⟨g2,0,none⟩) (k+1) c2)):=by
 have hM:=h.ltM
 have hkeep:∀b,b<w.heap.size→own b≠1→w2.heap[b]?=w.heap[b]?:=fun b hb hne=>(hgr.block b (by simp;omega) (fun e=>hne (h.lh b e.symm))).trans ((qa _ _ _ (by simp;omega)).trans (qa _ _ _ hb))
 have hM2:=hkeep M hM (by rw[h.lM];omega)
 have hsz:w.heap.size+2≤w2.heap.size:=by have:=hgr.size;simp at this;omega
 have hg2:g2≠M∧(own g2=1∧g2<w.heap.size∨w.heap.size+2≤g2):=by
  rcases hat with e|e
  ·have h1:=h.lh g2 e.symm
   have h2:=h.hlt e.symm
   refine⟨fun e2=>?_,Or.inl ⟨h1,h2⟩⟩
   rw[e2,h.lM]at h1;omega
  ·have e2:=Option.some.inj e
   simp at e2
   exact⟨by omega,Or.inr (by omega)⟩
 have hne:∀b,b≠M→(w2.setCell ⟨M,1,none⟩ (.slice (some ⟨g2,0,none⟩) (k+1) c2)).heap[b]?=w2.heap[b]?:=fun b hb=>qq5 _ _ _ _ (by show b≠M;exact hb)
 have hnewH:w2.heap[w.heap.size]?=some (XM room):=by
  refine(hgr.block w.heap.size (by simp;omega) (fun e=>by have:=h.hlt e.symm;omega)).trans ?_
  exact(qa _ _ _ (by simp)).trans (heap_alloc_new w _)
 refine⟨hM2,relabel (relabel own w.heap.size (10+k)) (w.heap.size+1) 1,updG Hk k w.heap.size,?_⟩
 refine NG.pushH (own':=relabel (relabel own w.heap.size (10+k)) (w.heap.size+1) 1) (w':=w2.setCell ⟨M,1,none⟩ (.slice (some ⟨g2,0,none⟩) (k+1) c2)) (Hk':=updG Hk k w.heap.size) h (fun b hb=>by rw[za (by omega),za hb]) (by simp;omega) ⟨hgr.os,hgr.tape,hgr.output⟩ (fun b hb hn1 hn2=>(hne b hn2).trans (hkeep b hb hn1)) ?_ (fun b e=>?_) (fun j hj=>zh _ _ (by omega)) ?_ ?_ ?_ ?_
 ·have e1:(List.range (k+1)).map (fun j=>Value.pointer (some ⟨updG Hk k w.heap.size j,0,none⟩))=(List.range k).map (fun j=>.pointer (some ⟨Hk j,0,none⟩))++[.pointer (some ⟨w.heap.size,0,none⟩)]:=by
   rw[List.range_succ,List.map_append]
   congr 1
   ·exact List.map_congr_left (fun j hj=>by rw[zh _ _ (by have:=List.mem_range.1 hj;omega)])
   ·simp[zg]
  rw[e1]
  exact yr hown (fun b e=>hne b (by have e2:=Option.some.inj e;rw[←e2];exact hg2.1))
 ·have e2:g2=b:=Option.some.inj e
  subst e2
  rcases hg2.2 with⟨h1,h2⟩|h1
  ·rw[za (by omega),za h2];exact h1
  ·exact zj (by omega)
 ·rw[zg]
  exact⟨(hne _ (by omega)).trans hnewH,RowI.nil _ _,Or.inl rfl,by simp,h16⟩
 ·rw[zg,za (by omega),zj (qq1 _)]
 ·rw[zg];omega
 ·have hMb:=hM2.trans h.blk
  rw[setCell_eq_setRow w2 M 1 _ 86 (0,0) _ hMb,setRow_heap w2 M _ _ 86 _ hMb]
  rfl
theorem NG.task1(h:NG M room k kt kw ts p own gq DB Hk N0 wN w){ob:Obj}{v:Value}(hgr:(w.alloc ob).grownBy w2 gq.tk.ownBlock)(hat:v.ownBlock=gq.tk.ownBlock∨v.ownBlock=some (w.alloc ob).heap.size)
  (hown:RowI (M+1) w2 v (upto kt (fun _=>-1)++[-1])):w2.heap[M]?=w.heap[M]?∧∃own',NG M room k (kt+1) kw ts p own' { gq with tk:=v } DB Hk N0 wN (w2.setCell ⟨M,2,none⟩ v):=by
 have hM:=h.ltM
 have hkeep:∀b,b<w.heap.size→own b≠2→w2.heap[b]?=w.heap[b]?:=fun b hb hne=>(hgr.block b (by simp;omega) (fun e=>hne (h.ltk b e.symm))).trans (qa _ _ _ hb)
 have hM2:=hkeep M hM (by rw[h.lM];omega)
 have hsz:w.heap.size+1≤w2.heap.size:=by have:=hgr.size;simp at this;omega
 have hl2:∀b,v.ownBlock=some b→relabel own w.heap.size 2 b=2:=fun b e=>by
  rcases hat with e2|e2
  ·have e3:=e2.symm.trans e
   rw[za (h.tk.low e3).2];exact h.ltk b e3
  ·have e3:=Option.some.inj (e2.symm.trans e)
   simp at e3
   exact zj (by omega)
 have hne:∀b,b≠M→(w2.setCell ⟨M,2,none⟩ v).heap[b]?=w2.heap[b]?:=fun b hb=>qq5 _ _ _ _ (by show b≠M;exact hb)
 refine⟨hM2,relabel own w.heap.size 2,?_⟩
 refine NG.pushT (own':=relabel own w.heap.size 2) (w':=w2.setCell ⟨M,2,none⟩ v) h (fun b hb=>za hb) (by simp;omega) ⟨hgr.os,hgr.tape,hgr.output⟩ (fun b hb hn1 hn2=>(hne b hn2).trans (hkeep b hb hn1)) ?_ hl2 ?_
 ·have e1:upto (kt+1) (fun _=>-1)=upto kt (fun _=>-1)++[-1]:=by unfold upto;rw[List.range_succ,List.map_append];rfl
  rw[e1]
  exact hown.of_blocks (fun b e=>hne b (fun e2=>by have h1:=hl2 b e;rw[e2,za hM,h.lM]at h1;omega))
 ·have hMb:=hM2.trans h.blk
  rw[setCell_eq_setRow w2 M 2 _ 86 (0,0) _ hMb,setRow_heap w2 M _ _ 86 _ hMb]
  rfl
theorem NG.work1(h:NG M room k kt kw ts p own gq DB Hk N0 wN w){ob:Obj}{v:Value}(hgr:(w.alloc ob).grownBy w2 gq.wk.ownBlock)(hat:v.ownBlock=gq.wk.ownBlock∨v.ownBlock=some (w.alloc ob).heap.size)
  (hown:RowI (M+1) w2 v (upto kw (fun _=>0)++[0])):w2.heap[M]?=w.heap[M]?∧∃own',NG M room k kt (kw+1) ts p own' { gq with wk:=v } DB Hk N0 wN (w2.setCell ⟨M,3,none⟩ v):=by
 have hM:=h.ltM
 have hkeep:∀b,b<w.heap.size→own b≠3→w2.heap[b]?=w.heap[b]?:=fun b hb hne=>(hgr.block b (by simp;omega) (fun e=>hne (h.lwk b e.symm))).trans (qa _ _ _ hb)
 have hM2:=hkeep M hM (by rw[h.lM];omega)
 have hsz:w.heap.size+1≤w2.heap.size:=by have:=hgr.size;simp at this;omega
 have hl2:∀b,v.ownBlock=some b→relabel own w.heap.size 3 b=3:=fun b e=>by
  rcases hat with e2|e2
  ·have e3:=e2.symm.trans e
   rw[za (h.wk.low e3).2];exact h.lwk b e3
  ·have e3:=Option.some.inj (e2.symm.trans e)
   simp at e3
   exact zj (by omega)
 have hne:∀b,b≠M→(w2.setCell ⟨M,3,none⟩ v).heap[b]?=w2.heap[b]?:=fun b hb=>qq5 _ _ _ _ (by show b≠M;exact hb)
 refine⟨hM2,relabel own w.heap.size 3,?_⟩
 refine NG.pushW (own':=relabel own w.heap.size 3) (w':=w2.setCell ⟨M,3,none⟩ v) h (fun b hb=>za hb) (by simp;omega) ⟨hgr.os,hgr.tape,hgr.output⟩ (fun b hb hn1 hn2=>(hne b hn2).trans (hkeep b hb hn1)) ?_ hl2 ?_
 ·have e1:upto (kw+1) (fun _=>0)=upto kw (fun _=>0)++[0]:=by unfold upto;rw[List.range_succ,List.map_append];rfl
  rw[e1]
  exact hown.of_blocks (fun b e=>hne b (fun e2=>by have h1:=hl2 b e;rw[e2,za hM,h.lM]at h1;omega))
 ·have hMb:=hM2.trans h.blk
  rw[setCell_eq_setRow w2 M 3 _ 86 (0,0) _ hMb,setRow_heap w2 M _ _ 86 _ hMb]
  rfl
end
end Go.Proofs.YtlfbdjeojgbniaaGreatDoor
namespace Go.Proofs.YtlfbdjeojgbniaaGreatDoor.Prk
open Go.RowKit Go.Deep
set_option maxHeartbeats 800000 in
theorem zjm(A:Nat→Prop)(v:Value)(zs:List Int)(x:Int)(w:World)(hz:Rds A w v zs)(hx:zs.length≤1000) :
  Calls Tryz.prog 68 #[v,.int .i64 x] w fun e w'=>e=.returned (.bool (memB zs x))∧w'=w:=by
 obtain⟨a,c,rfl,-,hz⟩:=hz
 have HZ:Hid (∀k,k<zs.length→∃b o,a=some ⟨b,o,none⟩∧A b∧b<w.heap.size∧w.cell? ⟨b,o+k,none⟩=some (.int .i64 (zs.getD k 0))):=hz
 clear hz
 go_enter Tryz.func68,Tryz.ntmps68
 go_wp2
 go_loop [5] (fun i=>∃k:Nat,k≤zs.length∧i=.int .i64 k∧Hid (x∉zs.take k)) (fun i=>zs.length-(intOf i).toNat)
 case atStart=>exact⟨0,Nat.zero_le _,rfl,by simp[Hid]⟩
 case round=>
  obtain⟨k,hk,rfl,hno⟩:=hrel
  by_cases hkl:k<zs.length
  ·obtain⟨b,o,rfl,-,-,hck⟩:=HZ.out k hkl
   generalize hy:zs.getD k 0=y at hck
   have HY:Hid (zs.getD k 0=y):=hy
   clear hy
   by_cases e:y=x
   ·have he:(y==x)=true:=by simp[e]
    have HM:Hid (x∈zs):=zeT hkl (HY.out.trans e)
    clear e
    go_wp2
    go_ret
    exact⟨zM (by simp[memB,HM.out]),rfl⟩
   ·have he:(y==x)=false:=by simp[e]
    have HM:Hid (x∉zs.take (k+1)):=xk x zs k hkl hno.out (by rw[HY.out];exact e)
    clear e
    go_wp2
    go_round
    case rel=>exact⟨k+1,by omega,by go_num,HM⟩
    case measure=>simp[intOf];omega
  ·have HM:Hid (x∉zs):=by have:=hno.out;rwa [List.take_of_length_le (by omega)]at this
   go_wp2
   go_ret
   exact⟨zM (by simp[memB,HM.out]),rfl⟩
end Go.Proofs.YtlfbdjeojgbniaaGreatDoor.Prk
namespace Go.Proofs.YtlfbdjeojgbniaaGreatDoor
section
open Go.RowKit Go.Deep
open Spl.Dsp (Gq gArr)
theorem inZ{v:Value}{b:Nat}{zs:List Int}{w:World}(h:RowI b w v zs)(hz:zs.length≤6)(x:Int):Calls Tryz.prog 68 #[v,.int .i64 x] w fun e w'=>e=.returned (.bool (decide (x∈zs)))∧w'=w:=
 Prk.zjm _ v zs x w h.rds (by omega)
variable (M room hands:Nat) (ts:Zl) (p:Value) (g:Gs) (Bd:Bs) (w0 w:World) (h:Nat) (pick:Int)
set_option maxRecDepth 100000 in
theorem zcm(hD:DgE M room hands ts p g Bd w0 w)(hz:(h:Int)∈g.zz) :
  Calls Tryz.prog 36 #[.pointer (some ⟨M,0,none⟩),.int .i64 h,.int .i64 pick] w fun e w'=>(∃v,e=.returned v∧RowD w.heap.size w' v [])∧DgE M room hands ts p g Bd w0 w':=by
 have HD:Hid (DgE M room hands ts p g Bd w0 w):=hD
 obtain⟨own,gq,vf,vh,HB,hc,DB,dc,Hk,vk,hp,hD⟩:=hD
 have hin:=inZ hD.row hD.zle (h:Int)
 rw[decide_eq_true hz]at hin
 have hc7:=hD.c.2.2.2.2.1
 clear hD hp hz
 go_enter Tryz.func36,Tryz.ntmps36
 go_wp2_with (first|(go_at_call 68;refine hin.mono ?_;clear hin;rintro e w ⟨rfl,rfl⟩))
 go_ret
 exact⟨⟨_,rfl,RowD.nil _ _⟩,HD.out⟩
theorem Dg.tw{M room hands:Nat}{ts:Zl}{g:Gs}{own:Nat→Nat}{gq:Gq}{vf vh:Value}{HB hc DB dc:Nat}{Hk:Nat→Nat}{vk:Nat→Value}{Bd:Bs}{w0 w:World}(hD:Dg M room hands ts g own gq vf vh HB hc DB dc Hk vk Bd w0 w){h:Nat}(hh:h<hands) :
  ∃tb tc wb wc,gq.tk=.slice (some ⟨tb,0,none⟩) hands tc∧gq.wk=.slice (some ⟨wb,0,none⟩) hands wc∧w.cell? ⟨tb,h,none⟩=some (.int .i64 (g.task h))∧w.cell? ⟨wb,h,none⟩=some (.int .i64 (g.work h))∧own tb=2∧own wb=3∧tb<w.heap.size∧wb<w.heap.size∧(∀j,w.frozen? ⟨tb,j,none⟩=false)∧∀j,w.frozen? ⟨wb,j,none⟩=false:=by
 obtain⟨tb,tc,htv,-,htlt,-⟩:=hD.tk.full (by rw[zo];omega)
 obtain⟨wb,wc,hwv,-,hwlt,-⟩:=hD.wk.full (by rw[zo];omega)
 rw[zo]at htv hwv
 have htk:=hD.tk
 have hwk:=hD.wk
 rw[htv]at htk
 rw[hwv]at hwk
 have hct:=htk.cell (k:=h) (by rw[zo];exact hh)
 have hcw:=hwk.cell (k:=h) (by rw[zo];exact hh)
 rw[zai _ hh]at hct hcw
 exact⟨tb,tc,wb,wc,htv,hwv,hct,hcw,hD.ltk tb (by rw[htv];rfl),hD.lwk wb (by rw[hwv];rfl),htlt,hwlt,fun j=>RowI.frozen htk j,fun j=>RowI.frozen hwk j⟩
theorem Dg.workTo{M room hands:Nat}{ts:Zl}{g:Gs}{own:Nat→Nat}{gq:Gq}{vf vh:Value}{HB hc DB dc:Nat}{Hk:Nat→Nat}{vk:Nat→Value}{Bd:Bs}{w0 w:World}(hD:Dg M room hands ts g own gq vf vh HB hc DB dc Hk vk Bd w0 w){h wb wc:Nat}(hh:h<hands)(hwv:gq.wk=.slice (some ⟨wb,0,none⟩) hands wc)(x:Int) :
  Dg M room hands ts { g with work:=updG g.work h x } (relabel own w.heap.size 3) gq vf vh HB hc DB dc Hk vk Bd w0 (w.setCell ⟨wb,h,none⟩ (.int .i64 x)):=by
 have hwk:=hD.wk
 rw[hwv]at hwk
 have h2:=hwk.setAt (k:=h) (by rw[zo];exact hh) x
 rw[jP,←hwv]at h2
 exact hD.setWork (updG g.work h x) h2 (Kc.store (b:=wb) (hD.lwk wb (by rw[hwv];rfl)) h (.int .i64 x))
theorem Dg.taskTo{M room hands:Nat}{ts:Zl}{g:Gs}{own:Nat→Nat}{gq:Gq}{vf vh:Value}{HB hc DB dc:Nat}{Hk:Nat→Nat}{vk:Nat→Value}{Bd:Bs}{w0 w:World}(hD:Dg M room hands ts g own gq vf vh HB hc DB dc Hk vk Bd w0 w){h tb tc:Nat}(hh:h<hands)(htv:gq.tk=.slice (some ⟨tb,0,none⟩) hands tc)(x:Int) :
  Dg M room hands ts { g with task:=updG g.task h x } (relabel own w.heap.size 2) gq vf vh HB hc DB dc Hk vk Bd w0 (w.setCell ⟨tb,h,none⟩ (.int .i64 x)):=by
 have htk:=hD.tk
 rw[htv]at htk
 have h2:=htk.setAt (k:=h) (by rw[zo];exact hh) x
 rw[jP,←htv]at h2
 exact hD.setTask (updG g.task h x) h2 (Kc.store (b:=tb) (hD.ltk tb (by rw[htv];rfl)) h (.int .i64 x))
set_option maxRecDepth 100000 in
set_option maxHeartbeats 2000000 in
theorem zc5(hD:DgE M room hands ts p g Bd w0 w)(hh:h<hands)(_h6:hands≤6)(hz:(h:Int)∉g.zz)(ht:0≤g.task h)(hw:1<g.work h)(hw2:g.work h≤100) :
  Calls Tryz.prog 36 #[.pointer (some ⟨M,0,none⟩),.int .i64 h,.int .i64 pick] w fun e w'=>(∃v,e=.returned v∧RowD w.heap.size w' v [])∧DgE M room hands ts p { g with work:=updG g.work h (g.work h-1) } Bd w0 w':=by
 obtain⟨own,gq,vf,vh,HB,hc,DB,dc,Hk,vk,rfl,hD⟩:=hD
 have hin:=inZ hD.row hD.zle (h:Int)
 rw[decide_eq_false hz]at hin
 obtain⟨-,-,hc2,hc3,hc7,-⟩:=hD.c
 obtain⟨tb,tc,wb,wc,htv,hwv,hct,hcw,htl,hwl,htlt,hwlt,hfT,hfW⟩:=hD.tw hh
 rw[htv]at hc2
 rw[hwv]at hc3
 have hD2:=hD.workTo hh hwv (g.work h-1)
 have HD2:Hid (DgE M room hands ts gq.p { g with work:=updG g.work h (g.work h-1) } Bd w0 (w.setCell ⟨wb,h,none⟩ (.int .i64 (g.work h-1)))):=hD2.e
 have d3:=hD2.c.2.2.2.1
 rw[hwv]at d3
 have dcw:(w.setCell ⟨wb,h,none⟩ (.int .i64 (g.work h-1))).cell? ⟨wb,h,none⟩=some (.int .i64 (g.work h-1)):=by
  obtain⟨tb',tc',wb',wc',-,hwv',-,hcw',-⟩:=hD2.tw hh
  rw[hwv]at hwv'
  simp only[Value.slice.injEq,Option.some.injEq,Addr.mk.injEq,and_true,true_and]at hwv'
  obtain⟨rfl,rfl⟩:=hwv'
  simpa[zg]using hcw'
 have hfw:=hfW h
 have hhi:(h:Int)<(hands:Int):=by omega
 generalize g.task h=t at *
 generalize g.work h=wk at *
 have hg:0<wk-1:=by omega
 clear hD hD2 hfT hfW htl hwl hz
 go_enter Tryz.func36,Tryz.ntmps36
 go_wp2_with (first|(go_at_call 68;refine hin.mono ?_;clear hin;rintro e w ⟨rfl,rfl⟩))
 go_ret
 exact⟨⟨_,rfl,RowD.nil _ _⟩,HD2.out⟩
theorem RowD.told(w w':World)(hb:w.heap.size≤w'.heap.size)(d:Deed):RowD w.heap.size (w'.alloc (.cells #[.int .i64 d.1,.int .i64 d.2.1,.int .i64 d.2.2.1,.int .i64 d.2.2.2] 91)) (.slice (some ⟨w'.heap.size,0,none⟩) 1 1) [d]:=(RowD.one w' d).mono hb
set_option maxRecDepth 100000 in
set_option maxHeartbeats 4000000 in
theorem zet(hD:DgE M room hands ts p g Bd w0 w)(hh:h<hands)(h6:hands≤6)(hz:(h:Int)∉g.zz)(ht:¬0≤g.task h)(hn:g.near h≠-1)(i:Nat)(hi:i<ts.length)(hni:g.near h=((i:Nat):Int)) :
  Calls Tryz.prog 36 #[.pointer (some ⟨M,0,none⟩),.int .i64 h,.int .i64 pick] w fun e w'=>(∃v,e=.returned v∧RowD w.heap.size w' v [(1,(h:Int),((i:Nat):Int),0)])∧DgE M room hands ts p (takes ts { g with near:=updG g.near h (-1) } h ((i:Nat):Int)) Bd w0 w':=by
 obtain⟨own,gq,vf,vh,HB,hc,DB,dc,Hk,vk,rfl,hD⟩:=hD
 have hin:=inZ hD.row hD.zle (h:Int)
 rw[decide_eq_false hz]at hin
 obtain⟨-,-,hc2,hc3,hc7,-⟩:=hD.c
 obtain⟨hc1,hcp⟩:=hD.hands1 hh
 obtain⟨tb,tc,wb,wc,htv,hwv,hct,-⟩:=hD.tw hh
 rw[htv]at hc2
 have htk:=hD.takeNear hh hn
 rw[hni]at htk
 have hhi:(h:Int)<(hands:Int):=by omega
 generalize g.task h=t at *
 clear hD hz
 go_enter Tryz.func36,Tryz.ntmps36
 go_wp2_with (first|(go_at_call 68;refine hin.mono ?_;clear hin;rintro e w ⟨rfl,rfl⟩)|(go_at_call 71;refine htk.mono ?_;clear htk;rintro e w2 ⟨rfl,hD2,hs2⟩;have hta:=zbQ M room hands ts gq.p _ Bd w0 w2 hD2 h i hh h6 hi;clear hD2)|(go_at_call 72;refine hta.mono ?_;clear hta;rintro e w3 ⟨rfl,hD3,hs3⟩;have HD3:Hid (DgE M room hands ts gq.p (takes ts { g with near:=updG g.near h (-1) } h ((i:Nat):Int)) Bd w0 w3):=hD3;clear hD3))
 go_ret
 exact⟨⟨_,rfl,RowD.told w w3 (by omega) (1,(h:Int),((i:Nat):Int),0)⟩,HD3.out.later ((qq4 _ _).alloc (qq1 _) _)⟩
set_option maxRecDepth 100000 in
set_option maxHeartbeats 4000000 in
theorem zeu(hD:DgE M room hands ts p g Bd w0 w)(hh:h<hands)(h6:hands≤6)(hz:(h:Int)∉g.zz)(ht:¬0≤g.task h)(hn:g.near h=-1)(hr:g.ring h≠[])(i:Nat)(hi:i<ts.length)(hni:(g.ring h).getLastD 0=((i:Nat):Int)) :
  Calls Tryz.prog 36 #[.pointer (some ⟨M,0,none⟩),.int .i64 h,.int .i64 pick] w fun e w'=>(∃v,e=.returned v∧RowD w.heap.size w' v [(1,(h:Int),((i:Nat):Int),0)])∧DgE M room hands ts p (takes ts { g with ring:=updG g.ring h (g.ring h).dropLast } h ((i:Nat):Int)) Bd w0 w':=by
 obtain⟨own,gq,vf,vh,HB,hc,DB,dc,Hk,vk,rfl,hD⟩:=hD
 have hin:=inZ hD.row hD.zle (h:Int)
 rw[decide_eq_false hz]at hin
 obtain⟨-,-,hc2,hc3,hc7,-⟩:=hD.c
 obtain⟨hc1,hcp⟩:=hD.hands1 hh
 obtain⟨tb,tc,wb,wc,htv,hwv,hct,-⟩:=hD.tw hh
 rw[htv]at hc2
 have htk:=hD.takeRing hh hn hr
 rw[hni]at htk
 have hhi:(h:Int)<(hands:Int):=by omega
 generalize g.task h=t at *
 clear hD hz hni
 go_enter Tryz.func36,Tryz.ntmps36
 go_wp2_with (first|(go_at_call 68;refine hin.mono ?_;clear hin;rintro e w ⟨rfl,rfl⟩)|(go_at_call 71;refine htk.mono ?_;clear htk;rintro e w2 ⟨rfl,hD2,hs2⟩;have hta:=zbQ M room hands ts gq.p _ Bd w0 w2 hD2 h i hh h6 hi;clear hD2)|(go_at_call 72;refine hta.mono ?_;clear hta;rintro e w3 ⟨rfl,hD3,hs3⟩;have HD3:Hid (DgE M room hands ts gq.p (takes ts { g with ring:=updG g.ring h (g.ring h).dropLast } h ((i:Nat):Int)) Bd w0 w3):=hD3;clear hD3))
 go_ret
 exact⟨⟨_,rfl,RowD.told w w3 (by omega) (1,(h:Int),((i:Nat):Int),0)⟩,HD3.out.later ((qq4 _ _).alloc (qq1 _) _)⟩
set_option maxRecDepth 100000 in
set_option maxHeartbeats 4000000 in
theorem zc3(hD:DgE M room hands ts p g Bd w0 w)(hh:h<hands)(h6:hands≤6)(h16:room≤16)(hz:(h:Int)∉g.zz)(ht:¬0≤g.task h)(hn:g.near h=-1)(hr:g.ring h=[])(i:Nat)(hi:i<ts.length)(l:List Int)(hs:g.sp=((i:Nat):Int)::l) :
  Calls Tryz.prog 36 #[.pointer (some ⟨M,0,none⟩),.int .i64 h,.int .i64 pick] w fun e w'=>(∃v,e=.returned v∧RowD w.heap.size w' v [(3,(h:Int),((i:Nat):Int),0)])∧DgE M room hands ts p (takes ts { g with sp:=g.sp.tail } h ((i:Nat):Int)) Bd w0 w':=by
 obtain⟨own,gq,vf,vh,HB,hc,DB,dc,Hk,vk,rfl,hD⟩:=hD
 have hin:=inZ hD.row hD.zle (h:Int)
 rw[decide_eq_false hz]at hin
 obtain⟨-,-,hc2,hc3,hc7,-⟩:=hD.c
 obtain⟨hc1,hcp⟩:=hD.hands1 hh
 obtain⟨tb,tc,wb,wc,htv,hwv,hct,-⟩:=hD.tw hh
 rw[htv]at hc2
 have htk:=hD.takeNone hh hn hr
 have hget:=hD.get1 h16
 have h1:g.sp.take 1=[((i:Nat):Int)]:=by rw[hs];rfl
 rw[h1]at hget
 have hhi:(h:Int)<(hands:Int):=by omega
 generalize g.task h=t at *
 clear hD hz hs h1
 go_enter Tryz.func36,Tryz.ntmps36
 go_wp2_with (first|(go_at_call 68;refine hin.mono ?_;clear hin;rintro e w ⟨rfl,rfl⟩)|(go_at_call 71;refine htk.mono ?_;clear htk;rintro e w ⟨rfl,rfl⟩)|(go_at_call 73;refine hget.mono ?_;clear hget;rintro e w2 ⟨⟨ov,rfl,ho⟩,⟨own2,vf2,vh2,hD2,hl2⟩,hs2⟩;obtain⟨oa,oc,rfl⟩:=ho.shape;obtain⟨ob,oo,rfl,hob,hol,hco⟩:=ho.at (k:=0) (by simp);simp only[Nat.add_zero,List.getD_cons_zero,List.length_singleton]at hco ⊢;have HO2:Hid (w2.cell? ⟨ob,oo,none⟩=some (.int .i64 ((i:Nat):Int))∧ob<w2.heap.size∧own2 ob=6):=⟨hco,hol,hl2 ob hob⟩;have hta:=hD2.take h i hh h6 hi;clear hD2 ho hl2)|(go_at_call 72;refine hta.mono ?_;clear hta;rintro e w3 ⟨rfl,⟨own3,hD3⟩,hk3⟩;have hco3:=(qq9 (a:=⟨ob,oo,none⟩) (hk3.block ob HO2.out.2.1 (by have:=HO2.out.2.2;omega))).trans HO2.out.1;have hs3:=hk3.size;have HD3:Hid (DgE M room hands ts gq.p (takes ts { g with sp:=g.sp.tail } h ((i:Nat):Int)) Bd w0 w3):=hD3.e;clear hD3 hk3 hco))
 go_ret
 exact⟨⟨_,rfl,RowD.told w w3 (by omega) (3,(h:Int),((i:Nat):Int),0)⟩,HD3.out.later ((qq4 _ _).alloc (qq1 _) _)⟩
end
section
open Go.RowKit Go.Deep
open Spl.Dsp (Gq gArr)
theorem Dg.rowStore{M room hands:Nat}{ts:Zl}{g:Gs}{own:Nat→Nat}{gq:Gq}{vf vh:Value}{HB hc DB dc:Nat}{Hk:Nat→Nat}{vk:Nat→Value}{Bd:Bs}{w0 w w1:World}(hD:Dg M room hands ts g own gq vf vh HB hc DB dc Hk vk Bd w0 w)(hK:Kc own (fun c=>c=4) w w1){v:Value}{z:List Int}(hr:RowI (M+1) w1 v z)(hz:z.length≤6)(hl:Lb (relabel own w.heap.size 4) 4 v) :
  Dg M room hands ts { g with zz:=z } (relabel own w.heap.size 4) { gq with rw:=v } vf vh HB hc DB dc Hk vk Bd w0 (w1.setCell ⟨M,7,none⟩ v):=by
 have hM1:w1.heap[M]?=some (.cells (gArr gq room vf vh) 86 (0,0)):=(hK.block M hD.ltM (by have:=hD.lM;omega)).trans hD.blk
 refine hD.setRow z v (hr.of_blocks (fun k e=>qq5 _ _ _ _ (by show k≠M;have:=(hr.low e).1;omega))) hz hl ?_ ⟨hK.os,hK.tape,hK.output,by simpa using hK.size,fun k hk hne=>(qq5 _ _ _ _ (by show k≠M;intro e;subst e;exact hne (Or.inl hD.lM))).trans (hK.block k hk (fun e=>hne (Or.inr e)))⟩
 rw[setCell_eq_setRow w1 M 7 _ 86 (0,0) v hM1,setRow_heap w1 M _ _ 86 _ hM1];rfl
theorem Dg.rowApp{M room hands:Nat}{ts:Zl}{g:Gs}{own:Nat→Nat}{gq:Gq}{vf vh:Value}{HB hc DB dc:Nat}{Hk:Nat→Nat}{vk:Nat→Value}{Bd:Bs}{w0 w w2:World}(hD:Dg M room hands ts g own gq vf vh HB hc DB dc Hk vk Bd w0 w){o:Obj}{v2:Value}{x:Int}(hown:RowI (M+1) w2 v2 (g.zz++[x]))(hgr:(w.alloc o).grownBy w2 gq.rw.ownBlock)(hat:v2.ownBlock=gq.rw.ownBlock∨v2.ownBlock=some (w.alloc o).heap.size)(hl:g.zz.length<6) :
  Dg M room hands ts { g with zz:=g.zz++[x] } (relabel own w.heap.size 4) { gq with rw:=v2 } vf vh HB hc DB dc Hk vk Bd w0 (w2.setCell ⟨M,7,none⟩ v2)∧w2.heap[M]?=w.heap[M]?∧w.heap.size≤w2.heap.size:=by
 have hsz:(w.alloc o).heap.size=w.heap.size+1:=by simp
 have hk:Kc own (fun c=>c=4) w w2:=⟨hgr.os,hgr.tape,hgr.output,by have:=hgr.size;omega,fun k hk hne=>(hgr.block k (by omega) (fun e=>hne (hD.lrw k e.symm))).trans (qa _ _ _ hk)⟩
 refine⟨hD.rowStore hk hown (by simp;omega) (Lb.near hD.lrw (fun k e=>(hD.row.low e).2) (fun k e=>?_)),hk.block M hD.ltM (by have:=hD.lM;omega),hk.size⟩
 rcases hat with h|h
 ·exact Or.inl (h.symm.trans e)
 ·have e2:=h.symm.trans e
  simp only[Option.some.injEq]at e2
  exact Or.inr (by omega)
variable (M room hands:Nat) (ts:Zl) (p:Value) (g:Gs) (Bd:Bs) (w0 w:World) (h pick:Nat)
set_option maxRecDepth 100000 in
set_option maxHeartbeats 4000000 in
theorem zc4(hD:DgE M room hands ts p g Bd w0 w)(hh:h<hands)(h6:hands≤6)(h16:room≤16)(hz:(h:Int)∉g.zz)(hzl:g.zz.length<6)(ht:¬0≤g.task h)(hn:g.near h=-1)(hr:g.ring h=[])(hs:g.sp=[])(_hp63:pick<9223372036854775808)(ho:pick % hands=h∨g.ring (pick % hands)=[]) :
  Calls Tryz.prog 36 #[.pointer (some ⟨M,0,none⟩),.int .i64 h,.int .i64 pick] w fun e w'=>(∃v,e=.returned v∧RowD w.heap.size w' v [(5,(h:Int),0,0)])∧DgE M room hands ts p { g with zz:=g.zz++[(h:Int)] } Bd w0 w':=by
 obtain⟨own,gq,vf,vh,HB,hc,DB,dc,Hk,vk,rfl,hD⟩:=hD
 have hin:=inZ hD.row hD.zle (h:Int)
 rw[decide_eq_false hz]at hin
 obtain⟨-,-,hc2,hc3,hc7,-⟩:=hD.c
 obtain⟨hc1,hcp⟩:=hD.hands1 hh
 obtain⟨tb,tc,wb,wc,htv,hwv,hct,-⟩:=hD.tw hh
 rw[htv]at hc2
 have htk:=hD.takeNone hh hn hr
 have hget:=hD.get1 h16
 rw[hs]at hget
 simp only[List.take_nil,List.tail_nil]at hget
 have hhi:(h:Int)<(hands:Int):=by omega
 generalize g.task h=t at *
 obtain⟨o,hod⟩:∃o,o=pick % hands:=⟨_,rfl⟩
 have hoh:o<hands:=by rw[hod];exact Nat.mod_lt _ (by omega)
 have hmod:(pick:Int).tmod (hands:Int)=(o:Int):=by rw[hod];exact Int.ofNat_tmod pick hands
 have hh0:((hands:Int)==0)=false:=by simp;omega
 rw[←hod]at ho
 have hho':(o:Int)<(hands:Int):=by omega
 have HS:Hid ({ g with sp:=[] }=g):=by show _=_;rw[←hs]
 clear hD hz hod
 go_enter Tryz.func36,Tryz.ntmps36
 go_upto_if 204 with (first|(go_at_call 68;refine hin.mono ?_;clear hin;rintro e w ⟨rfl,rfl⟩)|(go_at_call 71;refine htk.mono ?_;clear htk;rintro e w ⟨rfl,rfl⟩)|(go_at_call 73;refine hget.mono ?_;clear hget;rintro e w2 ⟨⟨ov,rfl,ho2⟩,⟨own2,vf2,vh2,hD2,-⟩,hs2⟩;obtain⟨oa,oc,rfl⟩:=ho2.shape;have HD2:Hid (Dg M room hands ts g own2 gq vf2 vh2 HB hc DB dc Hk vk Bd w0 w2):=by { have:=HS.out;rw[←this];exact hD2 };have e1:=hD2.hands1 hoh;obtain⟨e1,e2⟩:=e1;simp only[List.length_nil]at ⊢;clear hD2 ho2))
 go_cut [20] from 204 to 212 (fun s20 wx=>∃(oa:Option Addr) (oc:Nat) (own3:Nat→Nat) (vk3:Nat→Value),s20=.slice oa 0 oc∧Hid (Dg M room hands ts g own3 gq vf2 vh2 HB hc DB dc Hk vk3 Bd w0 wx)∧w.heap.size≤wx.heap.size)
 case first=>as_aux_lemma=>
  by_cases hoe:o=h
  ·subst hoe
   have hne:((o:Int) != (o:Int))=false:=by simp
   go_wp2
   go_meet
   exact⟨oa,oc,own2,vk,rfl,HD2,by omega⟩
  ·have hne:((o:Int) != (h:Int))=true:=by simp;omega
   have hro:=ho.resolve_left hoe
   have hrob:=HD2.out.rob hoh
   rw[hro]at hrob
   simp only[List.take_nil,List.drop_nil]at hrob
   have HU:Hid ({ g with ring:=updG g.ring o [] }=g):=by show _=_;rw[←hro,xC]
   go_wp2_with (first|(go_at_call 74;refine hrob.mono ?_;clear hrob;rintro e w3 ⟨⟨ov,rfl,ho3⟩,⟨own3,vk3,hD3,-⟩,hs3⟩;obtain⟨oa3,oc3,rfl⟩:=ho3.shape;have HD3:Hid (Dg M room hands ts g own3 gq vf2 vh2 HB hc DB dc Hk vk3 Bd w0 w3):=by { have:=HU.out;rw[←this];exact hD3 };simp only[List.length_nil]at ⊢;clear hD3 ho3))
   go_meet
   exact⟨_,_,own3,vk3,rfl,HD3,by omega⟩
 case rest=>as_aux_lemma=>
  obtain⟨oa3,oc3,own3,vk3,rfl,hD3,hsz⟩:=hcut
  clear HD2 e1 e2 hc1 hcp hc2 hc3 hc7 hct hs2 htv hwv
  have hc7:=hD3.out.c.2.2.2.2.1
  have hfz:=hD3.out.fz 7
  obtain⟨ra,rc,hrv⟩:=hD3.out.row.shape
  have HROW:Hid (RowI (M+1) wc (.slice ra g.zz.length rc) g.zz):=by rw[←hrv];exact hD3.out.row
  have HRV:Hid (gq.rw=.slice ra g.zz.length rc):=hrv
  rw[hrv]at hc7
  have hMl:=hD3.out.ltM
  have hca:(wc.alloc (.cells #[.int .i64 h] 3)).cell? ⟨M,7,none⟩=some (.slice ra g.zz.length rc):=(qq9 (a:=⟨M,7,none⟩) (qa _ _ _ hMl)).trans hc7
  have HO:Hid (Rds (fun _=>True) (wc.alloc (.cells #[.int .i64 h] 3)) (.slice (some ⟨wc.heap.size,0,none⟩) 1 1) [(h:Int)]):=zK wc h
  clear hrv
  go_wp2_with (first|(at_builtin;go_loud (refine ze rfl (.tmp 220) (.tmp 222) rfl (M+1) (fun _=>True) (.slice ra g.zz.length rc) (.slice (some ⟨wc.heap.size,0,none⟩) 1 1) g.zz [(h:Int)] rfl rfl (HROW.out.alloc _) HO.out (by simp;omega) (by simp;omega) ?_;intro v2 w2b hown hgr hat;have hA:=hD3.out.rowApp hown (by rw[HRV.out];exact hgr) (by rw[HRV.out];exact hat) hzl;obtain⟨hA1,hA2,hA3⟩:=hA;have HA:Hid (DgE M room hands ts gq.p { g with zz:=g.zz++[(h:Int)] } Bd w0 (w2b.setCell ⟨M,7,none⟩ v2)):=hA1.e;have hz2:=(World.frozen?_of_block (a:=⟨M,7,none⟩) hA2).trans hfz;have hcm:=(qq9 (a:=⟨M,7,none⟩) hA2).trans hc7;obtain⟨a2,k2,rfl⟩:=hown.shape;simp only[List.length_append,List.length_singleton]at HA ⊢;clear hown hgr hat hA1 hA2 hc7 hca hfz)))
  go_ret
  have hX:(w2b.setCell ⟨M,7,none⟩ (.slice a2 (g.zz.length+1) k2)).heap.size=w2b.heap.size:=by simp
  have hT:=RowD.told w (w2b.setCell ⟨M,7,none⟩ (.slice a2 (g.zz.length+1) k2)) (by omega) (5,(h:Int),0,0)
  rw[hX]at hT
  exact⟨⟨_,rfl,hT⟩,HA.out.later ((qq4 _ _).alloc (qq1 _) _)⟩
end
end Go.Proofs.YtlfbdjeojgbniaaGreatDoor

import Derived.Test.YtlfbdjeojgbniaaGreatDoorRan23
import Derived.Test.YtlfbdjeojgbniaaGreatDoorRan25
namespace Go.Proofs.YtlfbdjeojgbniaaGreatDoor
section
open Go.RowKit Go.Deep
open Spl.Dsp (Gq gArr)
structure Dg (M room hands:Nat) (ts:Zl) (g:Gs) (own:Nat→Nat) (gq:Gq) (vf vh:Value) (HB hc DB dc:Nat) (Hk:Nat→Nat) (vk:Nat→Value) (Bd:Bs) (w0 w:World):Prop where
 blk:w.heap[M]?=some (.cells (gArr gq room vf vh) 86 (0,0))
 lM:own M=0
 fr:RowI (M+1) w vf (g.sp.take room)
 hp:RowI (M+1) w vh (g.sp.drop room)
 lf:Lb own 6 vf
 lh:Lb own 6 vh
 apart:Spl.Yr vf vh
 le60:g.sp.length≤60
 tk:RowI (M+1) w gq.tk (upto hands g.task)
 ltk:Lb own 2 gq.tk
 wk:RowI (M+1) w gq.wk (upto hands g.work)
 lwk:Lb own 3 gq.wk
 row:RowI (M+1) w gq.rw g.zz
 lrw:Lb own 4 gq.rw
 zle:g.zz.length≤6
 hs:gq.hs=.slice (some ⟨HB,0,none⟩) hands hc
 hblt:HB<w.heap.size
 lHB:own HB=1
 hcell:∀k,k<hands→w.cell? ⟨HB,k,none⟩=some (.pointer (some ⟨Hk k,0,none⟩))
 hand:∀k,k<hands→Hnd.Mh (Hk k) room (g.near k) (g.ring k) (vk k) w
 lH:∀k,k<hands→own (Hk k)=10+k∧Lb own (10+k) (vk k)
 hMk:∀k,k<hands→M<Hk k
 dn:gq.dn=.slice (some ⟨DB,0,none⟩) ts.length dc
 drow:w.rowIs DB 4 ts.length (fun k=>.bool (g.S k))
 lDB:own DB=5
 plan:Zf w0 gq.p ts
 base:w0.heap.size≤M
 far:∀k,Bd.X k→k<Bd.w1.heap.size∧own k=9∧w.heap[k]?=Bd.w1.heap[k]?
 w1le:Bd.w1.heap.size≤w.heap.size
 io:w.os=Bd.w1.os∧w.tape=Bd.w1.tape∧w.output=Bd.w1.output
 below:Below w0.heap.size w0 w
 lowL:∀k,k<w0.heap.size→own k=9
variable {M room hands:Nat} {ts:Zl} {g:Gs} {own:Nat→Nat} {gq:Gq} {vf vh:Value} {HB hc DB dc:Nat} {Hk:Nat→Nat} {vk:Nat→Value} {Bd:Bs} {w0 w w':World}
theorem Dg.ltM(h:Dg M room hands ts g own gq vf vh HB hc DB dc Hk vk Bd w0 w):M<w.heap.size:=(Array.getElem?_eq_some_iff.1 h.blk).1
theorem Dg.c(h:Dg M room hands ts g own gq vf vh HB hc DB dc Hk vk Bd w0 w):w.cell? ⟨M,0,none⟩=some gq.p∧w.cell? ⟨M,1,none⟩=some gq.hs∧w.cell? ⟨M,2,none⟩=some gq.tk∧w.cell? ⟨M,3,none⟩=some gq.wk∧w.cell? ⟨M,7,none⟩=some gq.rw∧w.cell? ⟨M,8,none⟩=some gq.dn:=by
 refine⟨?_,?_,?_,?_,?_,?_⟩ <;> simp[World.cell?,h.blk,gArr]
theorem Dg.fz(h:Dg M room hands ts g own gq vf vh HB hc DB dc Hk vk Bd w0 w)(j:Nat):w.frozen? ⟨M,j,none⟩=false:=by simp[World.frozen?,h.blk]
theorem Dg.md(h:Dg M room hands ts g own gq vf vh HB hc DB dc Hk vk Bd w0 w):Spl.Dsp.Md gq M room g.sp vf vh w:=⟨h.blk,h.fr,h.hp,h.apart,h.le60⟩
theorem Dg.later0(h:Dg M room hands ts g own gq vf vh HB hc DB dc Hk vk Bd w0 w)  (K:Kc own (fun _=>False) w w'):Dg M room hands ts g (relabel own w.heap.size 9) gq vf vh HB hc DB dc Hk vk Bd w0 w':=by
 exact {
  blk:=(K.block M h.ltM (by have:=h.lM;first|omega|exact id)).trans h.blk
  lM:=by rw[za h.ltM];exact h.lM
  fr:=h.fr.kc h.lf (by simp) K
  hp:=h.hp.kc h.lh (by simp) K
  lf:=h.lf.re h.fr
  lh:=h.lh.re h.hp
  apart:=h.apart
  le60:=h.le60
  tk:=h.tk.kc h.ltk (by simp) K
  ltk:=h.ltk.re h.tk
  wk:=h.wk.kc h.lwk (by simp) K
  lwk:=h.lwk.re h.wk
  row:=h.row.kc h.lrw (by simp) K
  lrw:=h.lrw.re h.row
  zle:=h.zle
  hs:=h.hs
  hblt:=qq3 h.hblt K.size
  lHB:=by rw[za h.hblt];exact h.lHB
  hcell:=fun k hk=>(qq9 (a:=⟨HB,k,none⟩) (K.block HB h.hblt (by have:=h.lHB;first|omega|exact id))).trans (h.hcell k hk)
  hand:=fun k hk=>(h.hand k hk).of_blocks (K.block _ (h.hand k hk).lt (by have:=(h.lH k hk).1;first|omega|exact id)) (fun j e=>K.block j ((h.hand k hk).row.low e).2 (by have:=(h.lH k hk).2 j e;first|omega|exact id))
  lH:=fun k hk=>⟨by rw[za (h.hand k hk).lt];exact(h.lH k hk).1,fun j e=>by rw[za ((h.hand k hk).row.low e).2];exact(h.lH k hk).2 j e⟩
  hMk:=h.hMk
  dn:=h.dn
  drow:=h.drow.of_block (K.block DB h.drow.lt (by have:=h.lDB;first|omega|exact id))
  lDB:=by rw[za h.drow.lt];exact h.lDB
  plan:=h.plan
  base:=h.base
  far:=fun k hk=>by
   have h1:=h.far k hk
   have h2:=h.w1le
   exact⟨h1.1,by rw[za (by omega)];exact h1.2.1,(K.block k (by omega) (by have:=h1.2.1;first|omega|exact id)).trans h1.2.2⟩
  w1le:=qq2 h.w1le K.size
  io:=⟨K.os.trans h.io.1,K.tape.trans h.io.2.1,K.output.trans h.io.2.2⟩
  below:=h.below.trans ⟨K.os,K.tape,K.output,K.size,fun k hk=>K.block k (by have:=h.ltM;have:=h.base;omega) (by have:=h.lowL k hk;first|omega|exact id)⟩
  lowL:=fun k hk=>by rw[za (by have:=h.ltM;have:=h.base;omega)];exact h.lowL k hk }
theorem Dg.later8(h:Dg M room hands ts g own gq vf vh HB hc DB dc Hk vk Bd w0 w)  (K:Kc own (fun c=>c=8) w w'):Dg M room hands ts g (relabel own w.heap.size 8) gq vf vh HB hc DB dc Hk vk Bd w0 w':=by
 exact {
  blk:=(K.block M h.ltM (by have:=h.lM;first|omega|exact id)).trans h.blk
  lM:=by rw[za h.ltM];exact h.lM
  fr:=h.fr.kc h.lf (by simp) K
  hp:=h.hp.kc h.lh (by simp) K
  lf:=h.lf.re h.fr
  lh:=h.lh.re h.hp
  apart:=h.apart
  le60:=h.le60
  tk:=h.tk.kc h.ltk (by simp) K
  ltk:=h.ltk.re h.tk
  wk:=h.wk.kc h.lwk (by simp) K
  lwk:=h.lwk.re h.wk
  row:=h.row.kc h.lrw (by simp) K
  lrw:=h.lrw.re h.row
  zle:=h.zle
  hs:=h.hs
  hblt:=qq3 h.hblt K.size
  lHB:=by rw[za h.hblt];exact h.lHB
  hcell:=fun k hk=>(qq9 (a:=⟨HB,k,none⟩) (K.block HB h.hblt (by have:=h.lHB;first|omega|exact id))).trans (h.hcell k hk)
  hand:=fun k hk=>(h.hand k hk).of_blocks (K.block _ (h.hand k hk).lt (by have:=(h.lH k hk).1;first|omega|exact id)) (fun j e=>K.block j ((h.hand k hk).row.low e).2 (by have:=(h.lH k hk).2 j e;first|omega|exact id))
  lH:=fun k hk=>⟨by rw[za (h.hand k hk).lt];exact(h.lH k hk).1,fun j e=>by rw[za ((h.hand k hk).row.low e).2];exact(h.lH k hk).2 j e⟩
  hMk:=h.hMk
  dn:=h.dn
  drow:=h.drow.of_block (K.block DB h.drow.lt (by have:=h.lDB;first|omega|exact id))
  lDB:=by rw[za h.drow.lt];exact h.lDB
  plan:=h.plan
  base:=h.base
  far:=fun k hk=>by
   have h1:=h.far k hk
   have h2:=h.w1le
   exact⟨h1.1,by rw[za (by omega)];exact h1.2.1,(K.block k (by omega) (by have:=h1.2.1;first|omega|exact id)).trans h1.2.2⟩
  w1le:=qq2 h.w1le K.size
  io:=⟨K.os.trans h.io.1,K.tape.trans h.io.2.1,K.output.trans h.io.2.2⟩
  below:=h.below.trans ⟨K.os,K.tape,K.output,K.size,fun k hk=>K.block k (by have:=h.ltM;have:=h.base;omega) (by have:=h.lowL k hk;first|omega|exact id)⟩
  lowL:=fun k hk=>by rw[za (by have:=h.ltM;have:=h.base;omega)];exact h.lowL k hk }
theorem Dg.setTask(h:Dg M room hands ts g own gq vf vh HB hc DB dc Hk vk Bd w0 w)(f:Nat→Int)(ht:RowI (M+1) w' gq.tk (upto hands f))(K:Kc own (fun c=>c=2) w w'):Dg M room hands ts { g with task:=f } (relabel own w.heap.size 2) gq vf vh HB hc DB dc Hk vk Bd w0 w':=by
 exact {
  blk:=(K.block M h.ltM (by have:=h.lM;first|omega|exact id)).trans h.blk
  lM:=by rw[za h.ltM];exact h.lM
  fr:=h.fr.kc h.lf (by simp) K
  hp:=h.hp.kc h.lh (by simp) K
  lf:=h.lf.re h.fr
  lh:=h.lh.re h.hp
  apart:=h.apart
  le60:=h.le60
  tk:=ht
  ltk:=h.ltk.re h.tk
  wk:=h.wk.kc h.lwk (by simp) K
  lwk:=h.lwk.re h.wk
  row:=h.row.kc h.lrw (by simp) K
  lrw:=h.lrw.re h.row
  zle:=h.zle
  hs:=h.hs
  hblt:=qq3 h.hblt K.size
  lHB:=by rw[za h.hblt];exact h.lHB
  hcell:=fun k hk=>(qq9 (a:=⟨HB,k,none⟩) (K.block HB h.hblt (by have:=h.lHB;first|omega|exact id))).trans (h.hcell k hk)
  hand:=fun k hk=>(h.hand k hk).of_blocks (K.block _ (h.hand k hk).lt (by have:=(h.lH k hk).1;first|omega|exact id)) (fun j e=>K.block j ((h.hand k hk).row.low e).2 (by have:=(h.lH k hk).2 j e;first|omega|exact id))
  lH:=fun k hk=>⟨by rw[za (h.hand k hk).lt];exact(h.lH k hk).1,fun j e=>by rw[za ((h.hand k hk).row.low e).2];exact(h.lH k hk).2 j e⟩
  hMk:=h.hMk
  dn:=h.dn
  drow:=h.drow.of_block (K.block DB h.drow.lt (by have:=h.lDB;first|omega|exact id))
  lDB:=by rw[za h.drow.lt];exact h.lDB
  plan:=h.plan
  base:=h.base
  far:=fun k hk=>by
   have h1:=h.far k hk
   have h2:=h.w1le
   exact⟨h1.1,by rw[za (by omega)];exact h1.2.1,(K.block k (by omega) (by have:=h1.2.1;first|omega|exact id)).trans h1.2.2⟩
  w1le:=qq2 h.w1le K.size
  io:=⟨K.os.trans h.io.1,K.tape.trans h.io.2.1,K.output.trans h.io.2.2⟩
  below:=h.below.trans ⟨K.os,K.tape,K.output,K.size,fun k hk=>K.block k (by have:=h.ltM;have:=h.base;omega) (by have:=h.lowL k hk;first|omega|exact id)⟩
  lowL:=fun k hk=>by rw[za (by have:=h.ltM;have:=h.base;omega)];exact h.lowL k hk }
theorem Dg.setWork(h:Dg M room hands ts g own gq vf vh HB hc DB dc Hk vk Bd w0 w)(f:Nat→Int)(ht:RowI (M+1) w' gq.wk (upto hands f))(K:Kc own (fun c=>c=3) w w'):Dg M room hands ts { g with work:=f } (relabel own w.heap.size 3) gq vf vh HB hc DB dc Hk vk Bd w0 w':=by
 exact {
  blk:=(K.block M h.ltM (by have:=h.lM;first|omega|exact id)).trans h.blk
  lM:=by rw[za h.ltM];exact h.lM
  fr:=h.fr.kc h.lf (by simp) K
  hp:=h.hp.kc h.lh (by simp) K
  lf:=h.lf.re h.fr
  lh:=h.lh.re h.hp
  apart:=h.apart
  le60:=h.le60
  tk:=h.tk.kc h.ltk (by simp) K
  ltk:=h.ltk.re h.tk
  wk:=ht
  lwk:=h.lwk.re h.wk
  row:=h.row.kc h.lrw (by simp) K
  lrw:=h.lrw.re h.row
  zle:=h.zle
  hs:=h.hs
  hblt:=qq3 h.hblt K.size
  lHB:=by rw[za h.hblt];exact h.lHB
  hcell:=fun k hk=>(qq9 (a:=⟨HB,k,none⟩) (K.block HB h.hblt (by have:=h.lHB;first|omega|exact id))).trans (h.hcell k hk)
  hand:=fun k hk=>(h.hand k hk).of_blocks (K.block _ (h.hand k hk).lt (by have:=(h.lH k hk).1;first|omega|exact id)) (fun j e=>K.block j ((h.hand k hk).row.low e).2 (by have:=(h.lH k hk).2 j e;first|omega|exact id))
  lH:=fun k hk=>⟨by rw[za (h.hand k hk).lt];exact(h.lH k hk).1,fun j e=>by rw[za ((h.hand k hk).row.low e).2];exact(h.lH k hk).2 j e⟩
  hMk:=h.hMk
  dn:=h.dn
  drow:=h.drow.of_block (K.block DB h.drow.lt (by have:=h.lDB;first|omega|exact id))
  lDB:=by rw[za h.drow.lt];exact h.lDB
  plan:=h.plan
  base:=h.base
  far:=fun k hk=>by
   have h1:=h.far k hk
   have h2:=h.w1le
   exact⟨h1.1,by rw[za (by omega)];exact h1.2.1,(K.block k (by omega) (by have:=h1.2.1;first|omega|exact id)).trans h1.2.2⟩
  w1le:=qq2 h.w1le K.size
  io:=⟨K.os.trans h.io.1,K.tape.trans h.io.2.1,K.output.trans h.io.2.2⟩
  below:=h.below.trans ⟨K.os,K.tape,K.output,K.size,fun k hk=>K.block k (by have:=h.ltM;have:=h.base;omega) (by have:=h.lowL k hk;first|omega|exact id)⟩
  lowL:=fun k hk=>by rw[za (by have:=h.ltM;have:=h.base;omega)];exact h.lowL k hk }
theorem Dg.setDone(h:Dg M room hands ts g own gq vf vh HB hc DB dc Hk vk Bd w0 w)(S:Nat→Bool)(ht:w'.rowIs DB 4 ts.length (fun k=>.bool (S k)))(K:Kc own (fun c=>c=5) w w'):Dg M room hands ts { g with S:=S } (relabel own w.heap.size 5) gq vf vh HB hc DB dc Hk vk Bd w0 w':=by
 exact {
  blk:=(K.block M h.ltM (by have:=h.lM;first|omega|exact id)).trans h.blk
  lM:=by rw[za h.ltM];exact h.lM
  fr:=h.fr.kc h.lf (by simp) K
  hp:=h.hp.kc h.lh (by simp) K
  lf:=h.lf.re h.fr
  lh:=h.lh.re h.hp
  apart:=h.apart
  le60:=h.le60
  tk:=h.tk.kc h.ltk (by simp) K
  ltk:=h.ltk.re h.tk
  wk:=h.wk.kc h.lwk (by simp) K
  lwk:=h.lwk.re h.wk
  row:=h.row.kc h.lrw (by simp) K
  lrw:=h.lrw.re h.row
  zle:=h.zle
  hs:=h.hs
  hblt:=qq3 h.hblt K.size
  lHB:=by rw[za h.hblt];exact h.lHB
  hcell:=fun k hk=>(qq9 (a:=⟨HB,k,none⟩) (K.block HB h.hblt (by have:=h.lHB;first|omega|exact id))).trans (h.hcell k hk)
  hand:=fun k hk=>(h.hand k hk).of_blocks (K.block _ (h.hand k hk).lt (by have:=(h.lH k hk).1;first|omega|exact id)) (fun j e=>K.block j ((h.hand k hk).row.low e).2 (by have:=(h.lH k hk).2 j e;first|omega|exact id))
  lH:=fun k hk=>⟨by rw[za (h.hand k hk).lt];exact(h.lH k hk).1,fun j e=>by rw[za ((h.hand k hk).row.low e).2];exact(h.lH k hk).2 j e⟩
  hMk:=h.hMk
  dn:=h.dn
  drow:=ht
  lDB:=by rw[za h.drow.lt];exact h.lDB
  plan:=h.plan
  base:=h.base
  far:=fun k hk=>by
   have h1:=h.far k hk
   have h2:=h.w1le
   exact⟨h1.1,by rw[za (by omega)];exact h1.2.1,(K.block k (by omega) (by have:=h1.2.1;first|omega|exact id)).trans h1.2.2⟩
  w1le:=qq2 h.w1le K.size
  io:=⟨K.os.trans h.io.1,K.tape.trans h.io.2.1,K.output.trans h.io.2.2⟩
  below:=h.below.trans ⟨K.os,K.tape,K.output,K.size,fun k hk=>K.block k (by have:=h.ltM;have:=h.base;omega) (by have:=h.lowL k hk;first|omega|exact id)⟩
  lowL:=fun k hk=>by rw[za (by have:=h.ltM;have:=h.base;omega)];exact h.lowL k hk }
theorem Dg.setRow(h:Dg M room hands ts g own gq vf vh HB hc DB dc Hk vk Bd w0 w)(z:List Int)(v:Value)(hz:RowI (M+1) w' v z)(hzl:z.length≤6)(hl:Lb (relabel own w.heap.size 4) 4 v)(hb:w'.heap[M]?=some (.cells (gArr { gq with rw:=v } room vf vh) 86 (0,0)))(K:Kc own (fun c=>c=0∨c=4) w w'):Dg M room hands ts { g with zz:=z } (relabel own w.heap.size 4) { gq with rw:=v } vf vh HB hc DB dc Hk vk Bd w0 w':=by
 exact {
  blk:=hb
  lM:=by rw[za h.ltM];exact h.lM
  fr:=h.fr.kc h.lf (by simp) K
  hp:=h.hp.kc h.lh (by simp) K
  lf:=h.lf.re h.fr
  lh:=h.lh.re h.hp
  apart:=h.apart
  le60:=h.le60
  tk:=h.tk.kc h.ltk (by simp) K
  ltk:=h.ltk.re h.tk
  wk:=h.wk.kc h.lwk (by simp) K
  lwk:=h.lwk.re h.wk
  row:=hz
  lrw:=hl
  zle:=hzl
  hs:=h.hs
  hblt:=qq3 h.hblt K.size
  lHB:=by rw[za h.hblt];exact h.lHB
  hcell:=fun k hk=>(qq9 (a:=⟨HB,k,none⟩) (K.block HB h.hblt (by have:=h.lHB;first|omega|exact id))).trans (h.hcell k hk)
  hand:=fun k hk=>(h.hand k hk).of_blocks (K.block _ (h.hand k hk).lt (by have:=(h.lH k hk).1;first|omega|exact id)) (fun j e=>K.block j ((h.hand k hk).row.low e).2 (by have:=(h.lH k hk).2 j e;first|omega|exact id))
  lH:=fun k hk=>⟨by rw[za (h.hand k hk).lt];exact(h.lH k hk).1,fun j e=>by rw[za ((h.hand k hk).row.low e).2];exact(h.lH k hk).2 j e⟩
  hMk:=h.hMk
  dn:=h.dn
  drow:=h.drow.of_block (K.block DB h.drow.lt (by have:=h.lDB;first|omega|exact id))
  lDB:=by rw[za h.drow.lt];exact h.lDB
  plan:=h.plan
  base:=h.base
  far:=fun k hk=>by
   have h1:=h.far k hk
   have h2:=h.w1le
   exact⟨h1.1,by rw[za (by omega)];exact h1.2.1,(K.block k (by omega) (by have:=h1.2.1;first|omega|exact id)).trans h1.2.2⟩
  w1le:=qq2 h.w1le K.size
  io:=⟨K.os.trans h.io.1,K.tape.trans h.io.2.1,K.output.trans h.io.2.2⟩
  below:=h.below.trans ⟨K.os,K.tape,K.output,K.size,fun k hk=>K.block k (by have:=h.ltM;have:=h.base;omega) (by have:=h.lowL k hk;first|omega|exact id)⟩
  lowL:=fun k hk=>by rw[za (by have:=h.ltM;have:=h.base;omega)];exact h.lowL k hk }
theorem Dg.setSp(h:Dg M room hands ts g own gq vf vh HB hc DB dc Hk vk Bd w0 w)(z:List Int)(vf' vh':Value)(hm:Spl.Dsp.Md gq M room z vf' vh' w')(hlf:Lb (relabel own w.heap.size 6) 6 vf')(hlh:Lb (relabel own w.heap.size 6) 6 vh')(K:Kc own (fun c=>c=0∨c=6) w w'):Dg M room hands ts { g with sp:=z } (relabel own w.heap.size 6) gq vf' vh' HB hc DB dc Hk vk Bd w0 w':=by
 exact {
  blk:=hm.cells
  lM:=by rw[za h.ltM];exact h.lM
  fr:=hm.f
  hp:=hm.h
  lf:=hlf
  lh:=hlh
  apart:=hm.ap
  le60:=hm.le
  tk:=h.tk.kc h.ltk (by simp) K
  ltk:=h.ltk.re h.tk
  wk:=h.wk.kc h.lwk (by simp) K
  lwk:=h.lwk.re h.wk
  row:=h.row.kc h.lrw (by simp) K
  lrw:=h.lrw.re h.row
  zle:=h.zle
  hs:=h.hs
  hblt:=qq3 h.hblt K.size
  lHB:=by rw[za h.hblt];exact h.lHB
  hcell:=fun k hk=>(qq9 (a:=⟨HB,k,none⟩) (K.block HB h.hblt (by have:=h.lHB;first|omega|exact id))).trans (h.hcell k hk)
  hand:=fun k hk=>(h.hand k hk).of_blocks (K.block _ (h.hand k hk).lt (by have:=(h.lH k hk).1;first|omega|exact id)) (fun j e=>K.block j ((h.hand k hk).row.low e).2 (by have:=(h.lH k hk).2 j e;first|omega|exact id))
  lH:=fun k hk=>⟨by rw[za (h.hand k hk).lt];exact(h.lH k hk).1,fun j e=>by rw[za ((h.hand k hk).row.low e).2];exact(h.lH k hk).2 j e⟩
  hMk:=h.hMk
  dn:=h.dn
  drow:=h.drow.of_block (K.block DB h.drow.lt (by have:=h.lDB;first|omega|exact id))
  lDB:=by rw[za h.drow.lt];exact h.lDB
  plan:=h.plan
  base:=h.base
  far:=fun k hk=>by
   have h1:=h.far k hk
   have h2:=h.w1le
   exact⟨h1.1,by rw[za (by omega)];exact h1.2.1,(K.block k (by omega) (by have:=h1.2.1;first|omega|exact id)).trans h1.2.2⟩
  w1le:=qq2 h.w1le K.size
  io:=⟨K.os.trans h.io.1,K.tape.trans h.io.2.1,K.output.trans h.io.2.2⟩
  below:=h.below.trans ⟨K.os,K.tape,K.output,K.size,fun k hk=>K.block k (by have:=h.ltM;have:=h.base;omega) (by have:=h.lowL k hk;first|omega|exact id)⟩
  lowL:=fun k hk=>by rw[za (by have:=h.ltM;have:=h.base;omega)];exact h.lowL k hk }
theorem Dg.setHand(h:Dg M room hands ts g own gq vf vh HB hc DB dc Hk vk Bd w0 w)(j:Nat)(hj:j<hands)(nr:Int)(xs:List Int)(v:Value)(hm:Hnd.Mh (Hk j) room nr xs v w')(hl:Lb (relabel own w.heap.size (10+j)) (10+j) v)(K:Kc own (fun c=>c=10+j) w w'):Dg M room hands ts { g with near:=updG g.near j nr,ring:=updG g.ring j xs } (relabel own w.heap.size (10+j)) gq vf vh HB hc DB dc Hk (updG vk j v) Bd w0 w':=by
 exact {
  blk:=(K.block M h.ltM (by have:=h.lM;first|omega|exact id)).trans h.blk
  lM:=by rw[za h.ltM];exact h.lM
  fr:=h.fr.kc h.lf (fun e=>by have e2:6=10+j:=e;omega) K
  hp:=h.hp.kc h.lh (fun e=>by have e2:6=10+j:=e;omega) K
  lf:=h.lf.re h.fr
  lh:=h.lh.re h.hp
  apart:=h.apart
  le60:=h.le60
  tk:=h.tk.kc h.ltk (fun e=>by have e2:2=10+j:=e;omega) K
  ltk:=h.ltk.re h.tk
  wk:=h.wk.kc h.lwk (fun e=>by have e2:3=10+j:=e;omega) K
  lwk:=h.lwk.re h.wk
  row:=h.row.kc h.lrw (fun e=>by have e2:4=10+j:=e;omega) K
  lrw:=h.lrw.re h.row
  zle:=h.zle
  hs:=h.hs
  hblt:=qq3 h.hblt K.size
  lHB:=by rw[za h.hblt];exact h.lHB
  hcell:=fun k hk=>(qq9 (a:=⟨HB,k,none⟩) (K.block HB h.hblt (by have:=h.lHB;first|omega|exact id))).trans (h.hcell k hk)
  hand:=fun k hk=>by
   by_cases e:k=j
   ·subst e;simp only[zg];exact hm
   ·simp only[zh _ _ e];exact(h.hand k hk).of_blocks (K.block _ (h.hand k hk).lt (by rw[(h.lH k hk).1];omega)) (fun i e2=>K.block i ((h.hand k hk).row.low e2).2 (by rw[(h.lH k hk).2 i e2];omega))
  lH:=fun k hk=>by
   refine⟨by rw[za (h.hand k hk).lt];exact(h.lH k hk).1,?_⟩
   by_cases e:k=j
   ·subst e;simp only[zg];exact hl
   ·simp only[zh _ _ e];exact fun i e2=>by rw[za ((h.hand k hk).row.low e2).2];exact(h.lH k hk).2 i e2
  hMk:=h.hMk
  dn:=h.dn
  drow:=h.drow.of_block (K.block DB h.drow.lt (by have:=h.lDB;first|omega|exact id))
  lDB:=by rw[za h.drow.lt];exact h.lDB
  plan:=h.plan
  base:=h.base
  far:=fun k hk=>by
   have h1:=h.far k hk
   have h2:=h.w1le
   exact⟨h1.1,by rw[za (by omega)];exact h1.2.1,(K.block k (by omega) (by have:=h1.2.1;first|omega|exact id)).trans h1.2.2⟩
  w1le:=qq2 h.w1le K.size
  io:=⟨K.os.trans h.io.1,K.tape.trans h.io.2.1,K.output.trans h.io.2.2⟩
  below:=h.below.trans ⟨K.os,K.tape,K.output,K.size,fun k hk=>K.block k (by have:=h.ltM;have:=h.base;omega) (by have:=h.lowL k hk;first|omega|exact id)⟩
  lowL:=fun k hk=>by rw[za (by have:=h.ltM;have:=h.base;omega)];exact h.lowL k hk }
theorem Dg.rebase(h:Dg M room hands ts g own gq vf vh HB hc DB dc Hk vk Bd w0 w):Dg M room hands ts g own gq vf vh HB hc DB dc Hk vk ⟨fun k=>k<w.heap.size∧own k=9,w⟩ w0 w:=
 {h with far:=fun _ hk=>⟨hk.1,hk.2,rfl⟩,w1le:=qq1 _,io:=⟨rfl,rfl,rfl⟩ }
end
section
open Go.RowKit Go.Deep
open Spl.Dsp (Gq gArr)
def DgE(M room hands:Nat)(ts:Zl)(p:Value)(g:Gs)(Bd:Bs)(w0 w:World):Prop:=
 ∃own gq vf vh HB hc DB dc Hk vk,gq.p=p∧Dg M room hands ts g own gq vf vh HB hc DB dc Hk vk Bd w0 w
theorem DgE.later{M room hands:Nat}{ts:Zl}{p:Value}{g:Gs}{Bd:Bs}{w0 w w':World}(h:DgE M room hands ts p g Bd w0 w)(hb:Below w.heap.size w w'):DgE M room hands ts p g Bd w0 w':=by
 obtain⟨own,gq,vf,vh,HB,hc,DB,dc,Hk,vk,hp,hD⟩:=h
 exact⟨_,_,_,_,_,_,_,_,_,_,hp,hD.later0 (Kc.of_below hb)⟩
theorem Zf.work{w:World}{v:Value}{ts:Zl}(h:Zf w v ts){k:Nat}(hk:k<ts.length):∃b o c,v=.slice (some ⟨b,o,none⟩) ts.length c∧b<w.heap.size∧w.cell? ⟨b,o+k*2,none⟩=some (.int .i64 (Zv ts k)):=by
 obtain⟨hl,a,c,rfl,h⟩:=h
 rcases h with e|⟨b,o,rfl,hb,hc⟩
 ·subst e;simp at hk
 ·exact⟨b,o,c,rfl,hb,(hc k hk).1⟩
set_option maxHeartbeats 2000000 in
theorem Dg.take{M room hands:Nat}{ts:Zl}{g:Gs}{own:Nat→Nat}{gq:Gq}{vf vh:Value}{HB hc DB dc:Nat}{Hk:Nat→Nat}{vk:Nat→Value}{Bd:Bs}{w0 w:World}(hD:Dg M room hands ts g own gq vf vh HB hc DB dc Hk vk Bd w0 w)(hd i:Nat)(hh:hd<hands)(h6:hands≤6)(hi:i<ts.length) :
  Calls Tryz.prog 72 #[.pointer (some ⟨M,0,none⟩),.int .i64 hd,.int .i64 i] w fun e w'=>e=.returned (.tuple #[])∧(∃own',Dg M room hands ts (takes ts g hd i) own' gq vf vh HB hc DB dc Hk vk Bd w0 w')∧Kc own (fun c=>c=2∨c=3) w w':=by
 obtain⟨hc0,-,hc2,hc3,-,-⟩:=hD.c
 obtain⟨tb,tc,htv,htlo,htlt,-⟩:=hD.tk.full (by rw[zo];omega)
 obtain⟨wb,wc,hwv,hwlo,hwlt,-⟩:=hD.wk.full (by rw[zo];omega)
 obtain⟨pb,po,pc,hpv,hplt,hpc⟩:=hD.plan.work hi
 rw[zo]at htv hwv
 have htl:own tb=2:=hD.ltk tb (by rw[htv];rfl)
 have hwl:own wb=3:=hD.lwk wb (by rw[hwv];rfl)
 have hne:tb≠wb:=fun e=>by rw[e,hwl]at htl;omega
 have hpt:tb≠pb:=by have:=hD.base;omega
 have hpw:wb≠pb:=by have:=hD.base;omega
 have hMt:tb≠M:=by omega
 have hpc':=(hD.below.cell (p:=⟨pb,po+i*2,none⟩) hplt).trans hpc
 have htk:=hD.tk
 have hwk:=hD.wk
 rw[htv]at htk
 rw[hwv]at hwk
 have h1:=htk.setAt (k:=hd) (by rw[zo];exact hh) ((i:Nat):Int)
 rw[jP,←htv]at h1
 have hD1:=hD.setTask (updG g.task hd ((i:Nat):Int)) h1 (Kc.store (b:=tb) (by exact htl) hd (.int .i64 ((i:Nat):Int)))
 have hwk1:=hD1.wk
 rw[hwv]at hwk1
 have h2:=hwk1.setAt (k:=hd) (by rw[zo];exact hh) (Zv ts i)
 rw[jP,←hwv]at h2
 have hwl1:relabel own w.heap.size 2 wb=3:=by rw[za hwlt];exact hwl
 have hD2:=hD1.setWork (updG g.work hd (Zv ts i)) h2 (Kc.store (b:=wb) (by exact hwl1) hd (.int .i64 (Zv ts i)))
 have HD2:Hid (∃own',Dg M room hands ts (takes ts g hd i) own' gq vf vh HB hc DB dc Hk vk Bd w0 ((w.setCell ⟨tb,hd,none⟩ (.int .i64 ((i:Nat):Int))).setCell ⟨wb,hd,none⟩ (.int .i64 (Zv ts i))).drew):=⟨_,hD2.later0 (Kc.of_below ⟨rfl,rfl,rfl,qq1 _,fun _ _=>rfl⟩)⟩
 have HK2:Hid (Kc own (fun c=>c=2∨c=3) w ((w.setCell ⟨tb,hd,none⟩ (.int .i64 ((i:Nat):Int))).setCell ⟨wb,hd,none⟩ (.int .i64 (Zv ts i))).drew):=⟨rfl,rfl,rfl,by simp,fun k _ hk=>(qq5 (w.setCell ⟨tb,hd,none⟩ (.int .i64 ((i:Nat):Int))) ⟨wb,hd,none⟩ _ k (by show k≠wb;intro e;subst e;exact hk (Or.inr hwl))).trans (qq5 w ⟨tb,hd,none⟩ _ k (by show k≠tb;intro e;subst e;exact hk (Or.inl htl)))⟩
 have hct:=htk.cell (k:=hd) (by rw[zo];exact hh)
 have hcw:=hwk.cell (k:=hd) (by rw[zo];exact hh)
 rw[zai _ hh]at hct hcw
 have hfT:∀j,w.frozen? ⟨tb,j,none⟩=false:=fun j=>RowI.frozen htk j
 have hfW:∀j,(w.setCell ⟨tb,hd,none⟩ (.int .i64 ((i:Nat):Int))).frozen? ⟨wb,j,none⟩=false:=fun j=>RowI.frozen hwk1 j
 have d0:=hD1.c.1
 have d3:=hD1.c.2.2.2.1
 have dcw:=hwk1.cell (k:=hd) (by rw[zo];exact hh)
 have dpc:=(hD1.below.cell (p:=⟨pb,po+i*2,none⟩) hplt).trans hpc
 rw[zai _ hh]at dcw
 rw[htv]at hc2
 rw[hwv]at hc3 d3
 rw[hpv]at hc0 d0
 have fT:=hfT hd
 have fW:=hfW hd
 generalize Zv ts i=wi at *
 have hhi:(hd:Int)<(hands:Int):=by omega
 have hii:(i:Int)<(ts.length:Int):=by omega
 clear hfT hfW hD hD1 hD2 h1 h2 hwk htk hwk1 hplt hpc hpc' htlo hwlo htv hwv hpv hwl1 htl hwl
 go_enter Tryz.func72,Tryz.ntmps72
 go_wp2
 go_region
 all_goals
  go_wp2
  go_end0
  exact⟨rfl,HD2.out,HK2.out⟩
theorem zbQ(M room hands:Nat)(ts:Zl)(p:Value)(g:Gs)(Bd:Bs)(w0 w:World)(h:DgE M room hands ts p g Bd w0 w)(hd i:Nat)(hh:hd<hands)(h6:hands≤6)(hi:i<ts.length) :
  Calls Tryz.prog 72 #[.pointer (some ⟨M,0,none⟩),.int .i64 hd,.int .i64 i] w fun e w'=>e=.returned (.tuple #[])∧DgE M room hands ts p (takes ts g hd i) Bd w0 w'∧w.heap.size≤w'.heap.size:=by
 obtain⟨own,gq,vf,vh,HB,hc,DB,dc,Hk,vk,rfl,hD⟩:=h
 refine(hD.take hd i hh h6 hi).mono ?_
 rintro e w' ⟨rfl,⟨own',hD'⟩,hk⟩
 exact⟨rfl,⟨_,_,_,_,_,_,_,_,_,_,rfl,hD'⟩,hk.size⟩
theorem zd8(S:Nat→Bool)(n:Nat):unseen S (n+1)=unseen S n+if S n then 0 else 1:=rfl
set_option maxHeartbeats 1000000 in
theorem zf5(M room hands:Nat)(ts:Zl)(p:Value)(g:Gs)(Bd:Bs)(w0 w:World)(h:DgE M room hands ts p g Bd w0 w)(h30:ts.length≤30) :
  Calls Tryz.prog 26 #[.pointer (some ⟨M,0,none⟩)] w fun e w'=>e=.returned (.int .i64 (unseen g.S ts.length))∧Below w.heap.size w w':=by
 obtain⟨own,gq,vf,vh,HB,hc,DB,dc,Hk,vk,rfl,hD⟩:=h
 obtain⟨-,-,-,-,-,hc8⟩:=hD.c
 rw[hD.dn]at hc8
 have HR:Hid (w.rowIs DB 4 ts.length (fun k=>.bool (g.S k))):=hD.drow
 clear hD
 go_enter Tryz.func26,Tryz.ntmps26
 go_wp2
 go_loopw [3,4] (fun s3 s4 wr=>∃(k m q:Nat),k≤ts.length∧s4=.int .i64 k∧s3=.int .i64 m∧Hid (m=unseen g.S k)∧m≤k∧wr=w.drewN q) (fun _ s4 _=>ts.length-(intOf s4).toNat)
 case atStart=>exact⟨0,0,0,Nat.zero_le _,rfl,rfl,rfl,qq1 _,rfl⟩
 case round=>
  obtain⟨k,m,q,hk,rfl,rfl,hm,hmk,rfl⟩:=hrel
  have hc8':(w.drewN q).cell? ⟨M,8,none⟩=some (.slice (some ⟨DB,0,none⟩) ts.length dc):=hc8
  by_cases hkl:k<ts.length
  ·have hkl':(k:Int)<(ts.length:Int):=by omega
   have hcd:(w.drewN q).cell? ⟨DB,k,none⟩=some (.bool (g.S k)):=HR.out.cell hkl
   have hs:=zd8 g.S k
   have HS:Hid (unseen g.S (k+1)=unseen g.S k+if g.S k then 0 else 1):=hs
   clear hs
   cases hSk:g.S k
   ·rw[hSk]at hcd HS
    have hm2:Hid (m+1=unseen g.S (k+1)):=by show _=_;rw[HS.out,←hm.out];simp
    clear hSk
    go_wp2
    go_roundw
    case rel=>exact⟨k+1,m+1,q,by omega,by go_num,by go_num,hm2,by omega,rfl⟩
    case measure=>simp[intOf];omega
   ·rw[hSk]at hcd HS
    have hm2:Hid (m=unseen g.S (k+1)):=by show _=_;rw[HS.out,←hm.out];simp
    clear hSk
    go_wp2
    go_roundw
    case rel=>exact⟨k+1,m,q,by omega,by go_num,rfl,hm2,by omega,rfl⟩
    case measure=>simp[intOf];omega
  ·have hkl':¬(k:Int)<(ts.length:Int):=by omega
   obtain rfl:k=ts.length:=by omega
   have HE:=hm.out
   subst HE
   go_wp2
   go_ret
   exact⟨rfl,⟨rfl,rfl,rfl,qq1 _,fun _ _=>rfl⟩⟩
end
section
open Go.RowKit Go.Deep
open Spl.Dsp (Gq gArr)
theorem zag{l:List Int}{k:Nat}(h:k<l.length):l.take (k+1)=l.take k++[l.getD k 0]:=by
 rw[qq8 h,qq6,qq7 h];rfl
theorem zgi{l:List Int}{k:Nat}(h:k<l.length):l.getD k 0∈l:=by
 rw[qq6,qq7 h];exact List.getElem_mem h
end
section
open Go.RowKit Go.Deep
open Spl.Dsp (Gq gArr)
variable {M room hands:Nat} {ts:Zl} {p:Value} {g:Gs} {own:Nat→Nat} {gq:Gq} {vf vh:Value} {HB hc DB dc:Nat} {Hk:Nat→Nat} {vk:Nat→Value} {Bd:Bs} {w0 w w':World}
theorem Dg.e(h:Dg M room hands ts g own gq vf vh HB hc DB dc Hk vk Bd w0 w):DgE M room hands ts gq.p g Bd w0 w:=⟨own,gq,vf,vh,HB,hc,DB,dc,Hk,vk,rfl,h⟩
theorem Dg.kd(h:Dg M room hands ts g own gq vf vh HB hc DB dc Hk vk Bd w0 w){j:Nat}(hj:j<hands)(hk:Hnd.Kd (Hk j) (vk j).ownBlock w w'):Kc own (fun c=>c=10+j) w w':=
 ⟨hk.os,hk.tape,hk.output,hk.size,fun k hlt hne=>hk.block k hlt (fun e=>hne (by rw[e];exact(h.lH j hj).1)) (fun e=>hne ((h.lH j hj).2 k e))⟩
theorem Dg.hlb(h:Dg M room hands ts g own gq vf vh HB hc DB dc Hk vk Bd w0 w){j:Nat}(hj:j<hands){v:Value}(hn:Hnd.XR w.heap.size (vk j) v):Lb (relabel own w.heap.size (10+j)) (10+j) v:=
 Lb.near (h.lH j hj).2 (fun _ e=>((h.hand j hj).row.low e).2) hn
theorem Dg.hands1(h:Dg M room hands ts g own gq vf vh HB hc DB dc Hk vk Bd w0 w){j:Nat}(hj:j<hands):w.cell? ⟨M,1,none⟩=some (.slice (some ⟨HB,0,none⟩) hands hc)∧w.cell? ⟨HB,j,none⟩=some (.pointer (some ⟨Hk j,0,none⟩)):=by
 refine⟨?_,h.hcell j hj⟩
 rw[h.c.2.1,h.hs]
theorem Dg.takeNear(h:Dg M room hands ts g own gq vf vh HB hc DB dc Hk vk Bd w0 w){j:Nat}(hj:j<hands)(hn:g.near j≠-1) :
  Calls Tryz.prog 71 #[.pointer (some ⟨Hk j,0,none⟩)] w fun e w'=>e=.returned (.tuple #[.int .i64 (g.near j),.bool true])∧DgE M room hands ts gq.p { g with near:=updG g.near j (-1) } Bd w0 w'∧w.heap.size≤w'.heap.size:=by
 refine(Hnd.ziK _ _ _ _ _ _ (h.hand j hj) hn).mono ?_
 rintro e w' ⟨rfl,hm,hk⟩
 have:=h.setHand j hj (-1) (g.ring j) (vk j) hm (h.hlb hj (fun k e=>Or.inl e)) (h.kd hj hk)
 rw[xC g.ring j]at this
 exact⟨rfl,this.e,hk.size⟩
theorem Dg.takeNone(h:Dg M room hands ts g own gq vf vh HB hc DB dc Hk vk Bd w0 w){j:Nat}(hj:j<hands)(hn:g.near j=-1)(hr:g.ring j=[]) :
  Calls Tryz.prog 71 #[.pointer (some ⟨Hk j,0,none⟩)] w fun e w'=>e=.returned (.tuple #[.int .i64 0,.bool false])∧w'=w:=by
 have hm:=h.hand j hj
 rw[hn,hr]at hm
 exact Hnd.ziL _ _ _ _ hm
theorem Dg.takeRing(h:Dg M room hands ts g own gq vf vh HB hc DB dc Hk vk Bd w0 w){j:Nat}(hj:j<hands)(hn:g.near j=-1)(hr:g.ring j≠[]) :
  Calls Tryz.prog 71 #[.pointer (some ⟨Hk j,0,none⟩)] w fun e w'=>e=.returned (.tuple #[.int .i64 ((g.ring j).getLastD 0),.bool true])∧DgE M room hands ts gq.p { g with ring:=updG g.ring j (g.ring j).dropLast } Bd w0 w'∧w.heap.size≤w'.heap.size:=by
 have hm:=h.hand j hj
 rw[hn]at hm
 have hs:=yB hr
 rw[hs]at hm
 refine(Hnd.ziV _ _ _ _ _ _ hm).mono ?_
 rintro e w' ⟨rfl,⟨v',hm',hnv⟩,hk⟩
 have:=h.setHand j hj (-1) (g.ring j).dropLast v' hm' (h.hlb hj hnv) (h.kd hj hk)
 have e:updG g.near j (-1)=g.near:=by rw[←hn];exact xC g.near j
 rw[e]at this
 exact⟨rfl,this.e,hk.size⟩
theorem Dg.rob(h:Dg M room hands ts g own gq vf vh HB hc DB dc Hk vk Bd w0 w){j:Nat}(hj:j<hands) :
  Calls Tryz.prog 74 #[.pointer (some ⟨Hk j,0,none⟩)] w fun e w'=>(∃ov,e=.returned ov∧Rds (fun k=>w.heap.size≤k) w' ov ((g.ring j).take (((g.ring j).length+1) / 2)))∧(∃own' vk',Dg M room hands ts { g with ring:=updG g.ring j ((g.ring j).drop (((g.ring j).length+1) / 2)) } own' gq vf vh HB hc DB dc Hk vk' Bd w0 w'∧∀k,w.heap.size≤k→own' k=10+j)∧w.heap.size≤w'.heap.size:=by
 refine(Hnd.zi4 _ _ _ _ _ _ (h.hand j hj)).mono ?_
 rintro e w' ⟨⟨ov,rfl,ho⟩,⟨v',hm',hnv⟩,hk⟩
 have:=h.setHand j hj (g.near j) _ v' hm' (h.hlb hj hnv) (h.kd hj hk)
 rw[xC g.near j]at this
 exact⟨⟨ov,rfl,ho⟩,⟨_,_,this,fun k hk2=>zj hk2⟩,hk.size⟩
theorem Dg.put(h:Dg M room hands ts g own gq vf vh HB hc DB dc Hk vk Bd w0 w){j:Nat}(hj:j<hands)(hr1:1≤room)(n:Nat) :
  Calls Tryz.prog 69 #[.pointer (some ⟨Hk j,0,none⟩),.int .i64 n] w fun e w'=>(∃ov,e=.returned ov∧Rds (fun k=>w.heap.size≤k) w' ov (putO room (g.near j) (g.ring j)))∧(∃vk',Dg M room hands ts { g with near:=updG g.near j (n:Int),ring:=updG g.ring j (putR room (g.near j) (g.ring j)) } (relabel own w.heap.size (10+j)) gq vf vh HB hc DB dc Hk vk' Bd w0 w')∧Kc own (fun c=>c=10+j) w w':=by
 refine(Hnd.zi3 _ _ _ n _ _ _ (h.hand j hj) hr1).mono ?_
 rintro e w' ⟨⟨ov,rfl,ho⟩,⟨v',hm',hnv⟩,hk⟩
 exact⟨⟨ov,rfl,ho⟩,⟨_,h.setHand j hj (n:Int) _ v' hm' (h.hlb hj hnv) (h.kd hj hk)⟩,h.kd hj hk⟩
theorem Dg.kx6(h:Dg M room hands ts g own gq vf vh HB hc DB dc Hk vk Bd w0 w)(hk:Spl.Kx (fun k=>k=M∨vf.ownBlock=some k∨vh.ownBlock=some k) w w'):Kc own (fun c=>c=0∨c=6) w w':=
 ⟨hk.os,hk.tape,hk.output,hk.size,fun k hlt hne=>hk.block k hlt (by
  rintro (e|e|e)
  ·exact hne (Or.inl (by rw[e];exact h.lM))
  ·exact hne (Or.inr (h.lf k e))
  ·exact hne (Or.inr (h.lh k e)))⟩
theorem Dg.get1(h:Dg M room hands ts g own gq vf vh HB hc DB dc Hk vk Bd w0 w)(h16:room≤16) :
  Calls Tryz.prog 73 #[.pointer (some ⟨M,4,none⟩),.int .i64 1] w fun e w'=>(∃ov,e=.returned ov∧Rds (fun k=>w.heap.size≤k) w' ov (g.sp.take 1))∧(∃own' vf' vh',Dg M room hands ts { g with sp:=g.sp.tail } own' gq vf' vh' HB hc DB dc Hk vk Bd w0 w'∧∀k,w.heap.size≤k→own' k=6)∧w.heap.size≤w'.heap.size:=by
 refine(Spl.Dsp.zi2 gq M room 1 g.sp vf vh w h.md (by omega) (by omega) h16).mono ?_
 rintro e w' ⟨ov,vf',vh',rfl,ho,hm,hk,nf,nh⟩
 have hk':Spl.Kx (fun k=>k=M∨vf.ownBlock=some k∨vh.ownBlock=some k) w w':=⟨hk.os,hk.tape,hk.output,hk.size,fun k hlt hne=>hk.block k hlt (fun e=>hne (Or.inl e))⟩
 have:=h.setSp (g.sp.drop 1) vf' vh' hm (Lb.near h.lf (fun k e=>(h.fr.low e).2) nf) (Lb.near h.lh (fun k e=>(h.hp.low e).2) nh) (h.kx6 hk')
 rw[List.drop_one]at this
 exact⟨⟨ov,rfl,ho⟩,⟨_,_,_,this,fun k hk2=>zj hk2⟩,hk.size⟩
end
end Go.Proofs.YtlfbdjeojgbniaaGreatDoor

import Derived.Test.YtlfbdjeojgbniaaGreatDoorRan06
namespace Go.Proofs.YtlfbdjeojgbniaaGreatDoor
section
open Go.RowKit Go.Deep
theorem jb(fs:List Nat)(zs:List Int)(ts:Zl){j:Nat}(hj:j<fs.length):YB (fs.take (j+1)) zs ts=setN zs (YB (fs.take j) zs ts) (fs.getD j 0):=by
 unfold YB
 rw[qq8 hj,List.foldl_append,qq6,qq7 hj]
 rfl
theorem zJ{w:World}{g:Nat}{cT:Array Value}{fT:Nat×Nat}(hT:w.heap[g]?=some (.cells cT 94 fT))(j:Nat)(u:Value){k:Nat}{cs:Array Value}{t:TypeId}{fr:Nat×Nat}(hk:w.heap[k]?=some (.cells cs t fr))(ht:t≠94):(w.setCell ⟨g,j,none⟩ u).heap[k]?=some (.cells cs t fr):=
 (qq5 _ _ _ _ (fun e=>by
  have e':k=g:=e
  rw[e',hT]at hk
  simp only[Option.some.injEq,Obj.cells.injEq]at hk
  exact ht hk.2.1.symm)).trans hk
theorem RowW.cell{b g c n:Nat}{w:World}{zs:List Int}(h:RowW b w (.slice (some ⟨g,0,none⟩) n c) zs){j:Nat}(hj:j<zs.length):w.cell? ⟨g,j,none⟩=some (.int .i64 (zs.getD j 0)):=by
 have hn:n=zs.length:=by
  obtain⟨a,c',e⟩:=h.shape
  simp only[Value.slice.injEq]at e
  exact e.2.1
 subst hn
 have e:=World.ownsRow.cellAt h j (by omega)
 rw[e]
 simp[hj]
theorem RowW.later{b:Nat}{w w':World}{v:Value}{zs:List Int}(h:RowW b w v zs)(hb:Below w.heap.size w w'):RowW b w' v zs:=h.of_blocks (fun k e=>hb.block k (h.low e).2)
theorem RowW.setT{b:Nat}{w:World}{v:Value}{zs:List Int}{g:Nat}{cT:Array Value}{fT:Nat×Nat}(h:RowW b w v zs)(hT:w.heap[g]?=some (.cells cT 94 fT))(j:Nat)(u:Value):RowW b (w.setCell ⟨g,j,none⟩ u) v zs:=h.of_kinds (fun k cs fr hk=>(zJ hT j u hk (by decide)).trans hk.symm)
theorem Zw.laterT{b:Nat}{w w':World}{n:Nat}{t:Tree}{fv lv:Value}{g:Nat}{cT:Array Value}{fT:Nat×Nat}(h:Zw b w n t fv lv)(hb:Below w.heap.size w w')(hT:w'.heap[g]?=some (.cells cT 94 fT))(j:Nat)(u:Value):Zw b (w'.setCell ⟨g,j,none⟩ u) n t fv lv:=
 ⟨(h.1.later hb).setT hT j u,(h.2.1.later hb).setT hT j u,h.2.2⟩
theorem Rd.row{R i g cap n:Nat}{l:List UInt8}{ts:Zl}{A:Nat→Prop}{w:World}(h:Rd R l i ts A w)(htv:w.cell? ⟨R,2,none⟩=some (.slice (some ⟨g,0,none⟩) n cap)) :
  n=ts.length∧R+1≤g∧(∃cs,w.heap[g]?=some (.cells cs 94 (0,0)))∧RowT (R+1) A w (.slice (some ⟨g,0,none⟩) n cap) ts:=by
 obtain⟨_,_,⟨tv,htv',htr⟩,_⟩:=h.cells
 obtain rfl:Value.slice (some ⟨g,0,none⟩) n cap=tv:=Option.some.inj (htv.symm.trans htv')
 have htr':=htr
 obtain⟨xs,ho,_⟩:=htr
 rcases ho.2 with⟨hv,_⟩|⟨g',cap',cur,hv,hg,hh,_⟩
 ·cases hv
 ·simp only[Value.slice.injEq,Option.some.injEq,Addr.mk.injEq,and_true]at hv
  obtain⟨rfl,rfl,rfl⟩:=hv
  exact⟨rfl,hg,⟨cur,hh⟩,htr'⟩
theorem Rd.setNeed{R i g cap n x:Nat}{l:List UInt8}{ts:Zl}{A:Nat→Prop}{w:World}{nv:Value}{zs:List Int}(h:Rd R l i ts A w)(htv:w.cell? ⟨R,2,none⟩=some (.slice (some ⟨g,0,none⟩) n cap))(hx:x<ts.length)(hn:RowW (R+1) w nv zs)(hA:∀k,nv.ownBlock=some k→A k) :
  Rd R l i (setN zs ts x) A (w.setCell ⟨g,x*2+1,none⟩ nv):=by
 obtain⟨rfl,hg,⟨cs,hT⟩,htr⟩:=h.row htv
 obtain⟨tv,h1,_⟩:=h
 obtain rfl:Value.slice (some ⟨g,0,none⟩) ts.length cap=tv:=by
  have:w.cell? ⟨R,2,none⟩=some tv:=by simp[World.cell?,h1]
  exact Option.some.inj (htv.symm.trans this)
 exact⟨_,zJ hT _ _ h1 (by decide),htr.set hx hn hA⟩
theorem zgS{b:Nat}{A:Nat→Prop}{w:World}{g cap n x:Nat}{ts:Zl}(h:RowT b A w (.slice (some ⟨g,0,none⟩) n cap) ts)(hx:x<ts.length):(∃u,w.cell? ⟨g,x*2+1,none⟩=some u)∧w.frozen? ⟨g,x*2+1,none⟩=false:=by
 have hn:n=ts.length:=by
  obtain⟨a,c',e⟩:=h.shape
  simp only[Value.slice.injEq]at e
  exact e.2.1
 subst hn
 obtain⟨xs,ho,hxs⟩:=h
 obtain⟨_,nv,h2,_⟩:=hxs x hx
 have e:=ho.cellAt (x*2+1) (by omega)
 exact⟨⟨nv,by rw[e];exact h2⟩,ho.frozenAt _⟩
section
variable {P:Program} {ops:Array Oper} {md:Region.Mode} {Q:Exit→Act→World→Prop} {S:World→Prop}
theorem zc{i:Nat}{oi:Oper}{v:Value}{fuel:Nat}{listed:Array Bool}{a:Act}{w:World}(d:Option Nat)(hi:ops[i]?=some oi)(hd:oi.dst=d)
  (hs:Region.noSelect ops=true) (hf:Region.free md ops listed i=true) (hr:(Region.ready md ops listed).contains i=true)
  (hQ:∀c a w,Q (.panic c) (a.put d v) w→Q (.panic c) a w) (hy:YieldsIf P ops S oi v a) (hS:S w)
  (h:wpAnyH P md ops Q S fuel (listed.setIfInBounds i true) (a.put d v) w):wpAnyH P md ops Q S (fuel+1) listed a w:=by
 subst hd
 exact wpAnyH_take hi hs hf hr hQ hy hS h
theorem yk{i:Nat}{o:Oper}{K:Act→World→Prop}{a:Act}{w:World}{f:FuncId}{args:Array Value}(d:Option Nat)(hi:ops[i]?=some o)(hd:o.dst=d)(hw:Region.wanted o (yielded ops a.tmps)=true)
  (hr:(execOp a.eval o).run P w=.ok (.enter f args) w) (h:Calls P f args w fun
   | .returned v,w''=>K (a.put d v) w''
   | .panicked chain,w''=>Q (.panic chain) a w''
   | .outgrown,_=>LetsOut Q):wpOp P ops Q i K a w:=by
 subst hd
 exact qT hi hw hr h
theorem jc{fuel:Nat}{listed:Array Bool}{a:Act}{w w':World}{o:Oper}{i:Nat}(hr:Region.ready md ops listed=[i])(hi:ops[i]?=some o)(hd:o.dst=none)(hw:Region.wanted o (yielded ops a.tmps)=true)(hx:(execOp a.eval o).run P w=.ok .skip w')(hS:S w')
  (h:wpAnyH P md ops Q S fuel (listed.setIfInBounds i true) a w'):wpAnyH P md ops Q S (fuel+1) listed a w:=by
 refine qi hr hi hw hx hS ?_
 rw[hd]
 exact h
end
theorem zgV{o:Oper}{a:Act}{w:World}{g L cap x:Nat}(hop:o.op=Op.indexAddr 27 (.tmp 23) (.tmp 24))(h1:a.tmps[23]?.getD undef=.slice (some ⟨g,0,none⟩) L cap)(h2:a.tmps[24]?.getD undef=.int .i64 (x:Nat))(hx:x<L) :
  (execOp a.eval o).run Tryz.prog w=.ok (.value (.pointer (some ⟨g,x*2,none⟩))) w:=by
 have hxI:(x:Int)<(L:Int):=by omega
 unfold execOp
 rw[hop]
 go_simp
theorem zgU{o:Oper}{a:Act}{w:World}{g n:Nat}(hop:o.op=Op.fieldAddr 94 (.tmp 28) 1)(h1:a.tmps[28]?.getD undef=.pointer (some ⟨g,n,none⟩)) :
  (execOp a.eval o).run Tryz.prog w=.ok (.value (.pointer (some ⟨g,n+1,none⟩))) w:=by
 unfold execOp
 rw[hop]
 go_simp
theorem zbi{o:Oper}{a:Act}{w:World}{g n ng L nc:Nat}{u:Value}(hop:o.op=Op.store 73 (.tmp 29) (.tmp 27))(h1:a.tmps[29]?.getD undef=.pointer (some ⟨g,n,none⟩))(h2:a.tmps[27]?.getD undef=.slice (some ⟨ng,0,none⟩) L nc)(hc:w.cell? ⟨g,n,none⟩=some u)(hf:w.frozen? ⟨g,n,none⟩=false) :
  (execOp a.eval o).run Tryz.prog w=.ok .skip (w.setCell ⟨g,n,none⟩ (.slice (some ⟨ng,0,none⟩) L nc)):=by
 unfold execOp
 rw[hop]
 go_simp
structure X7 (R:Nat) (l:List UInt8) (ts:Zl) (A:Nat→Prop) (w:World) (B3 B4:Nat) (wr:World) (t t2:Tree) (k2 j:Nat) (fg fc lg lc fg2 fc2 lg2 lc2:Nat):Prop where
 rd:Rd R l k2 (YB ((t2.first (ts.length+t.count)).take j) (Zj (t.last ts.length)) (t2.lay V1 (t.lay V1 ts))) (fun q=>q≠fg∧q≠lg∧q≠fg2∧q≠lg2∧(q<w.heap.size→Old A w.heap.size q)) wr
 pr:Zw w.heap.size wr ts.length t (.slice (some ⟨fg,0,none⟩) (t.first ts.length).length fc) (.slice (some ⟨lg,0,none⟩) (t.last ts.length).length lc)
 pq:Zw w.heap.size wr (ts.length+t.count) t2 (.slice (some ⟨fg2,0,none⟩) (t2.first (ts.length+t.count)).length fc2) (.slice (some ⟨lg2,0,none⟩) (t2.last (ts.length+t.count)).length lc2)
 b3:wr.heap[B3]?=some (.cells #[.int .i64 (t.work V1),.int .i64 (t.span V1),.slice (some ⟨fg,0,none⟩) (t.first ts.length).length fc,.slice (some ⟨lg,0,none⟩) (t.last ts.length).length lc] 199 (0,0))
 b4:wr.heap[B4]?=some (.cells #[.int .i64 (t2.work V1),.int .i64 (t2.span V1),.slice (some ⟨fg2,0,none⟩) (t2.first (ts.length+t.count)).length fc2,.slice (some ⟨lg2,0,none⟩) (t2.last (ts.length+t.count)).length lc2] 199 (0,0))
 n0:wr.heap[w.heap.size]?=some (.cells #[.int .i64 0,.int .i64 0,.slice none 0 0,.slice none 0 0] 199 (0,0))
 kp:Kp R w wr
set_option maxRecDepth 100000 in
set_option maxHeartbeats 2000000 in
theorem zhl(n:Nat)(ih:Xh 200 .link n):Xh 176 .chain n:=by
 intro R l i ts A w hl hi hn hts hr
 have hRl:=hr.lt
 have hch:=ih R l i ts _ _ hl hi hn hts (hr.old.alloc part0)
 have HIH:Hid (Xh 200 .link n):=ih
 clear hr ih
 unfold part0 at hch
 go_enter Tryz.func176,Tryz.ntmps176
 go_wp2_with fail
 refine hch.mono ?_
 rintro e w1 ⟨hk,h⟩
 clear hch
 have hkZ:Kp R w w1:=((Kp.refl R w).alloc _).trans hk
 have hN1:w1.heap[w.heap.size]?=some (.cells #[.int .i64 0,.int .i64 0,.slice none 0 0,.slice none 0 0] 199 (0,0)):=hk.other (k:=w.heap.size) (blk_alloc_new _ _) (by omega) (by decide)
 have hs1:w.heap.size<w1.heap.size:=lt_of_block hN1
 clear hk
 rcases h with⟨hno,rfl⟩|⟨t,k,fv,lv,hg,hik,hkl,hct,rfl,hrd,hpr⟩
 ·exact⟨rfl,hkZ,Or.inl ⟨Gr.chainNo hno,rfl⟩⟩
 obtain⟨fg,fc,lg,lc,rfl,rfl⟩:=hpr.shapes
 unfold Xo
 have hle:w.heap.size≤(w.alloc (Obj.cells #[.int .i64 0,.int .i64 0,.slice none 0 0,.slice none 0 0] 199)).heap.size:=by simp
 have HGO:Hid (XQ .chain .chainL R l i ts A w w1.heap.size (w1.alloc (.cells #[.int .i64 (t.work V1),.int .i64 (t.span V1),.slice (some ⟨fg,0,none⟩) (t.first ts.length).length fc,.slice (some ⟨lg,0,none⟩) (t.last ts.length).length lc] 199)) t k fg fc lg lc):=
  {gr:=fun r h=>Gr.chainOf hg h,ik:=hik,kl:=hkl,ct:=hct,rd:=(hrd.allow (fun k h _=>h.mono hle)).alloc _,pr:=(hpr.mono hle).alloc _,b3:=blk_alloc_new _ _,n0:=(qa _ _ _ hs1).trans hN1,kp:=hkZ.alloc _,lo:=hs1 }
 clear hg hik hkl hct hrd hpr hkZ hN1 hle
 go_wp2_with fail
 obtain⟨B3,hB3⟩:∃B3,w1.heap.size=B3:=⟨_,rfl⟩
 rw[hB3]at HGO ⊢
 go_loopg [] l.length (fun gg wr=>∃t k fg fc lg lc,Hid (XQ .chain .chainL R l i ts A w B3 wr t k fg fc lg lc)∧l.length-k≤gg)
 case atStart=>exact⟨t,k,fg,fc,lg,lc,HGO,by omega⟩
 case round=>
  clear HGO
  obtain⟨t,k,fg,fc,lg,lc,HG,hgg⟩:=hrel
  obtain⟨G,hGk⟩:∃G,G=gk:=⟨_,rfl⟩
  have hlo:=HG.out.lo
  have htk:=jK R l k _ _ 59 wr hl HG.out.kl HG.out.rd
  go_wp2_with fail
  refine htk.mono ?_
  rintro e w2 ⟨hk2,h⟩
  clear htk
  obtain⟨cR,hcR⟩:=HG.out.rd.typed
  have hkp2:=HG.out.kp.trans hk2
  have hB2:=hk2.other HG.out.b3 (by omega) (by decide)
  have hN2:=hk2.other HG.out.n0 (by omega) (by decide)
  have hpr2:=HG.out.pr.kp hcR hk2
  have hik:=HG.out.ik
  have hkl:=HG.out.kl
  have hct:=HG.out.ct
  clear hcR hk2
  rcases h with⟨hne,rfl,hrd2⟩|⟨hil,hdr,rfl,hrd2⟩
  ·have HGR:Hid (Gr .chain (l.drop i) (some (t,l.drop k))):=HG.out.gr _ (Gr.chainEnd hne)
   have HRD:Hid (Rd R l k (t.lay V1 ts) (Xt A w.heap.size (.slice (some ⟨fg,0,none⟩) (t.first ts.length).length fc) (.slice (some ⟨lg,0,none⟩) (t.last ts.length).length lc)) w2):=hrd2
   have HPR:Hid (Zw w.heap.size w2 ts.length t (.slice (some ⟨fg,0,none⟩) (t.first ts.length).length fc) (.slice (some ⟨lg,0,none⟩) (t.last ts.length).length lc)):=hpr2
   obtain⟨q0,q1,q2,q3,qf⟩:=zk hN2
   have qf0:=qf 0
   have qf1:=qf 1
   have qf2:=qf 2
   have qf3:=qf 3
   obtain⟨r0,r1,r2,r3,_⟩:=zk hB2
   clear qf hrd2 hpr2 HG hne
   go_wp2
   exact xV Tryz.results176 rfl rfl (qq1 _) hkp2 hN2 HGR.out hik hkl hct HRD.out HPR.out
  ·have hlen:(t.lay V1 ts).length=ts.length+t.count:=t.lay_length V1 ts
   have hch:=HIH.out R l (k+1) (t.lay V1 ts) _ w2 hl (by omega) (by omega) (by omega) hrd2.old
   have HGR:Hid (∀r,Gr (.chainL t) (l.drop k) r→Gr .chain (l.drop i) r):=HG.out.gr
   obtain⟨cR2,hcR2⟩:=hrd2.typed
   clear HG hrd2
   go_wp2_with fail
   refine hch.mono ?_
   rintro e w3 ⟨hk3,h⟩
   clear hch
   have hkp3:=hkp2.trans hk3
   have hs3:=hk3.size
   have hB3':=hk3.other hB2 (by omega) (by decide)
   have hN3:=hk3.other hN2 (by omega) (by decide)
   have hpr3:=hpr2.kp hcR2 hk3
   clear hcR2 hk3 hB2 hN2
   rcases h with⟨hno,rfl⟩|⟨t2,k2,fv2,lv2,hg2,hik2,hkl2,hct2,rfl,hrd3,hpq⟩
   ·refine⟨rfl,hkp3,Or.inl ⟨HGR.out _ ?_,rfl⟩⟩
    rw[hdr]
    exact Gr.chainBad hno
   ·obtain⟨fg2,fc2,lg2,lc2,rfl,rfl⟩:=hpq.shapes
    rw[hlen]at hpq hct2 ⊢
    unfold Xo
    obtain⟨hf1,hf2,hg1,hg2',hne⟩:=hpr2.blocks
    obtain⟨pf1,pf2,pg1,pg2,pne⟩:=hpq.blocks
    have hs2:w.heap.size≤w2.heap.size:=hkp2.size
    have hb3l:B3<w3.heap.size:=lt_of_block hB3'
    have hn0l:w.heap.size<w3.heap.size:=lt_of_block hN3
    have hrd4:Rd R l k2 (t2.lay V1 (t.lay V1 ts)) (fun q=>q≠fg∧q≠lg∧q≠fg2∧q≠lg2∧(q<w.heap.size→Old A w.heap.size q)) w3:=hrd3.allow (fun q h hq=>by
     rcases h with⟨⟨h,h1⟩,h1'⟩|⟨h,h5,h6⟩
     ·rcases h with h|⟨h2,h3,h4⟩
      ·have:=h.2
       exact⟨by omega,by omega,by omega,by omega,fun _=>h⟩
      ·simp only[Value.ownBlock,ne_eq,Option.some.injEq]at h3 h4
       exact⟨fun e=>h3 e.symm,fun e=>h4 e.symm,by omega,by omega,fun h=>by omega⟩
     ·simp only[Value.ownBlock,ne_eq,Option.some.injEq]at h5 h6
      exact⟨by omega,by omega,fun e=>h5 e.symm,fun e=>h6 e.symm,fun h=>by omega⟩)
    have HLAY:Hid (X7 R l ts A w B3 w3.heap.size (w3.alloc (.cells #[.int .i64 (t2.work V1),.int .i64 (t2.span V1),.slice (some ⟨fg2,0,none⟩) (t2.first (ts.length+t.count)).length fc2,.slice (some ⟨lg2,0,none⟩) (t2.last (ts.length+t.count)).length lc2] 199)) t t2 k2 0 fg fc lg lc fg2 fc2 lg2 lc2):=
     {rd:=by rw[List.take_zero];exact hrd4.alloc _
      pr:=hpr3.alloc _,pq:=(hpq.mono hs2).alloc _,b3:=(qa _ _ _ hb3l).trans hB3',b4:=blk_alloc_new _ _,n0:=(qa _ _ _ hn0l).trans hN3,kp:=hkp3.alloc _ }
    have hbd1:=xp hct (by omega)
    have hbd2:=xp hct2 (by omega)
    have HGR2:Hid (∀r,Gr (.chainL (.seq t t2)) (l.drop k2) r→Gr .chain (l.drop i) r):=fun r h=>HGR.out r (by rw[hdr];exact Gr.chainMore hg2 h)
    have hfl2:=t2.first_len (ts.length+t.count)
    have hll:=t.last_len ts.length
    have hfl2ne:¬fg=lg2:=by omega
    obtain⟨B4,hB4⟩:∃B4,w3.heap.size=B4:=⟨_,rfl⟩
    rw[hB4]at HLAY
    clear hrd4 hrd3 hpr3 hpr2 hpq hkp3 hkp2 hB3' hN3 HGR hg2 hdr
    go_wp2_with fail
    go_loopg [16] (t2.first (ts.length+t.count)).length (fun gg s16 wr=>∃j:Nat,j≤(t2.first (ts.length+t.count)).length∧s16=.int .i64 j∧Hid (X7 R l ts A w B3 B4 wr t t2 k2 j fg fc lg lc fg2 fc2 lg2 lc2)∧(t2.first (ts.length+t.count)).length-j≤gg)
    case atStart=>exact⟨0,Nat.zero_le _,rfl,HLAY,by omega⟩
    case round=>
     clear HLAY
     obtain⟨j,hj,rfl,HL,hgj⟩:=hrel
     by_cases hjl:j<(t2.first (ts.length+t.count)).length
     ·have hjI:(j:Int)<((t2.first (ts.length+t.count)).length:Int):=by omega
      have hcell:=HL.out.pq.1.cell (j:=j) (by rw[zi];exact hjl)
      have hxj:(Zj (t2.first (ts.length+t.count))).getD j 0=((t2.first (ts.length+t.count)).getD j 0:Nat):=by simp[Zj,hjl]
      rw[hxj]at hcell
      have hxr:=t2.first_range (ts.length+t.count) ((t2.first (ts.length+t.count)).getD j 0) (by rw[qq6,qq7 hjl];exact List.getElem_mem hjl)
      have HST:=jb (t2.first (ts.length+t.count)) (Zj (t.last ts.length)) (t2.lay V1 (t.lay V1 ts)) hjl
      generalize hx:(t2.first (ts.length+t.count)).getD j 0=x at *
      clear hx hxj
      obtain⟨_,_,⟨tv,htv,htr⟩,hfr⟩:=HL.out.rd.cells
      have hlenS:(YB ((t2.first (ts.length+t.count)).take j) (Zj (t.last ts.length)) (t2.lay V1 (t.lay V1 ts))).length=ts.length+t.count+t2.count:=by rw[yM,t2.lay_length,hlen]
      obtain⟨g,cap,rfl⟩:∃g cap,tv=.slice (some ⟨g,0,none⟩) (ts.length+t.count+t2.count) cap:=by
       obtain⟨xs,ho,_⟩:=htr
       rw[hlenS]at ho
       exact zB ho (by omega)
      obtain⟨r0,r1,r2,r3,_⟩:=zk HL.out.b3
      have hclone:=fun m=>zf0 w.heap.size _ _ (wr.drewN m) (HL.out.pr.2.1.drewN m) (by rw[zi];exact t.last_pos _) (by rw[zi];omega)
      go_wp2
      have HS:wr.drew.cell? ⟨R,2,none⟩=some (.slice (some ⟨g,0,none⟩) (ts.length+t.count+t2.count) cap)∧wr.drew.cell? ⟨B3,3,none⟩=some (.slice (some ⟨lg,0,none⟩) (t.last ts.length).length lc):=⟨htv,r3⟩
      refine wp_region_held (S:=fun W'=>W'.cell? ⟨R,2,none⟩=some (.slice (some ⟨g,0,none⟩) (ts.length+t.count+t2.count) cap)∧W'.cell? ⟨B3,3,none⟩=some (.slice (some ⟨lg,0,none⟩) (t.last ts.length).length lc)) (by kernel_rfl) ?_
      refine zc (i:=0) (v:=?v0) (some 20) rfl rfl (by kernel_rfl) (by kernel_rfl) (by kernel_rfl) (fun _ _ _ h=>h) (Or.inl ⟨by rfl,?hy0⟩) HS ?_
      case hy0=>
       intro wz hSz
       obtain⟨z0,z1⟩:=hSz
       go_simp
       try rfl
      refine zc (i:=1) (v:=?v1) (some 21) rfl rfl (by kernel_rfl) (by kernel_rfl) (by kernel_rfl) (fun _ _ _ h=>h) (Or.inl ⟨by rfl,?hy1⟩) HS ?_
      case hy1=>
       intro wz hSz
       obtain⟨z0,z1⟩:=hSz
       go_simp
       try rfl
      refine zc (i:=2) (v:=?v2) (some 22) rfl rfl (by kernel_rfl) (by kernel_rfl) (by kernel_rfl) (fun _ _ _ h=>h) (Or.inl ⟨by rfl,?hy2⟩) HS ?_
      case hy2=>
       intro wz hSz
       obtain⟨z0,z1⟩:=hSz
       go_simp
       try rfl
      refine zc (i:=3) (v:=?v3) (some 23) rfl rfl (by kernel_rfl) (by kernel_rfl) (by kernel_rfl) (fun _ _ _ h=>h) (Or.inl ⟨by rfl,?hy3⟩) HS ?_
      case hy3=>
       intro wz hSz
       obtain⟨z0,z1⟩:=hSz
       go_simp
       try rfl
      refine zc (i:=4) (v:=?v4) (some 24) rfl rfl (by kernel_rfl) (by kernel_rfl) (by kernel_rfl) (fun _ _ _ h=>h) (Or.inl ⟨by rfl,?hy4⟩) HS ?_
      case hy4=>
       intro wz hSz
       obtain⟨z0,z1⟩:=hSz
       go_simp
       try rfl
      refine zc (i:=5) (v:=?v5) (some 25) rfl rfl (by kernel_rfl) (by kernel_rfl) (by kernel_rfl) (fun _ _ _ h=>h) (Or.inl ⟨by rfl,?hy5⟩) HS ?_
      case hy5=>
       intro wz hSz
       obtain⟨z0,z1⟩:=hSz
       go_simp
       try rfl
      refine zc (i:=6) (v:=?v6) (some 26) rfl rfl (by kernel_rfl) (by kernel_rfl) (by kernel_rfl) (fun _ _ _ h=>h) (Or.inl ⟨by rfl,?hy6⟩) HS ?_
      case hy6=>
       intro wz hSz
       obtain⟨z0,z1⟩:=hSz
       go_simp
       try rfl
      refine wpAnyH_all (rs:=[7]) (by kernel_rfl) (by simp) (fun q hq=>?_)
      obtain rfl:=List.mem_singleton.1 hq
      refine yk (f:=201) (args:=#[.slice (some ⟨lg,0,none⟩) (t.last ts.length).length lc]) (some 27) rfl rfl (by rfl) ?hcall ?_
      case hcall=>go_simp
      refine(hclone 1).mono ?_
      rintro e w4 ⟨nv,rfl,hnv,hb4⟩
      obtain⟨ng,nc,rfl⟩:=zB hnv (by rw[zi];exact t.last_pos _)
      rw[zi]at hnv ⊢
      have hb4':Below wr.heap.size wr w4:=⟨hb4.os,hb4.tape,hb4.output,hb4.size,hb4.block⟩
      have hsz4:=hb4'.size
      obtain⟨hRl2,hcR⟩:R<wr.heap.size∧True:=⟨HL.out.rd.lt,trivial⟩
      have hB3l:=lt_of_block HL.out.b3
      have HS4:w4.cell? ⟨R,2,none⟩=some (.slice (some ⟨g,0,none⟩) (ts.length+t.count+t2.count) cap)∧w4.cell? ⟨B3,3,none⟩=some (.slice (some ⟨lg,0,none⟩) (t.last ts.length).length lc):=⟨(hb4'.cell (p:=⟨R,2,none⟩) hRl2).trans htv,(hb4'.cell (p:=⟨B3,3,none⟩) hB3l).trans r3⟩
      have hrd4:=HL.out.rd.later hb4'
      obtain⟨_,hgR,⟨cT,hT⟩,htr4⟩:=hrd4.row HS4.1
      obtain⟨⟨ux,hux⟩,hfx⟩:=zgS htr4 (x:=x) (by omega)
      have hxI:(x:Int)<((ts.length+t.count+t2.count:Nat):Int):=by omega
      obtain⟨bf1,bf2,bg1,bg2,bne⟩:=HL.out.pr.blocks
      obtain⟨df1,df2,dg1,dg2,dne⟩:=HL.out.pq.blocks
      have hng:=hnv.low (k:=ng) rfl
      have hngw:wr.heap.size≤ng:=hng.1
      have hrd5:=hrd4.setNeed HS4.1 (x:=x) (by omega) (hnv.mono (b':=R+1) (by show R+1≤wr.heap.size;omega)) (fun q e=>by
       obtain rfl:ng=q:=Option.some.inj e
       exact⟨by omega,by omega,by omega,by omega,fun h=>by omega⟩)
      have HNEXT:Hid (X7 R l ts A w B3 B4 (w4.setCell ⟨g,x*2+1,none⟩ (.slice (some ⟨ng,0,none⟩) (t.last ts.length).length nc)) t t2 k2 (j+1) fg fc lg lc fg2 fc2 lg2 lc2):=
       {rd:=by rw[HST];exact hrd5
        pr:=HL.out.pr.laterT hb4' hT _ _
        pq:=HL.out.pq.laterT hb4' hT _ _
        b3:=zJ hT _ _ ((hb4'.block _ hB3l).trans HL.out.b3) (by decide)
        b4:=zJ hT _ _ ((hb4'.block _ (lt_of_block HL.out.b4)).trans HL.out.b4) (by decide)
        n0:=zJ hT _ _ ((hb4'.block _ (lt_of_block HL.out.n0)).trans HL.out.n0) (by decide)
        kp:=(HL.out.kp.of_below hb4').grown (yJ w4 ⟨g,x*2+1,none⟩ _) (fun q e=>by cases e;exact Or.inr (Or.inr ⟨by show R<g;omega,cT,_,hT⟩)) }
      have HS5:(w4.setCell ⟨g,x*2+1,none⟩ (.slice (some ⟨ng,0,none⟩) (t.last ts.length).length nc)).cell? ⟨R,2,none⟩=some (.slice (some ⟨g,0,none⟩) (ts.length+t.count+t2.count) cap)∧(w4.setCell ⟨g,x*2+1,none⟩ (.slice (some ⟨ng,0,none⟩) (t.last ts.length).length nc)).cell? ⟨B3,3,none⟩=some (.slice (some ⟨lg,0,none⟩) (t.last ts.length).length lc):=by
       refine⟨?_,(zk HNEXT.out.b3).2.2.2.1⟩
       rw[World.cell?_setCell_other w4 ⟨g,x*2+1,none⟩ ⟨R,2,none⟩ _ (fun e=>by have:g=R:=congrArg Addr.block e;omega)]
       exact HS4.1
      clear hrd5 hrd4 htr4 htr hclone hb4 hb4' hnv HST hcell hfr
      refine⟨HS4,?_⟩
      refine zc (i:=8) (v:=.pointer (some ⟨g,x*2,none⟩)) (some 28) rfl rfl (by kernel_rfl) (by kernel_rfl) (by kernel_rfl) (fun _ _ _ h=>h) (Or.inl ⟨by rfl,fun wz _=>zgV (g:=g) (L:=ts.length+t.count+t2.count) (cap:=cap) (x:=x) rfl (by kernel_rfl) (by kernel_rfl) (by omega)⟩) HS4 ?_
      refine zc (i:=9) (v:=.pointer (some ⟨g,x*2+1,none⟩)) (some 29) rfl rfl (by kernel_rfl) (by kernel_rfl) (by kernel_rfl) (fun _ _ _ h=>h) (Or.inl ⟨by rfl,fun wz _=>zgU (g:=g) (n:=x*2) rfl (by kernel_rfl)⟩) HS4 ?_
      refine jc (i:=10) (w':=w4.setCell ⟨g,x*2+1,none⟩ (.slice (some ⟨ng,0,none⟩) (t.last ts.length).length nc)) (by kernel_rfl) rfl rfl (by rfl) (zbi (g:=g) (n:=x*2+1) (ng:=ng) (L:=(t.last ts.length).length) (nc:=nc) rfl (by kernel_rfl) (by kernel_rfl) hux hfx) HS5 ?_
      refine wpAnyH_done (by kernel_rfl) ?_ _
      clear HS HS4 HS5 hux hfx r0 r1 r2 r3 htv
      clear hsz4 hcR hT hng hngw hxI bf1 bf2 bg1 bg2 bne df1 df2 dg1 dg2 dne hgR hlenS hxr HL
      simp only[Act.put,List.setIfInBounds_toArray,List.set_cons_zero,List.set_cons_succ]
      go_wp2
      go_roundg ((t2.first (ts.length+t.count)).length-(j+1))
      case measure=>omega
      case rel=>exact⟨j+1,by omega,by go_num,HNEXT,qq1 _⟩
     ·have hje:j=(t2.first (ts.length+t.count)).length:=by omega
      have HJE:Hid (j=(t2.first (ts.length+t.count)).length):=hje
      have hjI:¬(j:Int)<((t2.first (ts.length+t.count)).length:Int):=by omega
      clear hje
      obtain⟨r0,r1,r2,r3,rf⟩:=zk HL.out.b3
      have rf0:=rf 0
      have rf1:=rf 1
      have rf3:=rf 3
      obtain⟨u0,u1,u2,u3,_⟩:=zk HL.out.b4
      have hB34:¬B3=B4:=by omega
      have hc0:=heap_setCell_same wr B3 0 _ 199 (.int .i64 (t.work V1+t2.work V1)) HL.out.b3
      have hc1:=heap_setCell_same _ B3 1 _ 199 (.int .i64 (t.span V1+t2.span V1)) hc0
      have hc3:=heap_setCell_same _ B3 3 _ 199 (.slice (some ⟨lg2,0,none⟩) (t2.last (ts.length+t.count)).length lc2) hc1
      obtain⟨bf1,bf2,bg1,bg2,bne⟩:=HL.out.pr.blocks
      obtain⟨df1,df2,dg1,dg2,dne⟩:=HL.out.pq.blocks
      have hn0l:=lt_of_block HL.out.n0
      have hRD:=((HL.out.rd.setPart HL.out.b3 0 (.int .i64 (t.work V1+t2.work V1))).setPart hc0 1 (.int .i64 (t.span V1+t2.span V1))).setPart hc1 3 (.slice (some ⟨lg2,0,none⟩) (t2.last (ts.length+t.count)).length lc2)
      rw[HJE.out,List.take_length]at hRD
      have HNEW:Hid (XQ .chain .chainL R l i ts A w B3 (((wr.setCell ⟨B3,0,none⟩ (.int .i64 (t.work V1+t2.work V1))).setCell ⟨B3,1,none⟩ (.int .i64 (t.span V1+t2.span V1))).setCell ⟨B3,3,none⟩ (.slice (some ⟨lg2,0,none⟩) (t2.last (ts.length+t.count)).length lc2)) (.seq t t2) k2 fg fc lg2 lc2):=
       {gr:=HGR2.out,ik:=by omega,kl:=hkl2,ct:=by simp only[Tree.count];omega
        rd:=hRD.allow (fun q h _=>by
         by_cases hq:q<w.heap.size
         ·exact Or.inl (h.2.2.2.2 hq)
         ·exact Or.inr ⟨by omega,by simp only[Value.ownBlock,ne_eq,Option.some.injEq];exact fun e=>h.1 e.symm,by simp only[Value.ownBlock,ne_eq,Option.some.injEq];exact fun e=>h.2.2.2.1 e.symm⟩)
        pr:=⟨((HL.out.pr.1.setPart HL.out.b3 0 _).setPart hc0 1 _).setPart hc1 3 _,((HL.out.pq.2.1.setPart HL.out.b3 0 _).setPart hc0 1 _).setPart hc1 3 _,by simp only[Value.ownBlock,ne_eq,Option.some.injEq];exact hfl2ne⟩
        b3:=by
         simp only[Tree.work,Tree.span,Tree.first,Tree.last]
         simpa using hc3
        n0:=by
         rw[qq5 _ _ _ _ (by show w.heap.size≠B3;omega),qq5 _ _ _ _ (by show w.heap.size≠B3;omega),qq5 _ _ _ _ (by show w.heap.size≠B3;omega)]
         exact HL.out.n0
        kp:=((HL.out.kp.setNew (b:=B3) (by omega) 0 _).setNew (b:=B3) (by omega) 1 _).setNew (b:=B3) (by omega) 3 _
        lo:=hlo }
      clear hc0 hc1 hc3 hRD HL rf
      go_wp2
      go_roundg (l.length-k2)
      case measure=>omega
      case rel=>exact⟨.seq t t2,k2,fg,fc,lg2,lc2,HNEW,qq1 _⟩
end
section
open Go.RowKit Go.Deep
theorem zg9(n:Nat):Xh 149 .weave n:=by
 induction n using Nat.strongRecOn with
 | _ n ih=>exact zil n (zhl n (ziI n ih))
set_option maxRecDepth 100000 in
set_option maxHeartbeats 1000000 in
theorem zeo(p q r:Addr)(w:World) :
  CallsD Tryz.prog 148 #[.pointer (some p),.pointer (some q),.pointer (some r)] .returning w fun e u' w'=>e=.returned (.tuple #[])∧u'=.returning∧w'=w:=by
 refine callsD_of_wpS Tryz.func148 rfl fun c₀ cs hu=>?_
 apply wpS_seq
 apply wpS_region
 simp[wpOpsS,go_sem,recoverD,hu,Tryz.ntmps148,Exit.thenS,Array.replicate]
 refine wpS_of_wp ?_
 go_wp2
 cases c₀
 simp_all [bodyPostS,results,Tryz.results148]
theorem zce(n:Int)(w:World):(Instr.typeAssert (.iface 97 (.int .i64 n)) 20 97 true).run Tryz.prog w=.ok (.tuple #[.int .i64 n,.bool true]) w:=by kernel_rfl
set_option maxRecDepth 100000 in
set_option maxHeartbeats 1000000 in
theorem zax(a b c:Nat)(o0 o1 o2 o3 o4 o5:Value)(older:List PanicEntry)(w:World)(ha:w.cell? ⟨a,0,none⟩=some o0)(ha':w.frozen? ⟨a,0,none⟩=false)(hb:w.heap[b]?=some (.cells #[o1,o2,o3,o4] 199 (0,0)))(hc:w.cell? ⟨c,0,none⟩=some o5)(hc':w.frozen? ⟨c,0,none⟩=false)(hab:¬a=b)(hac:¬a=c)(hbc:¬b=c) :
  CallsD Tryz.prog 148 #[.pointer (some ⟨a,0,none⟩),.pointer (some ⟨b,0,none⟩),.pointer (some ⟨c,0,none⟩)] (.panicking ({ v:=Yz,recovered:=false }::older)) w fun e u' w'=>
   e=.returned (.tuple #[])∧u'=.panicking ({ v:=Yz,recovered:=true }::older)∧w'=(setP (w.setCell ⟨a,0,none⟩ (.slice none 0 0)) b (.int .i64 0) (.int .i64 0) (.slice none 0 0) (.slice none 0 0)).setCell ⟨c,0,none⟩ Yz:=by
 unfold Yz
 obtain⟨q0,q1,q2,q3,qf⟩:=zk hb
 have qf0:=qf 0
 have qf1:=qf 1
 have qf2:=qf 2
 have qf3:=qf 3
 clear qf
 have hta:=zce 2
 refine callsD_of_wpS Tryz.func148 rfl fun c₀ cs hu=>?_
 apply wpS_seq
 apply wpS_region
 simp[wpOpsS,go_sem,recoverD,hu,Tryz.ntmps148,Exit.thenS,Array.replicate]
 refine wpS_of_wp ?_
 go_wp2
 simp[bodyPostS,results,Tryz.results148,setP]
end
end Go.Proofs.YtlfbdjeojgbniaaGreatDoor

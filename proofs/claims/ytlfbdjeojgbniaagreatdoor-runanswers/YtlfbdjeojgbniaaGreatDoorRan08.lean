import Derived.Test.YtlfbdjeojgbniaaGreatDoorRan07
namespace Go.Proofs.YtlfbdjeojgbniaaGreatDoor
section
open Go.RowKit Go.Deep
def Whole(l:List UInt8)(t:Tree):Prop:=Gr .weave l (some (t,[]))
def XB(l:List UInt8):Prop:=∃r,Gr .weave l r∧∀t,r≠some (t,[])
theorem Whole.det{l:List UInt8}{t t':Tree}(h:Whole l t)(h':Whole l t'):t=t':=by
 have:=Gr.det h h'
 simp at this
 exact this
theorem XB.not{l:List UInt8}(h:XB l)(t:Tree):¬Whole l t:=fun hw=>by
 obtain⟨r,h1,h2⟩:=h
 exact h2 t (Gr.det h1 hw)
def XF(l:List UInt8)(w:World)(e:Ending)(w':World):Prop:=
 Below w.heap.size w w'∧((∃t tv fv lv,Whole l t∧t.count≤l.length∧e=.returned (.tuple #[tv,Xo t fv lv,.nilIface])∧(∃fg fn fc lg ln lc,fv=.slice (some ⟨fg,0,none⟩) fn fc∧lv=.slice (some ⟨lg,0,none⟩) ln lc)∧RowT w.heap.size (fun _=>True) w' tv (t.lay V1 []))∨
  (XB l∧e=.returned (.tuple #[.slice none 0 0,.agg #[.int .i64 0,.int .i64 0,.slice none 0 0,.slice none 0 0],Yz])))
theorem RowT.mono{b b':Nat}{A:Nat→Prop}{w:World}{v:Value}{ts:Zl}(h:RowT b A w v ts)(hb:b'≤b):RowT b' A w v ts:=by
 obtain⟨xs,ho,hx⟩:=h
 refine⟨xs,?_,fun j hj=>?_⟩
 ·rcases ho.2 with hn|⟨g,cap,cur,hv,hg,r⟩
  ·exact⟨ho.1,Or.inl hn⟩
  ·exact⟨ho.1,Or.inr ⟨g,cap,cur,hv,qq2 hb hg,r⟩⟩
 ·obtain⟨h1,nv,h2,h3,h4⟩:=hx j hj
  exact⟨h1,nv,h2,h3.mono hb,h4⟩
def Xf(w:World)(l:List UInt8):World:=(((w.alloc (.cells #[.slice none 0 0] 27)).alloc (.cells #[.int .i64 0,.int .i64 0,.slice none 0 0,.slice none 0 0] 199)).alloc (.cells #[.nilIface] 35)).alloc (.cells #[.string ⟨l.toArray⟩,.int .i64 0,.slice none 0 0] 234)
set_option maxRecDepth 100000 in
set_option maxHeartbeats 1000000 in
theorem zbe(l:List UInt8)(w W:World)(a:Act)(o0 o1 o2 o3 o4 o5:Value)(hB:XB l)(hb:Below w.heap.size w W)
  (h2:a.tmps[2]?.getD undef=.pointer (some ⟨w.heap.size,0,none⟩)) (h3:a.tmps[3]?.getD undef=.pointer (some ⟨w.heap.size+1,0,none⟩)) (h4:a.tmps[4]?.getD undef=.pointer (some ⟨w.heap.size+1+1,0,none⟩))
  (hd:a.defers=[{ target:=.fn (.func 148) #[.pointer (some ⟨w.heap.size,0,none⟩),.pointer (some ⟨w.heap.size+1,0,none⟩),.pointer (some ⟨w.heap.size+1+1,0,none⟩)],args:=#[] }])
  (hA1:W.heap[w.heap.size]?=some (.cells #[o0] 27 (0,0))) (hB1:W.heap[w.heap.size+1]?=some (.cells #[o1,o2,o3,o4] 199 (0,0))) (hC1:W.heap[w.heap.size+2]?=some (.cells #[o5] 35 (0,0))) :
  bodyPostD Tryz.prog Tryz.f117 (XF l w) (Exit.panic [{ v:=Yz,recovered:=false }]) a W:=by
 obtain⟨tmps,defers⟩:=a
 dsimp only at h2 h3 h4 hd
 subst hd
 refine leaves_cons (f:=148) (args:=#[.pointer (some ⟨w.heap.size,0,none⟩),.pointer (some ⟨w.heap.size+1,0,none⟩),.pointer (some ⟨w.heap.size+1+1,0,none⟩)]) (by simp) (by simp[go_sem]) ?_
 refine(zax w.heap.size (w.heap.size+1) (w.heap.size+1+1) o0 o1 o2 o3 o4 o5 [] W ?_ ?_ hB1 ?_ ?_ (by omega) (by omega) (by omega)).mono ?_
 ·simp[World.cell?,hA1]
 ·simp[World.frozen?,hA1]
 ·simp[World.cell?,hC1]
 ·simp[World.frozen?,hC1]
 rintro e u' w'' ⟨rfl,rfl,rfl⟩
 have hAs:=heap_setCell_same W w.heap.size 0 _ 27 (.slice none 0 0) hA1
 have hB2:(W.setCell ⟨w.heap.size,0,none⟩ (.slice none 0 0)).heap[w.heap.size+1]?=some (.cells #[o1,o2,o3,o4] 199 (0,0)):=(qq5 _ _ _ _ (by show w.heap.size+1≠w.heap.size;omega)).trans hB1
 have hBs:=xj hB2 (.int .i64 0) (.int .i64 0) (.slice none 0 0) (.slice none 0 0)
 have hoth:∀k,k≠w.heap.size+1→(setP (W.setCell ⟨w.heap.size,0,none⟩ (.slice none 0 0)) (w.heap.size+1) (.int .i64 0) (.int .i64 0) (.slice none 0 0) (.slice none 0 0)).heap[k]?=(W.setCell ⟨w.heap.size,0,none⟩ (.slice none 0 0)).heap[k]?:=fun k hk=>by
  unfold setP
  rw[qq5 _ _ _ _ hk,qq5 _ _ _ _ hk,qq5 _ _ _ _ hk,qq5 _ _ _ _ hk]
 have hCs:(setP (W.setCell ⟨w.heap.size,0,none⟩ (.slice none 0 0)) (w.heap.size+1) (.int .i64 0) (.int .i64 0) (.slice none 0 0) (.slice none 0 0)).heap[w.heap.size+1+1]?=some (.cells #[o5] 35 (0,0)):=by
  rw[hoth _ (by omega),qq5 _ _ _ _ (by show w.heap.size+1+1≠w.heap.size;omega)]
  exact hC1
 have hCf:=heap_setCell_same _ (w.heap.size+1+1) 0 _ 35 Yz hCs
 have hbF:Below w.heap.size w ((setP (W.setCell ⟨w.heap.size,0,none⟩ (.slice none 0 0)) (w.heap.size+1) (.int .i64 0) (.int .i64 0) (.slice none 0 0) (.slice none 0 0)).setCell ⟨w.heap.size+1+1,0,none⟩ Yz):=by
  unfold setP
  exact(((((hb.setCell (qq1 _) _).setCell (by show _≤w.heap.size+1;omega) _).setCell (by show _≤w.heap.size+1;omega) _).setCell (by show _≤w.heap.size+1;omega) _).setCell (by show _≤w.heap.size+1;omega) _).setCell (by show _≤w.heap.size+1+1;omega) _
 have fA:((setP (W.setCell ⟨w.heap.size,0,none⟩ (.slice none 0 0)) (w.heap.size+1) (.int .i64 0) (.int .i64 0) (.slice none 0 0) (.slice none 0 0)).setCell ⟨w.heap.size+1+1,0,none⟩ Yz).heap[w.heap.size]?=some (.cells #[.slice none 0 0] 27 (0,0)):=by
  rw[qq5 _ _ _ _ (by show w.heap.size≠w.heap.size+1+1;omega),hoth _ (by omega)]
  simpa using hAs
 have fB:=(qq5 (setP (W.setCell ⟨w.heap.size,0,none⟩ (.slice none 0 0)) (w.heap.size+1) (.int .i64 0) (.int .i64 0) (.slice none 0 0) (.slice none 0 0)) ⟨w.heap.size+1+1,0,none⟩ Yz (w.heap.size+1) (by show w.heap.size+1≠w.heap.size+1+1;omega)).trans hBs
 generalize (setP (W.setCell ⟨w.heap.size,0,none⟩ (.slice none 0 0)) (w.heap.size+1) (.int .i64 0) (.int .i64 0) (.slice none 0 0) (.slice none 0 0)).setCell ⟨w.heap.size+1+1,0,none⟩ Yz=WF at *
 have cA:WF.cell? ⟨w.heap.size,0,none⟩=some (.slice none 0 0):=by simp[World.cell?,fA]
 obtain⟨q0,q1,q2,q3,_⟩:=zk fB
 have cC:WF.cell? ⟨w.heap.size+1+1,0,none⟩=some Yz:=by simp[World.cell?,hCf]
 have hout:XF l w (.returned (.tuple #[.slice none 0 0,.agg #[.int .i64 0,.int .i64 0,.slice none 0 0,.slice none 0 0],Yz])) WF:=⟨hbF,Or.inr ⟨hB,rfl⟩⟩
 simp[Leaves,settle,results,Tryz.results117,go_sem,h2,h3,h4,cA,q0,q1,q2,q3,cC]
 exact hout
set_option maxRecDepth 100000 in
set_option maxHeartbeats 2000000 in
theorem zhY(l:List UInt8)(w:World)(hl:l.length≤200):Calls Tryz.prog 117 #[.string ⟨l.toArray⟩] w (XF l w):=by
 have hRb:(Xf w l).heap[w.heap.size+3]?=some (.cells #[.string ⟨l.toArray⟩,.int .i64 (0:Nat),.slice none 0 0] 234 (0,0)):=by
  have:=blk_alloc_new (((w.alloc (.cells #[.slice none 0 0] 27)).alloc (.cells #[.int .i64 0,.int .i64 0,.slice none 0 0,.slice none 0 0] 199)).alloc (.cells #[.nilIface] 35)) (.cells #[.string ⟨l.toArray⟩,.int .i64 0,.slice none 0 0] 234)
  simpa[Xf]using this
 have hrd:Rd (w.heap.size+3) l 0 [] (fun _=>False) (Xf w l):=⟨_,hRb,RowT.nil _ _ _⟩
 have hcall:=zg9 l.length (w.heap.size+3) l 0 [] _ (Xf w l) hl (Nat.zero_le _) (by omega) (qq1 _) hrd
 have hmf:∀(fn:Fn) (first cap:Array Value) (w:World),(Instr.makeFunc fn first cap).run Tryz.prog w=.ok (.func fn first cap) w:=fun _ _ _ _=>rfl
 have hbW:Below w.heap.size w (Xf w l):=((((qq4 _ _).alloc (qq1 _) _).alloc (by simp) _).alloc (by simp;omega) _).alloc (by simp;omega) _
 have hA0:(Xf w l).heap[w.heap.size]?=some (.cells #[.slice none 0 0] 27 (0,0)):=by
  unfold Xf
  rw[blk_alloc_lt _ _ _ (by simp;omega),blk_alloc_lt _ _ _ (by simp;omega),blk_alloc_lt _ _ _ (by simp)]
  exact blk_alloc_new _ _
 have hB0:(Xf w l).heap[w.heap.size+1]?=some (.cells #[.int .i64 0,.int .i64 0,.slice none 0 0,.slice none 0 0] 199 (0,0)):=by
  unfold Xf
  rw[blk_alloc_lt _ _ _ (by simp),blk_alloc_lt _ _ _ (by simp)]
  have:=blk_alloc_new (w.alloc (.cells #[.slice none 0 0] 27)) (.cells #[.int .i64 0,.int .i64 0,.slice none 0 0,.slice none 0 0] 199)
  simpa using this
 have hC0:(Xf w l).heap[w.heap.size+2]?=some (.cells #[.nilIface] 35 (0,0)):=by
  unfold Xf
  rw[blk_alloc_lt _ _ _ (by simp)]
  have:=blk_alloc_new ((w.alloc (.cells #[.slice none 0 0] 27)).alloc (.cells #[.int .i64 0,.int .i64 0,.slice none 0 0,.slice none 0 0] 199)) (.cells #[.nilIface] 35)
  simpa using this
 have hsW:(Xf w l).heap.size=w.heap.size+4:=by simp[Xf]
 clear hRb hrd
 go_enter_defers Tryz.func117,Tryz.ntmps117
 go_wp2_with fail
 refine hcall.mono ?_
 rintro e w1 ⟨hk,h⟩
 clear hcall
 have hA1:=hk.other hA0 (by omega) (by decide)
 have hB1:=hk.other hB0 (by omega) (by decide)
 have hC1:=hk.other hC0 (by omega) (by decide)
 have hb1:Below w.heap.size w w1:=hbW.trans ((hk.below (by omega)).mono (by omega))
 clear hA0 hB0 hC0 hbW
 rcases h with⟨hno,rfl⟩|⟨t,k,fv,lv,hg,hik,hkl,hct,rfl,hrd,hpr⟩
 ·exact zbe l w w1 _ _ _ _ _ _ _ ⟨none,hno,fun t h=>by cases h⟩ hb1 rfl rfl rfl rfl hA1 hB1 hC1
 ·obtain⟨fg,fc,lg,lc,rfl,rfl⟩:=hpr.shapes
  unfold Xo
  have hAP:=xj hB1 (.int .i64 (t.work V1)) (.int .i64 (t.span V1)) (.slice (some ⟨fg,0,none⟩) (t.first 0).length fc) (.slice (some ⟨lg,0,none⟩) (t.last 0).length lc)
  have hoth:∀q,q≠w.heap.size+1→(setP w1 (w.heap.size+1) (.int .i64 (t.work V1)) (.int .i64 (t.span V1)) (.slice (some ⟨fg,0,none⟩) (t.first 0).length fc) (.slice (some ⟨lg,0,none⟩) (t.last 0).length lc)).heap[q]?=w1.heap[q]?:=fun q hq=>by
   unfold setP
   rw[qq5 _ _ _ _ hq,qq5 _ _ _ _ hq,qq5 _ _ _ _ hq,qq5 _ _ _ _ hq]
  have hrdP:=hrd.setP hB1 (.int .i64 (t.work V1)) (.int .i64 (t.span V1)) (.slice (some ⟨fg,0,none⟩) (t.first 0).length fc) (.slice (some ⟨lg,0,none⟩) (t.last 0).length lc)
  have hbP:Below w.heap.size w (setP w1 (w.heap.size+1) (.int .i64 (t.work V1)) (.int .i64 (t.span V1)) (.slice (some ⟨fg,0,none⟩) (t.first 0).length fc) (.slice (some ⟨lg,0,none⟩) (t.last 0).length lc)):=by
   unfold setP
   exact(((hb1.setCell (by show _≤w.heap.size+1;omega) _).setCell (by show _≤w.heap.size+1;omega) _).setCell (by show _≤w.heap.size+1;omega) _).setCell (by show _≤w.heap.size+1;omega) _
  have hAP0:=(hoth w.heap.size (by omega)).trans hA1
  have hCP0:=(hoth (w.heap.size+2) (by omega)).trans hC1
  obtain⟨q0,q1,q2,q3,qf⟩:=zk hB1
  have qf0:=qf 0
  have qf1:=qf 1
  have qf2:=qf 2
  have qf3:=qf 3
  obtain⟨hR0,hR1,⟨tv,hR2,htr⟩,_⟩:=hrd.cells
  have hne:¬w.heap.size+1=w.heap.size+1+1+1:=by omega
  clear hrd hpr qf
  by_cases hkL:k<l.length
  ·have hkI:(k:Int)<(l.length:Int):=by omega
   have HBR:Hid (XB l):=⟨_,hg,fun t h=>by
    simp at h
    omega⟩
   clear htr hR2
   go_wp2
   exact zbe l w _ _ _ _ _ _ _ _ HBR.out hbP rfl rfl rfl rfl hAP0 hAP hCP0
  ·have hke:k=l.length:=by omega
   have HKE:Hid (k=l.length):=hke
   have hkI:¬(k:Int)<(l.length:Int):=by omega
   clear hke
   obtain⟨ta,tc,rfl⟩:=htr.shape
   go_wp2
   show Code.wp _ _ _ _ (setP w1 (w.heap.size+1) (.int .i64 (t.work V1)) (.int .i64 (t.span V1)) (.slice (some ⟨fg,0,none⟩) (t.first 0).length fc) (.slice (some ⟨lg,0,none⟩) (t.last 0).length lc))
   obtain⟨_,_,⟨tv',hP2,htP⟩,_⟩:=hrdP.cells
   obtain rfl:Value.slice ta (t.lay V1 []).length tc=tv':=by
    have e:(setP w1 (w.heap.size+1) (.int .i64 (t.work V1)) (.int .i64 (t.span V1)) (.slice (some ⟨fg,0,none⟩) (t.first 0).length fc) (.slice (some ⟨lg,0,none⟩) (t.last 0).length lc)).cell? ⟨w.heap.size+3,2,none⟩=w1.cell? ⟨w.heap.size+3,2,none⟩:=qq9 (hoth _ (by show w.heap.size+3≠w.heap.size+1;omega))
    exact Option.some.inj (hR2.symm.trans (e.symm.trans hP2))
   clear hoth hrdP q0 q1 q2 q3 qf0 qf1 qf2 qf3 hR0 hR1 hR2 htr hA1 hB1 hC1 hb1 hk
   generalize setP w1 (w.heap.size+1) (.int .i64 (t.work V1)) (.int .i64 (t.span V1)) (.slice (some ⟨fg,0,none⟩) (t.first 0).length fc) (.slice (some ⟨lg,0,none⟩) (t.last 0).length lc)=WP at *
   obtain⟨q0,q1,q2,q3,qf⟩:=zk hAP
   have qf0:=qf 0
   have qf1:=qf 1
   have qf2:=qf 2
   have qf3:=qf 3
   have pA:WP.cell? ⟨w.heap.size,0,none⟩=some (.slice none 0 0):=by simp[World.cell?,hAP0]
   have pA':WP.frozen? ⟨w.heap.size,0,none⟩=false:=by simp[World.frozen?,hAP0]
   have pC:WP.cell? ⟨w.heap.size+1+1,0,none⟩=some .nilIface:=by simp[World.cell?,hCP0]
   have pC':WP.frozen? ⟨w.heap.size+1+1,0,none⟩=false:=by simp[World.frozen?,hCP0]
   have hP2':WP.cell? ⟨w.heap.size+1+1+1,2,none⟩=some (.slice ta (t.lay V1 []).length tc):=hP2
   clear qf
   go_region
   clear q0 q1 q2 q3 qf0 qf1 qf2 qf3 pA pA' pC pC' hP2'
   go_wp2
   have hA2:=heap_setCell_same WP w.heap.size 0 _ 27 (.slice ta (t.lay V1 []).length tc) hAP0
   have hB2:(WP.setCell ⟨w.heap.size,0,none⟩ (.slice ta (t.lay V1 []).length tc)).heap[w.heap.size+1]?=_:=(qq5 _ _ _ _ (by show w.heap.size+1≠w.heap.size;omega)).trans hAP
   have hB3:=xj hB2 (.int .i64 (t.work V1)) (.int .i64 (t.span V1)) (.slice (some ⟨fg,0,none⟩) (t.first 0).length fc) (.slice (some ⟨lg,0,none⟩) (t.last 0).length lc)
   have hoth:∀q,q≠w.heap.size→q≠w.heap.size+1→(setP (WP.setCell ⟨w.heap.size,0,none⟩ (.slice ta (t.lay V1 []).length tc)) (w.heap.size+1) (.int .i64 (t.work V1)) (.int .i64 (t.span V1)) (.slice (some ⟨fg,0,none⟩) (t.first 0).length fc) (.slice (some ⟨lg,0,none⟩) (t.last 0).length lc)).heap[q]?=WP.heap[q]?:=fun q h1 hq=>by
    unfold setP
    rw[qq5 _ _ _ _ hq,qq5 _ _ _ _ hq,qq5 _ _ _ _ hq,qq5 _ _ _ _ hq,qq5 _ _ _ _ h1]
   have hA3:(setP (WP.setCell ⟨w.heap.size,0,none⟩ (.slice ta (t.lay V1 []).length tc)) (w.heap.size+1) (.int .i64 (t.work V1)) (.int .i64 (t.span V1)) (.slice (some ⟨fg,0,none⟩) (t.first 0).length fc) (.slice (some ⟨lg,0,none⟩) (t.last 0).length lc)).heap[w.heap.size]?=some (.cells #[.slice ta (t.lay V1 []).length tc] 27 (0,0)):=by
    unfold setP
    have hq:w.heap.size≠w.heap.size+1:=by omega
    rw[qq5 _ _ _ _ hq,qq5 _ _ _ _ hq,qq5 _ _ _ _ hq,qq5 _ _ _ _ hq]
    simpa using hA2
   have hC3:=(hoth (w.heap.size+2) (by omega) (by omega)).trans hCP0
   have hbF:Below w.heap.size w (setP (WP.setCell ⟨w.heap.size,0,none⟩ (.slice ta (t.lay V1 []).length tc)) (w.heap.size+1) (.int .i64 (t.work V1)) (.int .i64 (t.span V1)) (.slice (some ⟨fg,0,none⟩) (t.first 0).length fc) (.slice (some ⟨lg,0,none⟩) (t.last 0).length lc)):=by
    unfold setP
    exact((((hbP.setCell (qq1 _) _).setCell (by show _≤w.heap.size+1;omega) _).setCell (by show _≤w.heap.size+1;omega) _).setCell (by show _≤w.heap.size+1;omega) _).setCell (by show _≤w.heap.size+1;omega) _
   have htF:RowT w.heap.size (fun _=>True) (setP (WP.setCell ⟨w.heap.size,0,none⟩ (.slice ta (t.lay V1 []).length tc)) (w.heap.size+1) (.int .i64 (t.work V1)) (.int .i64 (t.span V1)) (.slice (some ⟨fg,0,none⟩) (t.first 0).length fc) (.slice (some ⟨lg,0,none⟩) (t.last 0).length lc)) (.slice ta (t.lay V1 []).length tc) (t.lay V1 []):=
    ((htP.of_blocks (fun q hq _ _=>hoth q (by omega) (by omega))).allow (fun _ _ _=>trivial)).mono (by omega)
   refine leaves_cons (f:=148) (args:=#[.pointer (some ⟨w.heap.size,0,none⟩),.pointer (some ⟨w.heap.size+1,0,none⟩),.pointer (some ⟨w.heap.size+1+1,0,none⟩)]) (by simp) (by simp[go_sem]) ?_
   refine(zeo _ _ _ _).mono ?_
   rintro e u' w'' ⟨rfl,rfl,rfl⟩
   show Leaves _ _ _ _ _ _ (((setP (WP.setCell ⟨w.heap.size,0,none⟩ (.slice ta (t.lay V1 []).length tc)) (w.heap.size+1) (.int .i64 (t.work V1)) (.int .i64 (t.span V1)) (.slice (some ⟨fg,0,none⟩) (t.first 0).length fc) (.slice (some ⟨lg,0,none⟩) (t.last 0).length lc)).setCell ⟨w.heap.size+1+1,0,none⟩ .nilIface).drew)
   generalize setP (WP.setCell ⟨w.heap.size,0,none⟩ (.slice ta (t.lay V1 []).length tc)) (w.heap.size+1) (.int .i64 (t.work V1)) (.int .i64 (t.span V1)) (.slice (some ⟨fg,0,none⟩) (t.first 0).length fc) (.slice (some ⟨lg,0,none⟩) (t.last 0).length lc)=WQ at *
   have hCf:=heap_setCell_same WQ (w.heap.size+1+1) 0 _ 35 .nilIface hC3
   have fA:=(qq5 WQ ⟨w.heap.size+1+1,0,none⟩ .nilIface w.heap.size (by show w.heap.size≠w.heap.size+1+1;omega)).trans hA3
   have fB:=(qq5 WQ ⟨w.heap.size+1+1,0,none⟩ .nilIface (w.heap.size+1) (by show w.heap.size+1≠w.heap.size+1+1;omega)).trans hB3
   have hbG:Below w.heap.size w (WQ.setCell ⟨w.heap.size+1+1,0,none⟩ .nilIface).drew:=(hbF.setCell (by show _≤w.heap.size+1+1;omega) _).drew
   have htG:RowT w.heap.size (fun _=>True) (WQ.setCell ⟨w.heap.size+1+1,0,none⟩ .nilIface).drew (.slice ta (t.lay V1 []).length tc) (t.lay V1 []):=htF.of_kinds (fun q cs fr hq=>qq5 _ _ _ _ (fun e=>by
     have e':q=w.heap.size+2:=e
     rw[e',hC3]at hq
     simp at hq)) (fun q cs fr hq=>qq5 _ _ _ _ (fun e=>by
     have e':q=w.heap.size+2:=e
     rw[e',hC3]at hq
     simp at hq))
   have cA:(WQ.setCell ⟨w.heap.size+1+1,0,none⟩ .nilIface).drew.cell? ⟨w.heap.size,0,none⟩=some (.slice ta (t.lay V1 []).length tc):=by show(WQ.setCell _ _).cell? _=_;simp[World.cell?,fA]
   obtain⟨z0,z1,z2,z3,_⟩:=zk (w:=(WQ.setCell ⟨w.heap.size+1+1,0,none⟩ .nilIface).drew) fB
   have cC:(WQ.setCell ⟨w.heap.size+1+1,0,none⟩ .nilIface).drew.cell? ⟨w.heap.size+1+1,0,none⟩=some .nilIface:=by show(WQ.setCell _ _).cell? _=_;simp[World.cell?,hCf]
   have hgw:Whole l t:=by
    have:=hg
    rw[HKE.out,List.drop_length]at this
    exact this
   have hout:XF l w (.returned (.tuple #[.slice ta (t.lay V1 []).length tc,.agg #[.int .i64 (t.work V1),.int .i64 (t.span V1),.slice (some ⟨fg,0,none⟩) (t.first 0).length fc,.slice (some ⟨lg,0,none⟩) (t.last 0).length lc],.nilIface])) (WQ.setCell ⟨w.heap.size+1+1,0,none⟩ .nilIface).drew:=
    ⟨hbG,Or.inl ⟨t,_,_,_,hgw,by simp at hct;omega,rfl,⟨_,_,_,_,_,_,rfl,rfl⟩,htG⟩⟩
   generalize (WQ.setCell ⟨w.heap.size+1+1,0,none⟩ .nilIface).drew=WR at *
   simp[Leaves,settle,results,Tryz.results117,go_sem,cA,z0,z1,z2,z3,cC]
   exact hout
end
section
open Go.RowKit
def ZX(B:Nat)(w:World)(v:Value)(ts:Zl):Prop:=∀W:World,(∀k,B≤k→k<w.heap.size→W.heap[k]?=w.heap[k]?)→Zf W v ts
theorem ZX.later{B:Nat}{w w':World}{v:Value}{ts:Zl}(h:ZX B w v ts)(hb:Below w.heap.size w w'):ZX B w' v ts:=
 fun W hW=>h W (fun k h1 h2=>(hW k h1 (qq3 h2 hb.size)).trans (hb.block k h2))
theorem ZX.at{B:Nat}{w:World}{v:Value}{ts:Zl}(h:ZX B w v ts):Zf w v ts:=h w (fun _ _ _=>rfl)
end
section
open Go.RowKit Go.Deep
def big(ts:Zl):Bool:=ts.any fun t=>decide (20<t.1)
theorem zhk{ts:Zl}(h:∀k,k<ts.length→(ts.getD k (0,[])).1≤20):big ts=false:=by
 unfold big
 rw[List.any_eq_false]
 intro x hx
 obtain⟨k,hk,rfl⟩:=List.getElem_of_mem hx
 have:=h k hk
 rw[qq6,qq7 hk]at this
 simp only[Option.getD_some]at this
 simp;omega
theorem zfE{ts:Zl}{k:Nat}(hk:k<ts.length)(h:20<(ts.getD k (0,[])).1):big ts=true:=by
 unfold big
 rw[List.any_eq_true]
 refine⟨ts[k],List.getElem_mem hk,?_⟩
 rw[qq6,qq7 hk]at h
 simpa using h
theorem zcZ(wk:Int)(nv:Value)(w:World)(hs:∃a n c,nv=.slice a n c):Calls Tryz.prog 151 #[.agg #[.int .i64 wk,nv]] w fun e w'=>e=.returned (.bool (decide (20<wk)))∧w'=w.alloc (.cells #[.int .i64 wk,nv] 94):=by
 obtain⟨a,n,c,rfl⟩:=hs
 by_cases h:20<wk
 all_goals
  go_enter Tryz.func151,Tryz.ntmps151
  go_wp2
  go_ret
  exact⟨by simp[h],rfl⟩
theorem enters151:∀args w,(callFunc 151 args).run Tryz.prog w=.ok (.enter 151 args) w:=enters_of Tryz.func151 (by kernel_rfl) rfl
set_option maxRecDepth 100000 in
set_option maxHeartbeats 1000000 in
theorem zcy(v:Value)(ts:Zl)(w:World)(hp:Zf w v ts) :
  Calls Tryz.prog 178 #[v,.func (.func 151) #[] #[]] w fun e w'=>(∃r:Int,e=.returned (.int .i64 r)∧decide (0≤r)=big ts)∧Below w.heap.size w w':=by
 obtain⟨hl,a,c,rfl,hp⟩:=hp
 have eg:=enters151
 go_enter Tryz.func178,Tryz.ntmps178
 go_wp2
 go_loopw [8] (fun s8 wr=>∃k:Nat,k≤ts.length∧s8=.int .i64 k∧Below w.heap.size w wr∧Hid (∀j,j<k→(ts.getD j (0,[])).1≤20)) (fun s8 _=>ts.length-(intOf s8).toNat)
 case atStart=>exact⟨0,Nat.zero_le _,rfl,qq4 _ _,fun j hj=>by omega⟩
 case round=>
  obtain⟨k,hk,rfl,hB,hno⟩:=hrel
  by_cases hkl:k<ts.length
  ·rcases hp with rfl|⟨b,o,rfl,hbl,hc⟩
   ·simp at hkl
   obtain⟨hc1,nv,hc2,hin⟩:=hc k hkl
   obtain⟨a2,c2,rfl⟩:∃a2 c2,nv=.slice a2 (Za ts k).length c2:=by
    obtain⟨_,a2,c2,h,_⟩:=hin
    exact⟨a2,c2,h⟩
   have hc1':=(hB.cell (p:=⟨b,o+k*2,none⟩) hbl).trans hc1
   have hc2':=(hB.cell (p:=⟨b,o+k*2+1,none⟩) hbl).trans hc2
   have HW:Hid ((ts.getD k (0,[])).1=(ts.getD k (0,[])).1):=rfl
   have hcall:=zcZ (ts.getD k (0,[])).1 (.slice a2 (Za ts k).length c2) wr ⟨_,_,_,rfl⟩
   clear hc hc1 hc2 hin
   by_cases hb:20<(ts.getD k (0,[])).1
   ·have HBIG:Hid (big ts=true):=zfE hkl hb
    have hd:decide (20<(ts.getD k (0,[])).1)=true:=decide_eq_true hb
    rw[hd]at hcall
    generalize (ts.getD k (0,[])).1=wk at *
    clear hd hb HW
    go_wp2_with (go_at_fn 151;refine hcall.mono ?_;rintro e w' ⟨rfl,rfl⟩)
    go_ret
    exact⟨⟨k,rfl,by rw[HBIG.out];simp⟩,hB.alloc hB.size _⟩
   ·have hd:decide (20<(ts.getD k (0,[])).1)=false:=decide_eq_false hb
    have HN:Hid ((ts.getD k (0,[])).1≤20):=by show _≤_;omega
    rw[hd]at hcall
    generalize hwk:(ts.getD k (0,[])).1=wk at *
    clear hd hb HW
    have HWK:Hid ((ts.getD k (0,[])).1=wk):=hwk
    clear hwk
    go_wp2_with (go_at_fn 151;refine hcall.mono ?_;rintro e w' ⟨rfl,rfl⟩)
    go_roundw
    case rel=>
     refine⟨k+1,by omega,by go_num,hB.alloc hB.size _,fun j hj=>?_⟩
     by_cases e:j=k
     ·subst e;rw[HWK.out];exact HN.out
     ·exact hno.out j (by omega)
    case measure=>simp[intOf];omega
  ·have HBIG:Hid (big ts=false):=zhk (fun j hj=>hno.out j (by omega))
   go_wp2
   go_ret
   exact⟨⟨-1,rfl,by rw[HBIG.out];simp⟩,hB⟩
theorem zay(v:Value)(ts:Zl)(w:World)(hp:Zf w v ts) :
  Calls Tryz.prog 150 #[v,.func (.func 151) #[] #[]] w fun e w'=>e=.returned (.bool (big ts))∧Below w.heap.size w w':=by
 have hcall:=zcy v ts w hp
 obtain⟨hl,a,c,rfl,hp⟩:=hp
 clear hp
 go_enter Tryz.func150,Tryz.ntmps150
 go_wp2_with fail
 refine hcall.mono ?_
 rintro e w' ⟨⟨r,rfl,hr⟩,hb⟩
 have HR:Hid (decide (0≤r)=big ts):=hr
 clear hcall hr
 by_cases h:0≤r
 all_goals
  go_wp2
  go_ret
  exact⟨by rw[←HR.out];simp[h],hb⟩
def ZY(ts:Zl):Int:=if big ts then 1 else if 30<ts.length then 4 else 0
theorem zeq(v:Value)(ts:Zl)(w:World)(hp:Zf w v ts) :
  Calls Tryz.prog 118 #[v] w fun e w'=>e=.returned (errV (ZY ts))∧Below w.heap.size w w':=by
 have hcall:=zay v ts w hp
 obtain⟨hl,a,c,rfl,hp⟩:=hp
 clear hp
 unfold ZY
 cases hb:big ts
 ·rw[hb]at hcall
  have HB:Hid (big ts=false):=hb
  clear hb
  by_cases h30:30<ts.length
  ·have h30':(30:Int)<(ts.length:Int):=by omega
   go_enter Tryz.func118,Tryz.ntmps118
   go_wp2_with (go_at_call 150;refine hcall.mono ?_;rintro e w' ⟨rfl,hb⟩)
   go_ret
   exact⟨by simp[errV],hb⟩
  ·have h30':¬(30:Int)<(ts.length:Int):=by omega
   go_enter Tryz.func118,Tryz.ntmps118
   go_wp2_with (go_at_call 150;refine hcall.mono ?_;rintro e w' ⟨rfl,hb⟩)
   go_ret
   exact⟨by simp[errV],hb⟩
 ·rw[hb]at hcall
  clear hb
  go_enter Tryz.func118,Tryz.ntmps118
  go_wp2_with (go_at_call 150;refine hcall.mono ?_;rintro e w' ⟨rfl,hb⟩)
  go_ret
  exact⟨by simp[errV],hb⟩
theorem Tree.lay_needs(V:List UInt8→Int)(t:Tree):∀ts x,ts.length≤x→(Za (t.lay V ts) x).length≤t.count:=by
 induction t with
 | num ds=>
  intro ts x hx
  unfold Za
  simp only[Tree.lay]
  by_cases e:x=ts.length
  ·subst e;simp
  ·rw[List.getD_eq_getElem?_getD,List.getElem?_eq_none (by simp;omega)];simp
 | seq a b iha ihb=>
  intro ts x hx
  simp only[Tree.count]
  by_cases hl:x<(b.lay V (a.lay V ts)).length
  ·unfold Za
   simp only[Tree.lay]
   rw[yS _ _ _ _ hl]
   split
   ·have:=a.last_len ts.length
    simp only[Zj,List.length_map];omega
   ·by_cases h2:x<(a.lay V ts).length
    ·rw[b.lay_old V _ _ h2]
     have:=iha ts x hx
     unfold Za at this
     omega
    ·have:=ihb (a.lay V ts) x (by omega)
     unfold Za at this
     omega
  ·unfold Za
   rw[List.getD_eq_getElem?_getD,List.getElem?_eq_none (by simp only[Tree.lay,yM];omega)]
   simp
 | par a b iha ihb=>
  intro ts x hx
  simp only[Tree.count]
  unfold Za
  simp only[Tree.lay]
  by_cases h2:x<(a.lay V ts).length
  ·rw[b.lay_old V _ _ h2]
   have:=iha ts x hx
   unfold Za at this
   omega
  ·have:=ihb (a.lay V ts) x (by omega)
   unfold Za at this
   omega
theorem RowT.weave{b:Nat}{A:Nat→Prop}{w:World}{v:Value}{t:Tree}(h:RowT b A w v (t.lay V1 []))(hc:t.count≤200):Zf w v (t.lay V1 []):=by
 refine h.planAt ?_ (fun j _=>?_)
 ·rw[t.lay_length];simp;omega
 ·have:=t.lay_needs V1 [] j (Nat.zero_le _)
  omega
theorem RowT.weaveNew{b B:Nat}{A:Nat→Prop}{w:World}{v:Value}{t:Tree}(h:RowT b A w v (t.lay V1 []))(hB:B≤b)(hc:t.count≤200):ZX B w v (t.lay V1 []):=
 fun W hW=>(h.of_blocks (w':=W) (fun k h1 h2 _=>hW k (qq2 hB h1) h2)).weave hc
def Yg(l:List UInt8)(q:Int):Prop:=
 (200<l.length∧q=4)∨(l.length≤200∧XB l∧q=2)∨∃t,l.length≤200∧Whole l t∧ZY (t.lay V1 [])≠0∧q=ZY (t.lay V1 [])
def YA(l:List UInt8)(t:Tree):Prop:=l.length≤200∧Whole l t∧ZY (t.lay V1 [])=0
def Qf(l:List UInt8)(w:World)(e:Ending)(w':World):Prop:=
 Below w.heap.size w w'∧((∃q,q≠0∧Yg l q∧e=.returned (.tuple #[.slice none 0 0,.int .i64 0,.int .i64 0,errV q]))∨
  (∃t tv,YA l t∧e=.returned (.tuple #[tv,.int .i64 (t.work V1),.int .i64 (t.span V1),.nilIface])∧ZX w.heap.size w' tv (t.lay V1 [])))
set_option maxRecDepth 100000 in
set_option maxHeartbeats 1000000 in
theorem zgA(l:List UInt8)(w:World)(hl:l.length≤9223372036854775807):Calls Tryz.prog 86 #[.string ⟨l.toArray⟩] w (Qf l w):=by
 by_cases h200:200<l.length
 ·have h2:(200:Int)<(l.length:Int):=by omega
  go_enter Tryz.func86,Tryz.ntmps86
  go_wp2
  refine bodyPost_ret (v:=.tuple #[.slice none 0 0,.int .i64 0,.int .i64 0,.iface 97 (.int .i64 4)]) (by simp[results,Tryz.results86,go_sem]) rfl ?_
  exact⟨qq4 _ _,Or.inl ⟨4,by decide,Or.inl ⟨h200,rfl⟩,rfl⟩⟩
 ·have h2:¬(200:Int)<(l.length:Int):=by omega
  have hrd:=zhY l w (by omega)
  go_enter Tryz.func86,Tryz.ntmps86
  go_wp2_with fail
  refine hrd.mono ?_
  rintro e w1 ⟨hb1,h⟩
  clear hrd
  rcases h with⟨t,tv,fv,lv,hw,hct,rfl,⟨fg,fn,fc,lg,ln,lc,rfl,rfl⟩,htr⟩|⟨hB,rfl⟩
  ·have hp1:=htr.weave (by omega)
   have HP:Hid (Zf w1 tv (t.lay V1 [])):=hp1
   have HN:Hid (ZX w.heap.size w1 tv (t.lay V1 [])):=htr.weaveNew (by omega) (by omega)
   obtain⟨_,a,c,rfl,_⟩:=hp1
   unfold Xo
   have hbA:Below w1.heap.size w1 (w1.alloc (.cells #[.int .i64 (t.work V1),.int .i64 (t.span V1),.slice (some ⟨fg,0,none⟩) fn fc,.slice (some ⟨lg,0,none⟩) ln lc] 199)):=(qq4 _ _).alloc (qq1 _) _
   have hck:=zeq _ _ _ (HP.out.later hbA)
   clear htr
   go_wp2_with fail
   refine hck.mono ?_
   rintro e w2 ⟨rfl,hb2⟩
   clear hck
   have hB2:Below w.heap.size w w2:=(hb1.trans (hbA.mono hb1.size)).trans (hb2.mono (qq2 hb1.size hbA.size))
   have HP2:=(HP.out.later hbA).later hb2
   have hblk:w2.heap[w1.heap.size]?=some (.cells #[.int .i64 (t.work V1),.int .i64 (t.span V1),.slice (some ⟨fg,0,none⟩) fn fc,.slice (some ⟨lg,0,none⟩) ln lc] 199 (0,0)):=(hb2.block _ (by simp)).trans (blk_alloc_new _ _)
   obtain⟨q0,q1,q2,q3,_⟩:=zk hblk
   have HPP:Hid (Zf w2 (.slice a (t.lay V1 []).length c) (t.lay V1 [])):=HP2
   have HPN:Hid (ZX w.heap.size w2 (.slice a (t.lay V1 []).length c) (t.lay V1 [])):=(HN.out.later hbA).later hb2
   by_cases hq:ZY (t.lay V1 [])=0
   ·have HOK:Hid (YA l t):=⟨by omega,hw,hq⟩
    rw[hq,zI]
    clear hq HP2 hbA hb2
    go_wp2
    go_quiet (fail)
    go_wp2
    refine bodyPost_ret (v:=.tuple #[.slice a (t.lay V1 []).length c,.int .i64 (t.work V1),.int .i64 (t.span V1),.nilIface]) (by simp[results,Tryz.results86,go_sem]) rfl ?_
    exact⟨hB2.trans ⟨rfl,rfl,rfl,qq1 _,fun _ _=>rfl⟩,Or.inr ⟨t,_,HOK.out,rfl,HPN.out⟩⟩
   ·have HER:Hid (Yg l (ZY (t.lay V1 []))):=Or.inr (Or.inr ⟨t,by omega,hw,hq,rfl⟩)
    have HQ:Hid (ZY (t.lay V1 [])≠0):=hq
    have hev:=zu hq
    rw[hev]
    have HV:Hid (errV (ZY (t.lay V1 []))=.iface 97 (.int .i64 (ZY (t.lay V1 [])))):=hev
    clear hev hq HP2 hbA hb2
    generalize ZY (t.lay V1 [])=q at *
    go_wp2
    refine bodyPost_ret (v:=.tuple #[.slice none 0 0,.int .i64 0,.int .i64 0,.iface 97 (.int .i64 q)]) (by simp[results,Tryz.results86,go_sem]) rfl ?_
    exact⟨hB2,Or.inl ⟨q,HQ.out,HER.out,by rw[HV.out]⟩⟩
  ·unfold Yz
   go_wp2
   refine bodyPost_ret (v:=.tuple #[.slice none 0 0,.int .i64 0,.int .i64 0,.iface 97 (.int .i64 2)]) (by simp[results,Tryz.results86,go_sem]) rfl ?_
   exact⟨hb1.alloc hb1.size _,Or.inl ⟨2,by decide,Or.inr (Or.inl ⟨by omega,hB,rfl⟩),rfl⟩⟩
end
section
theorem ze2{s s2:List UInt8}{t:Tree}(h:numR s=some (t,s2)):∃d ds,s.takeWhile ZR=d::ds∧d≠48∧t=.num (d::ds)∧s2=s.dropWhile ZR:=by
 unfold numR at h
 split at h
 ·simp at h
 ·rename_i d ds he
  split at h
  ·simp at h
  ·rename_i hd
   simp at h
   exact⟨d,ds,he,hd,h.1.symm,h.2.symm⟩
theorem zaC(s:List UInt8):s=s.takeWhile ZR++s.dropWhile ZR∧(∀x,x∈s.takeWhile ZR→ZR x=true)∧∀x,(s.dropWhile ZR).head?=some x→ZR x=false:=by
 induction s with
 | nil=>exact⟨rfl,fun x hx=>by simp at hx,fun x hx=>by simp at hx⟩
 | cons a r ih=>
  cases ha:ZR a with
  | true=>
   simp only[List.takeWhile_cons,List.dropWhile_cons,ha,if_true]
   refine⟨by rw[List.cons_append,←ih.1],fun x hx=>?_,ih.2.2⟩
   rcases List.mem_cons.1 hx with rfl|hx
   ·exact ha
   ·exact ih.2.1 x hx
  | false=>
   simp only[List.takeWhile_cons,List.dropWhile_cons,ha]
   exact⟨rfl,fun x hx=>by simp at hx,fun x hx=>by simp at hx;rw[←hx];exact ha⟩
theorem Yg.not_ok{l:List UInt8}{q:Int}{t:Tree}(h:Yg l q)(_:q≠0)(hk:YA l t):False:=by
 rcases h with⟨h,_⟩|⟨_,h,_⟩|⟨t',_,h,h1,_⟩
 ·have:=hk.1;omega
 ·exact h.not t hk.2.1
 ·rw[h.det hk.2.1]at h1
  exact h1 hk.2.2
theorem YA.det{l:List UInt8}{t t':Tree}(h:YA l t)(h':YA l t'):t=t':=h.2.1.det h'.2.1
end
end Go.Proofs.YtlfbdjeojgbniaaGreatDoor

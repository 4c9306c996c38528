import Derived.Test.YtlfbdjeojgbniaaGreatDoorRan02
import Derived.OrdersHeld
namespace Go.Proofs.YtlfbdjeojgbniaaGreatDoor
section
open Go.RowKit Go.Deep
def Old(A:Nat→Prop)(n:Nat):Nat→Prop:=fun k=>A k∧k<n
def Xt(A:Nat→Prop)(n:Nat)(fv lv:Value):Nat→Prop:=fun k=>Old A n k∨(n≤k∧fv.ownBlock≠some k∧lv.ownBlock≠some k)
theorem Rd.old{R i:Nat}{l:List UInt8}{ts:Zl}{A:Nat→Prop}{w:World}(h:Rd R l i ts A w):Rd R l i ts (Old A w.heap.size) w:=h.allow (fun _ h hlt=>⟨h,hlt⟩)
def Zw(b:Nat)(w:World)(n:Nat)(t:Tree)(fv lv:Value):Prop:=RowW b w fv (Zj (t.first n))∧RowW b w lv (Zj (t.last n))∧fv.ownBlock≠lv.ownBlock
def Xo(t:Tree)(fv lv:Value):Value:=.agg #[.int .i64 (t.work V1),.int .i64 (t.span V1),fv,lv]
def Qc(R:Nat)(l:List UInt8)(i:Nat)(ts:Zl)(A:Nat→Prop)(w:World)(e:Ending)(w':World):Prop:=
 Kp R w w'∧((numR (l.drop i)=none∧e=.panicked [{ v:=Yz,recovered:=false }])∨
  ∃p k fv lv,numR (l.drop i)=some (.num p,l.drop k)∧i<k∧k≤l.length∧e=.returned (Xo (.num p) fv lv)∧Rd R l k ((Tree.num p).lay V1 ts) A w'∧Zw w.heap.size w' ts.length (.num p) fv lv)
theorem qT{P:Program}{ops:Array Oper}{Q:Exit→Act→World→Prop}{i:Nat}{o:Oper}{K:Act→World→Prop}{a:Act}{w:World}{f:FuncId}{args:Array Value}(hi:ops[i]?=some o)(hw:Region.wanted o (yielded ops a.tmps)=true)
  (hr:(execOp a.eval o).run P w=.ok (.enter f args) w) (h:Calls P f args w fun
   | .returned v,w''=>K (a.put o.dst v) w''
   | .panicked chain,w''=>Q (.panic chain) a w''
   | .outgrown,_=>LetsOut Q):wpOp P ops Q i K a w:=by
 unfold wpOp
 rw[hi]
 dsimp only
 rw[hw,if_pos rfl]
 refine Or.inl ?_
 unfold Oper.wp
 rw[hr]
 exact h
theorem zB{w:World}{base e size:Nat}{v:Value}{n:Nat}{xs:List Value}(h:w.ownsRow base e size v n xs)(hn:0<n):∃g cap,v=.slice (some ⟨g,0,none⟩) n cap:=by
 rcases h.2 with⟨_,h0⟩|⟨g,cap,_,hv,_⟩
 ·omega
 ·exact⟨g,cap,hv⟩
theorem zD{w w':World}{b n re rs:Nat}{v:Value}{xs:List Value}(ho:w.ownsRow b re rs v n xs)(hg:w.grownBy w' v.ownBlock){k:Nat}{cs:Array Value}{t:TypeId}{fr:Nat×Nat}(hk:w.heap[k]?=some (.cells cs t fr))(ht:t≠re):w'.heap[k]?=some (.cells cs t fr):=by
 refine(hg.block k (lt_of_block hk) (fun hc=>?_)).trans hk
 rcases ho.2 with⟨hv,_⟩|⟨g,cap,cur,hv,_,hh,_⟩
 ·subst hv;simp[Value.ownBlock]at hc
 ·subst hv
  simp only[Value.ownBlock,Option.some.injEq]at hc
  subst hc
  rw[hk]at hh
  simp only[Option.some.injEq,Obj.cells.injEq]at hh
  exact ht hh.2.1
theorem Rd.laid{R i:Nat}{l:List UInt8}{ts':Zl}{A':Nat→Prop}{w:World}{tv tv':Value}(h1:w.heap[R]?=some (.cells #[.string ⟨l.toArray⟩,.int .i64 i,tv] 234 (0,0)))(ht:RowT (R+1) A' w tv' ts'):Rd R l i ts' A' (w.setCell ⟨R,2,none⟩ tv'):=by
 refine⟨tv',?_,ht.of_blocks (fun k hk _ _=>qq5 _ _ _ _ (by show k≠R;omega))⟩
 have:=heap_setCell_same w R 2 _ 234 tv' h1
 simpa using this
theorem RowW.of_kinds{b:Nat}{w w':World}{v:Value}{zs:List Int}(h:RowW b w v zs)(hk:∀(k:Nat) (cs:Array Value) (fr:Nat×Nat),w.heap[k]?=some (.cells cs 3 fr)→w'.heap[k]?=w.heap[k]?):RowW b w' v zs:=
 h.of_blocks fun k e=>by
  obtain⟨cs,hc⟩:=h.block e
  exact hk k cs _ hc
theorem RowT.of_kinds{b:Nat}{A:Nat→Prop}{w w':World}{v:Value}{ts:Zl}(h:RowT b A w v ts)(h3:∀(k:Nat) (cs:Array Value) (fr:Nat×Nat),w.heap[k]?=some (.cells cs 3 fr)→w'.heap[k]?=w.heap[k]?)(h37:∀(k:Nat) (cs:Array Value) (fr:Nat×Nat),w.heap[k]?=some (.cells cs 94 fr)→w'.heap[k]?=w.heap[k]?):RowT b A w' v ts:=by
 obtain⟨xs,ho,hx⟩:=h
 refine⟨xs,?_,fun j hj=>?_⟩
 ·rcases ho.2 with⟨rfl,hn⟩|⟨g,cap,cur,rfl,hb,hh,hr⟩
  ·exact⟨ho.1,Or.inl ⟨rfl,hn⟩⟩
  ·exact⟨ho.1,Or.inr ⟨g,cap,cur,rfl,hb,(h37 g _ _ hh).trans hh,hr⟩⟩
 ·obtain⟨g1,nv,g2,g3,g4⟩:=hx j hj
  exact⟨g1,nv,g2,g3.of_kinds h3,g4⟩
theorem jG{w:World}{b:Nat}{c0:Array Value}{f0:Nat×Nat}(hb:w.heap[b]?=some (.cells c0 199 f0))(j:Nat)(u:Value){k:Nat}{cs:Array Value}{t:TypeId}{fr:Nat×Nat}(ht:t≠199)(hk:w.heap[k]?=some (.cells cs t fr)):(w.setCell ⟨b,j,none⟩ u).heap[k]?=w.heap[k]?:=
 qq5 _ _ _ _ (fun e=>by
  have e':k=b:=e
  rw[e',hb]at hk
  simp only[Option.some.injEq,Obj.cells.injEq]at hk
  exact ht hk.2.1.symm)
theorem Rd.setPart{R i:Nat}{l:List UInt8}{ts:Zl}{A:Nat→Prop}{w:World}{b:Nat}{c0:Array Value}{f0:Nat×Nat}(h:Rd R l i ts A w)(hb:w.heap[b]?=some (.cells c0 199 f0))(j:Nat)(u:Value):Rd R l i ts A (w.setCell ⟨b,j,none⟩ u):=by
 obtain⟨tv,h1,h2⟩:=h
 exact⟨tv,(jG hb j u (by decide) h1).trans h1,h2.of_kinds (fun k cs fr hk=>jG hb j u (by decide) hk) (fun k cs fr hk=>jG hb j u (by decide) hk)⟩
theorem RowW.setPart{b:Nat}{w:World}{v:Value}{zs:List Int}{g:Nat}{c0:Array Value}{f0:Nat×Nat}(h:RowW b w v zs)(hb:w.heap[g]?=some (.cells c0 199 f0))(j:Nat)(u:Value):RowW b (w.setCell ⟨g,j,none⟩ u) v zs:=h.of_kinds (fun k cs fr hk=>jG hb j u (by decide) hk)
theorem RowW.alloc{b:Nat}{w:World}{v:Value}{zs:List Int}(h:RowW b w v zs)(o:Obj):RowW b (w.alloc o) v zs:=h.of_blocks (fun _ e=>qa _ _ _ (h.low e).2)
theorem RowW.drewN{b:Nat}{w:World}{v:Value}{zs:List Int}(h:RowW b w v zs)(n:Nat):RowW b (w.drewN n) v zs:=h.of_blocks (fun _ _=>rfl)
def setP(w:World)(b:Nat)(a1 a2 a3 a4:Value):World:=(((w.setCell ⟨b,0,none⟩ a1).setCell ⟨b,1,none⟩ a2).setCell ⟨b,2,none⟩ a3).setCell ⟨b,3,none⟩ a4
theorem xj{w:World}{b:Nat}{o1 o2 o3 o4:Value}(h:w.heap[b]?=some (.cells #[o1,o2,o3,o4] 199 (0,0)))(a1 a2 a3 a4:Value):(setP w b a1 a2 a3 a4).heap[b]?=some (.cells #[a1,a2,a3,a4] 199 (0,0)):=by
 have h1:=heap_setCell_same w b 0 _ 199 a1 h
 have h2:=heap_setCell_same _ b 1 _ 199 a2 h1
 have h3:=heap_setCell_same _ b 2 _ 199 a3 h2
 have h4:=heap_setCell_same _ b 3 _ 199 a4 h3
 simpa[setP]using h4
theorem Rd.setP{R i:Nat}{l:List UInt8}{ts:Zl}{A:Nat→Prop}{w:World}{b:Nat}{o1 o2 o3 o4:Value}(hr:Rd R l i ts A w)(h:w.heap[b]?=some (.cells #[o1,o2,o3,o4] 199 (0,0)))(a1 a2 a3 a4:Value):Rd R l i ts A (setP w b a1 a2 a3 a4):=by
 have h1:=heap_setCell_same w b 0 _ 199 a1 h
 have h2:=heap_setCell_same _ b 1 _ 199 a2 h1
 have h3:=heap_setCell_same _ b 2 _ 199 a3 h2
 exact(((hr.setPart h 0 a1).setPart h1 1 a2).setPart h2 2 a3).setPart h3 3 a4
theorem RowW.setP{c:Nat}{w:World}{v:Value}{zs:List Int}{b:Nat}{o1 o2 o3 o4:Value}(hr:RowW c w v zs)(h:w.heap[b]?=some (.cells #[o1,o2,o3,o4] 199 (0,0)))(a1 a2 a3 a4:Value):RowW c (setP w b a1 a2 a3 a4) v zs:=by
 have h1:=heap_setCell_same w b 0 _ 199 a1 h
 have h2:=heap_setCell_same _ b 1 _ 199 a2 h1
 have h3:=heap_setCell_same _ b 2 _ 199 a3 h2
 exact(((hr.setPart h 0 a1).setPart h1 1 a2).setPart h2 2 a3).setPart h3 3 a4
theorem Kp.setP{R:Nat}{w0 w:World}(h:Kp R w0 w){b:Nat}(hb:w0.heap.size≤b)(a1 a2 a3 a4:Value):Kp R w0 (setP w b a1 a2 a3 a4):=(((h.setNew hb 0 a1).setNew hb 1 a2).setNew hb 2 a3).setNew hb 3 a4
theorem zcb(w:World)(b:Nat)(a1 a2 a3 a4:Value):(setP w b a1 a2 a3 a4).heap.size=w.heap.size:=by simp[setP]
theorem zk{w:World}{b:Nat}{a1 a2 a3 a4:Value}(h:w.heap[b]?=some (.cells #[a1,a2,a3,a4] 199 (0,0))) :
  w.cell? ⟨b,0,none⟩=some a1∧w.cell? ⟨b,1,none⟩=some a2∧w.cell? ⟨b,2,none⟩=some a3∧w.cell? ⟨b,3,none⟩=some a4∧∀j,w.frozen? ⟨b,j,none⟩=false:=
 ⟨by simp[World.cell?,h],by simp[World.cell?,h],by simp[World.cell?,h],by simp[World.cell?,h],fun j=>by simp[World.frozen?,h]⟩
theorem zdL{fn:Func}{Q:Ending→World→Prop}{a:Act}{w:World}{b:Nat}{a1 a2 a3 a4:Value}(hr:fn.results=#[ResultVar.cell 2 199])(h:w.heap[b]?=some (.cells #[a1,a2,a3,a4] 199 (0,0)))(ht:a.tmps[2]?=some (.pointer (some ⟨b,0,none⟩)))(hd:a.defers=[])(hq:Q (.returned (.agg #[a1,a2,a3,a4])) w) :
  bodyPost Tryz.prog fn Q Exit.ret a w:=by
 obtain⟨q0,q1,q2,q3,_⟩:=zk h
 refine bodyPost_ret (v:=.agg #[a1,a2,a3,a4]) ?_ hd hq
 simp[results,hr,go_sem,ht,q0,q1,q2,q3]
set_option maxRecDepth 100000 in
set_option maxHeartbeats 4000000 in
theorem zif(R:Nat)(l:List UInt8)(i:Nat)(ts:Zl)(A:Nat→Prop)(w:World)(hl:l.length≤200)(hi:i≤l.length)(hts:ts.length≤i)(hr:Rd R l i ts A w) :
  Calls Tryz.prog 218 #[.pointer (some ⟨R,0,none⟩)] w (Qc R l i ts A w):=by
 have HR:Hid (Rd R l i ts A w):=hr
 have hRl:=hr.lt
 obtain⟨i37,hi37,hz0,hz1,hz2⟩:=info_parts Tryz.info94
 obtain⟨tv,htv,htr⟩:=(hr.alloc (.cells #[.int .i64 0,.int .i64 0,.slice none 0 0,.slice none 0 0] 199)).cells.2.2.1
 obtain⟨ta,tc,rfl⟩:=htr.shape
 clear htr hr
 go_enter Tryz.func218,Tryz.ntmps218
 go_wp2
 have HS:(w.alloc (.cells #[.int .i64 0,.int .i64 0,.slice none 0 0,.slice none 0 0] 199)).drew.cell? ⟨R,2,none⟩=some (.slice ta ts.length tc):=htv
 refine wp_region_held (S:=fun W'=>W'.cell? ⟨R,2,none⟩=some (.slice ta ts.length tc)) (by kernel_rfl) ?_
 refine wpAnyH_take (i:=0) (v:=?v0) rfl (by kernel_rfl) (by kernel_rfl) (by kernel_rfl) (fun _ _ _ h=>h) (Or.inl ⟨by rfl,?hy0⟩) HS ?_
 case hy0=>
  intro wz hSz
  go_simp
  try rfl
 refine wpAnyH_take (i:=2) (v:=?v2) rfl (by kernel_rfl) (by kernel_rfl) (by kernel_rfl) (fun _ _ _ h=>h) (Or.inl ⟨by rfl,?hy2⟩) HS ?_
 case hy2=>
  intro wz hSz
  go_simp
  try rfl
 refine wpAnyH_take (i:=3) (v:=?v3) rfl (by kernel_rfl) (by kernel_rfl) (by kernel_rfl) (fun _ _ _ h=>h) (Or.inl ⟨by rfl,?hy3⟩) HS ?_
 case hy3=>
  intro wz hSz
  go_simp
  try rfl
 refine wpAnyH_take (i:=4) (v:=?v4) rfl (by kernel_rfl) (by kernel_rfl) (by kernel_rfl) (fun _ _ _ h=>h) (Or.inl ⟨by rfl,?hy4⟩) HS ?_
 case hy4=>
  intro wz hSz
  go_simp
  try rfl
 refine wpAnyH_take (i:=5) (v:=?v5) rfl (by kernel_rfl) (by kernel_rfl) (by kernel_rfl) (fun _ _ _ h=>h) (Or.inl ⟨by rfl,?hy5⟩) HS ?_
 case hy5=>
  intro wz hSz
  go_simp
  try rfl
 refine wpAnyH_take (i:=6) (v:=?v6) rfl (by kernel_rfl) (by kernel_rfl) (by kernel_rfl) (fun _ _ _ h=>h) (Or.inl ⟨by rfl,?hy6⟩) HS ?_
 case hy6=>
  intro wz hSz
  go_simp
  try rfl
 refine wpAnyH_all (rs:=[1]) (by kernel_rfl) (by simp) (fun j hj=>?_)
 obtain rfl:=List.mem_singleton.1 hj
 refine qT (f:=224) (args:=#[.pointer (some ⟨R,0,none⟩)]) rfl (by rfl) ?hcall ?_
 case hcall=>go_simp
 have hRdZ:=(HR.out.alloc (.cells #[.int .i64 0,.int .i64 0,.slice none 0 0,.slice none 0 0] 199)).drewN 1
 refine(ze3 R l i ts A _ hl hi hRdZ).mono ?_
 rintro e w1 ⟨hk,h⟩
 have hkZ:Kp R w w1:=(((Kp.refl R w).alloc _).drewN 1).trans hk
 rcases h with⟨hno,rfl⟩|⟨p,k,hso,hik,hkl,rfl,hrd,h2⟩
 ·exact⟨rfl,hkZ,Or.inl ⟨hno,rfl⟩⟩
 have HS1:w1.cell? ⟨R,2,none⟩=some (.slice ta ts.length tc):=h2.trans htv
 refine⟨HS1,?_⟩
 refine wpAnyH_take (i:=7) (v:=?v7) rfl (by kernel_rfl) (by kernel_rfl) (by kernel_rfl) (fun _ _ _ h=>h) (Or.inl ⟨by rfl,?hy7⟩) HS1 ?_
 case hy7=>
  intro wz hSz
  go_simp
  try rfl
 refine wpAnyH_take (i:=8) (v:=?v8) rfl (by kernel_rfl) (by kernel_rfl) (by kernel_rfl) (fun _ _ _ h=>h) (Or.inl ⟨by rfl,?hy8⟩) HS1 ?_
 case hy8=>
  intro wz hSz
  go_simp
  try rfl
 refine wpAnyH_done (by kernel_rfl) ?_ _
 have hN0:w1.heap[w.heap.size]?=some (.cells #[.int .i64 0,.int .i64 0,.slice none 0 0,.slice none 0 0] 199 (0,0)):=hk.other (k:=w.heap.size) (by show(w.alloc _).heap[w.heap.size]?=_;exact blk_alloc_new _ _) (by omega) (by decide)
 have HRD:Hid (Rd R l k ts A w1):=hrd
 obtain⟨_,_,⟨tv',htv',htr'⟩,hfr⟩:=hrd.cells
 obtain rfl:Value.slice ta ts.length tc=tv':=Option.some.inj (HS1.symm.trans htv')
 have hbA:Below w1.heap.size w1 (w1.alloc (.cells #[.int .i64 (V1 p),.slice none 0 0] 94)):=(qq4 _ _).alloc (qq1 _) _
 have HRA:Hid (Rd R l k ts A (w1.alloc (.cells #[.int .i64 (V1 p),.slice none 0 0] 94))):=hrd.later hbA
 obtain⟨xs,ho,hx⟩:=htr'.of_blocks (w':=w1.alloc (.cells #[.int .i64 (V1 p),.slice none 0 0] 94)) (fun k _ hk _=>hbA.block k hk)
 have HX:Hid (∀j,j<ts.length→xs[j*2]?=some (.int .i64 (ts.getD j (0,[])).1)∧∃nv,xs[j*2+1]?=some nv∧RowW (R+1) (w1.alloc (.cells #[.int .i64 (V1 p),.slice none 0 0] 94)) nv (Za ts j)∧∀k,nv.ownBlock=some k→A k):=hx
 have HSO:Hid (numR (l.drop i)=some (.num p,l.drop k)):=hso
 have HK1:Hid (Kp R w w1):=hkZ
 have hf2:=hfr 2
 have hsz1:w.heap.size<w1.heap.size:=lt_of_block hN0
 clear hx htr' htv' htv HS hrd hso hk hkZ hRdZ h2 hfr hj
 generalize hvp:V1 p=vp at *
 have HVP:Hid (V1 p=vp):=hvp
 clear hvp
 go_wp2_with (at_builtin;refine wpList_append_own _ rfl (.tmp 16) (.tmp 19) 27 rfl (R+1) 94 i37 (.agg #[.int .i64 0,.slice none 0 0]) 2 32 Tryz.underlying27 hi37 hz0 hz1 hz2 rfl (by decide) _ ts.length xs rfl ho ⟨w1.heap.size,0,none⟩ 1 1 [.int .i64 vp,.slice none 0 0] rfl rfl ?c1 ?c2 ?c3 ?c4 ?c5 ?_)
 case c1=>exact cell_two_new w1 (.int .i64 vp) (.slice none 0 0) 94
 case c2=>intro u hu;simp at hu;rcases hu with rfl|rfl <;> rfl
 case c3=>unfold maxLen;omega
 case c4=>omega
 case c5=>simp;omega
 intro v' w2 hown' hgrow _
 obtain⟨tvo,hRb,_⟩:=HRA.out
 have hRb2:=zD ho hgrow hRb (by decide)
 have hN2:=zD ho hgrow ((hbA.block _ hsz1).trans hN0) (by decide)
 have hrt:RowT (R+1) A w2 v' (ts++[(vp,[])]):=RowT.append ho HX.out hown' hgrow
 have HRD2:Hid (Rd R l k (ts++[(vp,[])]) A (w2.setCell ⟨R,2,none⟩ v')):=Rd.laid hRb2 hrt
 have HK2:Hid (Kp R w w2):=(HK1.out.alloc _).grown hgrow (fun k e=>by
  have h1:=ho.lt k e
  refine Or.inr (Or.inr ⟨by omega,?_⟩)
  rcases ho.2 with⟨hv,_⟩|⟨g,cap,cur,hv,_,hh,_⟩
  ·rw[hv]at e;simp[Value.ownBlock]at e
  ·rw[hv]at e;simp only[Value.ownBlock,Option.some.injEq]at e
   subst e;exact⟨_,_,hh⟩)
 have hsz2:w.heap.size<w2.heap.size:=lt_of_block hN2
 have hRne:¬R=w.heap.size:=by omega
 have hc2:w2.cell? ⟨R,2,none⟩=some tvo:=by simp[World.cell?,hRb2]
 have hf2':w2.frozen? ⟨R,2,none⟩=false:=by simp[World.frozen?,hRb2]
 obtain⟨q0,q1,q2,q3,qf⟩:=zk hN2
 have qf0:=qf 0
 have qf1:=qf 1
 have qf2:=qf 2
 have qf3:=qf 3
 obtain⟨vg,vc,rfl⟩:=zB hown' (by omega)
 clear hown' hgrow ho hrt hRb hbA HX HRA hN0 qf HS1 hf2
 go_wp2
 have hN3:(w2.setCell ⟨R,2,none⟩ (.slice (some ⟨vg,0,none⟩) (ts.length+1) vc)).heap[w.heap.size]?=some (.cells #[.int .i64 0,.int .i64 0,.slice none 0 0,.slice none 0 0] 199 (0,0)):=(qq5 _ _ _ _ (by show w.heap.size≠R;omega)).trans hN2
 show bodyPost Tryz.prog Tryz.f218 (Qc R l i ts A w) Exit.ret _ (((setP (w2.setCell ⟨R,2,none⟩ (.slice (some ⟨vg,0,none⟩) (ts.length+1) vc)) w.heap.size (.int .i64 vp) (.int .i64 vp) (.slice (some ⟨w2.heap.size,0,none⟩) 1 1) (.slice (some ⟨w2.heap.size+1,0,none⟩) 1 1)).alloc (.cells #[.int .i64 (ts.length:Nat)] 3)).alloc (.cells #[.int .i64 (ts.length:Nat)] 3))
 have hNW:=xj hN3 (.int .i64 vp) (.int .i64 vp) (.slice (some ⟨w2.heap.size,0,none⟩) 1 1) (.slice (some ⟨w2.heap.size+1,0,none⟩) 1 1)
 generalize hW:setP (w2.setCell ⟨R,2,none⟩ (.slice (some ⟨vg,0,none⟩) (ts.length+1) vc)) w.heap.size (.int .i64 vp) (.int .i64 vp) (.slice (some ⟨w2.heap.size,0,none⟩) 1 1) (.slice (some ⟨w2.heap.size+1,0,none⟩) 1 1)=W at hNW ⊢
 have hWs:W.heap.size=w2.heap.size:=by rw[←hW,zcb];simp
 have hNF:((W.alloc (.cells #[.int .i64 (ts.length:Nat)] 3)).alloc (.cells #[.int .i64 (ts.length:Nat)] 3)).heap[w.heap.size]?=some (.cells #[.int .i64 vp,.int .i64 vp,.slice (some ⟨w2.heap.size,0,none⟩) 1 1,.slice (some ⟨w2.heap.size+1,0,none⟩) 1 1] 199 (0,0)):=by
  rw[blk_alloc_lt _ _ _ (by simp;omega),blk_alloc_lt _ _ _ (by omega)];exact hNW
 refine zdL Tryz.results218 hNF rfl rfl ?_
 refine⟨?_,Or.inr ⟨p,k,.slice (some ⟨w2.heap.size,0,none⟩) 1 1,.slice (some ⟨w2.heap.size+1,0,none⟩) 1 1,HSO.out,hik,hkl,?_,?_,?_,?_,?_⟩⟩
 ·rw[←hW]
  exact(((HK2.out.setR 2 _).setP (qq1 _) _ _ _ _).alloc _).alloc _
 ·unfold Xo
  simp only[Tree.work,Tree.span]
  rw[HVP.out]
 ·simp only[Tree.lay]
  rw[HVP.out]
  rw[←hW]
  exact((HRD2.out.setP hN3 _ _ _ _).alloc _).alloc _
 ·have:=(RowW.lit W w.heap.size (by omega) (ts.length:Nat)).alloc (.cells #[.int .i64 (ts.length:Nat)] 3)
  rw[hWs]at this
  exact this
 ·have:=RowW.lit (W.alloc (.cells #[.int .i64 (ts.length:Nat)] 3)) w.heap.size (by simp;omega) (ts.length:Nat)
  rw[nblk_alloc,hWs]at this
  exact this
 ·simp[Value.ownBlock]
set_option maxRecDepth 100000 in
set_option maxHeartbeats 1000000 in
theorem zf0(b:Nat)(v:Value)(zs:List Int)(w:World)(hz:RowW b w v zs)(h0:0<zs.length)(hl:zs.length≤1000) :
  Calls Tryz.prog 201 #[v] w fun e w'=>∃nv,e=.returned nv∧RowW w.heap.size w' nv zs∧Below w.heap.size w w':=by
 obtain⟨i3,hi3,hz0,hz1,hz2⟩:=info_parts Tryz.info3
 have hA:=hz.alloc (.cells #[] 3)
 obtain⟨g,cap,rfl⟩:=zB hz h0
 have hsrc:=World.ownsRow.cells hA (g:=g) rfl
 have hemp:(w.alloc (.cells #[] 3)).ownsRow w.heap.size 3 1 (.slice (some ⟨w.heap.size,0,none⟩) 0 0) 0 []:=World.ownsRow_lit (base:=w.heap.size) (e:=3) (size:=1) w #[] 0 (qq1 _) (by unfold maxLen;omega) rfl
 have HA:Hid (RowW b (w.alloc (.cells #[] 3)) (.slice (some ⟨g,0,none⟩) zs.length cap) zs):=hA
 clear hA hz
 have hnil:=fun (wx:World)=>Lib.run_eql_slice_nil (P:=Tryz.prog) wx 73 3 (some ⟨g,0,none⟩) zs.length cap 0 0 Tryz.underlying73
 go_enter Tryz.func201,Tryz.ntmps201
 go_wp2_with (at_builtin;refine wpList_append_own _ rfl (.tmp 5) (.tmp 6) 73 rfl w.heap.size 3 i3 (.int .i64 0) 1 8 Tryz.underlying73 hi3 hz0 hz1 hz2 rfl (by decide) _ 0 [] rfl hemp ⟨g,0,none⟩ zs.length cap (zs.map (Value.int .i64)) rfl (by simp) hsrc ?c2 ?c3 ?c4 ?c5 ?_)
 case c2=>intro u hu;simp at hu;obtain⟨_,_,rfl⟩:=hu;rfl
 case c3=>unfold maxLen;omega
 case c4=>omega
 case c5=>simp
 intro v' w1 hown' hgrow _
 replace hown':w1.ownsRow w.heap.size 3 1 v' zs.length (zs.map (Value.int .i64)):=by simpa using hown'
 obtain⟨vg,vc,rfl⟩:=zB hown' h0
 have hB:Below w.heap.size w w1:=((qq4 _ _).alloc (qq1 _) _).grown hgrow (by simp) (fun k e=>by simp[Value.ownBlock]at e;omega)
 go_wp2
 go_ret
 exact⟨_,rfl,hown',hB⟩
def Qa(K:Kind)(R:Nat)(l:List UInt8)(i:Nat)(ts:Zl)(A:Nat→Prop)(w:World)(e:Ending)(w':World):Prop:=
 Kp R w w'∧((Gr K (l.drop i) none∧e=.panicked [{ v:=Yz,recovered:=false }])∨
  ∃t k fv lv,Gr K (l.drop i) (some (t,l.drop k))∧i<k∧k≤l.length∧ts.length+t.count≤k∧e=.returned (Xo t fv lv)∧Rd R l k (t.lay V1 ts) (Xt A w.heap.size fv lv) w'∧Zw w.heap.size w' ts.length t fv lv)
def Xh(f:Nat)(K:Kind)(n:Nat):Prop:=∀R l i ts A w,l.length≤200→i≤l.length→l.length-i≤n→ts.length≤i→Rd R l i ts A w→Calls Tryz.prog f #[.pointer (some ⟨R,0,none⟩)] w (Qa K R l i ts A w)
theorem zi(l:List Nat):(Zj l).length=l.length:=by simp[Zj]
theorem Zw.shapes{b:Nat}{w:World}{n:Nat}{t:Tree}{fv lv:Value}(h:Zw b w n t fv lv):∃fg fc lg lc,fv=.slice (some ⟨fg,0,none⟩) (t.first n).length fc∧lv=.slice (some ⟨lg,0,none⟩) (t.last n).length lc:=by
 obtain⟨h1,h2,_⟩:=h
 obtain⟨fg,fc,e1⟩:=zB h1 (by rw[zi];exact t.first_pos n)
 obtain⟨lg,lc,e2⟩:=zB h2 (by rw[zi];exact t.last_pos n)
 rw[zi]at e1 e2
 exact⟨fg,fc,lg,lc,e1,e2⟩
theorem Zw.mono{b b':Nat}{w:World}{n:Nat}{t:Tree}{fv lv:Value}(h:Zw b w n t fv lv)(hb:b'≤b):Zw b' w n t fv lv:=⟨h.1.mono hb,h.2.1.mono hb,h.2.2⟩
theorem Zw.setP{b:Nat}{w:World}{n:Nat}{t:Tree}{fv lv:Value}{g:Nat}{o1 o2 o3 o4:Value}(h:Zw b w n t fv lv)(hg:w.heap[g]?=some (.cells #[o1,o2,o3,o4] 199 (0,0)))(a1 a2 a3 a4:Value):Zw b (setP w g a1 a2 a3 a4) n t fv lv:=⟨h.1.setP hg _ _ _ _,h.2.1.setP hg _ _ _ _,h.2.2⟩
theorem Zw.alloc{b:Nat}{w:World}{n:Nat}{t:Tree}{fv lv:Value}(h:Zw b w n t fv lv)(o:Obj):Zw b (w.alloc o) n t fv lv:=⟨h.1.alloc o,h.2.1.alloc o,h.2.2⟩
theorem Zw.kp{R b:Nat}{w w':World}{n:Nat}{t:Tree}{fv lv:Value}{cs:Array Value}(h:Zw b w n t fv lv)(hR:w.heap[R]?=some (.cells cs 234 (0,0)))(hk:Kp R w w'):Zw b w' n t fv lv:=⟨h.1.kp hR hk,h.2.1.kp hR hk,h.2.2⟩
theorem Xt.mono{A:Nat→Prop}{n n':Nat}{fv lv:Value}(h:n'≤n){k:Nat}(hk:Xt (Old A n') n fv lv k):Xt A n' fv lv k:=hk.imp (fun h=>h.1) (fun⟨h1,h2⟩=>⟨qq2 h h1,h2⟩)
def part0:Obj:=.cells #[.int .i64 0,.int .i64 0,.slice none 0 0,.slice none 0 0] 199
theorem xV{fn:Func}{a:Act}{K:Kind}{R:Nat}{l:List UInt8}{i:Nat}{ts:Zl}{A:Nat→Prop}{w w2:World}{t:Tree}{k b:Nat}{fv lv o1 o2 o3 o4:Value}(hres:fn.results=#[ResultVar.cell 2 199])(ht:a.tmps[2]?=some (.pointer (some ⟨b,0,none⟩)))(hd:a.defers=[])
  (hb:w.heap.size≤b) (hkp:Kp R w w2) (hblk:w2.heap[b]?=some (.cells #[o1,o2,o3,o4] 199 (0,0))) (hg:Gr K (l.drop i) (some (t,l.drop k))) (hik:i<k) (hkl:k≤l.length) (hc:ts.length+t.count≤k)
  (hrd:Rd R l k (t.lay V1 ts) (Xt A w.heap.size fv lv) w2) (hpr:Zw w.heap.size w2 ts.length t fv lv) :
  bodyPost Tryz.prog fn (Qa K R l i ts A w) Exit.ret a (setP w2 b (.int .i64 (t.work V1)) (.int .i64 (t.span V1)) fv lv):=
 zdL hres (xj hblk _ _ _ _) ht hd ⟨hkp.setP hb _ _ _ _,Or.inr ⟨t,k,fv,lv,hg,hik,hkl,hc,rfl,hrd.setP hblk _ _ _ _,hpr.setP hblk _ _ _ _⟩⟩
set_option maxRecDepth 100000 in
set_option maxHeartbeats 4000000 in
theorem ziI(n:Nat)(ih:∀m,m<n→Xh 149 .weave m):Xh 200 .link n:=by
 intro R l i ts A w hl hi hn hts hr
 have hRl:=hr.lt
 replace hr:=hr.old
 have htk:=jK R l i ts _ 40 _ hl hi (hr.alloc part0)
 clear hr
 unfold part0 at htk
 go_enter Tryz.func200,Tryz.ntmps200
 go_wp2_with fail
 refine htk.mono ?_
 rintro e w1 ⟨hk,h⟩
 clear htk
 have hkZ:Kp R w w1:=((Kp.refl R w).alloc _).trans hk
 have hN1:w1.heap[w.heap.size]?=some (.cells #[.int .i64 0,.int .i64 0,.slice none 0 0,.slice none 0 0] 199 (0,0)):=hk.other (k:=w.heap.size) (blk_alloc_new _ _) (by omega) (by decide)
 clear hk
 have hs1:=hkZ.size
 rcases h with⟨hne,rfl,hrd⟩|⟨hil,hdr,rfl,hrd⟩
 ·have htask:=zif R l i ts _ w1 hl hi hts hrd
  go_wp2_with fail
  refine htask.mono ?_
  rintro e w2 ⟨hk2,h⟩
  clear htask
  have hkZ2:Kp R w w2:=hkZ.trans hk2
  have hN2:=hk2.other hN1 (by omega) (by decide)
  rcases h with⟨hno,rfl⟩|⟨p,k,fv,lv,hso,hik,hkl,rfl,hrd2,hpr⟩
  ·exact⟨rfl,hkZ2,Or.inl ⟨by have:=Gr.num hne;rwa [hno]at this,rfl⟩⟩
  ·have HG:Hid (Gr .link (l.drop i) (some (.num p,l.drop k))):=by have:=Gr.num hne;rwa [hso]at this
   have HRD:Hid (Rd R l k ((Tree.num p).lay V1 ts) (Old A w.heap.size) w2):=hrd2
   have HPR:Hid (Zw w1.heap.size w2 ts.length (.num p) fv lv):=hpr
   obtain⟨fg,fc,lg,lc,rfl,rfl⟩:=hpr.shapes
   unfold Xo
   clear hpr hrd2 hso hne hrd
   obtain⟨q0,q1,q2,q3,qf⟩:=zk hN2
   have qf0:=qf 0
   have qf1:=qf 1
   have qf2:=qf 2
   have qf3:=qf 3
   clear qf
   go_wp2
   exact xV Tryz.results200 rfl rfl (qq1 _) hkZ2 hN2 HG.out hik hkl (by simp[Tree.count];omega) (HRD.out.allow (fun k h _=>Or.inl h)) (HPR.out.mono hs1)
 ·have hw:=ih (l.length-(i+1)) (by omega) R l (i+1) ts _ w1 hl (by omega) (qq1 _) (by omega) hrd
  go_wp2_with fail
  refine hw.mono ?_
  rintro e w2 ⟨hk2,h⟩
  clear hw
  have hkZ2:Kp R w w2:=hkZ.trans hk2
  have hN2:=hk2.other hN1 (by omega) (by decide)
  rcases h with⟨hno,rfl⟩|⟨t,k,fv,lv,hg,hik,hkl,hct,rfl,hrd2,hpr⟩
  ·refine⟨rfl,hkZ2,Or.inl ⟨?_,rfl⟩⟩
   rw[hdr]
   exact Gr.opened hno
  ·have HPR:Hid (Zw w1.heap.size w2 ts.length t fv lv):=hpr
   obtain⟨fg,fc,lg,lc,rfl,rfl⟩:=hpr.shapes
   have htk:=jK R l k (t.lay V1 ts) _ 41 _ hl hkl (hrd2.alloc (.cells #[.int .i64 (t.work V1),.int .i64 (t.span V1),.slice (some ⟨fg,0,none⟩) (t.first ts.length).length fc,.slice (some ⟨lg,0,none⟩) (t.last ts.length).length lc] 199))
   have hb3:=blk_alloc_new w2 (.cells #[.int .i64 (t.work V1),.int .i64 (t.span V1),.slice (some ⟨fg,0,none⟩) (t.first ts.length).length fc,.slice (some ⟨lg,0,none⟩) (t.last ts.length).length lc] 199)
   have hpr3:=hpr.alloc (.cells #[.int .i64 (t.work V1),.int .i64 (t.span V1),.slice (some ⟨fg,0,none⟩) (t.first ts.length).length fc,.slice (some ⟨lg,0,none⟩) (t.last ts.length).length lc] 199)
   obtain⟨cR,hcR⟩:=(hrd2.alloc (.cells #[.int .i64 (t.work V1),.int .i64 (t.span V1),.slice (some ⟨fg,0,none⟩) (t.first ts.length).length fc,.slice (some ⟨lg,0,none⟩) (t.last ts.length).length lc] 199)).typed
   have hN3:=(qa w2 (.cells #[.int .i64 (t.work V1),.int .i64 (t.span V1),.slice (some ⟨fg,0,none⟩) (t.first ts.length).length fc,.slice (some ⟨lg,0,none⟩) (t.last ts.length).length lc] 199) _ (lt_of_block hN2)).trans hN2
   have hsz2:w.heap.size<w2.heap.size:=lt_of_block hN2
   unfold Xo
   go_wp2_with fail
   refine htk.mono ?_
   rintro e w3 ⟨hk3,h⟩
   clear htk
   have hkZ3:Kp R w w3:=(hkZ2.alloc _).trans hk3
   have HB3:=hk3.other hb3 (by omega) (by decide)
   have HN3:=hk3.other hN3 (by omega) (by decide)
   have HP3:Hid (Zw w1.heap.size w3 ts.length t _ _):=hpr3.kp hcR hk3
   clear hb3 hN3 hpr3 hcR hpr hrd2 hk3 HPR
   rcases h with⟨hne,rfl,hrd3⟩|⟨hil3,hdr3,rfl,hrd3⟩
   ·have HG:Hid (Gr .link (l.drop i) none):=by
     show Gr _ _ _
     rw[hdr]
     exact Gr.unshut hg hne
    go_wp2
    exact⟨rfl,hkZ3,Or.inl ⟨HG.out,rfl⟩⟩
   ·have HG:Hid (Gr .link (l.drop i) (some (t,l.drop (k+1)))):=by
     show Gr _ _ _
     rw[hdr]
     rw[hdr3]at hg
     exact Gr.signs hg
    obtain⟨q0,q1,q2,q3,qf⟩:=zk HN3
    have qf0:=qf 0
    have qf1:=qf 1
    have qf2:=qf 2
    have qf3:=qf 3
    obtain⟨r0,r1,r2,r3,_⟩:=zk HB3
    clear qf hdr hdr3 hg
    have HRD3:Hid (Rd R l (k+1) (t.lay V1 ts) (Xt (Old A w.heap.size) w1.heap.size _ _) w3):=hrd3
    clear hrd3
    go_wp2
    exact xV Tryz.results200 rfl rfl (qq1 _) hkZ3 HN3 HG.out (by omega) (by omega) (by omega) (HRD3.out.allow (fun k h _=>h.mono hs1)) (HP3.out.mono hs1)
end
end Go.Proofs.YtlfbdjeojgbniaaGreatDoor

import Derived.Test.YtlfbdjeojgbniaaGreatDoorRan03
namespace Go.Proofs.YtlfbdjeojgbniaaGreatDoor
section
open Go.RowKit Go.Deep
theorem Rd.grownI{R i b:Nat}{l:List UInt8}{ts:Zl}{A:Nat→Prop}{w w':World}{fv:Value}{zs:List Int}(h:Rd R l i ts A w)(hf:RowW b w fv zs)(hA:∀k,A k→fv.ownBlock≠some k)(hg:w.grownBy w' fv.ownBlock):Rd R l i ts A w':=by
 obtain⟨tv,h1,xs,ho,hx⟩:=h
 refine⟨tv,zD hf hg h1 (by decide),xs,?_,fun j hj=>?_⟩
 ·rcases ho.2 with⟨rfl,hn⟩|⟨g,cap,cur,rfl,hb,hh,hr⟩
  ·exact⟨ho.1,Or.inl ⟨rfl,hn⟩⟩
  ·exact⟨ho.1,Or.inr ⟨g,cap,cur,rfl,hb,zD hf hg hh (by decide),hr⟩⟩
 ·obtain⟨g1,nv,g2,g3,g4⟩:=hx j hj
  exact⟨g1,nv,g2,g3.of_blocks (fun k e=>hg.block k (g3.low e).2 (fun hc=>hA k (g4 k e) hc.symm)),g4⟩
theorem RowW.grownI{b:Nat}{w w':World}{v:Value}{zs:List Int}{row:Option Nat}(h:RowW b w v zs)(hg:w.grownBy w' row)(hne:v.ownBlock≠row):RowW b w' v zs:=World.ownsRow.kept h hg (Or.inr hne)
theorem yL(a b:List Nat):Zj (a++b)=Zj a++Zj b:=by simp[Zj]
theorem Zw.blocks{b:Nat}{w:World}{n:Nat}{t:Tree}{fg fc fn lg lc ln:Nat}(h:Zw b w n t (.slice (some ⟨fg,0,none⟩) fn fc) (.slice (some ⟨lg,0,none⟩) ln lc)):b≤fg∧fg<w.heap.size∧b≤lg∧lg<w.heap.size∧fg≠lg:=by
 have h1:=h.1.low (k:=fg) rfl
 have h2:=h.2.1.low (k:=lg) rfl
 have h3:=h.2.2
 simp only[Value.ownBlock,ne_eq,Option.some.injEq]at h3
 exact⟨h1.1,h1.2,h2.1,h2.2,h3⟩
structure XQ (K:Kind) (KL:Tree→Kind) (R:Nat) (l:List UInt8) (i:Nat) (ts:Zl) (A:Nat→Prop) (w:World) (B3:Nat) (wr:World) (t:Tree) (k:Nat) (fg fc lg lc:Nat):Prop where
 gr:∀r,Gr (KL t) (l.drop k) r→Gr K (l.drop i) r
 ik:i<k
 kl:k≤l.length
 ct:ts.length+t.count≤k
 rd:Rd R l k (t.lay V1 ts) (Xt A w.heap.size (.slice (some ⟨fg,0,none⟩) (t.first ts.length).length fc) (.slice (some ⟨lg,0,none⟩) (t.last ts.length).length lc)) wr
 pr:Zw w.heap.size wr ts.length t (.slice (some ⟨fg,0,none⟩) (t.first ts.length).length fc) (.slice (some ⟨lg,0,none⟩) (t.last ts.length).length lc)
 b3:wr.heap[B3]?=some (.cells #[.int .i64 (t.work V1),.int .i64 (t.span V1),.slice (some ⟨fg,0,none⟩) (t.first ts.length).length fc,.slice (some ⟨lg,0,none⟩) (t.last ts.length).length lc] 199 (0,0))
 n0:wr.heap[w.heap.size]?=some (.cells #[.int .i64 0,.int .i64 0,.slice none 0 0,.slice none 0 0] 199 (0,0))
 kp:Kp R w wr
 lo:w.heap.size<B3
theorem xp{t:Tree}{n k:Nat}(h:n+t.count≤k)(hk:k≤200):0≤t.work V1∧t.work V1≤4200∧0≤t.span V1∧t.span V1≤4200:=by
 have h1:=t.work_le ziS
 have h2:=t.span_le ziS
 omega
theorem zgB{w:World}{b:Nat}{a1 a2 a3 a4:Value}(h:w.heap[b]?=some (.cells #[a1,a2,a3,a4] 199 (0,0)))(u:Value):(w.setCell ⟨b,2,none⟩ u).heap[b]?=some (.cells #[a1,a2,u,a4] 199 (0,0)):=by
 have:=heap_setCell_same w b 2 _ 199 u h
 simpa using this
theorem zgC{w:World}{b:Nat}{a1 a2 a3 a4:Value}(h:w.heap[b]?=some (.cells #[a1,a2,a3,a4] 199 (0,0)))(u:Value):(w.setCell ⟨b,3,none⟩ u).heap[b]?=some (.cells #[a1,a2,a3,u] 199 (0,0)):=by
 have:=heap_setCell_same w b 3 _ 199 u h
 simpa using this
set_option maxRecDepth 100000 in
set_option maxHeartbeats 8000000 in
theorem zil(n:Nat)(ih:Xh 176 .chain n):Xh 149 .weave n:=by
 intro R l i ts A w hl hi hn hts hr
 have hRl:=hr.lt
 obtain⟨i3,hi3,hz0,hz1,hz2⟩:=info_parts Tryz.info3
 have hch:=ih R l i ts _ _ hl hi hn hts (hr.old.alloc part0)
 have HIH:Hid (Xh 176 .chain n):=ih
 clear hr ih
 unfold part0 at hch
 go_enter Tryz.func149,Tryz.ntmps149
 go_wp2_with fail
 refine hch.mono ?_
 rintro e w1 ⟨hk,h⟩
 clear hch
 have hkZ:Kp R w w1:=((Kp.refl R w).alloc _).trans hk
 have hN1:w1.heap[w.heap.size]?=some (.cells #[.int .i64 0,.int .i64 0,.slice none 0 0,.slice none 0 0] 199 (0,0)):=hk.other (k:=w.heap.size) (blk_alloc_new _ _) (by omega) (by decide)
 have hs1:w.heap.size<w1.heap.size:=lt_of_block hN1
 clear hk
 rcases h with⟨hno,rfl⟩|⟨t,k,fv,lv,hg,hik,hkl,hct,rfl,hrd,hpr⟩
 ·exact⟨rfl,hkZ,Or.inl ⟨Gr.weaveNo hno,rfl⟩⟩
 obtain⟨fg,fc,lg,lc,rfl,rfl⟩:=hpr.shapes
 unfold Xo
 have hle:w.heap.size≤(w.alloc (Obj.cells #[.int .i64 0,.int .i64 0,.slice none 0 0,.slice none 0 0] 199)).heap.size:=by simp
 have HGO:Hid (XQ .weave .weaveL R l i ts A w w1.heap.size (w1.alloc (.cells #[.int .i64 (t.work V1),.int .i64 (t.span V1),.slice (some ⟨fg,0,none⟩) (t.first ts.length).length fc,.slice (some ⟨lg,0,none⟩) (t.last ts.length).length lc] 199)) t k fg fc lg lc):=
  {gr:=fun r h=>Gr.weaveOf hg h,ik:=hik,kl:=hkl,ct:=hct,rd:=(hrd.allow (fun k h _=>h.mono hle)).alloc _,pr:=(hpr.mono hle).alloc _,b3:=blk_alloc_new _ _,n0:=(qa _ _ _ hs1).trans hN1,kp:=hkZ.alloc _,lo:=hs1 }
 clear hg hik hkl hct hrd hpr hkZ hN1 hle
 go_wp2_with fail
 obtain⟨B3,hB3⟩:∃B3,w1.heap.size=B3:=⟨_,rfl⟩
 rw[hB3]at HGO ⊢
 go_loopg [] l.length (fun gg wr=>∃t k fg fc lg lc,Hid (XQ .weave .weaveL R l i ts A w B3 wr t k fg fc lg lc)∧l.length-k≤gg)
 case atStart=>exact⟨t,k,fg,fc,lg,lc,HGO,by omega⟩
 case round=>
  clear HGO
  obtain⟨t,k,fg,fc,lg,lc,HG,hgg⟩:=hrel
  have hlo:=HG.out.lo
  have htk:=jK R l k _ _ 124 wr hl HG.out.kl HG.out.rd
  go_wp2_with fail
  refine htk.mono ?_
  rintro e w2 ⟨hk2,h⟩
  clear htk
  obtain⟨cR,hcR⟩:=HG.out.rd.typed
  have hkp2:=HG.out.kp.trans hk2
  have hB2:=hk2.other HG.out.b3 (by omega) (by decide)
  have hN2:=hk2.other HG.out.n0 (by omega) (by decide)
  have hpr2:=HG.out.pr.kp hcR hk2
  have hik:=HG.out.ik
  have hkl:=HG.out.kl
  have hct:=HG.out.ct
  clear hcR hk2
  rcases h with⟨hne,rfl,hrd2⟩|⟨hil,hdr,rfl,hrd2⟩
  ·have HGR:Hid (Gr .weave (l.drop i) (some (t,l.drop k))):=HG.out.gr _ (Gr.weaveEnd hne)
   have HRD:Hid (Rd R l k (t.lay V1 ts) (Xt A w.heap.size (.slice (some ⟨fg,0,none⟩) (t.first ts.length).length fc) (.slice (some ⟨lg,0,none⟩) (t.last ts.length).length lc)) w2):=hrd2
   have HPR:Hid (Zw w.heap.size w2 ts.length t (.slice (some ⟨fg,0,none⟩) (t.first ts.length).length fc) (.slice (some ⟨lg,0,none⟩) (t.last ts.length).length lc)):=hpr2
   obtain⟨q0,q1,q2,q3,qf⟩:=zk hN2
   have qf0:=qf 0
   have qf1:=qf 1
   have qf2:=qf 2
   have qf3:=qf 3
   obtain⟨r0,r1,r2,r3,_⟩:=zk hB2
   clear qf hrd2 hpr2 HG hne
   go_wp2
   exact xV Tryz.results149 rfl rfl (qq1 _) hkp2 hN2 HGR.out hik hkl hct HRD.out HPR.out
  ·have hlen:(t.lay V1 ts).length=ts.length+t.count:=t.lay_length V1 ts
   have hch:=HIH.out R l (k+1) (t.lay V1 ts) _ w2 hl (by omega) (by omega) (by omega) hrd2.old
   have HGR:Hid (∀r,Gr (.weaveL t) (l.drop k) r→Gr .weave (l.drop i) r):=HG.out.gr
   obtain⟨cR2,hcR2⟩:=hrd2.typed
   clear HG hrd2
   go_wp2_with fail
   refine hch.mono ?_
   rintro e w3 ⟨hk3,h⟩
   clear hch
   have hkp3:=hkp2.trans hk3
   have hs3:=hk3.size
   have hB3':=hk3.other hB2 (by omega) (by decide)
   have hN3:=hk3.other hN2 (by omega) (by decide)
   have hpr3:=hpr2.kp hcR2 hk3
   clear hcR2 hk3 hB2 hN2
   rcases h with⟨hno,rfl⟩|⟨t2,k2,fv2,lv2,hg2,hik2,hkl2,hct2,rfl,hrd3,hpq⟩
   ·refine⟨rfl,hkp3,Or.inl ⟨HGR.out _ ?_,rfl⟩⟩
    rw[hdr]
    exact Gr.weaveBad hno
   ·obtain⟨fg2,fc2,lg2,lc2,rfl,rfl⟩:=hpq.shapes
    rw[hlen]at hpq hct2 ⊢
    unfold Xo
    obtain⟨hf1,hf2,hg1,hg2',hne⟩:=hpr2.blocks
    obtain⟨pf1,pf2,pg1,pg2,pne⟩:=hpq.blocks
    have hrd4:Rd R l k2 (t2.lay V1 (t.lay V1 ts)) (fun q=>q<w3.heap.size∧q≠fg∧q≠lg∧(q<w.heap.size→Old A w.heap.size q)) w3:=hrd3.allow (fun q h hq=>by
     rcases h with⟨⟨h,h1⟩,_⟩|⟨h,_⟩
     ·rcases h with h|⟨h2,h3,h4⟩
      ·have:=h.2
       exact⟨hq,by omega,by omega,fun _=>h⟩
      ·simp only[Value.ownBlock,ne_eq,Option.some.injEq]at h3 h4
       exact⟨hq,fun e=>h3 e.symm,fun e=>h4 e.symm,fun h=>by omega⟩
     ·exact⟨hq,by omega,by omega,fun h=>by omega⟩)
    have hbd1:=xp hct (by omega)
    have hbd2:=xp hct2 (by omega)
    have hb3l:B3<w3.heap.size:=lt_of_block hB3'
    have hn0l:w.heap.size<w3.heap.size:=lt_of_block hN3
    have HGR2:Hid (∀r,Gr (.weaveL (.par t t2)) (l.drop k2) r→Gr .weave (l.drop i) r):=fun r h=>HGR.out r (by rw[hdr];exact Gr.weaveMore hg2 h)
    have hfl:=t.first_len ts.length
    have hll:=t.last_len ts.length
    have hfl2:=t2.first_len (ts.length+t.count)
    have hll2:=t2.last_len (ts.length+t.count)
    obtain⟨mx,hmx⟩:∃mx,mx=max (t.span V1) (t2.span V1):=⟨_,rfl⟩
    have HMX:Hid (mx=max (t.span V1) (t2.span V1)):=hmx
    obtain⟨r0,r1,r2,r3,rf⟩:=zk hB3'
    have rf0:=rf 0
    have rf1:=rf 1
    have hc0:=heap_setCell_same w3 B3 0 _ 199 (.int .i64 (t.work V1+t2.work V1)) hB3'
    have hc1:=heap_setCell_same _ B3 1 _ 199 (.int .i64 mx) hc0
    have hrdW:=((hrd4.setPart hB3' 0 (.int .i64 (t.work V1+t2.work V1))).setPart hc0 1 (.int .i64 mx)).alloc (.cells #[.int .i64 (t2.work V1),.int .i64 (t2.span V1),.slice (some ⟨fg2,0,none⟩) (t2.first (ts.length+t.count)).length fc2,.slice (some ⟨lg2,0,none⟩) (t2.last (ts.length+t.count)).length lc2] 199)
    have hF:=((hpr3.1.setPart hB3' 0 (.int .i64 (t.work V1+t2.work V1))).setPart hc0 1 (.int .i64 mx)).alloc (.cells #[.int .i64 (t2.work V1),.int .i64 (t2.span V1),.slice (some ⟨fg2,0,none⟩) (t2.first (ts.length+t.count)).length fc2,.slice (some ⟨lg2,0,none⟩) (t2.last (ts.length+t.count)).length lc2] 199)
    have hL:=((hpr3.2.1.setPart hB3' 0 (.int .i64 (t.work V1+t2.work V1))).setPart hc0 1 (.int .i64 mx)).alloc (.cells #[.int .i64 (t2.work V1),.int .i64 (t2.span V1),.slice (some ⟨fg2,0,none⟩) (t2.first (ts.length+t.count)).length fc2,.slice (some ⟨lg2,0,none⟩) (t2.last (ts.length+t.count)).length lc2] 199)
    have hF2:=((hpq.1.setPart hB3' 0 (.int .i64 (t.work V1+t2.work V1))).setPart hc0 1 (.int .i64 mx)).alloc (.cells #[.int .i64 (t2.work V1),.int .i64 (t2.span V1),.slice (some ⟨fg2,0,none⟩) (t2.first (ts.length+t.count)).length fc2,.slice (some ⟨lg2,0,none⟩) (t2.last (ts.length+t.count)).length lc2] 199)
    have hL2:=((hpq.2.1.setPart hB3' 0 (.int .i64 (t.work V1+t2.work V1))).setPart hc0 1 (.int .i64 mx)).alloc (.cells #[.int .i64 (t2.work V1),.int .i64 (t2.span V1),.slice (some ⟨fg2,0,none⟩) (t2.first (ts.length+t.count)).length fc2,.slice (some ⟨lg2,0,none⟩) (t2.last (ts.length+t.count)).length lc2] 199)
    have hkpW:=((hkp3.setNew (b:=B3) (by omega) 0 (.int .i64 (t.work V1+t2.work V1))).setNew (b:=B3) (by omega) 1 (.int .i64 mx)).alloc (.cells #[.int .i64 (t2.work V1),.int .i64 (t2.span V1),.slice (some ⟨fg2,0,none⟩) (t2.first (ts.length+t.count)).length fc2,.slice (some ⟨lg2,0,none⟩) (t2.last (ts.length+t.count)).length lc2] 199)
    obtain⟨W4,hW4⟩:∃W4,(((w3.setCell ⟨B3,0,none⟩ (.int .i64 (t.work V1+t2.work V1))).setCell ⟨B3,1,none⟩ (.int .i64 mx)).alloc (.cells #[.int .i64 (t2.work V1),.int .i64 (t2.span V1),.slice (some ⟨fg2,0,none⟩) (t2.first (ts.length+t.count)).length fc2,.slice (some ⟨lg2,0,none⟩) (t2.last (ts.length+t.count)).length lc2] 199))=W4:=⟨_,rfl⟩
    have HW4:Hid ((((w3.setCell ⟨B3,0,none⟩ (.int .i64 (t.work V1+t2.work V1))).setCell ⟨B3,1,none⟩ (.int .i64 mx)).alloc (.cells #[.int .i64 (t2.work V1),.int .i64 (t2.span V1),.slice (some ⟨fg2,0,none⟩) (t2.first (ts.length+t.count)).length fc2,.slice (some ⟨lg2,0,none⟩) (t2.last (ts.length+t.count)).length lc2] 199))=W4):=hW4
    have hBW:W4.heap[B3]?=some (.cells #[.int .i64 (t.work V1+t2.work V1),.int .i64 mx,.slice (some ⟨fg,0,none⟩) (t.first ts.length).length fc,.slice (some ⟨lg,0,none⟩) (t.last ts.length).length lc] 199 (0,0)):=by
     rw[←hW4,blk_alloc_lt _ _ _ (by simp;omega)]
     simpa using hc1
    have hNW:W4.heap[w.heap.size]?=some (.cells #[.int .i64 0,.int .i64 0,.slice none 0 0,.slice none 0 0] 199 (0,0)):=by
     rw[←hW4,blk_alloc_lt _ _ _ (by simp;omega),qq5 _ _ _ _ (by show w.heap.size≠B3;omega),qq5 _ _ _ _ (by show w.heap.size≠B3;omega)]
     exact hN3
    have hsW:W4.heap.size=w3.heap.size+1:=by rw[←hW4];simp
    have hCW:W4.heap[w3.heap.size]?=some (.cells #[.int .i64 (t2.work V1),.int .i64 (t2.span V1),.slice (some ⟨fg2,0,none⟩) (t2.first (ts.length+t.count)).length fc2,.slice (some ⟨lg2,0,none⟩) (t2.last (ts.length+t.count)).length lc2] 199 (0,0)):=by
     rw[←hW4]
     have:=blk_alloc_new ((w3.setCell ⟨B3,0,none⟩ (.int .i64 (t.work V1+t2.work V1))).setCell ⟨B3,1,none⟩ (.int .i64 mx)) (.cells #[.int .i64 (t2.work V1),.int .i64 (t2.span V1),.slice (some ⟨fg2,0,none⟩) (t2.first (ts.length+t.count)).length fc2,.slice (some ⟨lg2,0,none⟩) (t2.last (ts.length+t.count)).length lc2] 199)
     simpa using this
    have hFx:=hF
    have hF2x:=World.ownsRow.cells hF2 (g:=fg2) rfl
    rw[hW4]at hrdW hF hL hF2 hL2 hkpW
    clear hW4 hc0 hc1 hrd4 hrd3 hpr3 hpr2 hpq hkp3 hkp2 hB3' hN3 rf
    have hmx3:(t.span V1<t2.span V1∧mx=t2.span V1)∨(¬t.span V1<t2.span V1∧mx=t.span V1):=by omega
    clear hmx
    rcases hmx3 with⟨hsp,rfl⟩|⟨hsp,rfl⟩
    all_goals
     go_wp2_with (at_builtin;refine wpList_append_own_at _ rfl (.tmp 24) (.tmp 26) 73 rfl w.heap.size 3 i3 (.int .i64 0) 1 8 Tryz.underlying73 hi3 hz0 hz1 hz2 rfl (by decide) _ (Zj (t.first ts.length)).length ((Zj (t.first ts.length)).map (Value.int .i64)) rfl hFx ⟨fg2,0,none⟩ (t2.first (ts.length+t.count)).length fc2 ((Zj (t2.first (ts.length+t.count))).map (Value.int .i64)) rfl ?cl hF2x ?c2 ?c3 ?c4 ?c5 ?_)
     case cl=>simp[Zj]
     case c2=>intro u hu;simp at hu;obtain⟨_,_,rfl⟩:=hu;rfl
     case c3=>rw[zi];unfold maxLen;omega
     case c4=>rw[zi];omega
     case c5=>simp;omega
     intro v' w5 hown' hgrow _ hloc
     rw[HW4.out]at hgrow
     have hV:RowW w.heap.size w5 v' (Zj ((Tree.par t t2).first ts.length)):=by
      have e:Zj ((Tree.par t t2).first ts.length)=Zj (t.first ts.length)++Zj (t2.first (ts.length+t.count)):=yL _ _
      unfold RowW
      rw[e,qb,List.map_append,zi (t2.first (ts.length+t.count))]
      exact hown'
     have hrd5:=hrdW.grownI hF (fun q h e=>h.2.1 (Option.some.inj e).symm) hgrow
     have hB5:=zD hF hgrow hBW (by decide)
     have hN5:=zD hF hgrow hNW (by decide)
     have hL5:=hL.grownI hgrow (by simp[Value.ownBlock];omega)
     have hL25:=hL2.grownI hgrow (by simp[Value.ownBlock];omega)
     have hkp5:=hkpW.grown hgrow (fun q e=>by cases e;exact Or.inr (Or.inl hf1))
     have hs5:=hgrow.size
     obtain⟨vg,vc,rfl⟩:=zB hV (by rw[zi];exact(Tree.par t t2).first_pos _)
     rw[zi]at hV ⊢
     have hvg:=hV.low (k:=vg) rfl
     have hvloc:vg=fg∨vg=w3.heap.size+1:=by simpa[Value.ownBlock]using hloc
     obtain⟨s0,s1,s2,s3,sf⟩:=zk hB5
     have sf2:=sf 2
     have sf3:=sf 3
     have hrd6:=hrd5.setPart hB5 2 (.slice (some ⟨vg,0,none⟩) ((Tree.par t t2).first ts.length).length vc)
     have hL6:=hL5.setPart hB5 2 (.slice (some ⟨vg,0,none⟩) ((Tree.par t t2).first ts.length).length vc)
     have hL26:=hL25.setPart hB5 2 (.slice (some ⟨vg,0,none⟩) ((Tree.par t t2).first ts.length).length vc)
     have hV6:=hV.setPart hB5 2 (.slice (some ⟨vg,0,none⟩) ((Tree.par t t2).first ts.length).length vc)
     have hkp6:=hkp5.setNew (b:=B3) (by omega) 2 (.slice (some ⟨vg,0,none⟩) ((Tree.par t t2).first ts.length).length vc)
     have hN6:(w5.setCell ⟨B3,2,none⟩ (.slice (some ⟨vg,0,none⟩) ((Tree.par t t2).first ts.length).length vc)).heap[w.heap.size]?=some (.cells #[.int .i64 0,.int .i64 0,.slice none 0 0,.slice none 0 0] 199 (0,0)):=(qq5 _ _ _ _ (by show w.heap.size≠B3;omega)).trans hN5
     have hB6:=zgB hB5 (.slice (some ⟨vg,0,none⟩) ((Tree.par t t2).first ts.length).length vc)
     have hL26x:=World.ownsRow.cells hL26 (g:=lg2) rfl
     have hb45:w3.heap.size<w5.heap.size:=by omega
     have hB4:w5.heap[w3.heap.size]?=some (.cells #[.int .i64 (t2.work V1),.int .i64 (t2.span V1),.slice (some ⟨fg2,0,none⟩) (t2.first (ts.length+t.count)).length fc2,.slice (some ⟨lg2,0,none⟩) (t2.last (ts.length+t.count)).length lc2] 199 (0,0)):=zD hF hgrow hCW (by decide)
     obtain⟨u0,u1,u2,u3,_⟩:=zk hB4
     have hne34:¬B3=w3.heap.size:=by omega
     clear hown' hloc hgrow hrd5 hL5 hL25 hkp5 hN5 hB4 sf
     go_wp2_with (at_builtin;refine wpList_append_own_at _ rfl (.tmp 30) (.tmp 32) 73 rfl w.heap.size 3 i3 (.int .i64 0) 1 8 Tryz.underlying73 hi3 hz0 hz1 hz2 rfl (by decide) _ (Zj (t.last ts.length)).length ((Zj (t.last ts.length)).map (Value.int .i64)) rfl hL6 ⟨lg2,0,none⟩ (t2.last (ts.length+t.count)).length lc2 ((Zj (t2.last (ts.length+t.count))).map (Value.int .i64)) rfl ?el hL26x ?e2 ?e3 ?e4 ?e5 ?_)
     case el=>simp[Zj]
     case e2=>intro u hu;simp at hu;obtain⟨_,_,rfl⟩:=hu;rfl
     case e3=>rw[zi];unfold maxLen;omega
     case e4=>rw[zi];omega
     case e5=>simp;omega
     intro v' w7 hown' hgrow _ hloc
     have hU:RowW w.heap.size w7 v' (Zj ((Tree.par t t2).last ts.length)):=by
      have e:Zj ((Tree.par t t2).last ts.length)=Zj (t.last ts.length)++Zj (t2.last (ts.length+t.count)):=yL _ _
      unfold RowW
      rw[e,qb,List.map_append,zi (t2.last (ts.length+t.count))]
      exact hown'
     have hrd7:=hrd6.grownI hL6 (fun q h e=>h.2.2.1 (Option.some.inj e).symm) hgrow
     have hB7:=zD hL6 hgrow hB6 (by decide)
     have hN7:=zD hL6 hgrow hN6 (by decide)
     have hV7:=hV6.grownI hgrow (by simp[Value.ownBlock];omega)
     have hkp7:=hkp6.grown hgrow (fun q e=>by cases e;exact Or.inr (Or.inl hg1))
     have hs7:=hgrow.size
     obtain⟨ug,uc,rfl⟩:=zB hU (by rw[zi];exact(Tree.par t t2).last_pos _)
     rw[zi]at hU ⊢
     have huloc:ug=lg∨ug=w5.heap.size:=by simpa[Value.ownBlock]using hloc
     obtain⟨x0,x1,x2,x3,xf⟩:=zk hB7
     have xf3:=xf 3
     have hd3:=zgC hB7 (.slice (some ⟨ug,0,none⟩) ((Tree.par t t2).last ts.length).length uc)
     have HNEW:Hid (XQ .weave .weaveL R l i ts A w B3 (w7.setCell ⟨B3,3,none⟩ (.slice (some ⟨ug,0,none⟩) ((Tree.par t t2).last ts.length).length uc)) (.par t t2) k2 vg vc ug uc):=
      {gr:=HGR2.out,ik:=by omega,kl:=hkl2,ct:=by simp only[Tree.count];omega
       rd:=(hrd7.allow (fun q h _=>by
        by_cases hq:q<w.heap.size
        ·exact Or.inl (h.2.2.2 hq)
        ·refine Or.inr ⟨by omega,?_,?_⟩
         ·simp only[Value.ownBlock,ne_eq,Option.some.injEq]
          have h1:=h.1
          have h2:=h.2.1
          omega
         ·simp only[Value.ownBlock,ne_eq,Option.some.injEq]
          have h1:=h.1
          have h2:=h.2.2.1
          omega)).setPart hB7 3 _
       pr:=⟨hV7.setPart hB7 3 _,hU.setPart hB7 3 _,by simp only[Value.ownBlock,ne_eq,Option.some.injEq];omega⟩
       b3:=by
        have hm:=HMX.out
        simp only[Tree.work,Tree.span]
        rw[←hm]
        exact hd3
       n0:=(qq5 _ _ _ _ (by show w.heap.size≠B3;omega)).trans hN7
       kp:=hkp7.setNew (b:=B3) (by omega) 3 _
       lo:=hlo }
     clear hown' hloc hgrow hrd7 hB7 hN7 hV7 hkp7 hU hV6 hL6 hrd6 hB6 hN6 hkp6 xf hd3 hV
     go_wp2
     go_roundg (l.length-k2)
     case measure=>omega
     case rel=>exact⟨.par t t2,k2,vg,vc,ug,uc,HNEW,qq1 _⟩
end
section
open Go.RowKit
def ZJ(ts:Zl)(k:Nat):Int:=ZT (ts.getD k (0,[])).1 (Za ts k) ts.length
def Zc(ts:Zl)(p q:Int):Prop:=
 (30<ts.length∧p=0∧q=4)∨
 (∃k:Nat,ts.length≤30∧k<ts.length∧(∀j,j<k→ZJ ts j=0)∧ZJ ts k≠0∧p=k∧q=ZJ ts k)∨
 (∃k:Nat,ts.length≤30∧(∀j,j<ts.length→ZJ ts j=0)∧k<ts.length∧(∀j,j<k→¬Zs ts j j)∧Zs ts k k∧p=k∧q=8)∨
 (ts.length≤30∧(∀j,j<ts.length→ZJ ts j=0)∧(∀j,j<ts.length→¬Zs ts j j)∧p=0∧q=0)
theorem Zc.full{ts:Zl}(h:30<ts.length):Zc ts 0 4:=Or.inl ⟨h,rfl,rfl⟩
theorem Zc.task{ts:Zl}(k:Nat)(h1:ts.length≤30)(h2:k<ts.length)(h3:∀j,j<k→ZJ ts j=0)(h4:ZJ ts k≠0):Zc ts k (ZJ ts k):=
 Or.inr (Or.inl ⟨k,h1,h2,h3,h4,rfl,rfl⟩)
theorem Zc.ring{ts:Zl}(k:Nat)(h1:ts.length≤30)(h2:∀j,j<ts.length→ZJ ts j=0)(h3:k<ts.length)(h4:∀j,j<k→¬Zs ts j j)(h5:Zs ts k k):Zc ts k 8:=
 Or.inr (Or.inr (Or.inl ⟨k,h1,h2,h3,h4,h5,rfl,rfl⟩))
theorem Zc.none{ts:Zl}(h1:ts.length≤30)(h2:∀j,j<ts.length→ZJ ts j=0)(h3:∀j,j<ts.length→¬Zs ts j j):Zc ts 0 0:=
 Or.inr (Or.inr (Or.inr ⟨h1,h2,h3,rfl,rfl⟩))
theorem Zc.elim{ts:Zl}{motive:∀p q,Zc ts p q→Prop}(full:∀h:30<ts.length,motive 0 4 (Zc.full h))
  (task:∀(k:Nat) (h1:ts.length≤30) (h2:k<ts.length) (h3:∀j,j<k→ZJ ts j=0) (h4:ZJ ts k≠0),motive k (ZJ ts k) (Zc.task k h1 h2 h3 h4))
  (ring:∀(k:Nat) (h1:ts.length≤30) (h2:∀j,j<ts.length→ZJ ts j=0) (h3:k<ts.length) (h4:∀j,j<k→¬Zs ts j j) (h5:Zs ts k k),motive k 8 (Zc.ring k h1 h2 h3 h4 h5))
  (none:∀(h1:ts.length≤30) (h2:∀j,j<ts.length→ZJ ts j=0) (h3:∀j,j<ts.length→¬Zs ts j j),motive 0 0 (Zc.none h1 h2 h3)) {p q:Int} (h:Zc ts p q):motive p q h:=by
 rcases h with⟨h,rfl,rfl⟩|⟨k,h1,h2,h3,h4,rfl,rfl⟩|⟨k,h1,h2,h3,h4,h5,rfl,rfl⟩|⟨h1,h2,h3,rfl,rfl⟩
 ·exact full h
 ·exact task k h1 h2 h3 h4
 ·exact ring k h1 h2 h3 h4 h5
 ·exact none h1 h2 h3
theorem yh{ts:Zl}(h:∀j,j<ts.length→ZJ ts j=0):ZA ts:=by
 intro x hx y hy
 have he:=h x hx
 unfold ZJ ZT at he
 split at he
 ·simp at he
 ·split at he
  ·simp at he
  ·rename_i hn
   have:∀z,z∈Za ts x→Zr z ts.length=true:=by
    intro z hz
    cases hr:Zr z ts.length with
    | true=>rfl
    | false=>exact absurd (List.any_eq_true.2 ⟨z,hz,by simp[hr]⟩) hn
   have:=this y hy
   simpa[Zr]using this
theorem zI:errV 0=.nilIface:=rfl
theorem zu{n:Int}(h:n≠0):errV n=.iface 97 (.int .i64 n):=by simp[errV,h]
set_option maxRecDepth 100000 in
set_option maxHeartbeats 4000000 in
theorem yY(v:Value)(ts:Zl)(w:World)(hp:Zf w v ts) :
  Calls Tryz.prog 40 #[v] w fun e w'=>(∃p q,e=.returned (.tuple #[.int .i64 p,errV q])∧Zc ts p q)∧Below w.heap.size w w':=by
 have HP:Hid (Zf w v ts):=hp
 obtain⟨hl,a,c,rfl,hp⟩:=hp
 by_cases hfull:30<ts.length
 ·have hfi:(30:Int)<(ts.length:Int):=by omega
  clear hp
  go_enter Tryz.func40,Tryz.ntmps40
  go_wp2
  go_ret2
  exact⟨⟨0,4,rfl,Zc.full hfull⟩,qq4 _ _⟩
 have hfi:¬(30:Int)<(ts.length:Int):=by omega
 go_enter Tryz.func40,Tryz.ntmps40
 go_wp2
 go_loopw [14] (fun s14 wr=>∃k:Nat,k≤ts.length∧s14=.int .i64 k∧Below w.heap.size w wr∧Hid (∀j,j<k→ZJ ts j=0)) (fun s14 _=>ts.length-(intOf s14).toNat)
 case atStart=>exact⟨0,Nat.zero_le _,rfl,qq4 _ _,fun j hj=>by omega⟩
 case round=>
  obtain⟨k,hk,rfl,hb,hno⟩:=hrel
  by_cases hkl:k<ts.length
  ·rcases hp with rfl|⟨b,o,rfl,hbl,hc⟩
   ·simp at hkl
   obtain⟨hc1,nv,hc2,hin⟩:=hc k hkl
   obtain⟨a2,c2,rfl⟩:∃a2 c2,nv=.slice a2 (Za ts k).length c2:=by
    obtain⟨_,a2,c2,h,_⟩:=hin
    exact⟨a2,c2,h⟩
   have hc1':=(hb.cell (p:=⟨b,o+k*2,none⟩) hbl).trans hc1
   have hc2':=(hb.cell (p:=⟨b,o+k*2+1,none⟩) hbl).trans hc2
   have hin':=hin.later (hb.alloc hb.size (.cells #[.int .i64 (ts.getD k (0,[])).1,.slice a2 (Za ts k).length c2] 94))
   have hct:=zbq (ts.getD k (0,[])).1 _ (Za ts k) ts.length _ hin'
   have HE:Hid (ZT (ts.getD k (0,[])).1 (Za ts k) ts.length=ZJ ts k):=rfl
   clear hc hc1 hc2 hin hin'
   generalize (ts.getD k (0,[])).1=wk at *
   rw[HE.out]at hct
   clear HE
   by_cases he:ZJ ts k=0
   ·rw[he,zI]at hct
    have HZ:Hid (ZJ ts k=0):=he
    clear he
    go_wp2_with (go_at_call 78;refine hct.mono ?_;rintro e w' ⟨rfl,hb1⟩)
    go_roundw
    case rel=>
     refine⟨k+1,by omega,by go_num,(hb.alloc hb.size _).trans (hb1.mono (by have:=hb.size;simp;omega)),fun j hj=>?_⟩
     by_cases e:j=k
     ·subst e;exact HZ.out
     ·exact hno.out j (by omega)
    case measure=>simp[intOf];omega
   ·have hev:=zu he
    rw[hev]at hct
    have HZ:Hid (ZJ ts k≠0):=he
    have HV:Hid (errV (ZJ ts k)=.iface 97 (.int .i64 (ZJ ts k))):=hev
    clear he hev
    go_wp2_with (go_at_call 78;refine hct.mono ?_;rintro e w' ⟨rfl,hb1⟩)
    go_ret2
    refine⟨⟨k,ZJ ts k,by rw[HV.out];rfl,Zc.task k (by omega) hkl hno.out HZ.out⟩,(hb.alloc hb.size _).trans (hb1.mono (by have:=hb.size;simp;omega))⟩
  ·have hall:Hid (∀j,j<ts.length→ZJ ts j=0):=fun j hj=>hno.out j (by omega)
   clear hno
   go_wp2
   go_loopw [30] (fun s30 wr=>∃k:Nat,k≤ts.length∧s30=.int .i64 k∧Below w.heap.size w wr∧Hid (∀j,j<k→¬Zs ts j j)) (fun s30 _=>ts.length-(intOf s30).toNat)
   case atStart=>exact⟨0,Nat.zero_le _,rfl,hb,fun j hj=>by omega⟩
   case round=>
    clear hb hkl hk
    obtain⟨m,hm,rfl,hb,hno⟩:=hrel
    by_cases hml:m<ts.length
    ·have hrg:=zeK _ ts m _ (HP.out.later hb) hml (yh hall.out)
     by_cases hR:Zs ts m m
     ·have hrg':=hrg.mono (R':=fun e w'=>e=.returned (.bool true)∧Below wr.heap.size wr w') (fun e w' ⟨⟨bb,h1,h2⟩,h3⟩=>⟨by rw[h1,h2.2 hR],h3⟩)
      have HRR:Hid (Zs ts m m):=hR
      clear hrg hR hp
      go_wp2_with (go_at_call 79;refine hrg'.mono ?_;rintro e w' ⟨rfl,hb1⟩)
      go_ret2
      exact⟨⟨m,8,rfl,Zc.ring m (by omega) hall.out hml hno.out HRR.out⟩,hb.trans (hb1.mono hb.size)⟩
     ·have hrg':=hrg.mono (R':=fun e w'=>e=.returned (.bool false)∧Below wr.heap.size wr w') (fun e w' ⟨⟨bb,h1,h2⟩,h3⟩=>⟨by rw[h1,Bool.eq_false_iff.2 (fun h=>hR (h2.1 h))],h3⟩)
      have HRR:Hid (¬Zs ts m m):=hR
      clear hrg hR hp
      go_wp2_with (go_at_call 79;refine hrg'.mono ?_;rintro e w' ⟨rfl,hb1⟩)
      go_roundw
      case rel=>
       refine⟨m+1,by omega,by go_num,hb.trans (hb1.mono hb.size),fun j hj=>?_⟩
       by_cases e:j=m
       ·subst e;exact HRR.out
       ·exact hno.out j (by omega)
      case measure=>simp[intOf];omega
    ·clear hp
     go_wp2
     go_ret2
     exact⟨⟨0,0,rfl,Zc.none (by omega) hall.out (fun j hj=>hno.out j (by omega))⟩,hb⟩
end
section
open Go.RowKit
def Yl(w:World)(v:Value)(n:Nat)(T:Nat→Bool):Prop:=
 ∃b o c,v=.slice (some ⟨b,o,none⟩) n c∧b<w.heap.size∧∀k,k<n→w.cell? ⟨b,o+k,none⟩=some (.bool (T k))
theorem Yl.later{w w':World}{v:Value}{n:Nat}{T:Nat→Bool}(h:Yl w v n T)(hb:Below w.heap.size w w'):Yl w' v n T:=by
 obtain⟨b,o,c,hv,hlt,hc⟩:=h
 exact⟨b,o,c,hv,qq3 hlt hb.size,fun k hk=>(hb.cell (p:=⟨b,o+k,none⟩) hlt).trans (hc k hk)⟩
def Yy(ts:Zl)(T:Nat→Bool)(k:Nat):Bool:=!T k&&!(Za ts k).any (fun y=>!T y.toNat)
def ZP(ts:Zl)(T:Nat→Bool)(r:Int):Prop:=
 (∃k:Nat,k<ts.length∧(∀j,j<k→Yy ts T j=false)∧Yy ts T k=true∧r=k)∨((∀j,j<ts.length→Yy ts T j=false)∧r=-1)
theorem ZP.some{ts:Zl}{T:Nat→Bool}(k:Nat)(h1:k<ts.length)(h2:∀j,j<k→Yy ts T j=false)(h3:Yy ts T k=true):ZP ts T k:=Or.inl ⟨k,h1,h2,h3,rfl⟩
theorem ZP.none{ts:Zl}{T:Nat→Bool}(h:∀j,j<ts.length→Yy ts T j=false):ZP ts T (-1):=Or.inr ⟨h,rfl⟩
theorem ZP.elim{ts:Zl}{T:Nat→Bool}{motive:∀r,ZP ts T r→Prop}(some:∀(k:Nat) (h1:k<ts.length) (h2:∀j,j<k→Yy ts T j=false) (h3:Yy ts T k=true),motive k (ZP.some k h1 h2 h3))
  (none:∀h:∀j,j<ts.length→Yy ts T j=false,motive (-1) (ZP.none h)) {r:Int} (h:ZP ts T r):motive r h:=by
 rcases h with⟨k,h1,h2,h3,rfl⟩|⟨h,rfl⟩
 ·exact some k h1 h2 h3
 ·exact none h
theorem zci(x:Int)(n:Nat)(T:Nat→Bool)(a:Addr)(pv:Value)(w:World)(hc:w.cell? a=some pv)(hp:Yl w pv n T)(h0:0≤x)(hx:x<n) :
  Calls Tryz.prog 219 (#[.int .i64 x]++#[.pointer (some a)]) w fun e w'=>e=.returned (.bool (!T x.toNat))∧w'=w:=by
 show Calls Tryz.prog 219 #[.int .i64 x,.pointer (some a)] w _
 obtain⟨b,o,c,rfl,hlt,hb⟩:=hp
 obtain⟨y,rfl⟩:=qc h0
 have hcell:=hb y (by omega)
 rw[Int.toNat_natCast]
 clear hb h0
 cases hT:T y
 all_goals
  rw[hT]at hcell
  clear hT
  go_enter Tryz.func219,Tryz.ntmps219
  go_wp2
  go_ret
  exact⟨rfl,rfl⟩
theorem enters32:∀args w,(callFunc 219 args).run Tryz.prog w=.ok (.enter 219 args) w:=enters_of Tryz.func219 (by kernel_rfl) rfl
set_option maxRecDepth 100000 in
set_option maxHeartbeats 4000000 in
theorem zdF(v pv:Value)(ts:Zl)(T:Nat→Bool)(w:World)(hp:Zf w v ts)(hr:ZA ts)(hb:Yl w pv ts.length T) :
  Calls Tryz.prog 202 #[v,pv] w fun e w'=>(∃r,e=.returned (.int .i64 r)∧ZP ts T r)∧Below w.heap.size w w':=by
 obtain⟨hl,a,c,rfl,hp⟩:=hp
 have HB:Hid (Yl w pv ts.length T):=hb
 obtain⟨pb,po,pc,rfl,hpb,hpc⟩:=hb
 have HPC:Hid (∀k,k<ts.length→w.cell? ⟨pb,po+k,none⟩=some (.bool (T k))):=hpc
 have HR:Hid (ZA ts):=hr
 clear hpc hr
 go_enter Tryz.func202,Tryz.ntmps202
 go_wp2
 go_loopw [11] (fun s11 wr=>∃k:Nat,k≤ts.length∧s11=.int .i64 k∧Below (w.heap.size+1) (w.alloc (.cells #[.slice (some ⟨pb,po,none⟩) ts.length pc] 84)) wr∧Hid (∀j,j<k→Yy ts T j=false)) (fun s11 _=>ts.length-(intOf s11).toNat)
 case atStart=>exact⟨0,Nat.zero_le _,rfl,qq4 _ _,fun j hj=>by omega⟩
 case round=>
  obtain⟨k,hk,rfl,hB,hno⟩:=hrel
  have hBw:Below w.heap.size w wr:=((qq4 _ _).alloc (qq1 _) _).trans (hB.mono (by omega))
  have hbox:wr.cell? ⟨w.heap.size,0,none⟩=some (.slice (some ⟨pb,po,none⟩) ts.length pc):=(hB.cell (p:=⟨w.heap.size,0,none⟩) (by show w.heap.size<w.heap.size+1;omega)).trans (by simp)
  by_cases hkl:k<ts.length
  ·rcases hp with rfl|⟨b,o,rfl,hbl,hc⟩
   ·simp at hkl
   obtain⟨hc1,nv,hc2,hin⟩:=hc k hkl
   obtain⟨a2,c2,rfl⟩:∃a2 c2,nv=.slice a2 (Za ts k).length c2:=by
    obtain⟨_,a2,c2,h,_⟩:=hin
    exact⟨a2,c2,h⟩
   have hc1':=(hBw.cell (p:=⟨b,o+k*2,none⟩) hbl).trans hc1
   have hc2':=(hBw.cell (p:=⟨b,o+k*2+1,none⟩) hbl).trans hc2
   have hpk:=(hBw.cell (p:=⟨pb,po+k,none⟩) hpb).trans (HPC.out k hkl)
   have hsz:w.heap.size<wr.heap.size:=by have:=hB.size;simp at this;omega
   have hpbr:pb<wr.heap.size:=by omega
   have hBx:Below w.heap.size w (wr.alloc (.cells #[.int .i64 (ts.getD k (0,[])).1,.slice a2 (Za ts k).length c2] 94)):=hBw.alloc hBw.size _
   have hbx:(wr.alloc (.cells #[.int .i64 (ts.getD k (0,[])).1,.slice a2 (Za ts k).length c2] 94)).cell? ⟨w.heap.size,0,none⟩=some (.slice (some ⟨pb,po,none⟩) ts.length pc):=by
    rw[World.cell?_alloc_lt _ _ ⟨w.heap.size,0,none⟩ hsz];exact hbox
   have hpred:XV 219 #[.pointer (some ⟨w.heap.size,0,none⟩)] (fun y=>!T y.toNat) (Za ts k) (wr.alloc (.cells #[.int .i64 (ts.getD k (0,[])).1,.slice a2 (Za ts k).length c2] 94)):=
    ⟨enters32,fun x hx=>zci x ts.length T _ _ _ hbx (HB.out.later hBx) (HR.out k hkl x hx).1 (HR.out k hkl x hx).2⟩
   have hcf:=yA _ _ 219 _ _ _ (hin.later hBx) hpred
   clear hc hc1 hc2 hin hpred hbx
   generalize (ts.getD k (0,[])).1=wk at *
   cases hT:T k
   ·rw[hT]at hpk
    cases ha:(Za ts k).any (fun y=>!T y.toNat)
    ·have HF:Hid (Yy ts T k=true):=by simp only[Yy,hT,ha,Hid];rfl
     rw[ha]at hcf
     clear hT ha
     go_wp2_with (go_at_call 111;refine hcf.mono ?_;rintro e w' ⟨rfl,rfl⟩)
     go_ret
     exact⟨⟨k,rfl,ZP.some k hkl hno.out HF.out⟩,hBx⟩
    ·have HF:Hid (Yy ts T k=false):=by simp only[Yy,hT,ha,Hid];rfl
     rw[ha]at hcf
     clear hT ha
     go_wp2_with (go_at_call 111;refine hcf.mono ?_;rintro e w' ⟨rfl,rfl⟩)
     go_roundw
     case rel=>
      refine⟨k+1,by omega,by go_num,hB.alloc (by omega) _,fun j hj=>?_⟩
      by_cases e:j=k
      ·subst e;exact HF.out
      ·exact hno.out j (by omega)
     case measure=>simp[intOf];omega
   ·rw[hT]at hpk
    have HF:Hid (Yy ts T k=false):=by simp only[Yy,hT,Hid];rfl
    clear hT hcf
    go_wp2
    go_roundw
    case rel=>
     refine⟨k+1,by omega,by go_num,hB.alloc (by omega) _,fun j hj=>?_⟩
     by_cases e:j=k
     ·subst e;exact HF.out
     ·exact hno.out j (by omega)
    case measure=>simp[intOf];omega
  ·clear hp
   go_wp2
   go_ret
   exact⟨⟨-1,rfl,ZP.none (fun j hj=>hno.out j (by omega))⟩,hBw⟩
end
end Go.Proofs.YtlfbdjeojgbniaaGreatDoor

import Derived.Test.YtlfbdjeojgbniaaGreatDoorRan43
namespace Go.Proofs.YtlfbdjeojgbniaaGreatDoor
section
open Go.RowKit Go.Deep
set_option maxRecDepth 100000 in
set_option maxHeartbeats 4000000 in
theorem qJ(n:Nat)(ih:YM 136 .link n):YM 101 .chain n:=by
 intro R l i ts w hl hi hn hts hr
 have hRl:=hr.lt
 have hch:=ih R l i ts _ hl hi hn hts (hr.alloc (.cells #[.slice none 0 0,.slice none 0 0,.int .i64 0,.int .i64 0] 138))
 have HIH:Hid (YM 136 .link n):=ih
 clear hr ih
 go_enter Tryz.func101,Tryz.ntmps101
 go_wp2_with fail
 refine hch.mono ?_;clear hch
 rintro e w1 ⟨hk,k,fv,lv,zf,zl,wk,sp,rfl,hik,hkl,hcl,hc⟩
 obtain⟨fa,fc,rfl⟩:=hcl.first.shape
 obtain⟨la,lc,rfl⟩:=hcl.last.shape
 have HLS:Hid (YN .chain .chainL R l i ts w w1.heap.size (w1.alloc (.cells #[.slice fa zf.length fc,.slice la zl.length lc,.int .i64 wk,.int .i64 sp] 138)) k (.slice fa zf.length fc) (.slice la zl.length lc) zf zl wk sp):=YN.start (fun _ h=>Gr.chainNo h) (fun _ _ _ _ h1 h2=>Gr.chainOf h1 h2) hRl hk hik hkl hcl hc
 unfold Yf
 clear hk hik hkl hcl hc
 go_wp2_with fail
 obtain⟨B3,hB3⟩:∃B3,w1.heap.size=B3:=⟨_,rfl⟩
 rw[hB3]at HLS ⊢
 go_loopg [] l.length (fun gg wr=>∃k fv lv zf zl wk sp,Hid (YN .chain .chainL R l i ts w B3 wr k fv lv zf zl wk sp)∧l.length-k≤gg)
 case atStart=>exact⟨k,_,_,_,_,_,_,HLS,by omega⟩
 case round=>
  clear HLS
  obtain⟨k,fv,lv,zf,zl,wk,sp,HL,hgg⟩:=hrel
  obtain⟨G,hGk⟩:∃G,G=gk:=⟨_,rfl⟩
  obtain⟨fa,fc,rfl⟩:=HL.out.cl.first.shape
  obtain⟨la,lc,rfl⟩:=HL.out.cl.last.shape
  obtain⟨e,ts',hee,hrw⟩:=HL.out.fault
  have hnx:=yD R l k e ts' 59 wr hl HL.out.kl hrw
  have hlo:=HL.out.lo
  by_cases hb:Yh e l k 59=true
  ·rw[hb]at hnx
   change Calls Tryz.prog 102 #[.pointer (some ⟨R,0,none⟩),.int .u8 59] _ _ at hnx
   obtain⟨rfl,hhead⟩:=zb3 hb
   have hik:=HL.out.ik
   obtain⟨hkL,hdr⟩:=jV hhead
   rcases HL.out.st with⟨_,ts2,_,hbad⟩|⟨t,hgr,hct,hzf,hzl,hwk,hsp,hrw0⟩
   ·exact absurd (hrw.same hbad) (by decide)
   have HRW:Hid (∀q,Rw R l (k+1) 0 (t.lay V2 ts) ((wr.drewN q).setCell ⟨R,1,none⟩ (.int .i64 (k+1:Nat)))):=fun q=>(hrw0.drewN q).place (k+1)
   obtain⟨_,h1,_,hf⟩:=hrw0.cells
   have hf1:=hf 1
   have hlen:(t.lay V2 ts).length=ts.length+t.count:=t.lay_length V2 ts
   have HST:Hid ((∀r,Gr (.chainL t) (l.drop k) r→Gr .chain (l.drop i) r)∧zf=Zj (t.first ts.length)∧zl=Zj (t.last ts.length)∧wk=t.work V2∧sp=t.span V2∧l.drop k=59::l.drop (k+1)):=⟨hgr,hzf,hzl,hwk,hsp,hdr⟩
   have HRT:Hid (∃cs,wr.heap[R]?=some (.cells cs 136 (0,0))):=hrw0.typed
   clear hgr hzf hzl hwk hsp hdr hrw hrw0 hf hb hhead
   go_wp2_with (first|(go_at_call 102;refine hnx.mono ?_;clear hnx;rintro e w' ⟨rfl,nn,rfl⟩))
   refine(HIH.out R l (k+1) (t.lay V2 ts) _ hl (by omega) (by omega) (by omega) ?hrw).mono ?_
   case hrw=>exact HRW.out nn
   rintro e w3 ⟨hk3,k2,fv2,lv2,zf2,zl2,wk2,sp2,rfl,hik2,hkl2,hcl2,hcase⟩
   have hk3':Kp R ((wr.drewN nn).setCell ⟨R,1,none⟩ (.int .i64 (k+1:Nat))) w3:=hk3
   have hRr:R<wr.heap.size:=by have:=HL.out.kp.size;omega
   have hB3w:((wr.drewN nn).setCell ⟨R,1,none⟩ (.int .i64 (k+1:Nat))).heap[B3]?=some (.cells #[.slice fa zf.length fc,.slice la zl.length lc,.int .i64 wk,.int .i64 sp] 138 (0,0)):=(qq5 _ _ _ _ (by show B3≠R;omega)).trans HL.out.b3
   have hN0w:((wr.drewN nn).setCell ⟨R,1,none⟩ (.int .i64 (k+1:Nat))).heap[w.heap.size]?=some (.cells #[.slice none 0 0,.slice none 0 0,.int .i64 0,.int .i64 0] 138 (0,0)):=(qq5 _ _ _ _ (by show w.heap.size≠R;omega)).trans HL.out.n0
   have hB3_3:=hk3'.other hB3w (by omega) (by decide)
   have hN0_3:=hk3'.other hN0w (by omega) (by decide)
   obtain⟨cR,hcR⟩:=(HRW.out nn).typed
   obtain⟨cR0,hcR0⟩:=HRT.out
   have hcl3:Z7 w.heap.size w3 (.slice fa zf.length fc) (.slice la zl.length lc) zf zl wk sp i k:=((HL.out.cl.kinds (w':=wr.drewN nn) (fun _ _ _ _=>rfl)).kinds (fun q cs fr hq=>qq5 _ _ _ _ (by show q≠R;exact zO (w:=wr.drewN nn) hcR0 hq (by decide)))).kpw hcR hk3'
   have hKP3:Kp R w w3:=((HL.out.kp.drewN nn).setR 1 _).trans hk3'
   have hs3:w.heap.size≤((wr.drewN nn).setCell ⟨R,1,none⟩ (.int .i64 (k+1:Nat))).heap.size:=by have:=HL.out.kp.size;simpa using this
   have hcl2':Z7 w.heap.size w3 fv2 lv2 zf2 zl2 wk2 sp2 (k+1) k2:=Z7.mono (b:=((wr.drewN nn).setCell ⟨R,1,none⟩ (.int .i64 (k+1:Nat))).heap.size) hcl2 hs3
   clear hk3 hcl2 hB3w hN0w hcR hcR0 HRT hs3 h1 hf1 hk3' HL HRW
   obtain⟨fa2,fc2,rfl⟩:=hcl2'.first.shape
   obtain⟨la2,lc2,rfl⟩:=hcl2'.last.shape
   unfold Yf
   have hB3l:B3<w3.heap.size:=lt_of_block hB3_3
   have hB3_4:=(blk_alloc_lt w3 (.cells #[.slice fa2 zf2.length fc2,.slice la2 zl2.length lc2,.int .i64 wk2,.int .i64 sp2] 138) B3 hB3l).trans hB3_3
   have hN0_4:=(blk_alloc_lt w3 (.cells #[.slice fa2 zf2.length fc2,.slice la2 zl2.length lc2,.int .i64 wk2,.int .i64 sp2] 138) w.heap.size (lt_of_block hN0_3)).trans hN0_3
   have hB4_4:=blk_alloc_new w3 (.cells #[.slice fa2 zf2.length fc2,.slice la2 zl2.length lc2,.int .i64 wk2,.int .i64 sp2] 138)
   have hc4:=hcl3.alloc (.cells #[.slice fa2 zf2.length fc2,.slice la2 zl2.length lc2,.int .i64 wk2,.int .i64 sp2] 138)
   have hd4:=hcl2'.alloc (.cells #[.slice fa2 zf2.length fc2,.slice la2 zl2.length lc2,.int .i64 wk2,.int .i64 sp2] 138)
   have hKP4:=hKP3.alloc (.cells #[.slice fa2 zf2.length fc2,.slice la2 zl2.length lc2,.int .i64 wk2,.int .i64 sp2] 138)
   have hcase4:(Gr .link (l.drop (k+1)) none∧∃ts',ts'.length≤k2∧Rw R l k2 2 ts' (w3.alloc (.cells #[.slice fa2 zf2.length fc2,.slice la2 zl2.length lc2,.int .i64 wk2,.int .i64 sp2] 138)))∨(∃t2,Gr .link (l.drop (k+1)) (some (t2,l.drop k2))∧ts.length+t.count+t2.count≤k2∧zf2=Zj (t2.first (ts.length+t.count))∧zl2=Zj (t2.last (ts.length+t.count))∧wk2=t2.work V2∧sp2=t2.span V2∧Rw R l k2 0 (t2.lay V2 (t.lay V2 ts)) (w3.alloc (.cells #[.slice fa2 zf2.length fc2,.slice la2 zl2.length lc2,.int .i64 wk2,.int .i64 sp2] 138))):=by
    rw[hlen]at hcase
    rcases hcase with⟨hg,ts3,h3,hr3⟩|⟨t2,hg,g1,g2,g3,g4,g5,hr3⟩
    ·exact Or.inl ⟨hg,ts3,h3,hr3.alloc _⟩
    ·exact Or.inr ⟨t2,hg,g1,g2,g3,g4,g5,hr3.alloc _⟩
   clear hcase
   obtain⟨B4,hB4⟩:∃B4,w3.heap.size=B4:=⟨_,rfl⟩
   rw[hB4]at hB4_4 hB3l
   have hw34:(w3.alloc (.cells #[.slice fa2 zf2.length fc2,.slice la2 zl2.length lc2,.int .i64 wk2,.int .i64 sp2] 138)).heap.size=B4+1:=by rw[nblk_alloc,hB4]
   have HB4:Hid (w3.heap.size=B4):=hB4
   obtain⟨w4,hw4⟩:∃w4,w4=w3.alloc (.cells #[.slice fa2 zf2.length fc2,.slice la2 zl2.length lc2,.int .i64 wk2,.int .i64 sp2] 138):=⟨_,rfl⟩
   rw[←hw4]at hB3_4 hN0_4 hB4_4 hc4 hd4 hKP4 hcase4 hw34
   have hlf:=hc4.lf
   have hll:=hc4.ll
   have hlf2:=hd4.lf
   have hll2:=hd4.ll
   obtain⟨r0,r1,r2,r3,rf⟩:=zm hB3_4
   obtain⟨s0,s1,s2,s3,_⟩:=zm hB4_4
   go_upto_region 5 with fail
   rw[←hw4]
   have HW4:Hid (w4=w3.alloc (.cells #[.slice fa2 zf2.length fc2,.slice la2 zl2.length lc2,.int .i64 wk2,.int .i64 sp2] 138)):=hw4
   clear hw4 hB4
   have hcb:=hc4
   have hdb:=hd4
   have x1:=hcb.w0
   have x2:=hcb.w1
   have x3:=hcb.s0
   have x4:=hcb.s1
   have x5:=hdb.w0
   have x6:=hdb.w1
   have x7:=hdb.s0
   have x8:=hdb.s1
   clear hB3_3 hN0_3 hcl3 hKP3 hcl2' HB4 HW4
   rcases hcase4 with⟨hg,ts3,h3,hr3⟩|⟨t2,hg,g1,g2,g3,g4,g5,hr3⟩
   ·obtain⟨_,_,h33,_⟩:=hr3.cells
    have HEND:Hid (Z2 .chain R l i ts w (.returned (Yf (.slice fa zf.length fc) (.slice la zl.length lc) wk sp)) (setP w4 w.heap.size (.slice fa zf.length fc) (.slice la zl.length lc) (.int .i64 wk) (.int .i64 sp))):=by
     have hS:YN .chain .chainL R l i ts w B3 w4 k2 (.slice fa zf.length fc) (.slice la zl.length lc) zf zl wk sp:=by
      obtain⟨hgr,_,_,_,_,hdr⟩:=HST.out
      exact⟨by omega,hkl2,⟨hc4.first,hc4.last,by omega,by omega,x1,by omega,x3,by omega⟩,hB3_4,hN0_4,hKP4,hlo,Or.inl ⟨hgr _ (by rw[hdr];exact Gr.chainBad hg),ts3,h3,hr3⟩⟩
     exact hS.done (fun t' h=>absurd (hr3.same h) (by decide))
    have HN0:Hid (w4.heap[w.heap.size]?=some (.cells #[.slice none 0 0,.slice none 0 0,.int .i64 0,.int .i64 0] 138 (0,0))):=hN0_4
    obtain⟨q0,q1,q2,q3,qf⟩:=zm hN0_4
    have qf0:=qf 0
    have qf1:=qf 1
    have qf2:=qf 2
    have qf3:=qf 3
    clear qf hr3 hg hc4 hd4 hcb hdb hKP4 hN0_4 hB4_4 HST
    go_wp2
    exact zH (b:=w.heap.size) rfl (zp HN0.out _ _ _ _) rfl rfl HEND.out
   ·obtain⟨_,_,h33,_⟩:=hr3.cells
    have HLAY:Hid (Lay2 R l ts w B3 B4 w4 t t2 i k k2 0 (.slice fa zf.length fc) (.slice la zl.length lc) (.slice fa2 zf2.length fc2) (.slice la2 zl2.length lc2) zf zl zf2 zl2 wk sp wk2 sp2):=⟨by rw[List.take_zero];exact hr3,hc4,hd4,hB3_4,hB4_4,hN0_4,hKP4⟩
    have HG2:Hid (Gr .link (l.drop (k+1)) (some (t2,l.drop k2))∧zf2=Zj (t2.first (ts.length+t.count))∧zl2=Zj (t2.last (ts.length+t.count))∧wk2=t2.work V2∧sp2=t2.span V2):=⟨hg,g2,g3,g4,g5⟩
    have HZL:Hid (zf2.length=(t2.first (ts.length+t.count)).length):=by show _=_;rw[g2,zi]
    clear hr3 hg g2 g3 g4 g5 hc4 hd4 hKP4 hN0_4 hB3_4 hB4_4 r0 r1 r2 r3 rf s0 s1 s2 s3 hcb hdb
    go_wp2_with fail
    go_loopg [5] zf2.length (fun gg s5 wr=>∃j:Nat,j≤zf2.length∧s5=.int .i64 j∧Hid (Lay2 R l ts w B3 B4 wr t t2 i k k2 j (.slice fa zf.length fc) (.slice la zl.length lc) (.slice fa2 zf2.length fc2) (.slice la2 zl2.length lc2) zf zl zf2 zl2 wk sp wk2 sp2)∧zf2.length-j≤gg)
    case atStart=>exact⟨0,Nat.zero_le _,rfl,HLAY,by omega⟩
    case round=>
     clear HLAY
     obtain⟨j,hj,rfl,HY,hgj⟩:=hrel
     obtain⟨s0,s1,s2,s3,_⟩:=zm HY.out.b4
     obtain⟨r0,r1,r2,r3,rf⟩:=zm HY.out.b3
     by_cases hjl:j<zf2.length
     ·have hjI:(j:Int)<(zf2.length:Int):=by omega
      have hjf:j<(t2.first (ts.length+t.count)).length:=by have:=HZL.out;omega
      have hfirst:=HY.out.d.first
      obtain⟨fg2,fc3,hfe⟩:=zB (v:=.slice fa2 zf2.length fc2) hfirst (by omega)
      simp only[Value.slice.injEq]at hfe
      obtain⟨rfl,_,rfl⟩:=hfe
      have hcell:=hfirst.cell hjl
      have hxj:zf2.getD j 0=((t2.first (ts.length+t.count)).getD j 0:Nat):=by rw[HG2.out.2.1];simp[Zj,hjf]
      rw[hxj]at hcell
      have hxr:=t2.first_range (ts.length+t.count) ((t2.first (ts.length+t.count)).getD j 0) (by rw[qq6,qq7 hjf];exact List.getElem_mem hjf)
      have HSU:=jb (t2.first (ts.length+t.count)) (Zj (t.last ts.length)) (t2.lay V2 (t.lay V2 ts)) hjf
      have hlenT:(t2.lay V2 (t.lay V2 ts)).length=ts.length+t.count+t2.count:=by rw[t2.lay_length,hlen]
      have hneed:=zdB (t2.first (ts.length+t.count)) (t2.first_sorted _) (Zj (t.last ts.length)) (t2.lay V2 (t.lay V2 ts)) hjf (by omega)
      have hfree:=t2.first_free V2 (t.lay V2 ts) ((t2.first (ts.length+t.count)).getD j 0) (by rw[hlen,qq6,qq7 hjf];exact List.getElem_mem hjf)
      rw[hfree]at hneed
      have hlenS:(YB ((t2.first (ts.length+t.count)).take j) (Zj (t.last ts.length)) (t2.lay V2 (t.lay V2 ts))).length=ts.length+t.count+t2.count:=by rw[yM,hlenT]
      generalize hx:(t2.first (ts.length+t.count)).getD j 0=x at *
      clear hx hxj hfree
      obtain⟨g,cap,htv⟩:∃g cap,wr.cell? ⟨R,2,none⟩=some (.slice (some ⟨g,0,none⟩) (ts.length+t.count+t2.count) cap):=by
       obtain⟨tv,hRb,htr⟩:=HY.out.rw
       obtain⟨xs,ho,_⟩:=htr
       rw[hlenS]at ho
       obtain⟨g,cap,rfl⟩:=zB ho (by omega)
       exact⟨g,cap,by simp[World.cell?,hRb]⟩
      obtain⟨_,hgR,⟨cT,hT⟩,htr⟩:=HY.out.rw.row htv
      obtain⟨⟨nv,hnvc,hnv⟩,hfx⟩:=zfm htr (x:=x) (by omega)
      rw[hneed]at hnv
      obtain⟨na,nc,rfl⟩:=hnv.shape
      have hap:=fun (ty:TypeId) (wx:World)=>xK ty none 0 0 na nc wx (qq1 _)
      simp only[List.length_nil]at hnvc
      have hxI:(x:Int)<((ts.length+t.count+t2.count:Nat):Int):=by omega
      have hxN:x<ts.length+t.count+t2.count:=by omega
      have hRw:R<wr.heap.size:=HY.out.rw.lt
      have hzll:zl.length≤200:=by omega
      have HXR:Hid (ts.length+t.count≤x∧x<ts.length+t.count+t2.count):=by show _∧_;omega
      clear hfirst hnv hneed htr hxr
      go_wp2
      have HS:wr.drew.cell? ⟨R,2,none⟩=some (.slice (some ⟨g,0,none⟩) (ts.length+t.count+t2.count) cap)∧wr.drew.cell? ⟨B4,0,none⟩=some (.slice (some ⟨fg2,0,none⟩) zf2.length fc2)∧wr.drew.cell? ⟨fg2,j,none⟩=some (.int .i64 (x:Nat))∧wr.drew.cell? ⟨g,x*2+1,none⟩=some (.slice na 0 nc):=⟨htv,s0,hcell,hnvc⟩
      refine wp_region_held (S:=fun W'=>W'.cell? ⟨R,2,none⟩=some (.slice (some ⟨g,0,none⟩) (ts.length+t.count+t2.count) cap)∧W'.cell? ⟨B4,0,none⟩=some (.slice (some ⟨fg2,0,none⟩) zf2.length fc2)∧W'.cell? ⟨fg2,j,none⟩=some (.int .i64 (x:Nat))∧W'.cell? ⟨g,x*2+1,none⟩=some (.slice na 0 nc)) (by kernel_rfl) ?_
      refine zc (i:=0) (v:=.slice none 0 0) (some 32) rfl rfl (by kernel_rfl) (by kernel_rfl) (by kernel_rfl) (fun _ _ _ h=>h) (Or.inl ⟨by rfl,fun wz hz=>zab rfl (by kernel_rfl)⟩) HS ?_
      refine zc (i:=1) (v:=.pointer (some ⟨R,0,none⟩)) (some 33) rfl rfl (by kernel_rfl) (by kernel_rfl) (by kernel_rfl) (fun _ _ _ h=>h) (Or.inl ⟨by rfl,fun wz hz=>zab rfl (by kernel_rfl)⟩) HS ?_
      refine zc (i:=2) (v:=.pointer (some ⟨R,0,none⟩)) (some 34) rfl rfl (by kernel_rfl) (by kernel_rfl) (by kernel_rfl) (fun _ _ _ h=>h) (Or.inl ⟨by rfl,fun wz hz=>ziT (q:=⟨R,0,none⟩) rfl (by kernel_rfl)⟩) HS ?_
      refine zc (i:=3) (v:=.pointer (some ⟨R,2,none⟩)) (some 35) rfl rfl (by kernel_rfl) (by kernel_rfl) (by kernel_rfl) (fun _ _ _ h=>h) (Or.inl ⟨by rfl,fun wz hz=>zb7 (g:=R) rfl (by kernel_rfl)⟩) HS ?_
      refine zc (i:=4) (v:=.slice (some ⟨g,0,none⟩) (ts.length+t.count+t2.count) cap) (some 36) rfl rfl (by kernel_rfl) (by kernel_rfl) (by kernel_rfl) (fun _ _ _ h=>h) (Or.inl ⟨by rfl,fun wz hz=>zdP (q:=⟨R,2,none⟩) rfl (by kernel_rfl) hz.1⟩) HS ?_
      refine zc (i:=5) (v:=.pointer (some ⟨B4,0,none⟩)) (some 37) rfl rfl (by kernel_rfl) (by kernel_rfl) (by kernel_rfl) (fun _ _ _ h=>h) (Or.inl ⟨by rfl,fun wz hz=>zba (g:=B4) rfl (by kernel_rfl)⟩) HS ?_
      refine zc (i:=6) (v:=.slice (some ⟨fg2,0,none⟩) zf2.length fc2) (some 38) rfl rfl (by kernel_rfl) (by kernel_rfl) (by kernel_rfl) (fun _ _ _ h=>h) (Or.inl ⟨by rfl,fun wz hz=>jB (q:=⟨B4,0,none⟩) rfl (by kernel_rfl) hz.2.1⟩) HS ?_
      refine zc (i:=7) (v:=.int .i64 (j:Nat)) (some 39) rfl rfl (by kernel_rfl) (by kernel_rfl) (by kernel_rfl) (fun _ _ _ h=>h) (Or.inl ⟨by rfl,fun wz hz=>zab rfl (by kernel_rfl)⟩) HS ?_
      refine zc (i:=8) (v:=.pointer (some ⟨fg2,j,none⟩)) (some 40) rfl rfl (by kernel_rfl) (by kernel_rfl) (by kernel_rfl) (fun _ _ _ h=>h) (Or.inl ⟨by rfl,fun wz hz=>zb9 (g:=fg2) (L:=zf2.length) (cap:=fc2) (x:=j) rfl (by kernel_rfl) (by kernel_rfl) hjl⟩) HS ?_
      refine zc (i:=9) (v:=.int .i64 (x:Nat)) (some 41) rfl rfl (by kernel_rfl) (by kernel_rfl) (by kernel_rfl) (fun _ _ _ h=>h) (Or.inl ⟨by rfl,fun wz hz=>zfO (q:=⟨fg2,j,none⟩) rfl (by kernel_rfl) hz.2.2.1⟩) HS ?_
      refine zc (i:=10) (v:=.pointer (some ⟨g,x*2,none⟩)) (some 42) rfl rfl (by kernel_rfl) (by kernel_rfl) (by kernel_rfl) (fun _ _ _ h=>h) (Or.inl ⟨by rfl,fun wz hz=>zb8 (g:=g) (L:=ts.length+t.count+t2.count) (cap:=cap) (x:=x) rfl (by kernel_rfl) (by kernel_rfl) hxN⟩) HS ?_
      refine zc (i:=11) (v:=.pointer (some ⟨g,x*2+1,none⟩)) (some 43) rfl rfl (by kernel_rfl) (by kernel_rfl) (by kernel_rfl) (fun _ _ _ h=>h) (Or.inl ⟨by rfl,fun wz hz=>zb6 (g:=g) (n:=x*2) rfl (by kernel_rfl)⟩) HS ?_
      refine zc (i:=12) (v:=.slice na 0 nc) (some 44) rfl rfl (by kernel_rfl) (by kernel_rfl) (by kernel_rfl) (fun _ _ _ h=>h) (Or.inl ⟨by rfl,fun wz hz=>jB (q:=⟨g,x*2+1,none⟩) rfl (by kernel_rfl) hz.2.2.2⟩) HS ?_
      refine qF (i:=13) (some 45) (by kernel_rfl) rfl rfl (by rfl) (zdW (na:=na) (nc:=nc) rfl (by kernel_rfl) (by kernel_rfl)) HS ?_
      refine qF (i:=14) (some 6) (by kernel_rfl) rfl rfl (by rfl) (v:=.slice none 0 0) (w':=wr.drew) (zhU rfl (by kernel_rfl)) HS ?_
      refine wpAnyH_done (by kernel_rfl) ?_ _
      simp only[Act.put,List.setIfInBounds_toArray,List.set_cons_zero,List.set_cons_succ]
      have HNV:Hid (wr.cell? ⟨g,x*2+1,none⟩=some (.slice na 0 nc)):=hnvc
      clear HS hnvc hap
      go_wp2
      have HT:wr.drew.drew.cell? ⟨R,2,none⟩=some (.slice (some ⟨g,0,none⟩) (ts.length+t.count+t2.count) cap)∧wr.drew.drew.cell? ⟨B4,0,none⟩=some (.slice (some ⟨fg2,0,none⟩) zf2.length fc2)∧wr.drew.drew.cell? ⟨fg2,j,none⟩=some (.int .i64 (x:Nat))∧wr.drew.drew.cell? ⟨B3,1,none⟩=some (.slice la zl.length lc):=⟨htv,s0,hcell,r1⟩
      refine wp_region_held (S:=fun W'=>W'.cell? ⟨R,2,none⟩=some (.slice (some ⟨g,0,none⟩) (ts.length+t.count+t2.count) cap)∧W'.cell? ⟨B4,0,none⟩=some (.slice (some ⟨fg2,0,none⟩) zf2.length fc2)∧W'.cell? ⟨fg2,j,none⟩=some (.int .i64 (x:Nat))∧W'.cell? ⟨B3,1,none⟩=some (.slice la zl.length lc)) (by kernel_rfl) ?_
      refine zc (i:=0) (v:=.pointer (some ⟨R,0,none⟩)) (some 46) rfl rfl (by kernel_rfl) (by kernel_rfl) (by kernel_rfl) (fun _ _ _ h=>h) (Or.inl ⟨by rfl,fun wz hz=>zab rfl (by kernel_rfl)⟩) HT ?_
      refine zc (i:=1) (v:=.pointer (some ⟨R,0,none⟩)) (some 47) rfl rfl (by kernel_rfl) (by kernel_rfl) (by kernel_rfl) (fun _ _ _ h=>h) (Or.inl ⟨by rfl,fun wz hz=>ziT (q:=⟨R,0,none⟩) rfl (by kernel_rfl)⟩) HT ?_
      refine zc (i:=2) (v:=.pointer (some ⟨R,2,none⟩)) (some 48) rfl rfl (by kernel_rfl) (by kernel_rfl) (by kernel_rfl) (fun _ _ _ h=>h) (Or.inl ⟨by rfl,fun wz hz=>zb7 (g:=R) rfl (by kernel_rfl)⟩) HT ?_
      refine zc (i:=3) (v:=.slice (some ⟨g,0,none⟩) (ts.length+t.count+t2.count) cap) (some 49) rfl rfl (by kernel_rfl) (by kernel_rfl) (by kernel_rfl) (fun _ _ _ h=>h) (Or.inl ⟨by rfl,fun wz hz=>zdP (q:=⟨R,2,none⟩) rfl (by kernel_rfl) hz.1⟩) HT ?_
      refine zc (i:=4) (v:=.pointer (some ⟨B4,0,none⟩)) (some 50) rfl rfl (by kernel_rfl) (by kernel_rfl) (by kernel_rfl) (fun _ _ _ h=>h) (Or.inl ⟨by rfl,fun wz hz=>zba (g:=B4) rfl (by kernel_rfl)⟩) HT ?_
      refine zc (i:=5) (v:=.slice (some ⟨fg2,0,none⟩) zf2.length fc2) (some 51) rfl rfl (by kernel_rfl) (by kernel_rfl) (by kernel_rfl) (fun _ _ _ h=>h) (Or.inl ⟨by rfl,fun wz hz=>jB (q:=⟨B4,0,none⟩) rfl (by kernel_rfl) hz.2.1⟩) HT ?_
      refine zc (i:=6) (v:=.int .i64 (j:Nat)) (some 52) rfl rfl (by kernel_rfl) (by kernel_rfl) (by kernel_rfl) (fun _ _ _ h=>h) (Or.inl ⟨by rfl,fun wz hz=>zab rfl (by kernel_rfl)⟩) HT ?_
      refine zc (i:=7) (v:=.pointer (some ⟨fg2,j,none⟩)) (some 53) rfl rfl (by kernel_rfl) (by kernel_rfl) (by kernel_rfl) (fun _ _ _ h=>h) (Or.inl ⟨by rfl,fun wz hz=>zb9 (g:=fg2) (L:=zf2.length) (cap:=fc2) (x:=j) rfl (by kernel_rfl) (by kernel_rfl) hjl⟩) HT ?_
      refine zc (i:=8) (v:=.int .i64 (x:Nat)) (some 54) rfl rfl (by kernel_rfl) (by kernel_rfl) (by kernel_rfl) (fun _ _ _ h=>h) (Or.inl ⟨by rfl,fun wz hz=>zfO (q:=⟨fg2,j,none⟩) rfl (by kernel_rfl) hz.2.2.1⟩) HT ?_
      refine zc (i:=9) (v:=.slice none 0 0) (some 55) rfl rfl (by kernel_rfl) (by kernel_rfl) (by kernel_rfl) (fun _ _ _ h=>h) (Or.inl ⟨by rfl,fun wz hz=>zab rfl (by kernel_rfl)⟩) HT ?_
      refine zc (i:=10) (v:=.pointer (some ⟨B3,1,none⟩)) (some 56) rfl rfl (by kernel_rfl) (by kernel_rfl) (by kernel_rfl) (fun _ _ _ h=>h) (Or.inl ⟨by rfl,fun wz hz=>zfe (g:=B3) rfl (by kernel_rfl)⟩) HT ?_
      refine zc (i:=11) (v:=.slice la zl.length lc) (some 57) rfl rfl (by kernel_rfl) (by kernel_rfl) (by kernel_rfl) (fun _ _ _ h=>h) (Or.inl ⟨by rfl,fun wz hz=>jB (q:=⟨B3,1,none⟩) rfl (by kernel_rfl) hz.2.2.2⟩) HT ?_
      obtain⟨v5,w5,hrun5,hv5,hg5,hat5⟩:=xI 73 (B:=R+1) (w:=wr.drew.drew) (qD _ _) (HY.out.c.last.of_blocks (w':=wr.drew.drew) (fun _ _=>rfl)) (by simp;omega) (by show R+1≤wr.heap.size;omega)
      rw[List.nil_append]at hv5
      have hb5:Below wr.heap.size wr w5:=(qq4 wr.heap.size wr).grown (w':=w5) ⟨hg5.os,hg5.tape,hg5.output,hg5.size,hg5.block⟩ (qq1 _) (fun j e=>by simp[Value.ownBlock]at e)
      obtain⟨na5,nc5,rfl⟩:=hv5.shape
      have hgw:g<wr.heap.size:=lt_of_block hT
      have hT5:=(hb5.block g hgw).trans hT
      have hB3w:=lt_of_block HY.out.b3
      have hB4w:=lt_of_block HY.out.b4
      have hN0w:=lt_of_block HY.out.n0
      have hb35:=(hb5.block B3 hB3w).trans HY.out.b3
      have hb45:=(hb5.block B4 hB4w).trans HY.out.b4
      have hn05:=(hb5.block w.heap.size hN0w).trans HY.out.n0
      have hc5:=HY.out.c.kinds (w':=w5) (fun q cs fr hq=>hb5.block q (lt_of_block hq))
      have hd5:=HY.out.d.kinds (w':=w5) (fun q cs fr hq=>hb5.block q (lt_of_block hq))
      have hrw5:=HY.out.rw.of_below hb5
      have htv5:=(hb5.cell (p:=⟨R,2,none⟩) hRw).trans htv
      have hfgw:fg2<wr.heap.size:=(HY.out.d.first.low (k:=fg2) rfl).2
      obtain⟨cF,hF⟩:=hd5.first.block (k:=fg2) rfl
      obtain⟨cR5,hcR5⟩:=hrw5.typed
      have HT5:w5.cell? ⟨R,2,none⟩=some (.slice (some ⟨g,0,none⟩) (ts.length+t.count+t2.count) cap)∧w5.cell? ⟨B4,0,none⟩=some (.slice (some ⟨fg2,0,none⟩) zf2.length fc2)∧w5.cell? ⟨fg2,j,none⟩=some (.int .i64 (x:Nat))∧w5.cell? ⟨B3,1,none⟩=some (.slice la zl.length lc):=⟨htv5,(hb5.cell (p:=⟨B4,0,none⟩) hB4w).trans s0,(hb5.cell (p:=⟨fg2,j,none⟩) hfgw).trans hcell,(hb5.cell (p:=⟨B3,1,none⟩) hB3w).trans r1⟩
      have hnv5:=(hb5.cell (p:=⟨g,x*2+1,none⟩) hgw).trans HNV.out
      have hfx5:w5.frozen? ⟨g,x*2+1,none⟩=false:=(World.frozen?_of_block (a:=⟨g,x*2+1,none⟩) (hb5.block g hgw)).trans hfx
      have hoth:∀(q e:Nat) (cs:Array Value) (ty:TypeId) (fr:Nat×Nat),w5.heap[q]?=some (.cells cs ty fr)→ty≠94→(w5.setCell ⟨g,x*2+1,none⟩ (.slice na5 zl.length nc5)).cell? ⟨q,e,none⟩=w5.cell? ⟨q,e,none⟩:=fun q e cs ty fr hq hty=>qq9 (qq5 _ _ _ _ (by show q≠g;exact zO hT5 hq hty))
      have HT6:(w5.setCell ⟨g,x*2+1,none⟩ (.slice na5 zl.length nc5)).cell? ⟨R,2,none⟩=some (.slice (some ⟨g,0,none⟩) (ts.length+t.count+t2.count) cap)∧(w5.setCell ⟨g,x*2+1,none⟩ (.slice na5 zl.length nc5)).cell? ⟨B4,0,none⟩=some (.slice (some ⟨fg2,0,none⟩) zf2.length fc2)∧(w5.setCell ⟨g,x*2+1,none⟩ (.slice na5 zl.length nc5)).cell? ⟨fg2,j,none⟩=some (.int .i64 (x:Nat))∧(w5.setCell ⟨g,x*2+1,none⟩ (.slice na5 zl.length nc5)).cell? ⟨B3,1,none⟩=some (.slice la zl.length lc):=
       ⟨(hoth R 2 _ _ _ hcR5 (by decide)).trans HT5.1,(hoth B4 0 _ _ _ hb45 (by decide)).trans HT5.2.1,(hoth fg2 j _ _ _ hF (by decide)).trans HT5.2.2.1,(hoth B3 1 _ _ _ hb35 (by decide)).trans HT5.2.2.2⟩
      have HNEXT:Hid (Lay2 R l ts w B3 B4 (w5.setCell ⟨g,x*2+1,none⟩ (.slice na5 zl.length nc5)) t t2 i k k2 (j+1) (.slice fa zf.length fc) (.slice la zl.length lc) (.slice (some ⟨fg2,0,none⟩) zf2.length fc2) (.slice la2 zl2.length lc2) zf zl zf2 zl2 wk sp wk2 sp2):=
       {rw:=by
         rw[HSU,←HST.out.2.2.1]
         rw[←HST.out.2.2.1]at hrw5
         exact hrw5.setNeed htv5 (by rw[HST.out.2.2.1,hlenS];exact hxN) hv5
        c:=hc5.kinds (fun q cs fr hq=>(zJ hT5 _ _ hq (by decide)).trans hq.symm)
        d:=hd5.kinds (fun q cs fr hq=>(zJ hT5 _ _ hq (by decide)).trans hq.symm)
        b3:=zJ hT5 _ _ hb35 (by decide)
        b4:=zJ hT5 _ _ hb45 (by decide)
        n0:=zJ hT5 _ _ hn05 (by decide)
        kp:=(HY.out.kp.of_below hb5).grown (yJ w5 ⟨g,x*2+1,none⟩ _) (fun q e=>by cases e;exact Or.inr (Or.inr ⟨by show R<g;omega,cT,_,hT5⟩)) }
      clear hc5 hd5 hrw5 hb35 hb45 hn05 hoth hF hcR5 hg5 hat5 hv5 HSU hlenS hlenT
      refine qF (i:=12) (some 58) (by kernel_rfl) rfl rfl (by rfl) (zhT rfl (by kernel_rfl) (by kernel_rfl) hrun5) HT5 ?_
      refine zc (i:=13) (v:=.pointer (some ⟨g,x*2,none⟩)) (some 59) rfl rfl (by kernel_rfl) (by kernel_rfl) (by kernel_rfl) (fun _ _ _ h=>h) (Or.inl ⟨by rfl,fun wz hz=>zb8 (g:=g) (L:=ts.length+t.count+t2.count) (cap:=cap) (x:=x) rfl (by kernel_rfl) (by kernel_rfl) hxN⟩) HT5 ?_
      refine zc (i:=14) (v:=.pointer (some ⟨g,x*2+1,none⟩)) (some 60) rfl rfl (by kernel_rfl) (by kernel_rfl) (by kernel_rfl) (fun _ _ _ h=>h) (Or.inl ⟨by rfl,fun wz hz=>zb6 (g:=g) (n:=x*2) rfl (by kernel_rfl)⟩) HT5 ?_
      refine jc (i:=15) (w':=w5.setCell ⟨g,x*2+1,none⟩ (.slice na5 zl.length nc5)) (by kernel_rfl) rfl rfl (by rfl) (zaB (g:=g) (n:=x*2+1) (na:=na5) (L:=zl.length) (nc:=nc5) rfl (by kernel_rfl) (by kernel_rfl) hnv5 hfx5) HT6 ?_
      refine wpAnyH_done (by kernel_rfl) ?_ _
      clear HT HT5 HT6 hnv5 hfx5 htv5 hT5 hb5 HY htv hcell hT r0 r1 r2 r3 rf s0 s1 s2 s3 hrun5
      simp only[Act.put,List.setIfInBounds_toArray,List.set_cons_zero,List.set_cons_succ]
      go_wp2
      go_roundg (zf2.length-(j+1))
      case measure=>omega
      case rel=>exact⟨j+1,by omega,by go_num,HNEXT,qq1 _⟩
     ·have hje:j=(t2.first (ts.length+t.count)).length:=by have:=HZL.out;omega
      have hjI:¬(j:Int)<(zf2.length:Int):=by omega
      have rf0:=rf 0
      have rf1:=rf 1
      have rf2:=rf 2
      have rf3:=rf 3
      have hB34:¬B3=B4:=by omega
      have hrwE:=HY.out.rw
      rw[hje,List.take_length]at hrwE
      have HNEXT:Hid (YN .chain .chainL R l i ts w B3 (setP wr B3 (.slice fa zf.length fc) (.slice la2 zl2.length lc2) (.int .i64 (wk+wk2)) (.int .i64 (sp+sp2))) k2 (.slice fa zf.length fc) (.slice la2 zl2.length lc2) zf zl2 (wk+wk2) (sp+sp2)):=by
       obtain⟨hgr,hzf,hzl,hwk,hsp,hdr⟩:=HST.out
       obtain⟨hg,g2,g3,g4,g5⟩:=HG2.out
       have q1:=HY.out.c.lf
       have q2:=HY.out.d.ll
       refine⟨by omega,hkl2,⟨HY.out.c.first.setC HY.out.b3 _ _ _ _,HY.out.d.last.setC HY.out.b3 _ _ _ _,by omega,by omega,by omega,by omega,by omega,by omega⟩,zp HY.out.b3 _ _ _ _,(yi (by omega) _ _ _ _).trans HY.out.n0,HY.out.kp.setP (by omega) _ _ _ _,hlo,Or.inr ⟨.seq t t2,fun r h=>hgr r (by rw[hdr];exact Gr.chainMore hg h),by simp only[Tree.count];omega,?_,?_,?_,?_,?_⟩⟩
       ·simp only[Tree.first];exact hzf
       ·simp only[Tree.last];exact g3
       ·simp only[Tree.work];rw[hwk,g4]
       ·simp only[Tree.span];rw[hsp,g5]
       ·simp only[Tree.lay]
        exact hrwE.setC HY.out.b3 _ _ _ _
      have hw1:-9223372036854775808≤wk+wk2∧wk+wk2≤9223372036854775807:=by omega
      have hw2:-9223372036854775808≤sp+sp2∧sp+sp2≤9223372036854775807:=by omega
      clear HY hrwE hje rf HST HG2
      go_wp2
      go_roundg (l.length-k2)
      case measure=>omega
      case rel=>exact⟨k2,_,_,_,_,_,_,HNEXT,qq1 _⟩
  ·have hb':Yh e l k 59=false:=by simpa using hb
   rw[hb']at hnx
   change Calls Tryz.prog 102 #[.pointer (some ⟨R,0,none⟩),.int .u8 59] _ _ at hnx
   have HEND:Hid (∀q,Z2 .chain R l i ts w (.returned (Yf (.slice fa zf.length fc) (.slice la zl.length lc) wk sp)) (setP (wr.drewN q) w.heap.size (.slice fa zf.length fc) (.slice la zl.length lc) (.int .i64 wk) (.int .i64 sp))):=fun q=>(HL.out.drewN q).done (fun t h=>Gr.chainEnd (za3 hrw hb' (ts2:=t.lay V2 ts) (by obtain⟨tv,h1,h2⟩:=h;exact⟨tv,h1,h2.of_kinds (fun _ _ _ _=>rfl) (fun _ _ _ _=>rfl)⟩)))
   have HN0:Hid (∀q,(wr.drewN q).heap[w.heap.size]?=some (.cells #[.slice none 0 0,.slice none 0 0,.int .i64 0,.int .i64 0] 138 (0,0))):=fun q=>HL.out.n0
   obtain⟨q0,q1,q2,q3,qf⟩:=zm HL.out.n0
   have qf0:=qf 0
   have qf1:=qf 1
   have qf2:=qf 2
   have qf3:=qf 3
   obtain⟨r0,r1,r2,r3,_⟩:=zm HL.out.b3
   clear qf HL hrw hb hb'
   go_wp2_with (first|(go_at_call 102;refine hnx.mono ?_;clear hnx;rintro e w' ⟨rfl,nn,rfl⟩))
   exact zH (b:=w.heap.size) rfl (zp (HN0.out nn) _ _ _ _) rfl rfl (HEND.out nn)
theorem zij:∀n,YM 136 .link n∧YM 101 .chain n∧YM 63 .weave n:=by
 intro n
 induction n with
 | zero=>exact⟨za6,qJ 0 za6,zbO 0 (qJ 0 za6)⟩
 | succ n ih=>
  have h1:=zi1 n ih.2.2
  exact⟨h1,qJ _ h1,zbO _ (qJ _ h1)⟩
def Qq(l:List UInt8)(w:World)(e:Ending)(w':World):Prop:=
 Below w.heap.size w w'∧((∃q,q≠0∧Yg l q∧e=.returned (.tuple #[.slice none 0 0,.int .i64 0,.int .i64 0,.int .i64 q]))∨
  (∃t tv,YA l t∧e=.returned (.tuple #[tv,.int .i64 (t.work V1),.int .i64 (t.span V1),.int .i64 0])∧ZX w.heap.size w' tv (t.lay V1 [])))
theorem zgT{b:Nat}{A:Nat→Prop}{w:World}{v:Value}{ts:Zl}(h:RowT b A w v ts):∃a c,v=.slice a ts.length c∧∀j,j<ts.length→∃g,a=some ⟨g,0,none⟩∧w.cell? ⟨g,j*2,none⟩=some (.int .i64 (ts.getD j (0,[])).1):=by
 obtain⟨xs,ho,hx⟩:=h
 rcases ho.2 with⟨hv,hn⟩|⟨g,cap,cur,hv,hg,hh,_⟩
 ·exact⟨none,0,by rw[hv,hn],fun j hj=>by omega⟩
 ·subst hv
  exact⟨_,cap,rfl,fun j hj=>⟨g,rfl,by rw[ho.cellAt (j*2) (by omega)];exact(hx j hj).1⟩⟩
theorem zhC{t:Tree}(h:big (t.lay V2 [])=false):t.lay V2 []=t.lay V1 []∧t.work V2=t.work V1∧t.span V2=t.span V1:=by
 rw[zaL]at h
 have hs:=zgn h
 exact⟨t.lay_congr hs [],t.work_congr hs,t.span_congr hs⟩
set_option maxRecDepth 100000 in
set_option maxHeartbeats 4000000 in
theorem zbd(l:List UInt8)(w:World)(hl:l.length≤9223372036854775807):Calls Tryz.prog 27 #[.string ⟨l.toArray⟩] w (Qq l w):=by
 by_cases h200:200<l.length
 ·have h2:(200:Int)<(l.length:Int):=by omega
  go_enter Tryz.func27,Tryz.ntmps27
  go_wp2
  refine bodyPost_ret (v:=.tuple #[.slice none 0 0,.int .i64 0,.int .i64 0,.int .i64 4]) (by simp[results,go_sem]) rfl ?_
  exact⟨qq4 _ _,Or.inl ⟨4,by decide,Or.inl ⟨h200,rfl⟩,rfl⟩⟩
 ·have h2:¬(200:Int)<(l.length:Int):=by omega
  have hl2:l.length≤200:=by omega
  have hr0:Rw w.heap.size l 0 0 [] (w.alloc (.cells #[.string ⟨l.toArray⟩,.int .i64 0,.slice none 0 0,.int .i64 0] 136)):=⟨_,blk_alloc_new _ _,RowT.nil _ _ _⟩
  have hch:=(zij l.length).2.2 w.heap.size l 0 [] _ hl2 (Nat.zero_le _) (by omega) (Nat.zero_le _) hr0
  clear hr0
  go_enter Tryz.func27,Tryz.ntmps27
  go_wp2_with fail
  refine hch.mono ?_;clear hch
  rintro e w1 ⟨hk,k,fv,lv,zf,zl,wk,sp,rfl,hik,hkl,hcl,hc⟩
  obtain⟨fa,fc,rfl⟩:=hcl.first.shape
  obtain⟨la,lc,rfl⟩:=hcl.last.shape
  have hb1:Below w.heap.size w w1:=by
   have:=hk.below (by simp)
   exact((qq4 w.heap.size w).alloc (qq1 _) _).trans this
  have hs1:w.heap.size<w1.heap.size:=by have:=hk.size;simp at this;omega
  unfold Yf
  clear hcl hk
  have HB:Hid (Below w.heap.size w (w1.alloc (.cells #[.slice fa zf.length fc,.slice la zl.length lc,.int .i64 wk,.int .i64 sp] 138))):=hb1.alloc hb1.size _
  obtain⟨q0,q1,q2,q3,_⟩:=zm (blk_alloc_new w1 (.cells #[.slice fa zf.length fc,.slice la zl.length lc,.int .i64 wk,.int .i64 sp] 138))
  rcases hc with⟨hg,ts',hts,hr⟩|⟨t,hg,hct,hzf,hzl,hwk,hsp,hr⟩
  ·have hrA:=hr.alloc (.cells #[.slice fa zf.length fc,.slice la zl.length lc,.int .i64 wk,.int .i64 sp] 138)
   obtain⟨_,c1,c3,_⟩:=hrA.cells
   have HER:Hid (Yg l 2):=Or.inr (Or.inl ⟨hl2,⟨none,by simpa using hg,fun t h=>by cases h⟩,rfl⟩)
   clear hr hrA hg
   go_wp2
   refine bodyPost_ret (v:=.tuple #[.slice none 0 0,.int .i64 0,.int .i64 0,.int .i64 2]) (by simp[results,go_sem]) rfl ?_
   exact⟨HB.out,Or.inl ⟨2,by decide,HER.out,rfl⟩⟩
  ·rw[List.drop_zero]at hg
   have hrA:=hr.alloc (.cells #[.slice fa zf.length fc,.slice la zl.length lc,.int .i64 wk,.int .i64 sp] 138)
   obtain⟨_,c1,c3,_⟩:=hrA.cells
   have HRA:=hrA
   obtain⟨tv,hRb,htr⟩:=hrA
   have HTR:Hid (RowT (w.heap.size+1) (fun _=>True) (w1.alloc (.cells #[.slice fa zf.length fc,.slice la zl.length lc,.int .i64 wk,.int .i64 sp] 138)) tv (t.lay V2 [])):=htr
   have c2:(w1.alloc (.cells #[.slice fa zf.length fc,.slice la zl.length lc,.int .i64 wk,.int .i64 sp] 138)).cell? ⟨w.heap.size,2,none⟩=some tv:=by simp only[World.cell?,hRb];rfl
   have HZ:Hid (wk=t.work V2∧sp=t.span V2):=⟨hwk,hsp⟩
   obtain⟨pa,pc,rfl,hpc⟩:=zgT htr
   have HPC:Hid (∀j,j<(t.lay V2 []).length→∃g,pa=some ⟨g,0,none⟩∧(w1.alloc (.cells #[.slice fa zf.length fc,.slice la zl.length lc,.int .i64 wk,.int .i64 sp] 138)).cell? ⟨g,j*2,none⟩=some (.int .i64 ((t.lay V2 []).getD j (0,[])).1)):=hpc
   have hlen:(t.lay V2 []).length=t.count:=by rw[t.lay_length];simp
   have hcnt:t.count≤200:=by simp at hct;omega
   clear hr HRA hRb htr hpc hwk hsp hzf hzl
   by_cases hkk:k<l.length
   ·have hkI:(k:Int)<(l.length:Int):=by omega
    have HER:Hid (Yg l 2):=Or.inr (Or.inl ⟨hl2,⟨some (t,l.drop k),hg,fun t' h=>by
     simp only[Option.some.injEq,Prod.mk.injEq]at h
     have:=congrArg List.length h.2
     simp at this
     omega⟩,rfl⟩)
    clear hg
    go_wp2
    refine bodyPost_ret (v:=.tuple #[.slice none 0 0,.int .i64 0,.int .i64 0,.int .i64 2]) (by simp[results,go_sem]) rfl ?_
    exact⟨HB.out,Or.inl ⟨2,by decide,HER.out,rfl⟩⟩
   ·have hkI:¬(k:Int)<(l.length:Int):=by omega
    have HW:Hid (Whole l t):=by
     have hke:k=l.length:=by omega
     rw[hke,List.drop_length]at hg
     exact hg
    clear hg
    obtain⟨T,hT⟩:∃T,T=t.lay V2 []:=⟨_,rfl⟩
    rw[←hT]at HTR c2 HPC hlen
    have hTl:T.length≤200:=by omega
    have HT:Hid (T=t.lay V2 []):=hT
    clear hT hlen
    go_wp2
    go_loop [8] (fun s8=>∃j:Nat,j≤T.length∧s8=.int .i64 j∧Hid (∀m,m<j→(T.getD m (0,[])).1≤20)) (fun s8=>T.length-(intOf s8).toNat)
    case atStart=>exact⟨0,Nat.zero_le _,rfl,fun m hm=>by omega⟩
    case round=>
     obtain⟨j,hj,rfl,hno⟩:=hrel
     by_cases hjl:j<T.length
     ·obtain⟨g,rfl,hcj⟩:=HPC.out j hjl
      have hjI:(j:Int)<(T.length:Int):=by omega
      generalize hx:(T.getD j (0,[])).1=x at hcj
      have HX:Hid ((T.getD j (0,[])).1=x):=hx
      clear hx
      by_cases hgt:20<x
      ·have HER:Hid (Yg l 1):=by
        have hbig:big (t.lay V1 [])=true:=by
         rw[←zaL,←HT.out]
         exact zfE hjl (by rw[HX.out];exact hgt)
        have hbe:ZY (t.lay V1 [])=1:=by unfold ZY;rw[hbig];rfl
        exact Or.inr (Or.inr ⟨t,hl2,HW.out,by rw[hbe];decide,hbe.symm⟩)
       go_wp2
       refine bodyPost_ret (v:=.tuple #[.slice none 0 0,.int .i64 0,.int .i64 0,.int .i64 1]) (by simp[results,go_sem]) rfl ?_
       exact⟨HB.out,Or.inl ⟨1,by decide,HER.out,rfl⟩⟩
      ·go_wp2
       go_round
       case rel=>
        refine⟨j+1,by omega,by go_num,fun m hm=>?_⟩
        by_cases e:m=j
        ·subst e;rw[HX.out];omega
        ·exact hno.out m (by omega)
       case measure=>simp[intOf];omega
     ·have hjI:¬(j:Int)<(T.length:Int):=by omega
      have hnb:big T=false:=zhk (fun m hm=>hno.out m (by omega))
      rw[HT.out]at hnb
      obtain⟨e1,e2,e3⟩:=zhC hnb
      have hb1':big (t.lay V1 [])=false:=by rw[←zaL];exact hnb
      by_cases h30:30<T.length
      ·have h30I:(30:Int)<(T.length:Int):=by omega
       have HER:Hid (Yg l 4):=by
        have hbe:ZY (t.lay V1 [])=4:=by unfold ZY;rw[hb1',←e1,←HT.out,if_pos h30];rfl
        exact Or.inr (Or.inr ⟨t,hl2,HW.out,by rw[hbe];decide,hbe.symm⟩)
       clear e1 e2 e3 hnb hb1'
       go_wp2
       refine bodyPost_ret (v:=.tuple #[.slice none 0 0,.int .i64 0,.int .i64 0,.int .i64 4]) (by simp[results,go_sem]) rfl ?_
       exact⟨HB.out,Or.inl ⟨4,by decide,HER.out,rfl⟩⟩
      ·have h30I:¬(30:Int)<(T.length:Int):=by omega
       have HOK:Hid (YA l t):=⟨hl2,HW.out,by unfold ZY;rw[hb1',←e1,←HT.out,if_neg h30];rfl⟩
       have HPL:Hid (ZX w.heap.size (w1.alloc (.cells #[.slice fa zf.length fc,.slice la zl.length lc,.int .i64 wk,.int .i64 sp] 138)) (.slice pa T.length pc) (t.lay V1 [])):=by
        have:=HTR.out
        rw[HT.out,e1]at this
        rw[HT.out,e1]
        exact this.weaveNew (by omega) (by omega)
       have HWS:Hid (wk=t.work V1∧sp=t.span V1):=⟨HZ.out.1.trans e2,HZ.out.2.trans e3⟩
       clear e1 e2 e3 hnb hb1'
       go_wp2
       go_quiet (fail)
       go_wp2
       refine bodyPost_ret (v:=.tuple #[.slice pa T.length pc,.int .i64 wk,.int .i64 sp,.int .i64 0]) (by simp[results,go_sem]) rfl ?_
       refine⟨HB.out.trans ⟨rfl,rfl,rfl,qq1 _,fun _ _=>rfl⟩,Or.inr ⟨t,.slice pa T.length pc,HOK.out,by rw[HWS.out.1,HWS.out.2],?_⟩⟩
       exact HPL.out.later ⟨rfl,rfl,rfl,qq1 _,fun _ _=>rfl⟩
end
end Go.Proofs.YtlfbdjeojgbniaaGreatDoor

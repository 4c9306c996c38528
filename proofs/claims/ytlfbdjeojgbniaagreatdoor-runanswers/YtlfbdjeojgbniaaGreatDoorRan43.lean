import Derived.Test.YtlfbdjeojgbniaaGreatDoorRan42
namespace Go.Proofs.YtlfbdjeojgbniaaGreatDoor
section
open Go.RowKit Go.Deep
theorem za3{R:Nat}{l:List UInt8}{k:Nat}{e:Int}{c:UInt8}{ts':Zl}{wr:World}(hrw:Rw R l k e ts' wr)(hb:Yh e l k c=false){ts2:Zl}(h:Rw R l k 0 ts2 wr):(l.drop k).head?≠some c:=by
 obtain rfl:=hrw.same h
 intro hc
 unfold Yh at hb
 rw[hc]at hb
 simp at hb
theorem zb3{e:Int}{l:List UInt8}{k:Nat}{c:UInt8}(hb:Yh e l k c=true):e=0∧(l.drop k).head?=some c:=by
 unfold Yh at hb
 simpa using hb
set_option maxRecDepth 100000 in
set_option maxHeartbeats 4000000 in
theorem zbO(n:Nat)(ih:YM 101 .chain n):YM 63 .weave n:=by
 intro R l i ts w hl hi hn hts hr
 have hRl:=hr.lt
 have hch:=ih R l i ts _ hl hi hn hts (hr.alloc (.cells #[.slice none 0 0,.slice none 0 0,.int .i64 0,.int .i64 0] 138))
 have HIH:Hid (YM 101 .chain n):=ih
 clear hr ih
 go_enter Tryz.func63,Tryz.ntmps63
 go_wp2_with fail
 refine hch.mono ?_;clear hch
 rintro e w1 ⟨hk,k,fv,lv,zf,zl,wk,sp,rfl,hik,hkl,hcl,hc⟩
 obtain⟨fa,fc,rfl⟩:=hcl.first.shape
 obtain⟨la,lc,rfl⟩:=hcl.last.shape
 have HLS:Hid (YN .weave .weaveL R l i ts w w1.heap.size (w1.alloc (.cells #[.slice fa zf.length fc,.slice la zl.length lc,.int .i64 wk,.int .i64 sp] 138)) k (.slice fa zf.length fc) (.slice la zl.length lc) zf zl wk sp):=YN.start (fun _ h=>Gr.weaveNo h) (fun _ _ _ _ h1 h2=>Gr.weaveOf h1 h2) hRl hk hik hkl hcl hc
 unfold Yf
 clear hk hik hkl hcl hc
 go_wp2_with fail
 obtain⟨B3,hB3⟩:∃B3,w1.heap.size=B3:=⟨_,rfl⟩
 rw[hB3]at HLS ⊢
 go_loopg [] l.length (fun gg wr=>∃k fv lv zf zl wk sp,Hid (YN .weave .weaveL R l i ts w B3 wr k fv lv zf zl wk sp)∧l.length-k≤gg)
 case atStart=>exact⟨k,_,_,_,_,_,_,HLS,by omega⟩
 case round=>
  clear HLS
  obtain⟨k,fv,lv,zf,zl,wk,sp,HL,hgg⟩:=hrel
  obtain⟨G,hGk⟩:∃G,G=gk:=⟨_,rfl⟩
  obtain⟨fa,fc,rfl⟩:=HL.out.cl.first.shape
  obtain⟨la,lc,rfl⟩:=HL.out.cl.last.shape
  obtain⟨e,ts',hee,hrw⟩:=HL.out.fault
  have hnx:=yD R l k e ts' 124 wr hl HL.out.kl hrw
  have hlo:=HL.out.lo
  by_cases hb:Yh e l k 124=true
  ·rw[hb]at hnx
   change Calls Tryz.prog 102 #[.pointer (some ⟨R,0,none⟩),.int .u8 124] _ _ at hnx
   obtain⟨rfl,hhead⟩:=zb3 hb
   have hik:=HL.out.ik
   obtain⟨hkL,hdr⟩:=jV hhead
   rcases HL.out.st with⟨_,ts2,_,hbad⟩|⟨t,hgr,hct,hzf,hzl,hwk,hsp,hrw0⟩
   ·exact absurd (hrw.same hbad) (by decide)
   have HRW:Hid (∀q,Rw R l (k+1) 0 (t.lay V2 ts) ((wr.drewN q).setCell ⟨R,1,none⟩ (.int .i64 (k+1:Nat)))):=fun q=>(hrw0.drewN q).place (k+1)
   obtain⟨_,h1,_,hf⟩:=hrw0.cells
   have hf1:=hf 1
   have hlen:(t.lay V2 ts).length=ts.length+t.count:=t.lay_length V2 ts
   have HST:Hid ((∀r,Gr (.weaveL t) (l.drop k) r→Gr .weave (l.drop i) r)∧zf=Zj (t.first ts.length)∧zl=Zj (t.last ts.length)∧wk=t.work V2∧sp=t.span V2∧l.drop k=124::l.drop (k+1)):=⟨hgr,hzf,hzl,hwk,hsp,hdr⟩
   have HRT:Hid (∃cs,wr.heap[R]?=some (.cells cs 136 (0,0))):=hrw0.typed
   clear hgr hzf hzl hwk hsp hdr hrw hrw0 hf hb hhead
   go_wp2_with (first|(go_at_call 102;refine hnx.mono ?_;clear hnx;rintro e w' ⟨rfl,nn,rfl⟩))
   refine(HIH.out R l (k+1) (t.lay V2 ts) _ hl (by omega) (by omega) (by omega) ?hrw).mono ?_
   case hrw=>exact HRW.out nn
   rintro e w3 ⟨hk3,k2,fv2,lv2,zf2,zl2,wk2,sp2,rfl,hik2,hkl2,hcl2,hcase⟩
   have hk3':Kp R ((wr.drewN nn).setCell ⟨R,1,none⟩ (.int .i64 (k+1:Nat))) w3:=hk3
   have hRr:R<wr.heap.size:=by have:=HL.out.kp.size;omega
   have hB3w:((wr.drewN nn).setCell ⟨R,1,none⟩ (.int .i64 (k+1:Nat))).heap[B3]?=some (.cells #[.slice fa zf.length fc,.slice la zl.length lc,.int .i64 wk,.int .i64 sp] 138 (0,0)):=(qq5 _ _ _ _ (by show B3≠R;omega)).trans HL.out.b3
   have hN0w:((wr.drewN nn).setCell ⟨R,1,none⟩ (.int .i64 (k+1:Nat))).heap[w.heap.size]?=some (.cells #[.slice none 0 0,.slice none 0 0,.int .i64 0,.int .i64 0] 138 (0,0)):=(qq5 _ _ _ _ (by show w.heap.size≠R;omega)).trans HL.out.n0
   have hB3_3:=hk3'.other hB3w (by omega) (by decide)
   have hN0_3:=hk3'.other hN0w (by omega) (by decide)
   obtain⟨cR,hcR⟩:=(HRW.out nn).typed
   obtain⟨cR0,hcR0⟩:=HRT.out
   have hcl3:Z7 w.heap.size w3 (.slice fa zf.length fc) (.slice la zl.length lc) zf zl wk sp i k:=((HL.out.cl.kinds (w':=wr.drewN nn) (fun _ _ _ _=>rfl)).kinds (fun q cs fr hq=>qq5 _ _ _ _ (by show q≠R;exact zO (w:=wr.drewN nn) hcR0 hq (by decide)))).kpw hcR hk3'
   have hKP3:Kp R w w3:=((HL.out.kp.drewN nn).setR 1 _).trans hk3'
   have hs3:w.heap.size≤((wr.drewN nn).setCell ⟨R,1,none⟩ (.int .i64 (k+1:Nat))).heap.size:=by have:=HL.out.kp.size;simpa using this
   have hcl2':Z7 w.heap.size w3 fv2 lv2 zf2 zl2 wk2 sp2 (k+1) k2:=Z7.mono (b:=((wr.drewN nn).setCell ⟨R,1,none⟩ (.int .i64 (k+1:Nat))).heap.size) hcl2 hs3
   clear hk3 hcl2 hB3w hN0w hcR hcR0 HRT hs3 h1 hf1 hk3' HL HRW
   obtain⟨fa2,fc2,rfl⟩:=hcl2'.first.shape
   obtain⟨la2,lc2,rfl⟩:=hcl2'.last.shape
   unfold Yf
   have hB3l:B3<w3.heap.size:=lt_of_block hB3_3
   have hB3_4:=(blk_alloc_lt w3 (.cells #[.slice fa2 zf2.length fc2,.slice la2 zl2.length lc2,.int .i64 wk2,.int .i64 sp2] 138) B3 hB3l).trans hB3_3
   have hN0_4:=(blk_alloc_lt w3 (.cells #[.slice fa2 zf2.length fc2,.slice la2 zl2.length lc2,.int .i64 wk2,.int .i64 sp2] 138) w.heap.size (lt_of_block hN0_3)).trans hN0_3
   have hB4_4:=blk_alloc_new w3 (.cells #[.slice fa2 zf2.length fc2,.slice la2 zl2.length lc2,.int .i64 wk2,.int .i64 sp2] 138)
   have hc4:=hcl3.alloc (.cells #[.slice fa2 zf2.length fc2,.slice la2 zl2.length lc2,.int .i64 wk2,.int .i64 sp2] 138)
   have hd4:=hcl2'.alloc (.cells #[.slice fa2 zf2.length fc2,.slice la2 zl2.length lc2,.int .i64 wk2,.int .i64 sp2] 138)
   have hKP4:=hKP3.alloc (.cells #[.slice fa2 zf2.length fc2,.slice la2 zl2.length lc2,.int .i64 wk2,.int .i64 sp2] 138)
   have hcase4:(Gr .chain (l.drop (k+1)) none∧∃ts',ts'.length≤k2∧Rw R l k2 2 ts' (w3.alloc (.cells #[.slice fa2 zf2.length fc2,.slice la2 zl2.length lc2,.int .i64 wk2,.int .i64 sp2] 138)))∨(∃t2,Gr .chain (l.drop (k+1)) (some (t2,l.drop k2))∧ts.length+t.count+t2.count≤k2∧zf2=Zj (t2.first (ts.length+t.count))∧zl2=Zj (t2.last (ts.length+t.count))∧wk2=t2.work V2∧sp2=t2.span V2∧Rw R l k2 0 (t2.lay V2 (t.lay V2 ts)) (w3.alloc (.cells #[.slice fa2 zf2.length fc2,.slice la2 zl2.length lc2,.int .i64 wk2,.int .i64 sp2] 138))):=by
    rw[hlen]at hcase
    rcases hcase with⟨hg,ts3,h3,hr3⟩|⟨t2,hg,g1,g2,g3,g4,g5,hr3⟩
    ·exact Or.inl ⟨hg,ts3,h3,hr3.alloc _⟩
    ·exact Or.inr ⟨t2,hg,g1,g2,g3,g4,g5,hr3.alloc _⟩
   clear hcase
   obtain⟨B4,hB4⟩:∃B4,w3.heap.size=B4:=⟨_,rfl⟩
   rw[hB4]at hB4_4 hB3l
   have hw34:(w3.alloc (.cells #[.slice fa2 zf2.length fc2,.slice la2 zl2.length lc2,.int .i64 wk2,.int .i64 sp2] 138)).heap.size=B4+1:=by rw[nblk_alloc,hB4]
   have HB4:Hid (w3.heap.size=B4):=hB4
   obtain⟨w4,hw4⟩:∃w4,w4=w3.alloc (.cells #[.slice fa2 zf2.length fc2,.slice la2 zl2.length lc2,.int .i64 wk2,.int .i64 sp2] 138):=⟨_,rfl⟩
   rw[←hw4]at hB3_4 hN0_4 hB4_4 hc4 hd4 hKP4 hcase4 hw34
   have hlf:=hc4.lf
   have hll:=hc4.ll
   have hlf2:=hd4.lf
   have hll2:=hd4.ll
   obtain⟨r0,r1,r2,r3,rf⟩:=zm hB3_4
   obtain⟨s0,s1,s2,s3,_⟩:=zm hB4_4
   go_upto_region 6 with fail
   rw[←hw4]
   have HW4:Hid (w4=w3.alloc (.cells #[.slice fa2 zf2.length fc2,.slice la2 zl2.length lc2,.int .i64 wk2,.int .i64 sp2] 138)):=hw4
   clear hw4 hB4
   go_wp2_with (first|(at_builtin;refine zP rfl (.tmp 21) (.tmp 23) rfl w.heap.size w.heap.size (.slice none 0 0) (.slice fa zf.length fc) [] zf rfl rfl (qD _ _) hc4.first (by simp;omega) (by have:=hKP4.size;omega) ?_))
   intro v5 w5 hv5 hg5 hat5
   have hb5:Below w4.heap.size w4 w5:=(qq4 _ _).grown hg5 (qq1 _) (fun j e=>by simp[Value.ownBlock]at e)
   have hB3_5:=(hb5.block B3 (by omega)).trans hB3_4
   have hB4_5:=(hb5.block B4 (by omega)).trans hB4_4
   obtain⟨a5,c5,rfl⟩:=hv5.shape
   clear r0 r1 r2 r3 rf s0 s1 s2 s3
   obtain⟨r0,r1,r2,r3,rf⟩:=zm hB3_5
   obtain⟨s0,s1,s2,s3,_⟩:=zm hB4_5
   have hd5:=hd4.first.later hb5
   go_wp2_with (first|(at_builtin;refine zP rfl (.tmp 25) (.tmp 27) rfl w.heap.size w.heap.size (.slice a5 zf.length c5) (.slice fa2 zf2.length fc2) zf zf2 rfl rfl hv5 hd5 (by omega) (by have:=hKP4.size;have:=hb5.size;omega) ?_))
   intro v6 w6 hv6 hg6 hat6
   have hb6:Below w4.heap.size w4 w6:=hb5.grown hg6 hb5.size (fun j e=>by
    rcases hat5 with h|h
    ·rw[h]at e;simp[Value.ownBlock]at e
    ·rw[h]at e;simp only[Option.some.injEq]at e;omega)
   have hB3_6:=(hb6.block B3 (by omega)).trans hB3_4
   have hB4_6:=(hb6.block B4 (by omega)).trans hB4_4
   obtain⟨a6,c6,rfl⟩:=hv6.shape
   clear r0 r1 r2 r3 rf s0 s1 s2 s3
   obtain⟨r0,r1,r2,r3,rf⟩:=zm hB3_6
   obtain⟨s0,s1,s2,s3,_⟩:=zm hB4_6
   have hl6:=hc4.last.later hb6
   clear hd5 hv5 hat5 hg5 hg6 hat6 hB3_5 hB4_5
   have hs6:=hb6.size
   try rw[qb]
   go_wp2_with (first|(at_builtin;refine zP rfl (.tmp 29) (.tmp 31) rfl w.heap.size w.heap.size (.slice none 0 0) (.slice la zl.length lc) [] zl rfl rfl (qD _ _) hl6 (by simp;omega) (by have:=hKP4.size;omega) ?_))
   intro v7 w7 hv7 hg7 hat7
   have hb7:Below w6.heap.size w6 w7:=(qq4 _ _).grown hg7 (qq1 _) (fun j e=>by simp[Value.ownBlock]at e)
   have hB3_7:=(hb7.block B3 (by omega)).trans hB3_6
   have hB4_7:=(hb7.block B4 (by omega)).trans hB4_6
   obtain⟨a7,c7,rfl⟩:=hv7.shape
   clear r0 r1 r2 r3 rf s0 s1 s2 s3
   obtain⟨r0,r1,r2,r3,rf⟩:=zm hB3_7
   obtain⟨s0,s1,s2,s3,_⟩:=zm hB4_7
   have hd7:=(hd4.last.later hb6).later hb7
   have hs7:=hb7.size
   go_wp2_with (first|(at_builtin;refine zP rfl (.tmp 33) (.tmp 35) rfl w.heap.size w.heap.size (.slice a7 zl.length c7) (.slice la2 zl2.length lc2) zl zl2 rfl rfl hv7 hd7 (by omega) (by have:=hKP4.size;omega) ?_))
   intro v8 w8 hv8 hg8 hat8
   have hb8:Below w6.heap.size w6 w8:=hb7.grown hg8 hs7 (fun j e=>by
    rcases hat7 with h|h
    ·rw[h]at e;simp[Value.ownBlock]at e
    ·rw[h]at e;simp only[Option.some.injEq]at e;omega)
   have hB3_8:=(hb8.block B3 (by omega)).trans hB3_6
   have hB4_8:=(hb8.block B4 (by omega)).trans hB4_6
   obtain⟨a8,c8,rfl⟩:=hv8.shape
   clear r0 r1 r2 r3 rf s0 s1 s2 s3
   obtain⟨r0,r1,r2,r3,rf⟩:=zm hB3_8
   obtain⟨s0,s1,s2,s3,_⟩:=zm hB4_8
   have rf0:=rf 0
   have rf1:=rf 1
   have rf2:=rf 2
   have rf3:=rf 3
   have hv6':=hv6.later hb8
   have hb48:Below w4.heap.size w4 w8:=hb6.trans (hb8.mono hs6)
   have hN0_8:=(hb48.block w.heap.size (lt_of_block hN0_4)).trans hN0_4
   have hKP8:Kp R w w8:=hKP4.of_below hb48
   have hcb:=hc4
   have hdb:=hd4
   have HNEXT:Hid (∀m,m=max sp sp2→YN .weave .weaveL R l i ts w B3 (setP w8 B3 (.slice a6 (zf++zf2).length c6) (.slice a8 (zl++zl2).length c8) (.int .i64 (wk+wk2)) (.int .i64 m)) k2 (.slice a6 (zf++zf2).length c6) (.slice a8 (zl++zl2).length c8) (zf++zf2) (zl++zl2) (wk+wk2) m):=by
    intro m hm
    have q1:=hcb.lf
    have q2:=hcb.ll
    have q3:=hdb.lf
    have q4:=hdb.ll
    have q5:=hcb.w0
    have q6:=hcb.w1
    have q7:=hdb.w0
    have q8:=hdb.w1
    have q9:=hcb.s0
    have q10:=hcb.s1
    have q11:=hdb.s0
    have q12:=hdb.s1
    refine⟨by omega,hkl2,⟨hv6'.setC hB3_8 _ _ _ _,hv8.setC hB3_8 _ _ _ _,by simp;omega,by simp;omega,by omega,by omega,by omega,by omega⟩,zp hB3_8 _ _ _ _,(yi (by omega) _ _ _ _).trans hN0_8,hKP8.setP (by omega) _ _ _ _,hlo,?_⟩
    obtain⟨hgr,hzf,hzl,hwk,hsp,hdr⟩:=HST.out
    rcases hcase4 with⟨hg,ts3,h3,hr3⟩|⟨t2,hg,g1,g2,g3,g4,g5,hr3⟩
    ·exact Or.inl ⟨hgr _ (by rw[hdr];exact Gr.weaveBad hg),ts3,h3,(hr3.of_below hb48).setC hB3_8 _ _ _ _⟩
    ·refine Or.inr ⟨.par t t2,fun r h=>hgr r (by rw[hdr];exact Gr.weaveMore hg h),by simp only[Tree.count];omega,?_,?_,?_,?_,(hr3.of_below hb48).setC hB3_8 _ _ _ _⟩
     ·simp only[Tree.first];rw[yL,hzf,g2]
     ·simp only[Tree.last];rw[yL,hzl,g3]
     ·simp only[Tree.work];rw[hwk,g4]
     ·simp only[Tree.span];rw[hm,hsp,g5]
   have w0:=hcb.w0
   have w1':=hcb.w1
   have w2':=hdb.w0
   have w3':=hdb.w1
   have hwr:-9223372036854775808≤wk+wk2∧wk+wk2≤9223372036854775807:=by omega
   clear hv6 hv6' hv7 hv8 hb8 hb7 hb6 hb5 hg7 hat7 hg8 hat8 hl6 hd7 hc4 hd4 hcb hdb hKP8 hKP4 hcase4 hN0_8 hN0_4 hb48 hB3_6 hB4_6 hB3_7 hB4_7 hB4_8 rf HST
   simp only[List.length_append]at *
   by_cases hgt:sp<sp2
   ·have HM:Hid (sp2=max sp sp2):=(Int.max_eq_right (by omega)).symm
    go_wp2
    go_roundg (l.length-k2)
    case measure=>omega
    case rel=>exact⟨k2,_,_,_,_,_,_,HNEXT.out _ HM.out,qq1 _⟩
   ·have HM:Hid (sp=max sp sp2):=(Int.max_eq_left (by omega)).symm
    go_wp2
    go_roundg (l.length-k2)
    case measure=>omega
    case rel=>exact⟨k2,_,_,_,_,_,_,HNEXT.out _ HM.out,qq1 _⟩
  ·have hb':Yh e l k 124=false:=by simpa using hb
   rw[hb']at hnx
   change Calls Tryz.prog 102 #[.pointer (some ⟨R,0,none⟩),.int .u8 124] _ _ at hnx
   have HEND:Hid (∀q,Z2 .weave R l i ts w (.returned (Yf (.slice fa zf.length fc) (.slice la zl.length lc) wk sp)) (setP (wr.drewN q) w.heap.size (.slice fa zf.length fc) (.slice la zl.length lc) (.int .i64 wk) (.int .i64 sp))):=fun q=>(HL.out.drewN q).done (fun t h=>Gr.weaveEnd (za3 hrw hb' (ts2:=t.lay V2 ts) (by obtain⟨tv,h1,h2⟩:=h;exact⟨tv,h1,h2.of_kinds (fun _ _ _ _=>rfl) (fun _ _ _ _=>rfl)⟩)))
   have HN0:Hid (∀q,(wr.drewN q).heap[w.heap.size]?=some (.cells #[.slice none 0 0,.slice none 0 0,.int .i64 0,.int .i64 0] 138 (0,0))):=fun q=>HL.out.n0
   obtain⟨q0,q1,q2,q3,qf⟩:=zm HL.out.n0
   have qf0:=qf 0
   have qf1:=qf 1
   have qf2:=qf 2
   have qf3:=qf 3
   obtain⟨r0,r1,r2,r3,_⟩:=zm HL.out.b3
   clear qf HL hrw hb hb'
   go_wp2_with (first|(go_at_call 102;refine hnx.mono ?_;clear hnx;rintro e w' ⟨rfl,nn,rfl⟩))
   exact zH (b:=w.heap.size) rfl (zp (HN0.out nn) _ _ _ _) rfl rfl (HEND.out nn)
end
section
open Go.RowKit Go.Deep
theorem Tree.first_sorted(t:Tree):∀n,(t.first n).Pairwise (· < ·):=by
 induction t with
 | num ds=>intro n;simp[Tree.first]
 | seq a b iha _=>intro n;exact iha n
 | par a b iha ihb=>
  intro n
  simp only[Tree.first]
  rw[List.pairwise_append]
  refine⟨iha n,ihb _,fun x hx y hy=>?_⟩
  have h1:=a.first_range n x hx
  have h2:=b.first_range _ y hy
  omega
theorem zcD{fs:List Nat}(h:fs.Pairwise (· < ·)){j:Nat}(hj:j<fs.length):fs.getD j 0∉fs.take j:=by
 intro hm
 rw[qq6,qq7 hj]at hm
 obtain⟨q,hq,he⟩:=List.mem_take_iff_getElem.1 hm
 have:=List.pairwise_iff_getElem.1 h q j (by omega) hj (by omega)
 simp at he
 omega
theorem zdB(fs:List Nat)(hs:fs.Pairwise (· < ·))(zs:List Int)(T:Zl){j:Nat}(hj:j<fs.length)(hx:fs.getD j 0<T.length):Za (YB (fs.take j) zs T) (fs.getD j 0)=Za T (fs.getD j 0):=by
 unfold Za
 rw[yS _ _ _ _ hx,if_neg (zcD hs hj)]
theorem Rw.row{R i g cap n:Nat}{l:List UInt8}{e:Int}{ts:Zl}{w:World}(h:Rw R l i e ts w)(htv:w.cell? ⟨R,2,none⟩=some (.slice (some ⟨g,0,none⟩) n cap)) :
  n=ts.length∧R+1≤g∧(∃cs,w.heap[g]?=some (.cells cs 94 (0,0)))∧RowT (R+1) (fun _=>True) w (.slice (some ⟨g,0,none⟩) n cap) ts:=by
 obtain⟨tv,h1,htr⟩:=h
 have htv':w.cell? ⟨R,2,none⟩=some tv:=by simp[World.cell?,h1]
 obtain rfl:Value.slice (some ⟨g,0,none⟩) n cap=tv:=Option.some.inj (htv.symm.trans htv')
 have htr':=htr
 obtain⟨xs,ho,_⟩:=htr
 rcases ho.2 with⟨hv,_⟩|⟨g',cap',cur,hv,hg,hh,_⟩
 ·cases hv
 ·simp only[Value.slice.injEq,Option.some.injEq,Addr.mk.injEq,and_true]at hv
  obtain⟨rfl,rfl,rfl⟩:=hv
  exact⟨rfl,hg,⟨cur,hh⟩,htr'⟩
theorem Rw.setNeed{R i g cap n x:Nat}{l:List UInt8}{e:Int}{ts:Zl}{w:World}{nv:Value}{zs:List Int}(h:Rw R l i e ts w)(htv:w.cell? ⟨R,2,none⟩=some (.slice (some ⟨g,0,none⟩) n cap))(hx:x<ts.length)(hn:RowW (R+1) w nv zs) :
  Rw R l i e (setN zs ts x) (w.setCell ⟨g,x*2+1,none⟩ nv):=by
 obtain⟨rfl,hg,⟨cs,hT⟩,htr⟩:=h.row htv
 obtain⟨tv,h1,_⟩:=h
 obtain rfl:Value.slice (some ⟨g,0,none⟩) ts.length cap=tv:=by
  have:w.cell? ⟨R,2,none⟩=some tv:=by simp[World.cell?,h1]
  exact Option.some.inj (htv.symm.trans this)
 exact⟨_,zJ hT _ _ h1 (by decide),htr.set hx hn (fun _ _=>trivial)⟩
theorem zfm{b:Nat}{A:Nat→Prop}{w:World}{g cap n x:Nat}{ts:Zl}(h:RowT b A w (.slice (some ⟨g,0,none⟩) n cap) ts)(hx:x<ts.length):(∃nv,w.cell? ⟨g,x*2+1,none⟩=some nv∧RowW b w nv (Za ts x))∧w.frozen? ⟨g,x*2+1,none⟩=false:=by
 have hn:n=ts.length:=by
  obtain⟨a,c',e⟩:=h.shape
  simp only[Value.slice.injEq]at e
  exact e.2.1
 subst hn
 obtain⟨xs,ho,hxs⟩:=h
 obtain⟨_,nv,h2,h3,_⟩:=hxs x hx
 have e:=ho.cellAt (x*2+1) (by omega)
 exact⟨⟨nv,by rw[e];exact h2,h3⟩,ho.frozenAt _⟩
theorem zi6{o:Oper}{a:Act}{w:World}{g L cap x:Nat}(hop:o.op=Op.indexAddr 27 (.tmp 49) (.tmp 54))(h1:a.tmps[49]?.getD undef=.slice (some ⟨g,0,none⟩) L cap)(h2:a.tmps[54]?.getD undef=.int .i64 (x:Nat))(hx:x<L) :
  (execOp a.eval o).run Tryz.prog w=.ok (.value (.pointer (some ⟨g,x*2,none⟩))) w:=by
 have hxI:(x:Int)<(L:Int):=by omega
 unfold execOp
 rw[hop]
 go_simp
theorem zaB{o:Oper}{a:Act}{w:World}{g n L nc:Nat}{na:Option Addr}{u:Value}(hop:o.op=Op.store 73 (.tmp 60) (.tmp 58))(h1:a.tmps[60]?.getD undef=.pointer (some ⟨g,n,none⟩))(h2:a.tmps[58]?.getD undef=.slice na L nc)(hc:w.cell? ⟨g,n,none⟩=some u)(hf:w.frozen? ⟨g,n,none⟩=false) :
  (execOp a.eval o).run Tryz.prog w=.ok .skip (w.setCell ⟨g,n,none⟩ (.slice na L nc)):=by
 unfold execOp
 rw[hop]
 go_simp
theorem zb8{o:Oper}{a:Act}{w:World}{m n g L cap x:Nat}(hop:o.op=Op.indexAddr 27 (.tmp m) (.tmp n))(h1:a.tmps[m]?.getD undef=.slice (some ⟨g,0,none⟩) L cap)(h2:a.tmps[n]?.getD undef=.int .i64 (x:Nat))(hx:x<L) :
  (execOp a.eval o).run Tryz.prog w=.ok (.value (.pointer (some ⟨g,x*2,none⟩))) w:=by
 have hxI:(x:Int)<(L:Int):=by omega
 unfold execOp
 rw[hop]
 go_simp
theorem zb9{o:Oper}{a:Act}{w:World}{m n g L cap x:Nat}(hop:o.op=Op.indexAddr 73 (.tmp m) (.tmp n))(h1:a.tmps[m]?.getD undef=.slice (some ⟨g,0,none⟩) L cap)(h2:a.tmps[n]?.getD undef=.int .i64 (x:Nat))(hx:x<L) :
  (execOp a.eval o).run Tryz.prog w=.ok (.value (.pointer (some ⟨g,x,none⟩))) w:=by
 have hxI:(x:Int)<(L:Int):=by omega
 unfold execOp
 rw[hop]
 go_simp
theorem zb6{o:Oper}{a:Act}{w:World}{m g n:Nat}(hop:o.op=Op.fieldAddr 94 (.tmp m) 1)(h1:a.tmps[m]?.getD undef=.pointer (some ⟨g,n,none⟩)) :
  (execOp a.eval o).run Tryz.prog w=.ok (.value (.pointer (some ⟨g,n+1,none⟩))) w:=by
 unfold execOp
 rw[hop]
 go_simp
theorem zdP{o:Oper}{a:Act}{w:World}{m:Nat}{q:Addr}{x:Option Addr}{y z:Nat}(hop:o.op=Op.load 27 (.tmp m))(h1:a.tmps[m]?.getD undef=.pointer (some q))(hc:w.cell? q=some (.slice x y z)) :
  (execOp a.eval o).run Tryz.prog w=.ok (.value (.slice x y z)) w:=by
 unfold execOp
 rw[hop]
 go_simp
theorem jB{o:Oper}{a:Act}{w:World}{m:Nat}{q:Addr}{x:Option Addr}{y z:Nat}(hop:o.op=Op.load 73 (.tmp m))(h1:a.tmps[m]?.getD undef=.pointer (some q))(hc:w.cell? q=some (.slice x y z)) :
  (execOp a.eval o).run Tryz.prog w=.ok (.value (.slice x y z)) w:=by
 unfold execOp
 rw[hop]
 go_simp
theorem zfO{o:Oper}{a:Act}{w:World}{m:Nat}{q:Addr}{x:Int}(hop:o.op=Op.load 3 (.tmp m))(h1:a.tmps[m]?.getD undef=.pointer (some q))(hc:w.cell? q=some (.int .i64 x)) :
  (execOp a.eval o).run Tryz.prog w=.ok (.value (.int .i64 x)) w:=by
 unfold execOp
 rw[hop]
 go_simp
theorem zab{o:Oper}{a:Act}{w:World}{m:Nat}{v:Value}(hop:o.op=Op.move (.tmp m))(h1:a.tmps[m]?.getD undef=v):(execOp a.eval o).run Tryz.prog w=.ok (.value v) w:=by
 have e:a.eval (.tmp m)=v:=by simpa[Act.eval]using h1
 unfold execOp
 rw[hop]
 simp only[Sem.run_pure,e]
theorem ziT{o:Oper}{a:Act}{w:World}{m:Nat}{q:Addr}(hop:o.op=Op.nilCheck (.tmp m))(h1:a.tmps[m]?.getD undef=.pointer (some q)):(execOp a.eval o).run Tryz.prog w=.ok (.value (.pointer (some q))) w:=by
 unfold execOp
 rw[hop]
 go_simp
theorem zb7{o:Oper}{a:Act}{w:World}{m g:Nat}(hop:o.op=Op.fieldAddr 136 (.tmp m) 2)(h1:a.tmps[m]?.getD undef=.pointer (some ⟨g,0,none⟩)) :
  (execOp a.eval o).run Tryz.prog w=.ok (.value (.pointer (some ⟨g,2,none⟩))) w:=by
 unfold execOp
 rw[hop]
 go_simp
theorem zba{o:Oper}{a:Act}{w:World}{m g:Nat}(hop:o.op=Op.fieldAddr 138 (.tmp m) 0)(h1:a.tmps[m]?.getD undef=.pointer (some ⟨g,0,none⟩)) :
  (execOp a.eval o).run Tryz.prog w=.ok (.value (.pointer (some ⟨g,0,none⟩))) w:=by
 unfold execOp
 rw[hop]
 go_simp
theorem zfe{o:Oper}{a:Act}{w:World}{m g:Nat}(hop:o.op=Op.fieldAddr 138 (.tmp m) 1)(h1:a.tmps[m]?.getD undef=.pointer (some ⟨g,0,none⟩)) :
  (execOp a.eval o).run Tryz.prog w=.ok (.value (.pointer (some ⟨g,1,none⟩))) w:=by
 unfold execOp
 rw[hop]
 go_simp
theorem zdW{o:Oper}{a:Act}{w:World}{na:Option Addr}{nc:Nat}(hop:o.op=.call { callee:=.builtin .append,args:=#[.tmp 32,.tmp 44],argTypes:=#[73,73] })(h1:a.tmps[32]?.getD undef=.slice none 0 0)(h2:a.tmps[44]?.getD undef=.slice na 0 nc) :
  (execOp a.eval o).run Tryz.prog w=.ok (.value (.slice none 0 0)) w:=by
 have e1:a.eval (.tmp 32)=.slice none 0 0:=by simpa[Act.eval]using h1
 have e2:a.eval (.tmp 44)=.slice na 0 nc:=by simpa[Act.eval]using h2
 unfold execOp
 simp only[hop,resolve,invoke,builtin,Sem.run_bind,Sem.run_pure,Result.andThen_ok,List.map_toArray,List.map_cons,List.map_nil,e1,e2,xK _ none 0 0 na nc w (qq1 _)]
theorem zhT{o:Oper}{a:Act}{w w':World}{m n:Nat}{v x v':Value}(hop:o.op=.call { callee:=.builtin .append,args:=#[.tmp m,.tmp n],argTypes:=#[73,73] })(h1:a.tmps[m]?.getD undef=v)(h2:a.tmps[n]?.getD undef=x)
  (hr:(Builtin.append_ #[73,73] o.type #[v,x]).run Tryz.prog w=.ok v' w'):(execOp a.eval o).run Tryz.prog w=.ok (.value v') w':=by
 have e1:a.eval (.tmp m)=v:=by simpa[Act.eval]using h1
 have e2:a.eval (.tmp n)=x:=by simpa[Act.eval]using h2
 unfold execOp
 simp only[hop,resolve,invoke,builtin,Sem.run_bind,Sem.run_pure,Result.andThen_ok,List.map_toArray,List.map_cons,List.map_nil,e1,e2,hr]
theorem zhU{o:Oper}{a:Act}{w:World}{m:Nat}{v:Value}(hop:o.op=Op.assign (.tmp m))(h1:a.tmps[m]?.getD undef=v):(execOp a.eval o).run Tryz.prog w=.ok (.value v) w:=by
 have e:a.eval (.tmp m)=v:=by simpa[Act.eval]using h1
 unfold execOp
 rw[hop]
 simp only[Sem.run_pure,e]
section
variable {P:Program} {ops:Array Oper} {md:Region.Mode} {Q:Exit→Act→World→Prop} {S:World→Prop}
theorem qF{fuel:Nat}{listed:Array Bool}{a:Act}{w w':World}{v:Value}{o:Oper}{i:Nat}(d:Option Nat)(hr:Region.ready md ops listed=[i])(hi:ops[i]?=some o)(hd:o.dst=d)(hw:Region.wanted o (yielded ops a.tmps)=true)(hx:(execOp a.eval o).run P w=.ok (.value v) w')(hS:S w')
  (h:wpAnyH P md ops Q S fuel (listed.setIfInBounds i true) (a.put d v) w'):wpAnyH P md ops Q S (fuel+1) listed a w:=by
 subst hd
 exact qh hr hi hw hx hS h
end
structure Lay2 (R:Nat) (l:List UInt8) (ts:Zl) (w:World) (B3 B4:Nat) (wr:World) (t t2:Tree) (i k k2 j:Nat) (fv lv fv2 lv2:Value) (zf zl zf2 zl2:List Int) (wk sp wk2 sp2:Int):Prop where
 rw:Rw R l k2 0 (YB ((t2.first (ts.length+t.count)).take j) (Zj (t.last ts.length)) (t2.lay V2 (t.lay V2 ts))) wr
 c:Z7 w.heap.size wr fv lv zf zl wk sp i k
 d:Z7 w.heap.size wr fv2 lv2 zf2 zl2 wk2 sp2 (k+1) k2
 b3:wr.heap[B3]?=some (.cells #[fv,lv,.int .i64 wk,.int .i64 sp] 138 (0,0))
 b4:wr.heap[B4]?=some (.cells #[fv2,lv2,.int .i64 wk2,.int .i64 sp2] 138 (0,0))
 n0:wr.heap[w.heap.size]?=some (.cells #[.slice none 0 0,.slice none 0 0,.int .i64 0,.int .i64 0] 138 (0,0))
 kp:Kp R w wr
end
end Go.Proofs.YtlfbdjeojgbniaaGreatDoor

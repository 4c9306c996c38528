import Derived.Test.YtlfbdjeojgbniaaGreatDoorRan40
namespace Go.Proofs.YtlfbdjeojgbniaaGreatDoor
section
open Go.RowKit Go.Deep
theorem Rw.lt{R i:Nat}{l:List UInt8}{e:Int}{ts:Zl}{w:World}(h:Rw R l i e ts w):R<w.heap.size:=by
 obtain⟨tv,h,_⟩:=h
 exact lt_of_block h
theorem Rw.of_below{R i:Nat}{l:List UInt8}{e:Int}{ts:Zl}{w w':World}(h:Rw R l i e ts w)(hb:Below w.heap.size w w'):Rw R l i e ts w':=by
 obtain⟨tv,h1,h2⟩:=h
 exact⟨tv,(hb.block R (lt_of_block h1)).trans h1,h2.of_kinds (fun k _ _ hk=>hb.block k (lt_of_block hk)) (fun k _ _ hk=>hb.block k (lt_of_block hk))⟩
theorem Rw.alloc{R i:Nat}{l:List UInt8}{e:Int}{ts:Zl}{w:World}(h:Rw R l i e ts w)(o:Obj):Rw R l i e ts (w.alloc o):=h.of_below ((qq4 _ _).alloc (qq1 _) _)
theorem qD(b:Nat)(w:World):RowW b w (.slice none 0 0) []:=World.ownsRow_nil _ _ _ _
def Yf(fv lv:Value)(wk sp:Int):Value:=.agg #[fv,lv,.int .i64 wk,.int .i64 sp]
structure Z7 (b:Nat) (w:World) (fv lv:Value) (zf zl:List Int) (wk sp:Int) (i k:Nat):Prop where
 first:RowW b w fv zf
 last:RowW b w lv zl
 lf:zf.length≤k-i
 ll:zl.length≤k-i
 w0:0≤wk
 w1:wk≤10300*((k-i:Nat):Int)
 s0:0≤sp
 s1:sp≤10300*((k-i:Nat):Int)
def Z2(K:Kind)(R:Nat)(l:List UInt8)(i:Nat)(ts:Zl)(w:World)(e:Ending)(w':World):Prop:=
 Kp R w w'∧∃k fv lv zf zl wk sp,e=.returned (Yf fv lv wk sp)∧i≤k∧k≤l.length∧Z7 w.heap.size w' fv lv zf zl wk sp i k∧
  ((Gr K (l.drop i) none∧∃ts',ts'.length≤k∧Rw R l k 2 ts' w')∨
   (∃t,Gr K (l.drop i) (some (t,l.drop k))∧ts.length+t.count≤k∧zf=Zj (t.first ts.length)∧zl=Zj (t.last ts.length)∧wk=t.work V2∧sp=t.span V2∧Rw R l k 0 (t.lay V2 ts) w'))
def YM(f:Nat)(K:Kind)(n:Nat):Prop:=∀R l i ts w,l.length≤200→i≤l.length→l.length-i≤n→ts.length≤i→Rw R l i 0 ts w→Calls Tryz.prog f #[.pointer (some ⟨R,0,none⟩)] w (Z2 K R l i ts w)
theorem zT{K:Kind}{R:Nat}{l:List UInt8}{i k:Nat}{ts ts':Zl}{w w':World}(hk:Kp R w w')(hik:i≤k)(hkl:k≤l.length)(hg:Gr K (l.drop i) none)(hts:ts'.length≤k)(hr:Rw R l k 2 ts' w') :
  Z2 K R l i ts w (.returned (Yf (.slice none 0 0) (.slice none 0 0) 0 0)) w':=
 ⟨hk,k,_,_,[],[],0,0,rfl,hik,hkl,⟨qD _ _,qD _ _,by simp,by simp,by omega,by omega,by omega,by omega⟩,Or.inl ⟨hg,ts',hts,hr⟩⟩
theorem zH{fn:Func}{Q:Ending→World→Prop}{a:Act}{w:World}{b:Nat}{a1 a2 a3 a4:Value}(hr:fn.results=#[ResultVar.cell 2 138])(h:w.heap[b]?=some (.cells #[a1,a2,a3,a4] 138 (0,0)))(ht:a.tmps[2]?=some (.pointer (some ⟨b,0,none⟩)))(hd:a.defers=[])(hq:Q (.returned (.agg #[a1,a2,a3,a4])) w) :
  bodyPost Tryz.prog fn Q Exit.ret a w:=by
 have q0:w.cell? ⟨b,0,none⟩=some a1:=by simp[World.cell?,h]
 have q1:w.cell? ⟨b,1,none⟩=some a2:=by simp[World.cell?,h]
 have q2:w.cell? ⟨b,2,none⟩=some a3:=by simp[World.cell?,h]
 have q3:w.cell? ⟨b,3,none⟩=some a4:=by simp[World.cell?,h]
 refine bodyPost_ret (v:=.agg #[a1,a2,a3,a4]) ?_ hd hq
 simp[results,hr,go_sem,ht,q0,q1,q2,q3]
theorem yi{w:World}{b k:Nat}(hk:k≠b)(a1 a2 a3 a4:Value):(setP w b a1 a2 a3 a4).heap[k]?=w.heap[k]?:=by
 unfold setP
 rw[qq5 _ _ _ _ (by show k≠b;exact hk),qq5 _ _ _ _ (by show k≠b;exact hk),qq5 _ _ _ _ (by show k≠b;exact hk),qq5 _ _ _ _ (by show k≠b;exact hk)]
theorem zp{w:World}{b:Nat}{o1 o2 o3 o4:Value}(h:w.heap[b]?=some (.cells #[o1,o2,o3,o4] 138 (0,0)))(a1 a2 a3 a4:Value):(setP w b a1 a2 a3 a4).heap[b]?=some (.cells #[a1,a2,a3,a4] 138 (0,0)):=by
 unfold setP
 have h1:=heap_setCell_same w b 0 _ 138 a1 h
 have h2:=heap_setCell_same _ b 1 _ 138 a2 h1
 have h3:=heap_setCell_same _ b 2 _ 138 a3 h2
 have h4:=heap_setCell_same _ b 3 _ 138 a4 h3
 simpa using h4
theorem zO{w:World}{b k:Nat}{c0 cs:Array Value}{f0 fr:Nat×Nat}{t u:TypeId}(hb:w.heap[b]?=some (.cells c0 u f0))(hk:w.heap[k]?=some (.cells cs t fr))(ht:t≠u):k≠b:=fun e=>by
 rw[e,hb]at hk
 simp only[Option.some.injEq,Obj.cells.injEq]at hk
 exact ht hk.2.1.symm
theorem Rw.setC{R i:Nat}{l:List UInt8}{e:Int}{ts:Zl}{w:World}{b:Nat}{c0:Array Value}{f0:Nat×Nat}(h:Rw R l i e ts w)(hb:w.heap[b]?=some (.cells c0 138 f0))(a1 a2 a3 a4:Value):Rw R l i e ts (setP w b a1 a2 a3 a4):=by
 obtain⟨tv,h1,h2⟩:=h
 exact⟨tv,(yi (zO hb h1 (by decide)) _ _ _ _).trans h1,h2.of_kinds (fun k cs fr hk=>yi (zO hb hk (by decide)) _ _ _ _) (fun k cs fr hk=>yi (zO hb hk (by decide)) _ _ _ _)⟩
theorem RowW.setC{b':Nat}{w:World}{v:Value}{zs:List Int}{b:Nat}{c0:Array Value}{f0:Nat×Nat}(h:RowW b' w v zs)(hb:w.heap[b]?=some (.cells c0 138 f0))(a1 a2 a3 a4:Value):RowW b' (Go.Proofs.YtlfbdjeojgbniaaGreatDoor.setP w b a1 a2 a3 a4) v zs:=h.of_kinds (fun k cs fr hk=>yi (zO hb hk (by decide)) _ _ _ _)
set_option maxRecDepth 100000 in
set_option maxHeartbeats 4000000 in
theorem zdJ(n:Nat)(hB:YM 63 .weave n)(R:Nat)(l:List UInt8)(i:Nat)(ts:Zl)(w:World)(hl:l.length≤200)(hi:i<l.length)(hn:l.length-i≤n+1)(hts:ts.length≤i)(h40:l.drop i=40::l.drop (i+1))(hr:Rw R l i 0 ts w) :
  Calls Tryz.prog 136 #[.pointer (some ⟨R,0,none⟩)] w (Z2 .link R l i ts w):=by
 have HR:Hid (Rw R l i 0 ts w):=hr
 have HB:Hid (YM 63 .weave n):=hB
 have hRl:=hr.lt
 have hr0:=hr.alloc (.cells #[.slice none 0 0,.slice none 0 0,.int .i64 0,.int .i64 0] 138)
 obtain⟨h0,h1,h3,hf⟩:=hr0.cells
 have hf1:=hf 1
 have hnx:=yD R l i 0 ts 40 _ hl (by omega) hr0
 have hnb:Yh 0 l i 40=true:=by unfold Yh;rw[h40];rfl
 rw[hnb]at hnx
 change Calls Tryz.prog 102 #[.pointer (some ⟨R,0,none⟩),.int .u8 40] _ _ at hnx
 have H40:Hid (l.drop i=40::l.drop (i+1)):=h40
 clear hr hr0 hf hB hnb h40 h0 h3
 go_enter Tryz.func136,Tryz.ntmps136
 go_wp2_with (first|(go_at_call 102;refine hnx.mono ?_;clear hnx;rintro e w' ⟨rfl,nn,rfl⟩))
 refine(HB.out R l (i+1) ts _ hl (by omega) (by omega) (by omega) ?hrw).mono ?_
 case hrw=>exact((HR.out.alloc _).drewN nn).place (i+1)
 have hkw:Kp R w (((w.alloc (.cells #[.slice none 0 0,.slice none 0 0,.int .i64 0,.int .i64 0] 138)).drewN nn).setCell ⟨R,1,none⟩ (.int .i64 (i+1:Nat))):=(((Kp.refl R w).alloc _).drewN nn).setR 1 _
 have hN1:(((w.alloc (.cells #[.slice none 0 0,.slice none 0 0,.int .i64 0,.int .i64 0] 138)).drewN nn).setCell ⟨R,1,none⟩ (.int .i64 (i+1:Nat))).heap[w.heap.size]?=some (.cells #[.slice none 0 0,.slice none 0 0,.int .i64 0,.int .i64 0] 138 (0,0)):=
  (qq5 _ _ _ _ (by show w.heap.size≠R;omega)).trans (blk_alloc_new w _)
 rintro e w2 ⟨hk,k,fv,lv,zf,zl,wk,sp,rfl,hik,hkl,hcl,hcase⟩
 have hk':Kp R (((w.alloc (.cells #[.slice none 0 0,.slice none 0 0,.int .i64 0,.int .i64 0] 138)).drewN nn).setCell ⟨R,1,none⟩ (.int .i64 (i+1:Nat))) w2:=hk
 have HK2:Hid (Kp R w w2):=hkw.trans hk'
 have hN2:=hk'.other hN1 (by omega) (by decide)
 have hsz2:w.heap.size<w2.heap.size:=lt_of_block hN2
 clear hk hk' hkw hN1 h1 hf1
 have HCL:Hid (Z7 w.heap.size w2 fv lv zf zl wk sp (i+1) k):=by
  have hm:w.heap.size≤(((w.alloc (.cells #[.slice none 0 0,.slice none 0 0,.int .i64 0,.int .i64 0] 138)).drewN nn).setCell ⟨R,1,none⟩ (.int .i64 (i+1:Nat))).heap.size:=by simp
  exact⟨hcl.first.mono hm,hcl.last.mono hm,hcl.lf,hcl.ll,hcl.w0,hcl.w1,hcl.s0,hcl.s1⟩
 obtain⟨fa,fc,rfl⟩:∃a c,fv=.slice a zf.length c:=by
  rcases hcl.first.2 with⟨h1,h2⟩|⟨g,cap,cur,hv,_⟩
  ·exact⟨none,0,by rw[h1,h2]⟩
  ·exact⟨_,_,hv⟩
 obtain⟨la,lc,rfl⟩:∃a c,lv=.slice a zl.length c:=by
  rcases hcl.last.2 with⟨h1,h2⟩|⟨g,cap,cur,hv,_⟩
  ·exact⟨none,0,by rw[h1,h2]⟩
  ·exact⟨_,_,hv⟩
 clear hcl
 have hN3:=(blk_alloc_lt w2 (.cells #[.slice fa zf.length fc,.slice la zl.length lc,.int .i64 wk,.int .i64 sp] 138) w.heap.size hsz2).trans hN2
 have n0:(w2.alloc (.cells #[.slice fa zf.length fc,.slice la zl.length lc,.int .i64 wk,.int .i64 sp] 138)).cell? ⟨w.heap.size,0,none⟩=some (.slice none 0 0):=by simp only[World.cell?,hN3];rfl
 have n1:(w2.alloc (.cells #[.slice fa zf.length fc,.slice la zl.length lc,.int .i64 wk,.int .i64 sp] 138)).cell? ⟨w.heap.size,1,none⟩=some (.slice none 0 0):=by simp only[World.cell?,hN3];rfl
 have n2:(w2.alloc (.cells #[.slice fa zf.length fc,.slice la zl.length lc,.int .i64 wk,.int .i64 sp] 138)).cell? ⟨w.heap.size,2,none⟩=some (.int .i64 0):=by simp only[World.cell?,hN3];rfl
 have n3:(w2.alloc (.cells #[.slice fa zf.length fc,.slice la zl.length lc,.int .i64 wk,.int .i64 sp] 138)).cell? ⟨w.heap.size,3,none⟩=some (.int .i64 0):=by simp only[World.cell?,hN3];rfl
 have nf:∀j,(w2.alloc (.cells #[.slice fa zf.length fc,.slice la zl.length lc,.int .i64 wk,.int .i64 sp] 138)).frozen? ⟨w.heap.size,j,none⟩=false:=fun j=>by simp[World.frozen?,hN3]
 have nf0:=nf 0
 have nf1:=nf 1
 have nf2:=nf 2
 have nf3:=nf 3
 have hRne:¬R=w.heap.size:=by omega
 unfold Yf
 rcases hcase with⟨hg,ts',hts',hrw⟩|⟨t,hg,hc,hzf,hzl,hwk,hsp,hrw⟩
 ·have hr3:=hrw.alloc (.cells #[.slice fa zf.length fc,.slice la zl.length lc,.int .i64 wk,.int .i64 sp] 138)
  have hnx:=yD R l k 2 ts' 41 _ hl hkl hr3
  have hnb:Yh 2 l k 41=false:=by unfold Yh;rfl
  rw[hnb]at hnx
  change Calls Tryz.prog 102 #[.pointer (some ⟨R,0,none⟩),.int .u8 41] _ _ at hnx
  obtain⟨_,_,h33,hf⟩:=hr3.cells
  have hf3:=hf 3
  have HR3:Hid (Rw R l k 2 ts' (w2.alloc (.cells #[.slice fa zf.length fc,.slice la zl.length lc,.int .i64 wk,.int .i64 sp] 138))):=hr3
  have HG:Hid (Gr .weave (l.drop (i+1)) none):=hg
  clear hf nf hr3 hrw hnb hg
  go_wp2_with (first|(go_at_call 102;refine hnx.mono ?_;clear hnx;rintro e w' ⟨rfl,mm,rfl⟩))
  have hN4:((((w2.alloc (.cells #[.slice fa zf.length fc,.slice la zl.length lc,.int .i64 wk,.int .i64 sp] 138)).drewN mm).setCell ⟨R,3,none⟩ (.int .i64 2))).heap[w.heap.size]?=some (.cells #[.slice none 0 0,.slice none 0 0,.int .i64 0,.int .i64 0] 138 (0,0)):=(qq5 _ _ _ _ (by show w.heap.size≠R;omega)).trans hN3
  have hq:Z2 .link R l i ts w (.returned (Yf (.slice none 0 0) (.slice none 0 0) 0 0)) (setP (((w2.alloc (.cells #[.slice fa zf.length fc,.slice la zl.length lc,.int .i64 wk,.int .i64 sp] 138)).drewN mm).setCell ⟨R,3,none⟩ (.int .i64 2)) w.heap.size (.slice none 0 0) (.slice none 0 0) (.int .i64 0) (.int .i64 0)):=
   zT (k:=k) ((((HK2.out.alloc _).drewN mm).setR 3 _).setP (qq1 _) _ _ _ _) (by omega) hkl (by rw[H40.out];exact Gr.opened HG.out) hts' (((HR3.out.drewN mm).fault 2).setC hN4 _ _ _ _)
  exact zH (b:=w.heap.size) rfl (zp hN4 _ _ _ _) rfl rfl hq
 ·have hr3:=hrw.alloc (.cells #[.slice fa zf.length fc,.slice la zl.length lc,.int .i64 wk,.int .i64 sp] 138)
  have HR3:Hid (Rw R l k 0 (t.lay V2 ts) (w2.alloc (.cells #[.slice fa zf.length fc,.slice la zl.length lc,.int .i64 wk,.int .i64 sp] 138))):=hr3
  have hnx:=yD R l k 0 (t.lay V2 ts) 41 _ hl hkl hr3
  obtain⟨_,h31,h33,hf⟩:=hr3.cells
  have hf3:=hf 3
  have hf1:=hf 1
  have HG:Hid (Gr .weave (l.drop (i+1)) (some (t,l.drop k))):=hg
  have HZ:Hid (zf=Zj (t.first ts.length)∧zl=Zj (t.last ts.length)∧wk=t.work V2∧sp=t.span V2):=⟨hzf,hzl,hwk,hsp⟩
  have HLL:Hid ((t.lay V2 ts).length≤k):=by show _≤_;rw[Tree.lay_length];exact hc
  clear hf nf hr3 hrw hg hzf hzl hwk hsp
  by_cases h41:(l.drop k).head?=some 41
  ·have hnb:Yh 0 l k 41=true:=by unfold Yh;rw[h41];rfl
   rw[hnb]at hnx
   change Calls Tryz.prog 102 #[.pointer (some ⟨R,0,none⟩),.int .u8 41] _ _ at hnx
   have hkk:k<l.length:=by
    rcases Nat.lt_or_ge k l.length with h|h
    ·exact h
    ·rw[xc h]at h41;cases h41
   have H41:Hid (l.drop k=41::l.drop (k+1)):=by
    show _=_
    rw[List.drop_eq_getElem_cons hkk]
    rw[yl hkk]at h41
    rw[Option.some.inj h41]
   clear hnb h41
   have hM3:=blk_alloc_new w2 (.cells #[.slice fa zf.length fc,.slice la zl.length lc,.int .i64 wk,.int .i64 sp] 138)
   have m0:(w2.alloc (.cells #[.slice fa zf.length fc,.slice la zl.length lc,.int .i64 wk,.int .i64 sp] 138)).cell? ⟨w2.heap.size,0,none⟩=some (.slice fa zf.length fc):=by simp only[World.cell?,hM3];rfl
   have m1:(w2.alloc (.cells #[.slice fa zf.length fc,.slice la zl.length lc,.int .i64 wk,.int .i64 sp] 138)).cell? ⟨w2.heap.size,1,none⟩=some (.slice la zl.length lc):=by simp only[World.cell?,hM3];rfl
   have m2:(w2.alloc (.cells #[.slice fa zf.length fc,.slice la zl.length lc,.int .i64 wk,.int .i64 sp] 138)).cell? ⟨w2.heap.size,2,none⟩=some (.int .i64 wk):=by simp only[World.cell?,hM3];rfl
   have m3:(w2.alloc (.cells #[.slice fa zf.length fc,.slice la zl.length lc,.int .i64 wk,.int .i64 sp] 138)).cell? ⟨w2.heap.size,3,none⟩=some (.int .i64 sp):=by simp only[World.cell?,hM3];rfl
   have hRn2:¬R=w2.heap.size:=by omega
   go_wp2_with (first|(go_at_call 102;refine hnx.mono ?_;clear hnx;rintro e w' ⟨rfl,mm,rfl⟩))
   have hN4:(((w2.alloc (.cells #[.slice fa zf.length fc,.slice la zl.length lc,.int .i64 wk,.int .i64 sp] 138)).drewN mm).setCell ⟨R,1,none⟩ (.int .i64 (k+1:Nat))).heap[w.heap.size]?=some (.cells #[.slice none 0 0,.slice none 0 0,.int .i64 0,.int .i64 0] 138 (0,0)):=(qq5 _ _ _ _ (by show w.heap.size≠R;omega)).trans hN3
   have hcl:=HCL.out
   have hfr:RowW w.heap.size (((w2.alloc (.cells #[.slice fa zf.length fc,.slice la zl.length lc,.int .i64 wk,.int .i64 sp] 138)).drewN mm).setCell ⟨R,1,none⟩ (.int .i64 (k+1:Nat))) (.slice fa zf.length fc) zf:=((hcl.first.alloc _).drewN mm).of_kinds (fun kk cs fr hk=>qq5 _ _ _ _ (by obtain⟨tv,hRb,_⟩:=HR3.out;exact zO (k:=kk) (b:=R) hRb hk (by decide)))
   have hlr:RowW w.heap.size (((w2.alloc (.cells #[.slice fa zf.length fc,.slice la zl.length lc,.int .i64 wk,.int .i64 sp] 138)).drewN mm).setCell ⟨R,1,none⟩ (.int .i64 (k+1:Nat))) (.slice la zl.length lc) zl:=((hcl.last.alloc _).drewN mm).of_kinds (fun kk cs fr hk=>qq5 _ _ _ _ (by obtain⟨tv,hRb,_⟩:=HR3.out;exact zO (k:=kk) (b:=R) hRb hk (by decide)))
   have hq:Z2 .link R l i ts w (.returned (Yf (.slice fa zf.length fc) (.slice la zl.length lc) wk sp)) (setP (((w2.alloc (.cells #[.slice fa zf.length fc,.slice la zl.length lc,.int .i64 wk,.int .i64 sp] 138)).drewN mm).setCell ⟨R,1,none⟩ (.int .i64 (k+1:Nat))) w.heap.size (.slice fa zf.length fc) (.slice la zl.length lc) (.int .i64 wk) (.int .i64 sp)):=by
    refine⟨(((HK2.out.alloc _).drewN mm).setR 1 _).setP (qq1 _) _ _ _ _,k+1,_,_,zf,zl,wk,sp,rfl,by omega,by omega,⟨hfr.setC hN4 _ _ _ _,hlr.setC hN4 _ _ _ _,?_,?_,hcl.w0,?_,hcl.s0,?_⟩,Or.inr ⟨t,?_,by omega,HZ.out.1,HZ.out.2.1,HZ.out.2.2.1,HZ.out.2.2.2,((HR3.out.drewN mm).place (k+1)).setC hN4 _ _ _ _⟩⟩
    ·have:=hcl.lf;omega
    ·have:=hcl.ll;omega
    ·have:=hcl.w1;omega
    ·have:=hcl.s1;omega
    ·rw[H40.out]
     have:=HG.out
     rw[H41.out]at this
     exact Gr.signs this
   exact zH (b:=w.heap.size) rfl (zp hN4 _ _ _ _) rfl rfl hq
  ·have hnb:Yh 0 l k 41=false:=by unfold Yh;rw[decide_eq_false h41];rfl
   rw[hnb]at hnx
   change Calls Tryz.prog 102 #[.pointer (some ⟨R,0,none⟩),.int .u8 41] _ _ at hnx
   have H41:Hid ((l.drop k).head?≠some 41):=h41
   clear hnb h41
   go_wp2_with (first|(go_at_call 102;refine hnx.mono ?_;clear hnx;rintro e w' ⟨rfl,mm,rfl⟩))
   have hN4:((((w2.alloc (.cells #[.slice fa zf.length fc,.slice la zl.length lc,.int .i64 wk,.int .i64 sp] 138)).drewN mm).setCell ⟨R,3,none⟩ (.int .i64 2))).heap[w.heap.size]?=some (.cells #[.slice none 0 0,.slice none 0 0,.int .i64 0,.int .i64 0] 138 (0,0)):=(qq5 _ _ _ _ (by show w.heap.size≠R;omega)).trans hN3
   have hq:Z2 .link R l i ts w (.returned (Yf (.slice none 0 0) (.slice none 0 0) 0 0)) (setP (((w2.alloc (.cells #[.slice fa zf.length fc,.slice la zl.length lc,.int .i64 wk,.int .i64 sp] 138)).drewN mm).setCell ⟨R,3,none⟩ (.int .i64 2)) w.heap.size (.slice none 0 0) (.slice none 0 0) (.int .i64 0) (.int .i64 0)):=
    zT (k:=k) ((((HK2.out.alloc _).drewN mm).setR 3 _).setP (qq1 _) _ _ _ _) (by omega) hkl (by rw[H40.out];exact Gr.unshut HG.out H41.out) HLL.out (((HR3.out.drewN mm).fault 2).setC hN4 _ _ _ _)
   exact zH (b:=w.heap.size) rfl (zp hN4 _ _ _ _) rfl rfl hq
set_option maxRecDepth 100000 in
set_option maxHeartbeats 8000000 in
theorem za5(R:Nat)(l:List UInt8)(i:Nat)(ts:Zl)(w:World)(hl:l.length≤200)(hi:i≤l.length)(hts:ts.length≤i)(h40:(l.drop i).head?≠some 40)(hnone:numR (l.drop i)=none)(hr:Rw R l i 0 ts w) :
  Calls Tryz.prog 136 #[.pointer (some ⟨R,0,none⟩)] w (Z2 .link R l i ts w):=by
 have HR:Hid (Rw R l i 0 ts w):=hr
 have hRl:=hr.lt
 have hr0:=hr.alloc (.cells #[.slice none 0 0,.slice none 0 0,.int .i64 0,.int .i64 0] 138)
 obtain⟨h0,h1,h3,hf⟩:=hr0.cells
 have hnx:=yD R l i 0 ts 40 _ hl hi hr0
 have hnb:Yh 0 l i 40=false:=by unfold Yh;rw[decide_eq_false h40];rfl
 rw[hnb]at hnx
 change Calls Tryz.prog 102 #[.pointer (some ⟨R,0,none⟩),.int .u8 40] _ _ at hnx
 have HG:Hid (Gr .link (l.drop i) none):=by have:=Gr.num h40;rw[hnone]at this;exact this
 have HNN:Hid (numR (l.drop i)=none):=hnone
 have HR0:Hid (Rw R l i 0 ts (w.alloc (.cells #[.slice none 0 0,.slice none 0 0,.int .i64 0,.int .i64 0] 138))):=hr0
 clear hr hr0 hf hnb h40 h0 h3 hnone
 go_enter Tryz.func136,Tryz.ntmps136
 go_wp2_with (first|(go_at_call 102;refine hnx.mono ?_;clear hnx;rintro e w' ⟨rfl,nn,rfl⟩))
 have HN0:Hid (((w.alloc (.cells #[.slice none 0 0,.slice none 0 0,.int .i64 0,.int .i64 0] 138)).drewN nn).heap[w.heap.size]?=some (.cells #[.slice none 0 0,.slice none 0 0,.int .i64 0,.int .i64 0] 138 (0,0))):=blk_alloc_new w _
 have HR1:Hid (Rw R l i 0 ts ((w.alloc (.cells #[.slice none 0 0,.slice none 0 0,.int .i64 0,.int .i64 0] 138)).drewN nn)):=HR0.out.drewN nn
 have HK0:Hid (Kp R w ((w.alloc (.cells #[.slice none 0 0,.slice none 0 0,.int .i64 0,.int .i64 0] 138)).drewN nn)):=((Kp.refl R w).alloc _).drewN nn
 clear h1 HR0
 go_loopg [6] l.length (fun gg s6 wr=>∃k p,s6=.int .i64 (p.foldl cap2 0:Nat)∧Hid (YZ l i k p)∧Hid (Rw R l k 0 ts wr)∧Hid (Kp R w wr)∧l.length-k≤gg∧Hid (wr.heap[w.heap.size]?=some (.cells #[.slice none 0 0,.slice none 0 0,.int .i64 0,.int .i64 0] 138 (0,0))))
 case atStart=>exact⟨i,[],rfl,YZ.start hi,HR1,HK0,by omega,HN0⟩
 case round=>
  clear HR1 HK0 HN0
  obtain⟨k,p,rfl,hn,HRk,HK,hg,HN⟩:=hrel
  obtain⟨h0,h1,h3,hf⟩:=HRk.out.cells
  have hf1:=hf 1
  have hf3:=hf 3
  clear hf
  have hcap:=zch p 0 (by omega)
  have HC:Hid (∀d,(p++[d]).foldl cap2 0=cap2 (p.foldl cap2 0) d):=fun d=>by show _=_;rw[List.foldl_append];rfl
  have hkl:=hn.out.2.2.2
  have HKI:Hid (k=i+p.length):=hn.out.2.2.1
  have n0:wr.cell? ⟨w.heap.size,0,none⟩=some (.slice none 0 0):=by simp only[World.cell?,HN.out];rfl
  have n1:wr.cell? ⟨w.heap.size,1,none⟩=some (.slice none 0 0):=by simp only[World.cell?,HN.out];rfl
  have n2:wr.cell? ⟨w.heap.size,2,none⟩=some (.int .i64 0):=by simp only[World.cell?,HN.out];rfl
  have n3:wr.cell? ⟨w.heap.size,3,none⟩=some (.int .i64 0):=by simp only[World.cell?,HN.out];rfl
  have nf:∀j,wr.frozen? ⟨w.heap.size,j,none⟩=false:=fun j=>by simp[World.frozen?,HN.out]
  have nf0:=nf 0
  have nf1:=nf 1
  have nf2:=nf 2
  have nf3:=nf 3
  have hRne:¬R=w.heap.size:=by omega
  clear nf
  generalize p.foldl cap2 0=n at *
  by_cases hil:k<l.length
  ·have hsz:k<(⟨l.toArray⟩:ByteArray).size:=by show k<l.toArray.size;simpa using hil
   have hxe:(⟨l.toArray⟩:ByteArray)[k]'hsz=l[k]:=rfl
   have hli:(k:Int)<(l.length:Int):=by omega
   cases hd:ZR l[k]
   ·have HE:Hid (∀x,(l.drop k).head?=some x→ZR x=false):=fun x hx=>by
     rw[yl hil]at hx
     rw[←Option.some.inj hx];exact hd
    by_cases h48b:48≤l[k].toNat
    ·have h57:¬l[k].toNat≤57:=fun h=>by simp[ZR,h48b,h]at hd
     have hd1:(48:Int)≤(l[k].toNat:Int):=by omega
     have q3:48≤((⟨l.toArray⟩:ByteArray)[k]'hsz).toNat:=by rw[hxe];exact h48b
     have hb1:(48:Int)≤(((⟨l.toArray⟩:ByteArray)[k]'hsz).toNat:Int):=by omega
     have d2:decide ((l[k].toNat:Int)≤57)=false:=decide_eq_false (by omega)
     have d4:decide ((((⟨l.toArray⟩:ByteArray)[k]'hsz).toNat:Int)≤57)=false:=decide_eq_false (by rw[hxe];omega)
     have d5:decide (l[k].toNat≤57)=false:=decide_eq_false h57
     have d6:decide (((⟨l.toArray⟩:ByteArray)[k]'hsz).toNat≤57)=false:=decide_eq_false (by rw[hxe];exact h57)
     clear hxe hd
     rcases p with _|⟨d,r⟩
     ·have hke:k=i:=by have:=HKI.out;simpa using this
      subst hke
      have hkk:((k:Int)==(k:Int))=true:=by simp
      go_wp2
      go_quiet (fail)
      go_wp2
      have hN4:((wr.drewN nq).setCell ⟨R,3,none⟩ (.int .i64 2)).heap[w.heap.size]?=some (.cells #[.slice none 0 0,.slice none 0 0,.int .i64 0,.int .i64 0] 138 (0,0)):=(qq5 _ _ _ _ (by show w.heap.size≠R;omega)).trans HN.out
      have hq:Z2 .link R l k ts w (.returned (Yf (.slice none 0 0) (.slice none 0 0) 0 0)) (setP ((wr.drewN nq).setCell ⟨R,3,none⟩ (.int .i64 2)) w.heap.size (.slice none 0 0) (.slice none 0 0) (.int .i64 0) (.int .i64 0)):=
       zT (k:=k) (((HK.out.drewN nq).setR 3 _).setP (qq1 _) _ _ _ _) (by have:=HKI.out;omega) hkl HG.out (by have:=HKI.out;omega) (((HRk.out.drewN nq).fault 2).setC hN4 _ _ _ _)
      exact zH (b:=w.heap.size) rfl (zp hN4 _ _ _ _) rfl rfl hq
     ·have hik:i<k:=by have:=HKI.out;simp at this;omega
      have hiL:i<l.length:=by omega
      have hszi:i<(⟨l.toArray⟩:ByteArray).size:=by show i<l.toArray.size;simpa using hiL
      have hxi:(⟨l.toArray⟩:ByteArray)[i]'hszi=l[i]:=rfl
      have hld:l[i]=d:=by
       have h1:=hn.out.1
       rw[List.drop_eq_getElem_cons hiL]at h1
       exact(List.cons.inj h1).1
      have hki:((k:Int)==(i:Int))=false:=by simp;omega
      have hki':¬(k:Int)=(i:Int):=by omega
      have hli2:(i:Int)<(l.length:Int):=by omega
      have h48:d=48:=by
       rcases Decidable.em (d=48)with h|h
       ·exact h
       ·have:=y4 (hn.out.ends HE.out).1 h
        rw[HNN.out]at this
        cases this
      subst h48
      have h48':((((⟨l.toArray⟩:ByteArray)[i]'hszi).toNat:Int)==48)=true:=by rw[hxi,hld];rfl
      have h48i:((l[i].toNat:Int)==48)=true:=by rw[hld];rfl
      clear hxi hld
      go_wp2
      go_quiet (fail)
      go_wp2
      have hN4:((wr.drewN nq).setCell ⟨R,3,none⟩ (.int .i64 2)).heap[w.heap.size]?=some (.cells #[.slice none 0 0,.slice none 0 0,.int .i64 0,.int .i64 0] 138 (0,0)):=(qq5 _ _ _ _ (by show w.heap.size≠R;omega)).trans HN.out
      have hq:Z2 .link R l i ts w (.returned (Yf (.slice none 0 0) (.slice none 0 0) 0 0)) (setP ((wr.drewN nq).setCell ⟨R,3,none⟩ (.int .i64 2)) w.heap.size (.slice none 0 0) (.slice none 0 0) (.int .i64 0) (.int .i64 0)):=
       zT (k:=k) (((HK.out.drewN nq).setR 3 _).setP (qq1 _) _ _ _ _) (by have:=HKI.out;omega) hkl HG.out (by have:=HKI.out;omega) (((HRk.out.drewN nq).fault 2).setC hN4 _ _ _ _)
      exact zH (b:=w.heap.size) rfl (zp hN4 _ _ _ _) rfl rfl hq
    ·have d2:decide ((48:Int)≤(l[k].toNat:Int))=false:=decide_eq_false (by omega)
     have d4:decide ((48:Int)≤(((⟨l.toArray⟩:ByteArray)[k]'hsz).toNat:Int))=false:=decide_eq_false (by rw[hxe];omega)
     have d5:decide (48≤l[k].toNat)=false:=decide_eq_false h48b
     have d6:decide (48≤((⟨l.toArray⟩:ByteArray)[k]'hsz).toNat)=false:=decide_eq_false (by rw[hxe];exact h48b)
     clear hxe hd
     rcases p with _|⟨d,r⟩
     ·have hke:k=i:=by have:=HKI.out;simpa using this
      subst hke
      have hkk:((k:Int)==(k:Int))=true:=by simp
      go_wp2
      go_quiet (fail)
      go_wp2
      have hN4:((wr.drewN nq).setCell ⟨R,3,none⟩ (.int .i64 2)).heap[w.heap.size]?=some (.cells #[.slice none 0 0,.slice none 0 0,.int .i64 0,.int .i64 0] 138 (0,0)):=(qq5 _ _ _ _ (by show w.heap.size≠R;omega)).trans HN.out
      have hq:Z2 .link R l k ts w (.returned (Yf (.slice none 0 0) (.slice none 0 0) 0 0)) (setP ((wr.drewN nq).setCell ⟨R,3,none⟩ (.int .i64 2)) w.heap.size (.slice none 0 0) (.slice none 0 0) (.int .i64 0) (.int .i64 0)):=
       zT (k:=k) (((HK.out.drewN nq).setR 3 _).setP (qq1 _) _ _ _ _) (by have:=HKI.out;omega) hkl HG.out (by have:=HKI.out;omega) (((HRk.out.drewN nq).fault 2).setC hN4 _ _ _ _)
      exact zH (b:=w.heap.size) rfl (zp hN4 _ _ _ _) rfl rfl hq
     ·have hik:i<k:=by have:=HKI.out;simp at this;omega
      have hiL:i<l.length:=by omega
      have hszi:i<(⟨l.toArray⟩:ByteArray).size:=by show i<l.toArray.size;simpa using hiL
      have hxi:(⟨l.toArray⟩:ByteArray)[i]'hszi=l[i]:=rfl
      have hld:l[i]=d:=by
       have h1:=hn.out.1
       rw[List.drop_eq_getElem_cons hiL]at h1
       exact(List.cons.inj h1).1
      have hki:((k:Int)==(i:Int))=false:=by simp;omega
      have hki':¬(k:Int)=(i:Int):=by omega
      have hli2:(i:Int)<(l.length:Int):=by omega
      have h48:d=48:=by
       rcases Decidable.em (d=48)with h|h
       ·exact h
       ·have:=y4 (hn.out.ends HE.out).1 h
        rw[HNN.out]at this
        cases this
      subst h48
      have h48':((((⟨l.toArray⟩:ByteArray)[i]'hszi).toNat:Int)==48)=true:=by rw[hxi,hld];rfl
      have h48i:((l[i].toNat:Int)==48)=true:=by rw[hld];rfl
      clear hxi hld
      go_wp2
      go_quiet (fail)
      go_wp2
      have hN4:((wr.drewN nq).setCell ⟨R,3,none⟩ (.int .i64 2)).heap[w.heap.size]?=some (.cells #[.slice none 0 0,.slice none 0 0,.int .i64 0,.int .i64 0] 138 (0,0)):=(qq5 _ _ _ _ (by show w.heap.size≠R;omega)).trans HN.out
      have hq:Z2 .link R l i ts w (.returned (Yf (.slice none 0 0) (.slice none 0 0) 0 0)) (setP ((wr.drewN nq).setCell ⟨R,3,none⟩ (.int .i64 2)) w.heap.size (.slice none 0 0) (.slice none 0 0) (.int .i64 0) (.int .i64 0)):=
       zT (k:=k) (((HK.out.drewN nq).setR 3 _).setP (qq1 _) _ _ _ _) (by have:=HKI.out;omega) hkl HG.out (by have:=HKI.out;omega) (((HRk.out.drewN nq).fault 2).setC hN4 _ _ _ _)
      exact zH (b:=w.heap.size) rfl (zp hN4 _ _ _ _) rfl rfl hq
   ·have HS:Hid (YZ l i (k+1) (p++[l[k]])):=hn.out.step hil hd
    have hdb:48≤l[k].toNat∧l[k].toNat≤57:=by simpa[ZR]using hd
    have hd1:(48:Int)≤(l[k].toNat:Int):=by omega
    have hd2:(l[k].toNat:Int)≤57:=by omega
    have hb1:(48:Int)≤(((⟨l.toArray⟩:ByteArray)[k]'hsz).toNat:Int):=by rw[hxe];exact hd1
    have hb2:(((⟨l.toArray⟩:ByteArray)[k]'hsz).toNat:Int)≤57:=by rw[hxe];exact hd2
    have hee:((0:Int)==0)=true:=rfl
    have q1:48≤l[k].toNat:=hdb.1
    have q2:l[k].toNat≤57:=hdb.2
    have q3:48≤((⟨l.toArray⟩:ByteArray)[k]'hsz).toNat:=by rw[hxe];exact q1
    have q4:((⟨l.toArray⟩:ByteArray)[k]'hsz).toNat≤57:=by rw[hxe];exact q2
    have HXE:Hid ((⟨l.toArray⟩:ByteArray)[k]'hsz=l[k]):=hxe
    clear hxe hd hdb
    have HCD:Hid ((p++[l[k]]).foldl cap2 0=cap2 n l[k]):=HC.out l[k]
    by_cases hm:n<1000
    ·have hmi:(n:Int)<1000:=by omega
     go_wp2
     go_quiet (fail)
     go_wp2
     go_quiet (fail)
     go_wp2
     go_roundg (l.length-(k+1))
     case measure=>omega
     case rel=>exact⟨k+1,p++[l[k]],by rw[HCD.out];unfold cap2;rw[if_pos hm,←HXE.out];go_num,HS,(HRk.out.drewN _).place (k+1),(HK.out.drewN _).setR 1 _,qq1 _,(qq5 _ _ _ _ (by show w.heap.size≠R;omega)).trans HN.out⟩
    ·have hmi:¬(n:Int)<1000:=by omega
     go_wp2
     go_quiet (fail)
     go_wp2
     go_roundg (l.length-(k+1))
     case measure=>omega
     case rel=>exact⟨k+1,p++[l[k]],by rw[HCD.out];unfold cap2;rw[if_neg hm],HS,(HRk.out.drewN _).place (k+1),(HK.out.drewN _).setR 1 _,qq1 _,(qq5 _ _ _ _ (by show w.heap.size≠R;omega)).trans HN.out⟩
  ·have HE:Hid (∀x,(l.drop k).head?=some x→ZR x=false):=fun x hx=>by rw[xc (by omega)]at hx;cases hx
   have hli:decide ((k:Int)<(l.length:Int))=false:=decide_eq_false (by omega)
   rcases p with _|⟨d,r⟩
   ·have hke:k=i:=by have:=HKI.out;simpa using this
    subst hke
    have hkk:((k:Int)==(k:Int))=true:=by simp
    go_wp2
    go_quiet (fail)
    go_wp2
    have hN4:((wr.drewN nq).setCell ⟨R,3,none⟩ (.int .i64 2)).heap[w.heap.size]?=some (.cells #[.slice none 0 0,.slice none 0 0,.int .i64 0,.int .i64 0] 138 (0,0)):=(qq5 _ _ _ _ (by show w.heap.size≠R;omega)).trans HN.out
    have hq:Z2 .link R l k ts w (.returned (Yf (.slice none 0 0) (.slice none 0 0) 0 0)) (setP ((wr.drewN nq).setCell ⟨R,3,none⟩ (.int .i64 2)) w.heap.size (.slice none 0 0) (.slice none 0 0) (.int .i64 0) (.int .i64 0)):=
     zT (k:=k) (((HK.out.drewN nq).setR 3 _).setP (qq1 _) _ _ _ _) (by have:=HKI.out;omega) hkl HG.out (by have:=HKI.out;omega) (((HRk.out.drewN nq).fault 2).setC hN4 _ _ _ _)
    exact zH (b:=w.heap.size) rfl (zp hN4 _ _ _ _) rfl rfl hq
   ·have hik:i<k:=by have:=HKI.out;simp at this;omega
    have hiL:i<l.length:=by omega
    have hszi:i<(⟨l.toArray⟩:ByteArray).size:=by show i<l.toArray.size;simpa using hiL
    have hxi:(⟨l.toArray⟩:ByteArray)[i]'hszi=l[i]:=rfl
    have hld:l[i]=d:=by
     have h1:=hn.out.1
     rw[List.drop_eq_getElem_cons hiL]at h1
     exact(List.cons.inj h1).1
    have hki:((k:Int)==(i:Int))=false:=by simp;omega
    have hki':¬(k:Int)=(i:Int):=by omega
    have hli2:(i:Int)<(l.length:Int):=by omega
    have h48:d=48:=by
     rcases Decidable.em (d=48)with h|h
     ·exact h
     ·have:=y4 (hn.out.ends HE.out).1 h
      rw[HNN.out]at this
      cases this
    subst h48
    have h48':((((⟨l.toArray⟩:ByteArray)[i]'hszi).toNat:Int)==48)=true:=by rw[hxi,hld];rfl
    have h48i:((l[i].toNat:Int)==48)=true:=by rw[hld];rfl
    clear hxi hld
    go_wp2
    go_quiet (fail)
    go_wp2
    have hN4:((wr.drewN nq).setCell ⟨R,3,none⟩ (.int .i64 2)).heap[w.heap.size]?=some (.cells #[.slice none 0 0,.slice none 0 0,.int .i64 0,.int .i64 0] 138 (0,0)):=(qq5 _ _ _ _ (by show w.heap.size≠R;omega)).trans HN.out
    have hq:Z2 .link R l i ts w (.returned (Yf (.slice none 0 0) (.slice none 0 0) 0 0)) (setP ((wr.drewN nq).setCell ⟨R,3,none⟩ (.int .i64 2)) w.heap.size (.slice none 0 0) (.slice none 0 0) (.int .i64 0) (.int .i64 0)):=
     zT (k:=k) (((HK.out.drewN nq).setR 3 _).setP (qq1 _) _ _ _ _) (by have:=HKI.out;omega) hkl HG.out (by have:=HKI.out;omega) (((HRk.out.drewN nq).fault 2).setC hN4 _ _ _ _)
    exact zH (b:=w.heap.size) rfl (zp hN4 _ _ _ _) rfl rfl hq
end
end Go.Proofs.YtlfbdjeojgbniaaGreatDoor

import Derived.Test.YtlfbdjeojgbniaaGreatDoorRan41
namespace Go.Proofs.YtlfbdjeojgbniaaGreatDoor
section
open Go.RowKit Go.Deep
theorem Rw.laid{R i:Nat}{l:List UInt8}{e:Int}{ts':Zl}{w:World}{tv tv':Value}(h1:w.heap[R]?=some (.cells #[.string ⟨l.toArray⟩,.int .i64 i,tv,.int .i64 e] 136 (0,0)))(ht:RowT (R+1) (fun _=>True) w tv' ts'):Rw R l i e ts' (w.setCell ⟨R,2,none⟩ tv'):=by
 refine⟨tv',?_,ht.of_blocks (fun k hk _ _=>qq5 _ _ _ _ (by show k≠R;omega))⟩
 have:=heap_setCell_same w R 2 _ 136 tv' h1
 simpa using this
set_option maxRecDepth 100000 in
set_option maxHeartbeats 8000000 in
theorem ze7(R:Nat)(l:List UInt8)(i:Nat)(ts:Zl)(w:World)(t0:Tree)(r0:List UInt8)(hl:l.length≤200)(hi:i≤l.length)(hts:ts.length≤i)(h40:(l.drop i).head?≠some 40)(hsome:numR (l.drop i)=some (t0,r0))(hr:Rw R l i 0 ts w) :
  Calls Tryz.prog 136 #[.pointer (some ⟨R,0,none⟩)] w (Z2 .link R l i ts w):=by
 have HR:Hid (Rw R l i 0 ts w):=hr
 have hRl:=hr.lt
 have hr0:=hr.alloc (.cells #[.slice none 0 0,.slice none 0 0,.int .i64 0,.int .i64 0] 138)
 obtain⟨h0,h1,h3,hf⟩:=hr0.cells
 have hnx:=yD R l i 0 ts 40 _ hl hi hr0
 have hnb:Yh 0 l i 40=false:=by unfold Yh;rw[decide_eq_false h40];rfl
 rw[hnb]at hnx
 change Calls Tryz.prog 102 #[.pointer (some ⟨R,0,none⟩),.int .u8 40] _ _ at hnx
 have HG:Hid (Gr .link (l.drop i) (some (t0,r0))):=by have:=Gr.num h40;rw[hsome]at this;exact this
 have HNN:Hid (numR (l.drop i)=some (t0,r0)):=hsome
 have HR0:Hid (Rw R l i 0 ts (w.alloc (.cells #[.slice none 0 0,.slice none 0 0,.int .i64 0,.int .i64 0] 138))):=hr0
 clear hr hr0 hf hnb h40 h0 h3 hsome
 go_enter Tryz.func136,Tryz.ntmps136
 obtain⟨i37,hi37,hz0,hz1,hz2⟩:=info_parts Tryz.info94
 go_upto_block 0 with (first|(go_at_call 102;refine hnx.mono ?_;clear hnx;rintro e w' ⟨rfl,nn,rfl⟩))
 have HN0:Hid (((w.alloc (.cells #[.slice none 0 0,.slice none 0 0,.int .i64 0,.int .i64 0] 138)).drewN nn).heap[w.heap.size]?=some (.cells #[.slice none 0 0,.slice none 0 0,.int .i64 0,.int .i64 0] 138 (0,0))):=blk_alloc_new w _
 have HR1:Hid (Rw R l i 0 ts ((w.alloc (.cells #[.slice none 0 0,.slice none 0 0,.int .i64 0,.int .i64 0] 138)).drewN nn)):=HR0.out.drewN nn
 have HK0:Hid (Kp R w ((w.alloc (.cells #[.slice none 0 0,.slice none 0 0,.int .i64 0,.int .i64 0] 138)).drewN nn)):=((Kp.refl R w).alloc _).drewN nn
 clear h1 HR0
 go_cut [6] from 41 to 104 (fun s6 wx=>∃k p,s6=.int .i64 (V2 p)∧((l.drop i).takeWhile ZR=p∧(l.drop i).dropWhile ZR=l.drop k)∧Hid (k=i+p.length)∧k≤l.length∧Hid (Rw R l k 0 ts wx)∧Hid (Kp R w wx)∧Hid (wx.heap[w.heap.size]?=some (.cells #[.slice none 0 0,.slice none 0 0,.int .i64 0,.int .i64 0] 138 (0,0))))
 case first=>as_aux_lemma=>
  go_wp2_with fail
  go_loopg [6] l.length (fun gg s6 wr=>∃k p,s6=.int .i64 (p.foldl cap2 0:Nat)∧Hid (YZ l i k p)∧Hid (Rw R l k 0 ts wr)∧Hid (Kp R w wr)∧l.length-k≤gg∧Hid (wr.heap[w.heap.size]?=some (.cells #[.slice none 0 0,.slice none 0 0,.int .i64 0,.int .i64 0] 138 (0,0))))
  case atStart=>exact⟨i,[],rfl,YZ.start hi,HR1,HK0,by omega,HN0⟩
  case round=>
   clear HR1 HK0 HN0
   obtain⟨k,p,rfl,hn,HRk,HK,hg,HN⟩:=hrel
   obtain⟨h0,h1,h3,hf⟩:=HRk.out.cells
   have hf1:=hf 1
   have hf3:=hf 3
   clear hf
   have hcap:=zch p 0 (by omega)
   have HC:Hid (∀d,(p++[d]).foldl cap2 0=cap2 (p.foldl cap2 0) d):=fun d=>by show _=_;rw[List.foldl_append];rfl
   have hkl:=hn.out.2.2.2
   have HKI:Hid (k=i+p.length):=hn.out.2.2.1
   have HC0:Hid (Value.int .i64 (p.foldl cap2 0:Nat)=.int .i64 (V2 p)):=rfl
   have hRne:¬R=w.heap.size:=by omega
   have HVN:Hid (V2 p=((p.foldl cap2 0:Nat):Int)):=rfl
   clear HC0
   generalize p.foldl cap2 0=n at *
   have HC0:Hid (Value.int .i64 (n:Nat)=.int .i64 (V2 p)):=by show _=_;rw[HVN.out]
   by_cases hil:k<l.length
   ·have hsz:k<(⟨l.toArray⟩:ByteArray).size:=by show k<l.toArray.size;simpa using hil
    have hxe:(⟨l.toArray⟩:ByteArray)[k]'hsz=l[k]:=rfl
    have hli:(k:Int)<(l.length:Int):=by omega
    cases hd:ZR l[k]
    ·have HE:Hid (∀x,(l.drop k).head?=some x→ZR x=false):=fun x hx=>by
      rw[yl hil]at hx
      rw[←Option.some.inj hx];exact hd
     by_cases h48b:48≤l[k].toNat
     ·have h57:¬l[k].toNat≤57:=fun h=>by simp[ZR,h48b,h]at hd
      have hd1:(48:Int)≤(l[k].toNat:Int):=by omega
      have q3:48≤((⟨l.toArray⟩:ByteArray)[k]'hsz).toNat:=by rw[hxe];exact h48b
      have hb1:(48:Int)≤(((⟨l.toArray⟩:ByteArray)[k]'hsz).toNat:Int):=by omega
      have d2:decide ((l[k].toNat:Int)≤57)=false:=decide_eq_false (by omega)
      have d4:decide ((((⟨l.toArray⟩:ByteArray)[k]'hsz).toNat:Int)≤57)=false:=decide_eq_false (by rw[hxe];omega)
      have d5:decide (l[k].toNat≤57)=false:=decide_eq_false h57
      have d6:decide (((⟨l.toArray⟩:ByteArray)[k]'hsz).toNat≤57)=false:=decide_eq_false (by rw[hxe];exact h57)
      clear hxe hd
      go_wp2
      go_quiet (fail)
      go_wp2
      go_meet
      exact⟨k,p,HC0.out,hn.out.ends HE.out,HKI,hkl,HRk.out.drewN _,HK.out.drewN _,HN.out⟩
     ·have d2:decide ((48:Int)≤(l[k].toNat:Int))=false:=decide_eq_false (by omega)
      have d4:decide ((48:Int)≤(((⟨l.toArray⟩:ByteArray)[k]'hsz).toNat:Int))=false:=decide_eq_false (by rw[hxe];omega)
      have d5:decide (48≤l[k].toNat)=false:=decide_eq_false h48b
      have d6:decide (48≤((⟨l.toArray⟩:ByteArray)[k]'hsz).toNat)=false:=decide_eq_false (by rw[hxe];exact h48b)
      clear hxe hd
      go_wp2
      go_quiet (fail)
      go_wp2
      go_meet
      exact⟨k,p,HC0.out,hn.out.ends HE.out,HKI,hkl,HRk.out.drewN _,HK.out.drewN _,HN.out⟩
    ·have HS:Hid (YZ l i (k+1) (p++[l[k]])):=hn.out.step hil hd
     have hdb:48≤l[k].toNat∧l[k].toNat≤57:=by simpa[ZR]using hd
     have hd1:(48:Int)≤(l[k].toNat:Int):=by omega
     have hd2:(l[k].toNat:Int)≤57:=by omega
     have hb1:(48:Int)≤(((⟨l.toArray⟩:ByteArray)[k]'hsz).toNat:Int):=by rw[hxe];exact hd1
     have hb2:(((⟨l.toArray⟩:ByteArray)[k]'hsz).toNat:Int)≤57:=by rw[hxe];exact hd2
     have hee:((0:Int)==0)=true:=rfl
     have q1:48≤l[k].toNat:=hdb.1
     have q2:l[k].toNat≤57:=hdb.2
     have q3:48≤((⟨l.toArray⟩:ByteArray)[k]'hsz).toNat:=by rw[hxe];exact q1
     have q4:((⟨l.toArray⟩:ByteArray)[k]'hsz).toNat≤57:=by rw[hxe];exact q2
     have HXE:Hid ((⟨l.toArray⟩:ByteArray)[k]'hsz=l[k]):=hxe
     clear hxe hd hdb
     have HCD:Hid ((p++[l[k]]).foldl cap2 0=cap2 n l[k]):=HC.out l[k]
     by_cases hm:n<1000
     ·have hmi:(n:Int)<1000:=by omega
      go_wp2
      go_quiet (fail)
      go_wp2
      go_quiet (fail)
      go_wp2
      go_roundg (l.length-(k+1))
      case measure=>omega
      case rel=>exact⟨k+1,p++[l[k]],by rw[HCD.out];unfold cap2;rw[if_pos hm,←HXE.out];go_num,HS,(HRk.out.drewN _).place (k+1),(HK.out.drewN _).setR 1 _,qq1 _,(qq5 _ _ _ _ (by show w.heap.size≠R;omega)).trans HN.out⟩
     ·have hmi:¬(n:Int)<1000:=by omega
      go_wp2
      go_quiet (fail)
      go_wp2
      go_roundg (l.length-(k+1))
      case measure=>omega
      case rel=>exact⟨k+1,p++[l[k]],by rw[HCD.out];unfold cap2;rw[if_neg hm],HS,(HRk.out.drewN _).place (k+1),(HK.out.drewN _).setR 1 _,qq1 _,(qq5 _ _ _ _ (by show w.heap.size≠R;omega)).trans HN.out⟩
   ·have HE:Hid (∀x,(l.drop k).head?=some x→ZR x=false):=fun x hx=>by rw[xc (by omega)]at hx;cases hx
    have hli:decide ((k:Int)<(l.length:Int))=false:=decide_eq_false (by omega)
    go_wp2
    go_quiet (fail)
    go_wp2
    go_meet
    exact⟨k,p,HC0.out,hn.out.ends HE.out,HKI,hkl,HRk.out.drewN _,HK.out.drewN _,HN.out⟩
 case rest=>as_aux_lemma=>
  obtain⟨k,p,rfl,hends,HKI,hkl,HRk,HK,HN⟩:=hcut
  clear HR1 HK0 HN0
  rcases p with _|⟨d,r⟩
  ·have:=j8 hends.1
   rw[HNN.out]at this
   cases this
  have hd48:d≠48:=fun h=>by
   subst h
   have:=j9 hends.1
   rw[HNN.out]at this
   cases this
  have HSO:Hid (Gr .link (l.drop i) (some (.num (d::r),l.drop k))):=by
   have h1:=y4 hends.1 hd48
   rw[hends.2,HNN.out]at h1
   have h2:=HG.out
   rw[h1]at h2
   exact h2
  have hik:i<k:=by have:=HKI.out;simp at this;omega
  have hiL:i<l.length:=by omega
  have hszi:i<(⟨l.toArray⟩:ByteArray).size:=by show i<l.toArray.size;simpa using hiL
  have hxi:(⟨l.toArray⟩:ByteArray)[i]'hszi=l[i]:=rfl
  have hld:l[i]=d:=by
   have h1:=hends.1
   rw[List.drop_eq_getElem_cons hiL,List.takeWhile_cons]at h1
   split at h1
   ·exact(List.cons.inj h1).1
   ·cases h1
  have hki:((k:Int)==(i:Int))=false:=by simp;omega
  have hki':¬(k:Int)=(i:Int):=by omega
  have hli2:(i:Int)<(l.length:Int):=by omega
  have hdn:¬((d.toNat:Int)=48):=fun h=>hd48 (UInt8.toNat_inj.1 (by have:d.toNat=48:=(by omega);rw[this];rfl))
  have h48':((((⟨l.toArray⟩:ByteArray)[i]'hszi).toNat:Int)==48)=false:=by rw[hxi,hld];simpa using hdn
  have h48i:((l[i].toNat:Int)==48)=false:=by rw[hld];simpa using hdn
  obtain⟨h0,h1,h3,hf⟩:=HRk.out.cells
  have hf2:=hf 2
  have hKs:=HK.out.size
  have hcp:=zjg (d::r)
  have hcnt:ts.length+1≤k:=by omega
  obtain⟨tv,hRb,htr⟩:=HRk.out
  obtain⟨ta,tc,rfl⟩:=htr.shape
  have h2c:wc.cell? ⟨R,2,none⟩=some (.slice ta ts.length tc):=by simp[World.cell?,hRb]
  generalize hvp:V2 (d::r)=vp at *
  have HVP:Hid (V2 (d::r)=vp):=hvp
  have hbA:Below wc.heap.size wc (wc.alloc (.cells #[.int .i64 vp,.slice none 0 0] 94)):=(qq4 _ _).alloc (qq1 _) _
  have HRA:Hid (Rw R l k 0 ts (wc.alloc (.cells #[.int .i64 vp,.slice none 0 0] 94))):=HRk.out.alloc _
  obtain⟨xs,ho,hx⟩:=htr.of_blocks (w':=wc.alloc (.cells #[.int .i64 vp,.slice none 0 0] 94)) (fun k _ hk _=>hbA.block k hk)
  have HX:Hid (∀j,j<ts.length→xs[j*2]?=some (.int .i64 (ts.getD j (0,[])).1)∧∃nv,xs[j*2+1]?=some nv∧RowW (R+1) (wc.alloc (.cells #[.int .i64 vp,.slice none 0 0] 94)) nv (Za ts j)∧∀k,nv.ownBlock=some k→True):=hx
  have hRb':(wc.alloc (.cells #[.int .i64 vp,.slice none 0 0] 94)).heap[R]?=some (.cells #[.string ⟨l.toArray⟩,.int .i64 k,.slice ta ts.length tc,.int .i64 0] 136 (0,0)):=(hbA.block _ (lt_of_block hRb)).trans hRb
  have hN1:=(hbA.block w.heap.size (lt_of_block HN.out)).trans HN.out
  have HRB:Hid ((wc.alloc (.cells #[.int .i64 vp,.slice none 0 0] 94)).heap[R]?=some (.cells #[.string ⟨l.toArray⟩,.int .i64 k,.slice ta ts.length tc,.int .i64 0] 136 (0,0))):=hRb'
  have HN1:Hid ((wc.alloc (.cells #[.int .i64 vp,.slice none 0 0] 94)).heap[w.heap.size]?=some (.cells #[.slice none 0 0,.slice none 0 0,.int .i64 0,.int .i64 0] 138 (0,0))):=hN1
  have hRs:R<wc.heap.size:=lt_of_block hRb
  clear hx htr hRb hvp hf hends hd48 hdn hxi hld HNN HG hRb' hN1 hbA
  go_wp2_with (at_builtin;refine wpList_append_own _ rfl (.tmp 128) (.tmp 131) 27 rfl (R+1) 94 i37 (.agg #[.int .i64 0,.slice none 0 0]) 2 32 Tryz.underlying27 hi37 hz0 hz1 hz2 rfl (by decide) _ ts.length xs rfl ho ⟨wc.heap.size,0,none⟩ 1 1 [.int .i64 vp,.slice none 0 0] rfl rfl ?c1 ?c2 ?c3 ?c4 ?c5 ?_)
  case c1=>exact cell_two_new wc (.int .i64 vp) (.slice none 0 0) 94
  case c2=>intro u hu;simp at hu;rcases hu with rfl|rfl <;> rfl
  case c3=>unfold maxLen;omega
  case c4=>omega
  case c5=>simp;omega
  intro v' w2 hown' hgrow _
  have hRb2:=zD ho hgrow HRB.out (by decide)
  have hN2:=zD ho hgrow HN1.out (by decide)
  have hrt:RowT (R+1) (fun _=>True) w2 v' (ts++[(vp,[])]):=RowT.append ho HX.out hown' hgrow
  have HRD2:Hid (Rw R l k 0 (ts++[(vp,[])]) (w2.setCell ⟨R,2,none⟩ v')):=Rw.laid hRb2 hrt
  have HK2:Hid (Kp R w w2):=(HK.out.alloc _).grown hgrow (fun k e=>by
   have h1:=ho.lt k e
   refine Or.inr (Or.inr ⟨by omega,?_⟩)
   rcases ho.2 with⟨hv,_⟩|⟨g,cap,cur,hv,_,hh,_⟩
   ·rw[hv]at e;simp[Value.ownBlock]at e
   ·rw[hv]at e;simp only[Value.ownBlock,Option.some.injEq]at e
    subst e;exact⟨_,_,hh⟩)
  have hsz2:w.heap.size<w2.heap.size:=lt_of_block hN2
  have hRne:¬R=w.heap.size:=by omega
  have hc2:w2.cell? ⟨R,2,none⟩=some (.slice ta ts.length tc):=by simp[World.cell?,hRb2]
  have hf2':w2.frozen? ⟨R,2,none⟩=false:=by simp[World.frozen?,hRb2]
  have q0:w2.cell? ⟨w.heap.size,0,none⟩=some (.slice none 0 0):=by simp only[World.cell?,hN2];rfl
  have q1:w2.cell? ⟨w.heap.size,1,none⟩=some (.slice none 0 0):=by simp only[World.cell?,hN2];rfl
  have q2:w2.cell? ⟨w.heap.size,2,none⟩=some (.int .i64 0):=by simp only[World.cell?,hN2];rfl
  have q3:w2.cell? ⟨w.heap.size,3,none⟩=some (.int .i64 0):=by simp only[World.cell?,hN2];rfl
  have qf:∀j,w2.frozen? ⟨w.heap.size,j,none⟩=false:=fun j=>by simp[World.frozen?,hN2]
  have qf0:=qf 0
  have qf1:=qf 1
  have qf2:=qf 2
  have qf3:=qf 3
  obtain⟨vg,vc,rfl⟩:=zB hown' (by omega)
  clear hown' hgrow ho hrt HX HRA qf hf2 h0 h1 h3 h2c HRB HN1
  go_wp2
  have hN3:(w2.setCell ⟨R,2,none⟩ (.slice (some ⟨vg,0,none⟩) (ts.length+1) vc)).heap[w.heap.size]?=some (.cells #[.slice none 0 0,.slice none 0 0,.int .i64 0,.int .i64 0] 138 (0,0)):=(qq5 _ _ _ _ (by show w.heap.size≠R;omega)).trans hN2
  show bodyPost Tryz.prog Tryz.f136 (Z2 .link R l i ts w) Exit.ret _ ((setP (w2.setCell ⟨R,2,none⟩ (.slice (some ⟨vg,0,none⟩) (ts.length+1) vc)) w.heap.size (.slice (some ⟨w2.heap.size,0,none⟩) 1 1) (.slice (some ⟨w2.heap.size,0,none⟩) 1 1) (.int .i64 vp) (.int .i64 vp)).alloc (.cells #[.int .i64 (ts.length:Nat)] 3))
  have hNW:=zp hN3 (.slice (some ⟨w2.heap.size,0,none⟩) 1 1) (.slice (some ⟨w2.heap.size,0,none⟩) 1 1) (.int .i64 vp) (.int .i64 vp)
  have hRW:=HRD2.out.setC hN3 (.slice (some ⟨w2.heap.size,0,none⟩) 1 1) (.slice (some ⟨w2.heap.size,0,none⟩) 1 1) (.int .i64 vp) (.int .i64 vp)
  have hKW:=(HK2.out.setR 2 (.slice (some ⟨vg,0,none⟩) (ts.length+1) vc)).setP (qq1 w.heap.size) (.slice (some ⟨w2.heap.size,0,none⟩) 1 1) (.slice (some ⟨w2.heap.size,0,none⟩) 1 1) (.int .i64 vp) (.int .i64 vp)
  have hWs:(setP (w2.setCell ⟨R,2,none⟩ (.slice (some ⟨vg,0,none⟩) (ts.length+1) vc)) w.heap.size (.slice (some ⟨w2.heap.size,0,none⟩) 1 1) (.slice (some ⟨w2.heap.size,0,none⟩) 1 1) (.int .i64 vp) (.int .i64 vp)).heap.size=w2.heap.size:=by rw[zcb];simp
  generalize setP (w2.setCell ⟨R,2,none⟩ (.slice (some ⟨vg,0,none⟩) (ts.length+1) vc)) w.heap.size (.slice (some ⟨w2.heap.size,0,none⟩) 1 1) (.slice (some ⟨w2.heap.size,0,none⟩) 1 1) (.int .i64 vp) (.int .i64 vp)=W at hNW hRW hKW hWs ⊢
  have hrow:RowW w.heap.size (W.alloc (.cells #[.int .i64 (ts.length:Nat)] 3)) (.slice (some ⟨w2.heap.size,0,none⟩) 1 1) [((ts.length:Nat):Int)]:=by
   have:=RowW.lit W w.heap.size (by omega) (ts.length:Nat)
   rw[hWs]at this
   exact this
  have hq:Z2 .link R l i ts w (.returned (Yf (.slice (some ⟨w2.heap.size,0,none⟩) 1 1) (.slice (some ⟨w2.heap.size,0,none⟩) 1 1) vp vp)) (W.alloc (.cells #[.int .i64 (ts.length:Nat)] 3)):=by
   refine⟨hKW.alloc _,k,_,_,[((ts.length:Nat):Int)],[((ts.length:Nat):Int)],vp,vp,rfl,by omega,hkl,⟨hrow,hrow,by simp;omega,by simp;omega,hcp.1,by omega,hcp.1,by omega⟩,Or.inr ⟨.num (d::r),HSO.out,by simp only[Tree.count];omega,rfl,rfl,HVP.out.symm,HVP.out.symm,?_⟩⟩
   simp only[Tree.lay]
   rw[HVP.out]
   exact hRW.alloc _
  exact zH (b:=w.heap.size) rfl ((blk_alloc_lt _ _ _ (by omega)).trans hNW) rfl rfl hq
theorem jV{l:List UInt8}{i:Nat}{c:UInt8}(h:(l.drop i).head?=some c):i<l.length∧l.drop i=c::l.drop (i+1):=by
 rcases Nat.lt_or_ge i l.length with hi|hi
 ·refine⟨hi,?_⟩
  rw[yl hi]at h
  rw[List.drop_eq_getElem_cons hi,Option.some.inj h]
 ·rw[xc hi]at h;cases h
theorem zi1(n:Nat)(h:YM 63 .weave n):YM 136 .link (n+1):=by
 intro R l i ts w hl hi hn hts hr
 by_cases h40:(l.drop i).head?=some 40
 ·obtain⟨hi',hd⟩:=jV h40
  exact zdJ n h R l i ts w hl hi' hn hts hd hr
 ·cases hnum:numR (l.drop i) with
  | none=>exact za5 R l i ts w hl hi hts h40 hnum hr
  | some x=>exact ze7 R l i ts w x.1 x.2 hl hi hts h40 hnum hr
theorem za6:YM 136 .link 0:=by
 intro R l i ts w hl hi hn hts hr
 have hie:l.length≤i:=by omega
 have hnil:l.drop i=[]:=List.drop_eq_nil_of_le hie
 exact za5 R l i ts w hl hi hts (by rw[hnil];simp) (by rw[hnil];rfl) hr
structure YN (K:Kind) (KL:Tree→Kind) (R:Nat) (l:List UInt8) (i:Nat) (ts:Zl) (w:World) (B3:Nat) (wr:World) (k:Nat) (fv lv:Value) (zf zl:List Int) (wk sp:Int):Prop where
 ik:i≤k
 kl:k≤l.length
 cl:Z7 w.heap.size wr fv lv zf zl wk sp i k
 b3:wr.heap[B3]?=some (.cells #[fv,lv,.int .i64 wk,.int .i64 sp] 138 (0,0))
 n0:wr.heap[w.heap.size]?=some (.cells #[.slice none 0 0,.slice none 0 0,.int .i64 0,.int .i64 0] 138 (0,0))
 kp:Kp R w wr
 lo:w.heap.size<B3
 st:(Gr K (l.drop i) none∧∃ts',ts'.length≤k∧Rw R l k 2 ts' wr)∨
   (∃t,(∀r,Gr (KL t) (l.drop k) r→Gr K (l.drop i) r)∧ts.length+t.count≤k∧zf=Zj (t.first ts.length)∧zl=Zj (t.last ts.length)∧wk=t.work V2∧sp=t.span V2∧Rw R l k 0 (t.lay V2 ts) wr)
theorem Z7.mono{b b':Nat}{w:World}{fv lv:Value}{zf zl:List Int}{wk sp:Int}{i k:Nat}(h:Z7 b w fv lv zf zl wk sp i k)(hb:b'≤b):Z7 b' w fv lv zf zl wk sp i k:=⟨h.first.mono hb,h.last.mono hb,h.lf,h.ll,h.w0,h.w1,h.s0,h.s1⟩
theorem Z7.alloc{b:Nat}{w:World}{fv lv:Value}{zf zl:List Int}{wk sp:Int}{i k:Nat}(h:Z7 b w fv lv zf zl wk sp i k)(o:Obj):Z7 b (w.alloc o) fv lv zf zl wk sp i k:=⟨h.first.alloc o,h.last.alloc o,h.lf,h.ll,h.w0,h.w1,h.s0,h.s1⟩
theorem Z7.kinds{b:Nat}{w w':World}{fv lv:Value}{zf zl:List Int}{wk sp:Int}{i k:Nat}(h:Z7 b w fv lv zf zl wk sp i k)(hk:∀(k:Nat) (cs:Array Value) (fr:Nat×Nat),w.heap[k]?=some (.cells cs 3 fr)→w'.heap[k]?=w.heap[k]?):Z7 b w' fv lv zf zl wk sp i k:=⟨h.first.of_kinds hk,h.last.of_kinds hk,h.lf,h.ll,h.w0,h.w1,h.s0,h.s1⟩
theorem zm{w:World}{b:Nat}{a1 a2 a3 a4:Value}(h:w.heap[b]?=some (.cells #[a1,a2,a3,a4] 138 (0,0))) :
  w.cell? ⟨b,0,none⟩=some a1∧w.cell? ⟨b,1,none⟩=some a2∧w.cell? ⟨b,2,none⟩=some a3∧w.cell? ⟨b,3,none⟩=some a4∧∀j,w.frozen? ⟨b,j,none⟩=false:=
 ⟨by simp[World.cell?,h],by simp[World.cell?,h],by simp[World.cell?,h],by simp[World.cell?,h],fun j=>by simp[World.frozen?,h]⟩
theorem zdX{w:World}{b:Nat}{c0:Array Value}{f0:Nat×Nat}(hb:w.heap[b]?=some (.cells c0 138 f0))(a1 a2 a3 a4:Value){k:Nat}{cs:Array Value}{t:TypeId}{fr:Nat×Nat}(hk:w.heap[k]?=some (.cells cs t fr))(ht:t≠138):(setP w b a1 a2 a3 a4).heap[k]?=w.heap[k]?:=yi (zO hb hk ht) _ _ _ _
theorem YN.start{K K1:Kind}{KL:Tree→Kind}{R:Nat}{l:List UInt8}{i:Nat}{ts:Zl}{w w1:World}{k:Nat}{fv lv:Value}{zf zl:List Int}{wk sp:Int}
  (hno:∀s,Gr K1 s none→Gr K s none) (hof:∀s s2 t r,Gr K1 s (some (t,s2))→Gr (KL t) s2 r→Gr K s r)
  (hR:R<w.heap.size) (hk:Kp R (w.alloc (.cells #[.slice none 0 0,.slice none 0 0,.int .i64 0,.int .i64 0] 138)) w1) (hik:i≤k) (hkl:k≤l.length)
  (hcl:Z7 (w.alloc (.cells #[.slice none 0 0,.slice none 0 0,.int .i64 0,.int .i64 0] 138)).heap.size w1 fv lv zf zl wk sp i k)
  (hc:(Gr K1 (l.drop i) none∧∃ts',ts'.length≤k∧Rw R l k 2 ts' w1)∨
   (∃t,Gr K1 (l.drop i) (some (t,l.drop k))∧ts.length+t.count≤k∧zf=Zj (t.first ts.length)∧zl=Zj (t.last ts.length)∧wk=t.work V2∧sp=t.span V2∧Rw R l k 0 (t.lay V2 ts) w1)) :
  YN K KL R l i ts w w1.heap.size (w1.alloc (.cells #[fv,lv,.int .i64 wk,.int .i64 sp] 138)) k fv lv zf zl wk sp:=by
 have hN:w1.heap[w.heap.size]?=some (.cells #[.slice none 0 0,.slice none 0 0,.int .i64 0,.int .i64 0] 138 (0,0)):=hk.other (k:=w.heap.size) (blk_alloc_new _ _) (by omega) (by decide)
 have hlt:=lt_of_block hN
 refine⟨hik,hkl,(hcl.mono (by simp)).alloc _,blk_alloc_new _ _,(blk_alloc_lt _ _ _ hlt).trans hN,(((Kp.refl R w).alloc _).trans hk).alloc _,hlt,?_⟩
 rcases hc with⟨hg,ts',hts,hr⟩|⟨t,hg,h1,h2,h3,h4,h5,hr⟩
 ·exact Or.inl ⟨hno _ hg,ts',hts,hr.alloc _⟩
 ·exact Or.inr ⟨t,fun r h=>hof _ _ _ _ hg h,h1,h2,h3,h4,h5,hr.alloc _⟩
theorem YN.drewN{K:Kind}{KL:Tree→Kind}{R:Nat}{l:List UInt8}{i:Nat}{ts:Zl}{w:World}{B3:Nat}{wr:World}{k:Nat}{fv lv:Value}{zf zl:List Int}{wk sp:Int}(h:YN K KL R l i ts w B3 wr k fv lv zf zl wk sp)(q:Nat):YN K KL R l i ts w B3 (wr.drewN q) k fv lv zf zl wk sp:=by
 refine⟨h.ik,h.kl,h.cl.kinds (fun _ _ _ _=>rfl),h.b3,h.n0,h.kp.drewN q,h.lo,?_⟩
 rcases h.st with⟨hg,ts',hts,hr⟩|⟨t,hg,h1,h2,h3,h4,h5,hr⟩
 ·exact Or.inl ⟨hg,ts',hts,hr.drewN q⟩
 ·exact Or.inr ⟨t,hg,h1,h2,h3,h4,h5,hr.drewN q⟩
theorem YN.done{K:Kind}{KL:Tree→Kind}{R:Nat}{l:List UInt8}{i:Nat}{ts:Zl}{w:World}{B3:Nat}{wr:World}{k:Nat}{fv lv:Value}{zf zl:List Int}{wk sp:Int}(h:YN K KL R l i ts w B3 wr k fv lv zf zl wk sp)
  (hend:∀t,(Rw R l k 0 (t.lay V2 ts) wr)→Gr (KL t) (l.drop k) (some (t,l.drop k))) :
  Z2 K R l i ts w (.returned (Yf fv lv wk sp)) (setP wr w.heap.size fv lv (.int .i64 wk) (.int .i64 sp)):=by
 refine⟨h.kp.setP (qq1 _) _ _ _ _,k,fv,lv,zf,zl,wk,sp,rfl,h.ik,h.kl,h.cl.kinds (fun q cs fr hq=>zdX h.n0 _ _ _ _ hq (by decide)),?_⟩
 rcases h.st with⟨hg,ts',hts,hr⟩|⟨t,hg,h1,h2,h3,h4,h5,hr⟩
 ·exact Or.inl ⟨hg,ts',hts,hr.setC h.n0 _ _ _ _⟩
 ·exact Or.inr ⟨t,hg _ (hend t hr),h1,h2,h3,h4,h5,hr.setC h.n0 _ _ _ _⟩
theorem YN.fault{K:Kind}{KL:Tree→Kind}{R:Nat}{l:List UInt8}{i:Nat}{ts:Zl}{w:World}{B3:Nat}{wr:World}{k:Nat}{fv lv:Value}{zf zl:List Int}{wk sp:Int}(h:YN K KL R l i ts w B3 wr k fv lv zf zl wk sp):∃e ts',(e=0∨e=2)∧Rw R l k e ts' wr:=by
 rcases h.st with⟨hg,ts',hts,hr⟩|⟨t,hg,h1,h2,h3,h4,h5,hr⟩
 ·exact⟨2,ts',Or.inr rfl,hr⟩
 ·exact⟨0,_,Or.inl rfl,hr⟩
theorem xK(ty:TypeId)(b:Option Addr)(n c:Nat)(a:Option Addr)(c':Nat)(w:World)(h:n≤c):(Builtin.append_ #[73,73] ty #[.slice b n c,.slice a 0 c']).run Tryz.prog w=.ok (.slice b n c) w:=by
 unfold Builtin.append_
 cases b with
 | none=>
  cases a with
  | none=>go_simp
  | some a=>go_simp
 | some b=>
  cases a with
  | none=>go_simp
  | some a=>go_simp
theorem RowW.cap{B:Nat}{w:World}{v:Value}{zs:List Int}(h:RowW B w v zs):∃a c,v=.slice a zs.length c∧zs.length≤c:=by
 rcases h.2 with⟨rfl,hn⟩|⟨g,cap,cur,rfl,_,_,hc,_⟩
 ·exact⟨none,0,by rw[hn],by omega⟩
 ·exact⟨_,_,rfl,hc⟩
theorem xI(ty:TypeId){B C:Nat}{v x:Value}{zs ys:List Int}{w:World}(hv:RowW B w v zs)(hx:RowW C w x ys)(hb:zs.length+ys.length≤1000)(hB:B≤w.heap.size) :
  ∃v' w',(Builtin.append_ #[73,73] ty #[v,x]).run Tryz.prog w=.ok v' w'∧RowW B w' v' (zs++ys)∧w.grownBy w' v.ownBlock∧(v'.ownBlock=v.ownBlock∨v'.ownBlock=some w.heap.size):=by
 by_cases hy:ys=[]
 ·subst hy
  obtain⟨a,c,rfl⟩:=hx.shape
  obtain⟨b,d,rfl,hd⟩:=hv.cap
  refine⟨_,w,xK ty b _ d a c w hd,by rw[List.append_nil];exact hv,⟨rfl,rfl,rfl,qq1 _,fun _ _ _=>rfl⟩,Or.inl rfl⟩
 ·have hpos:0<ys.length:=List.length_pos_iff.2 hy
  obtain⟨i3,hi3,hz0,hz1,hz2⟩:=info_parts Tryz.info3
  have hx':w.ownsRow C 3 1 x ys.length (ys.map (Value.int .i64)):=hx
  obtain⟨g,cap,rfl⟩:=zB hx' hpos
  have hcl:∀j u,(ys.map (Value.int .i64))[j]?=some u→w.cell? ((⟨g,0,none⟩:Addr).add j)=some u:=fun j u hu=>hx'.cells rfl j u hu
  obtain⟨v',w',h1,h2,h3,h4,h5⟩:=run_append_own_at (P:=Tryz.prog) w B 73 ty 3 i3 (.int .i64 0) 1 8 Tryz.underlying73 hi3 hz0 hz1 hz2 rfl (by decide) v zs.length (zs.map (Value.int .i64)) hv ⟨g,0,none⟩ ys.length cap (ys.map (Value.int .i64)) (by simp) hcl (by intro u hu;obtain⟨x,_,rfl⟩:=List.mem_map.1 hu;rfl) (by unfold maxLen;omega) (by omega) hB
  refine⟨v',w',h1,?_,h3,h5⟩
  show w'.ownsRow B 3 1 v' (zs++ys).length ((zs++ys).map (Value.int .i64))
  rw[qb,List.map_append]
  exact h2
theorem zP{ops:Array Oper}{rest:List Oper}{o:Oper}{a:Act}{Q:Exit→Act→World→Prop}{w:World}(hgd:o.guard=none)(s x:Operand)(ho:o.op=.call { callee:=.builtin .append,args:=#[s,x],argTypes:=#[73,73] })
  (B C:Nat) (v xv:Value) (zs ys:List Int) (hs:a.eval s=v) (hx:a.eval x=xv) (hv:RowW B w v zs) (hxv:RowW C w xv ys) (hb:zs.length+ys.length≤1000) (hB:B≤w.heap.size)
  (h:∀v' w',RowW B w' v' (zs++ys)→w.grownBy w' v.ownBlock→(v'.ownBlock=v.ownBlock∨v'.ownBlock=some w.heap.size)→wpList Tryz.prog ops Q rest (a.put o.dst v') w'):wpList Tryz.prog ops Q (o::rest) a w:=by
 refine wpList_plain hgd fun K hK=>?_
 obtain⟨v',w',hr,h2,h3,h4⟩:=xI o.type hv hxv hb hB
 unfold Oper.wp execOp
 simp only[ho,resolve,invoke,builtin,Sem.run_bind,Sem.run_pure,Result.andThen_ok,List.map_toArray,List.map_cons,List.map_nil,hs,hx,hr]
 exact hK _ _ (h v' w' h2 h3 h4)
theorem RowW.kpw{R b:Nat}{w w':World}{v:Value}{zs:List Int}{cs:Array Value}(h:RowW b w v zs)(hR:w.heap[R]?=some (.cells cs 136 (0,0)))(hk:Kp R w w'):RowW b w' v zs:=by
 refine h.of_blocks fun k e=>?_
 obtain⟨c,hc⟩:=h.block e
 exact(hk.other hc (fun e=>by rw[e,hR]at hc;simp at hc) (by decide)).trans hc.symm
theorem Rw.typed{R i:Nat}{l:List UInt8}{e:Int}{ts:Zl}{w:World}(h:Rw R l i e ts w):∃cs,w.heap[R]?=some (.cells cs 136 (0,0)):=by
 obtain⟨tv,h,_⟩:=h
 exact⟨_,h⟩
theorem Rw.same{R i i':Nat}{l:List UInt8}{e e':Int}{ts ts':Zl}{w:World}(h:Rw R l i e ts w)(h':Rw R l i' e' ts' w):e=e':=by
 have h1:=h.cells.2.2.1
 have h2:=h'.cells.2.2.1
 rw[h1]at h2
 simpa using h2
theorem Z7.kpw{R b:Nat}{w w':World}{fv lv:Value}{zf zl:List Int}{wk sp:Int}{i k:Nat}{cs:Array Value}(h:Z7 b w fv lv zf zl wk sp i k)(hR:w.heap[R]?=some (.cells cs 136 (0,0)))(hk:Kp R w w'):Z7 b w' fv lv zf zl wk sp i k:=⟨h.first.kpw hR hk,h.last.kpw hR hk,h.lf,h.ll,h.w0,h.w1,h.s0,h.s1⟩
end
end Go.Proofs.YtlfbdjeojgbniaaGreatDoor

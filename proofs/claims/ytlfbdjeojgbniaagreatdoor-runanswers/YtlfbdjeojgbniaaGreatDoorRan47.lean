import Derived.Test.YtlfbdjeojgbniaaGreatDoorRan46
import Derived.Deep.RegionHeld3
namespace Go.Proofs.YtlfbdjeojgbniaaGreatDoor
section
open Go.RowKit Go.Deep
theorem zhE(l:List UInt8)(hm:(cutB 32 l).2.2=true)(h1:(cutB 32 l).1≠YC)(h2:(cutB 32 l).1≠Y0):(Zq Ze (Zd 32 (cutB 32 l).2.1)=none→∀d,Zz d l d badT)∧∀ns,Zq Ze (Zd 32 (cutB 32 l).2.1)=some ns→∀d d' o,ZV d (cutB 32 l).1 ns d' o→Zz d l d' o:=by
 obtain⟨-,-,h3⟩:=qP l hm
 refine⟨fun h d=>h3 d d badT ?_,fun ns h d d' o ho=>h3 d d' o ?_⟩
 ·unfold Xe
  rw[if_neg h1,if_neg h2,h]
  exact⟨rfl,rfl⟩
 ·unfold Xe
  rw[if_neg h1,if_neg h2,h]
  exact ho
theorem zak:∀(ws:List (List UInt8)) (ns:List Nat),Zq Ze ws=some ns→∀m,m∈ns→m<10000
 | [],ns,h,m,hm=>by simp[Zq]at h;subst h;cases hm
 | x::ws,ns,h,m,hm=>by
  cases hx:Ze x with
  | none=>simp[Zq,hx]at h
  | some y=>
   cases hr:Zq Ze ws with
   | none=>simp[Zq,hx,hr]at h
   | some r=>
    simp[Zq,hx,hr]at h
    subst h
    rcases List.mem_cons.1 hm with rfl|h2
    ·exact ji hx
    ·exact zak ws r hr m h2
theorem ze4{B:Nat}{w:World}{v:Value}{ns:List Nat}(h:ZQ B w v ns)(hn:0<ns.length):∃g c,v=.slice (some ⟨g,0,none⟩) ns.length c∧g<w.heap.size∧∀k,k<ns.length→w.cell? ⟨g,k,none⟩=some (.int .i64 ((ns.getD k 0:Nat):Int)):=by
 have ho:w.ownsRow B 3 1 v ns.length (ns.map natV):=h
 rcases ho.2 with⟨_,h0⟩|⟨g,cap,cur,hv,hg,hh,_⟩
 ·omega
 ·subst hv
  refine⟨g,cap,rfl,(Array.getElem?_eq_some_iff.1 hh).1,fun k hk=>?_⟩
  rw[ho.cellAt k (by omega),List.getElem?_map,qq6,qq7 hk]
  rfl
theorem w64{x:Int}(h0:0≤x)(h1:x≤9223372036854775807):IntKind.i64.wrap x=x:=by
 rw[IntKind.wrap_i64]
 omega
theorem zcp(x:Deed)(h:ZI x=0)(w:World):Calls Tryz.prog 37 #[.agg #[.int .i64 x.1,.int .i64 x.2.1,.int .i64 x.2.2.1,.int .i64 x.2.2.2]] w fun e w'=>e=.returned (.string ⟨(Zn x).toArray⟩)∧Below w.heap.size w w':=by
 obtain⟨k,a,t,o⟩:=x
 unfold ZI at h
 dsimp only at h ⊢
 split at h
 ·omega
 split at h
 ·omega
 rename_i h1 h2
 obtain⟨a,rfl⟩:=qc (show 0≤a by omega)
 obtain⟨t,rfl⟩:=qc (show 0≤t by omega)
 have hk:k=1∨k=2∨k=3∨k=4∨k=5∨k=6:=by omega
 rcases hk with rfl|rfl|rfl|rfl|rfl|rfl
 ·obtain rfl:o=0:=by omega
  exact ziw a t (by omega) (by omega) w
 ·obtain⟨o,rfl⟩:=qc (show 0≤o by omega)
  exact zix a t o (by omega) (by omega) (by omega) w
 ·obtain rfl:o=0:=by omega
  exact ziy a t (by omega) (by omega) w
 ·obtain rfl:o=0:=by omega
  exact ziz a t (by omega) (by omega) w
 ·obtain rfl:o=0:=by omega
  obtain rfl:t=0:=by omega
  exact ziA a (by omega) w
 ·obtain rfl:o=0:=by omega
  obtain rfl:t=0:=by omega
  exact ziB a (by omega) w
variable {W0:World} {Q:Nat} {d:Desk} {w:World}
set_option maxRecDepth 100000 in
set_option maxHeartbeats 8000000 in
theorem lineNums(h:ZH W0 Q d w)(l:List UInt8)(hl:l.length≤1048576)(hm:(cutB 32 l).2.2=true)(e1:(cutB 32 l).1≠YC)(e2:(cutB 32 l).1≠Y0):Calls Tryz.prog 8 #[.pointer (some ⟨Q,0,none⟩),.string ⟨l.toArray⟩] w (XJ W0 Q d l):=by
 obtain⟨i3,hi3,hy0,hy1,hy2⟩:=info_parts Tryz.info3
 have hw:=y9 l w hl
 obtain⟨h1,h2,-⟩:=qP l hm
 obtain⟨HB,HN⟩:=zhE l hm e1 e2
 have HBAD:Hid (Zq Ze (Zd 32 (cutB 32 l).2.1)=none→∀d,Zz d l d badT):=HB
 have HNUM:Hid (∀ns,Zq Ze (Zd 32 (cutB 32 l).2.1)=some ns→∀d d' o,ZV d (cutB 32 l).1 ns d' o→Zz d l d' o):=HN
 have hw1:((⟨(cutB 32 l).1.toArray⟩:ByteArray).toList==[119,101,97,118,101])=false:=by rw[eqS];exact decide_eq_false e1
 have hw2:((⟨(cutB 32 l).1.toArray⟩:ByteArray).toList==[112,108,97,110])=false:=by rw[eqS];exact decide_eq_false e2
 have HEQ:Hid (∀m,((⟨(cutB 32 l).1.toArray⟩:ByteArray).toList==m)=decide ((cutB 32 l).1=m)):=fun m=>eqS _ m
 have hct:=fun wx=>jo (cutB 32 l).2.1 32 wx (by have:=yf 32 l;omega)
 have HSH:Hid (∀p,p∈Zd 32 (cutB 32 l).2.1→p.length≤1048576):=fun p hp=>qq2 (yT 32 _ p hp) (by have:=yf 32 l;omega)
 have hwl:=z7 32 (cutB 32 l).2.1
 have hle2:=yf 32 l
 have HWN:Hid (Zd 32 (cutB 32 l).2.1≠[]):=zy 32 _
 have HD:Hid (ZH W0 Q d w):=h
 rw[hm]at hw
 clear h e1 e2 hm HB HN
 generalize (⟨l.toArray⟩:ByteArray)=S at *
 generalize (cutB 32 l).1=wd at *
 generalize (⟨wd.toArray⟩:ByteArray)=S1 at *
 generalize (cutB 32 l).2.1=rest at *
 generalize Zd 32 rest=words at *
 generalize (⟨rest.toArray⟩:ByteArray)=S2 at *
 have hwl2:words.length≤1048577:=by omega
 clear hwl hle2 hl
 go_enter Tryz.func8,Tryz.ntmps8
 go_wp2_with fail
 refine hw.mono ?_
 clear hw
 rintro e w1 ⟨rfl,hb1⟩
 have HD1:Hid (ZH W0 Q d w1):=HD.out.later hb1
 have hct1:=hct w1
 clear hct hb1
 go_wp2_with fail
 refine hct1.mono ?_
 clear hct1
 rintro e w2 ⟨⟨g,gc,rfl,-,hg,hcs⟩,hb2⟩
 have HCS:Hid (∀k,k<words.length→w2.cell? ⟨g,k,none⟩=some (.string ⟨(words.getD k []).toArray⟩)):=hcs
 have HD2:Hid (ZH W0 Q d w2):=HD1.out.later hb2
 clear hcs hb2
 go_wp2
 go_loopw [14,16] (fun s14 s16 wr=>∃i:Nat,∃ns,i≤words.length∧s16=.int .i64 i∧Hid (ZQ w2.heap.size wr s14 ns)∧Hid (Zq Ze (words.take i)=some ns)∧Below w2.heap.size w2 wr) (fun _ s16 _=>words.length-(intOf s16).toNat)
 case atStart=>exact⟨0,[],Nat.zero_le _,rfl,World.ownsRow_nil _ _ _ _,rfl,qq4 _ _⟩
 case round=>
  obtain⟨k,ns,hk,rfl,hns,hal,hb⟩:=hrel
  have hnl:ns.length≤words.length:=by have:=yW _ _ _ hal.out;rw[this];simp;omega
  have hsz:w2.heap.size≤wr.heap.size:=hb.size
  by_cases hkl:k<words.length
  ·have hcy:=(hb.cell (p:=⟨g,k,none⟩) hg).trans (HCS.out k hkl)
   have hym:words.getD k []∈words:=by rw[qq6,qq7 hkl];exact List.getElem_mem hkl
   have hye:words.getD k []=words[k]:=by rw[qq6,qq7 hkl];rfl
   have HBN:Hid (Ze (words.getD k [])=none→Zz d l d badT):=fun h=>HBAD.out (qI Ze _ _ hym h) d
   have HGN:Hid (∀m,Ze (words.getD k [])=some m→Zq Ze (words.take (k+1))=some (ns++[m])):=fun m h=>by
    rw[qq8 hkl,←hye];exact yy _ _ _ _ _ hal.out h
   have hyl:=HSH.out _ hym
   clear hym hye hal
   generalize words.getD k []=y at *
   have hn2:=qx y wr hyl
   go_wp2_with fail
   refine hn2.mono ?_
   rintro e w5 ⟨rfl,hb5⟩
   clear hn2 hcy
   cases hm:Ze y with
   | none=>
    have HNO:Hid (Zz d l d badT):=HBN.out hm
    clear HBN hm
    go_wp2
    go_ret
    exact⟨d,badT,rfl,HNO.out,HD2.out.later (hb.trans (hb5.mono hb.size))⟩
   | some m=>
    have HGH:Hid (Zq Ze (words.take (k+1))=some (ns++[m])):=HGN.out m hm
    have hns5:ZQ w2.heap.size w5 _ ns:=ZQ.later' hns.out hb5
    have hB5:Below w2.heap.size w2 w5:=hb.trans (hb5.mono hb.size)
    have hsz5:=hB5.size
    have hown2:=World.ownsRow.alloc hns5 (.cells #[.int .i64 (m:Nat)] 3)
    have HG6:Hid (Below w2.heap.size w2 (w5.alloc (.cells #[.int .i64 (m:Nat)] 3))):=hB5.alloc hsz5 _
    clear hns5 hm HBN HGN hns
    go_wp2_with (at_builtin;(refine wpList_append_own _ rfl (.tmp 105) (.tmp 107) 73 rfl w2.heap.size 3 i3 (.int .i64 0) 1 8 Tryz.underlying73 hi3 hy0 hy1 hy2 rfl (by decide) _ ns.length (ns.map natV) rfl hown2 ⟨w5.heap.size,0,none⟩ 1 1 [.int .i64 (m:Nat)] rfl rfl ?c1 ?c2 ?c3 ?c4 ?c5 ?_))
    case c1=>exact cell_one_new w5 _ 3
    case c2=>intro u hu;simp at hu;subst hu;rfl
    case c3=>unfold maxLen;omega
    case c4=>omega
    case c5=>simp;omega
    intro v' w6 hown' hgrow _
    have HN7:Hid (ZQ w2.heap.size w6 v' (ns++[m])):=by show ZQ _ _ _ _;simpa[ZQ,natV]using hown'
    have HB7:Hid (Below w2.heap.size w2 w6):=HG6.out.grown hgrow (by simp;omega) (fun j e=>(hown2.lt j e).1)
    clear hown' hgrow hown2 HG6
    go_wp2
    go_roundw
    case rel=>exact⟨k+1,_,by omega,by go_num,HN7,HGH,HB7.out⟩
    case measure=>simp[intOf];omega
  ·have hke:k=words.length:=by omega
   subst hke
   rw[List.take_length]at hal
   have HLN:Hid (∀d d' o,ZV d wd ns d' o→Zz d l d' o):=HNUM.out ns hal.out
   have HD3:Hid (ZH W0 Q d wr):=HD2.out.later hb
   have HAL:Hid (Zq Ze words=some ns):=hal.out
   clear HNUM HBAD HSH HCS hal hb
   have hpos:0<ns.length:=by
    have h9:=yW _ _ _ HAL.out
    have:=HWN.out
    rw[h9];exact List.length_pos_iff.2 this
   obtain⟨gb,gcap,rfl,hgb,hcell⟩:=ze4 hns.out hpos
   have hsm:∀k,k<ns.length→ns.getD k 0<10000:=fun k hk=>zak _ _ HAL.out _ (by rw[qq6,qq7 hk];exact List.getElem_mem hk)
   clear HAL hns hg hkl hk hwl2 hnl
   have hgr:=HEQ.out [103,114,101,101,100,121]
   have hgg:=HEQ.out [103,97,110,103]
   have hss:=HEQ.out [115,116,101,112]
   by_cases w1e:wd=Yt∧ns.length=1
   ·obtain⟨k1,hlen⟩:=w1e
    replace hgr:=hgr.trans (decide_eq_true k1)
    have hc0:=hcell 0 hpos
    have HGI:Hid (∀d' o,Yv d (ns.getD 0 0) d' o→Zz d l d' o):=fun d' o ho=>HLN.out d d' o (by unfold ZV;rw[if_pos ⟨k1,hlen⟩];exact ho)
    rw[hlen]
    clear hgg hss k1 HEQ HLN hcell hsm hpos hlen
    generalize ns.getD 0 0=m at *
    by_cases hm:1≤m∧m≤6
    ·have b1:¬((m:Nat):Int)<1:=by omega
     have b2:¬(6:Int)<((m:Nat):Int):=by omega
     have b3:((m:Nat):Int)≠0:=by omega
     have b4:m≠0:=by omega
     have b5:¬m=0:=by omega
     have b6:((m:Nat):Int)≤6:=by omega
     have hd3:=HD3.out
     have hc:=hd3.ok.pl
     obtain⟨pv,ov,gv,hq,Y,X,-,-,-,hY,-⟩:=hd3.mem
     obtain⟨c0,-,-,-⟩:=zR hq
     have hp:=hY.at
     obtain⟨pa,pc,rfl⟩:=zF hp
     obtain⟨s,hs⟩:=zcO hc.works.1 hm.1
     have hs6:=hs.le hc.works.1 hm.1
     have hwb:=hc.works.1.all
     have hqlt:=HD3.out.lt
     have HGR:Hid (∀wx,Below wr.heap.size wr wx→Calls Tryz.prog 32 #[.slice pa d.ts.length pc,.int .i64 (m:Int)] wx fun e w'=>∃bv,e=.returned bv∧Hid (RowB 0 w' bv (Zm d.ts m s))∧Hid (Below wr.heap.size wr w')):=fun wx hbx=>by
      refine(zdo _ d.ts m wx (hp.later hbx) hc hm.1 hm.2).mono ?_
      rintro e w' ⟨⟨u,rfl,hu⟩,hb⟩
      rw[hs.at_end (k:=601) (by omega)]at hu
      exact⟨u,rfl,hu.mono (Nat.zero_le _),hbx.trans (hb.mono hbx.size)⟩
     have HST:Hid (∀wx bv,Hid (RowB 0 wx bv (Zm d.ts m s))→Calls Tryz.prog 31 #[bv] wx fun e w'=>e=.returned (.int .i64 (s:Int))∧w'=wx):=fun wx bv hu=>by
      refine(zfr bv _ _ wx hu.out (fun b hb=>?_) (qn hc.works.1 m s)).mono fun e W' ⟨he,hW⟩=>⟨by rw[he,hs.1.steps hm.1],hW⟩
      have key:∀k,k≤s→∀b,b∈Zm d.ts m k→b.1≤600:=by
       intro k
       induction k with
       | zero=>intro _ b hb;cases hb
       | succ k ih=>
        intro hk b hb
        have hb:b∈Zm d.ts m k++ZM k (nowL d.ts m (Zh d.ts m k)):=hb
        rcases List.mem_append.1 hb with hb|hb
        ·exact ih (by omega) b hb
        ·have:=qm hb
         omega
      exact key s (qq1 _) b hb
     have HWK:Hid (∀wx,Below wr.heap.size wr wx→Calls Tryz.prog 33 #[.slice pa d.ts.length pc] wx fun e w'=>e=.returned (.int .i64 (workTo d.ts d.ts.length))∧Hid (Below wr.heap.size wr w')):=fun wx hbx=>
      (zhb _ d.ts wx (hp.later hbx) hc).mono fun e w' ⟨he,hb⟩=>⟨he,hbx.trans (hb.mono hbx.size)⟩
     have HSP:Hid (∀wx,Below wr.heap.size wr wx→Calls Tryz.prog 34 #[.slice pa d.ts.length pc] wx fun e w'=>∃(sp:Int) (b:Nat),e=.returned (.int .i64 sp)∧0≤sp∧sp≤600∧0≤((m:Nat):Int)*sp∧0≤(((m:Nat):Int)-1)*sp∧(((m:Nat):Int)-1)*sp≤3000∧Hid (b<10000)∧IntKind.i64.wrap ((IntKind.i64.wrap (workTo d.ts d.ts.length+IntKind.i64.wrap (IntKind.i64.wrap ((m:Int)-1)*sp))).tdiv (m:Int))=(b:Int)∧Hid (Yv d m d (twoT (s:Int) (b:Int)))∧Hid (Below wr.heap.size wr w')):=fun wx hbx=>
      (zgY _ d.ts wx (hp.later hbx) hc).mono fun e w' ⟨⟨ord,hord,he⟩,hb⟩=>by
       obtain⟨hs0,hs1⟩:=jl hc hord
       obtain⟨hm0,hm1⟩:=j0 (hands:=(m:Int)) (by omega) (by omega) hs0 hs1
       obtain⟨b,ord',hb4,ho',hbe,-⟩:=jS hc hm (Or.inr ⟨hc,by omega,by omega,ord,hord,rfl⟩)
       rw[Z9.det ho' hord hc]at hbe
       exact⟨_,b,he,hs0,hs1,Int.mul_nonneg (by omega) hs0,hm0,hm1,hb4,(by rw[w64 (x:=(m:Int)-1) (by omega) (by omega),w64 hm0 (by omega),w64 (x:=workTo d.ts d.ts.length+((m:Int)-1)*_) (by omega) (by omega),IntWalk.i64_quo _ _ ⟨by omega,by omega,by omega⟩];exact hbe.symm),⟨rfl,Or.inr ⟨hm,s,ord,hs,hord,by rw[hbe]⟩⟩,hbx.trans (hb.mono hbx.size)⟩
     have HTW:Hid (∀(b:Nat) wx,b<10000→Calls Tryz.prog 28 #[.int .i64 (s:Int),.int .i64 (b:Int)] wx fun e w'=>e=.returned (.string ⟨(twoT (s:Int) (b:Int)).toArray⟩)∧w'=wx):=fun b wx hb=>zd4 s b wx (by omega) (by omega)
     have HC:Hid (∀wx,Below wr.heap.size wr wx→wx.cell? ⟨Q,0,none⟩=some (.slice pa d.ts.length pc)∧wx.cell? ⟨gb,0,none⟩=some (.int .i64 (m:Int))):=fun wx hbx=>⟨(hbx.cell (p:=⟨Q,0,none⟩) hqlt).trans c0,(hbx.cell (p:=⟨gb,0,none⟩) hgb).trans hc0⟩
     have HB0:Hid (∀k,Below wr.heap.size wr (wr.drewN k)):=fun k=>⟨rfl,rfl,rfl,qq1 _,fun _ _=>rfl⟩
     clear hd3 hq hY hp hs hc hm
     generalize workTo d.ts d.ts.length=wk at *
     go_wp2
     go_region_held3 (fun W=>W.cell? ⟨Q,0,none⟩=some (.slice pa d.ts.length pc)∧W.cell? ⟨gb,0,none⟩=some (.int .i64 (m:Int))) (go_keep) (first
      | (go_at_call 32;refine(HGR.out _ (HB0.out _)).mono ?_;rintro e w5 ⟨bv,rfl,hrb5,hb5⟩;obtain⟨x5,y5⟩:=HC.out _ hb5.out)
      | (go_at_call 31;refine(HST.out _ _ hrb5).mono ?_;rintro e w6 ⟨rfl,rfl⟩)
      | (go_at_call 33;refine(HWK.out _ hb5.out).mono ?_;rintro e w7 ⟨rfl,hb7⟩;obtain⟨x7,y7⟩:=HC.out _ hb7.out)
      | (go_at_call 34;refine(HSP.out _ hb7.out).mono ?_;rintro e w8 ⟨sp,b,rfl,hs0,hs1,hm9,hm0,hm1,hb4,hbe,hgi,hb8⟩;obtain⟨x8,y8⟩:=HC.out _ hb8.out)
      | (go_at_call 28;refine(HTW.out _ _ hb4.out).mono ?_;rintro e w9 ⟨rfl,rfl⟩))
     all_goals
      go_wp2
      go_ret
      exact⟨d,_,rfl,HGI.out _ _ hgi.out,HD3.out.later hb8.out⟩
    ·have HWI:Hid (Yv d m d (Ye 1)):=⟨rfl,Or.inl ⟨hm,rfl⟩⟩
     have hnm:=ym 1 wr (by decide) (by decide)
     by_cases h0:m<1
     ·have b1:((m:Nat):Int)<1:=by omega
      clear hm h0
      go_wp2_with fail
      refine hnm.mono ?_
      clear hnm
      rintro e w5 ⟨rfl,hb5⟩
      go_wp2
      go_ret
      exact⟨d,_,rfl,HGI.out _ _ HWI.out,HD3.out.later hb5⟩
     ·have b1:¬((m:Nat):Int)<1:=by omega
      have b2:(6:Int)<((m:Nat):Int):=by omega
      clear hm h0
      go_wp2_with fail
      refine hnm.mono ?_
      clear hnm
      rintro e w5 ⟨rfl,hb5⟩
      go_wp2
      go_ret
      exact⟨d,_,rfl,HGI.out _ _ HWI.out,HD3.out.later hb5⟩
   by_cases w2e:wd=Y9∧ns.length=1
   ·obtain⟨k2,hlen⟩:=w2e
    replace hgg:=hgg.trans (decide_eq_true k2)
    replace hgr:=hgr.trans (decide_eq_false (by rw[k2];decide))
    have hc0:=hcell 0 hpos
    have hm4:=hsm 0 hpos
    have HGI:Hid (∀d' o,Yi d (ns.getD 0 0) d' o→Zz d l d' o):=fun d' o ho=>HLN.out d d' o (by unfold ZV;rw[if_neg (fun e=>absurd (k2.symm.trans e.1) (by decide)),if_pos ⟨k2,hlen⟩];exact ho)
    rw[hlen]
    clear hss w1e k2 HEQ HLN hcell hsm hpos hlen
    generalize ns.getD 0 0=m at *
    by_cases hm:1≤m∧m≤6
    ·have b1:¬((m:Nat):Int)<1:=by omega
     have b2:¬(6:Int)<((m:Nat):Int):=by omega
     have HWI:Hid (Yi d m { d with gang:=some (d.ts,m,gnew d.ts) } okT):=by show Yi _ _ _ _;unfold Yi;rw[if_pos hm];exact⟨rfl,rfl⟩
     obtain⟨pv,ov,gv,hq,hpl,hfin⟩:=HD3.out.turned
     obtain⟨pa,pc,rfl⟩:=zF hpl
     obtain⟨c0,c1,c2,cf⟩:=zR hq
     have f1:=cf 1
     have hgood:=HD3.out.ok.pl.good
     have hng:∀k,Calls Tryz.prog 35 #[.slice pa d.ts.length pc,.int .i64 (m:Int),.int .i64 4] ((wr.setCell ⟨Q,1,none⟩ (.bool true)).drewN k) fun e w'=>∃M,e=.returned (.pointer (some ⟨M,0,none⟩))∧w'.heap[Q]?=some (.cells #[.slice pa d.ts.length pc,.bool true,gv] 30 (0,0))∧Hid (ZH W0 Q { d with gang:=some (d.ts,m,gnew d.ts) } (w'.setCell ⟨Q,2,none⟩ (.pointer (some ⟨M,0,none⟩)))):=fun k=>by
      refine(zcC _ d.ts m 4 (wr.setCell ⟨Q,1,none⟩ (.bool true)) ((wr.setCell ⟨Q,1,none⟩ (.bool true)).drewN k) hpl ⟨rfl,rfl,rfl,qq1 _,fun _ _=>rfl⟩ hgood.rng hgood.le hm.1 hm.2 (by omega)).mono ?_
      rintro e w' ⟨M,own,rfl,hD⟩
      obtain⟨e1,e2⟩:=hfin w' M m hm.1 hm.2 ⟨own,_,hD⟩
      exact⟨M,rfl,e1,e2⟩
     have q1:(wr.setCell ⟨Q,1,none⟩ (.bool true)).heap[Q]?=some (.cells #[.slice pa d.ts.length pc,.bool true,gv] 30 (0,0)):=zdd hq
     obtain⟨d0,d1,d2,df⟩:=zR q1
     have hne:gb≠Q:=fun e=>by
      subst e
      obtain⟨cc,hcc⟩:∃cc,cc=wr.cell? ⟨gb,0,none⟩:=⟨_,rfl⟩
      rw[c0]at hc0
      cases hc0
     have hc1:(wr.setCell ⟨Q,1,none⟩ (.bool true)).cell? ⟨gb,0,none⟩=some (.int .i64 (m:Int)):=(World.cell?_setCell_other _ _ _ _ (fun e=>hne (congrArg Addr.block e).symm)).trans hc0
     clear hq hpl hfin hgood q1 hm df hm4
     go_wp2
     go_region_with (first|(go_at_call 35;refine(hng _).mono ?_;clear hng;rintro e w5 ⟨M,rfl,hq5,hd5⟩;obtain⟨-,-,e2,ef⟩:=zR hq5;have f2:=ef 2))
     all_goals
      go_wp2
      go_ret
      exact⟨_,okT,rfl,HGI.out _ _ HWI.out,hd5.out⟩
    ·have HWI:Hid (Yi d m d (Ye 1)):=by show Yi _ _ _ _;unfold Yi;rw[if_neg hm];exact⟨rfl,rfl⟩
     have hnm:=ym 1 wr (by decide) (by decide)
     by_cases h0:m<1
     ·have b1:((m:Nat):Int)<1:=by omega
      clear hm hm4 h0
      go_wp2_with fail
      refine hnm.mono ?_
      clear hnm
      rintro e w5 ⟨rfl,hb5⟩
      go_wp2
      go_ret
      exact⟨d,_,rfl,HGI.out _ _ HWI.out,HD3.out.later hb5⟩
     ·have b1:¬((m:Nat):Int)<1:=by omega
      have b2:(6:Int)<((m:Nat):Int):=by omega
      clear hm hm4 h0
      go_wp2_with fail
      refine hnm.mono ?_
      clear hnm
      rintro e w5 ⟨rfl,hb5⟩
      go_wp2
      go_ret
      exact⟨d,_,rfl,HGI.out _ _ HWI.out,HD3.out.later hb5⟩
   by_cases w3e:wd=Xa∧ns.length=2
   ·obtain⟨k3,hlen⟩:=w3e
    replace hss:=hss.trans (decide_eq_true k3)
    replace hgr:=hgr.trans (decide_eq_false (by rw[k3];decide))
    replace hgg:=hgg.trans (decide_eq_false (by rw[k3];decide))
    have hc0:=hcell 0 hpos
    have hc1:=hcell 1 (by omega)
    have hb4:=hsm 1 (by omega)
    have HGI:Hid (∀d' o,Z5 d (ns.getD 0 0) (ns.getD 1 0) d' o→Zz d l d' o):=fun d' o ho=>HLN.out d d' o (by unfold ZV;rw[if_neg (fun e=>absurd (k3.symm.trans e.1) (by decide)),if_neg (fun e=>absurd (k3.symm.trans e.1) (by decide)),if_pos ⟨k3,hlen⟩];exact ho)
    rw[hlen]
    clear w1e w2e k3 HEQ HLN hcell hsm hpos hlen
    generalize ns.getD 0 0=m at *
    generalize ns.getD 1 0=k at *
    cases hg:d.gang with
    | none=>
     obtain⟨pv,ov,gv,hq,Y,X,-,-,-,-,hG⟩:=HD3.out.mem
     rw[hg]at hG
     obtain⟨rfl,rfl⟩:=hG
     obtain⟨c0,c1,c2,cf⟩:=zR hq
     have HWI:Hid (Z5 d m k d (Ye 6)):=by show Z5 _ _ _ _ _;unfold Z5;rw[hg];exact⟨rfl,rfl⟩
     have hnm:=ym 6 wr (by decide) (by decide)
     clear hq cf hg
     go_wp2_with fail
     refine hnm.mono ?_
     clear hnm
     rintro e w5 ⟨rfl,hb5⟩
     go_wp2
     go_ret
     exact⟨d,_,rfl,HGI.out _ _ HWI.out,HD3.out.later hb5⟩
    | some x=>
     obtain⟨t,n,gs⟩:=x
     obtain⟨pv,M,hq,⟨mB,mc,hcM⟩,hn6,-,hst⟩:=HD3.out.gang hg
     obtain⟨c0,c1,c2,cf⟩:=zR hq
     by_cases hmn:n≤m
     ·have HWI:Hid (Z5 d m k d (Ye 1)):=by show Z5 _ _ _ _ _;unfold Z5;rw[hg];dsimp only;rw[if_pos hmn];exact⟨rfl,rfl⟩
      have b1:(n:Int)≤(m:Int):=by omega
      have hnm:=fun q=>ym 1 (wr.drewN q) (by decide) (by decide)
      clear hq cf hg hst hmn
      go_wp2
      go_quiet (fail)
      go_wp2_with fail
      refine(hnm _).mono ?_
      clear hnm
      rintro e w5 ⟨rfl,hb5⟩
      go_wp2
      go_ret
      exact⟨d,_,rfl,HGI.out _ _ HWI.out,(HD3.out.later (w':=wr.drewN _) ⟨rfl,rfl,rfl,qq1 _,fun _ _=>rfl⟩).later hb5⟩
     ·have b1:¬(n:Int)≤(m:Int):=by omega
      obtain⟨hct,hn1,-,hI⟩:=HD3.out.ok.gg t n gs hg
      have hde:=qq hI hct.good hn6 (show m<n by omega) k
      have hdl:=jU hct.good n gs m k
      have HDE:Hid (∀x,x∈gdeeds t n gs m k→ZI x=0):=hde
      have HLE:Hid (∀j,(((gdeeds t n gs m k).take j).flatMap (fun x=>Zn x++[59])).length≤20000):=fun j=>by
       have h9:=jF (l:=(gdeeds t n gs m k).take j) (fun x hx=>hde x (List.mem_of_mem_take hx)) (by simp;omega)
       unfold rowT at h9
       split at h9
       ·rename_i e9;rw[e9];simp
       ·exact h9
      have HLT:Hid (∀x,x∈gdeeds t n gs m k→(Zn x).length≤20000):=fun x hx=>by
       have h9:=jF (l:=[x]) (fun y hy=>by rw[List.mem_singleton.1 hy];exact hde x hx) (by simp)
       unfold rowT at h9
       rw[if_neg (by simp)]at h9
       simp at h9
       omega
      have HWI:Hid (Z5 d m k { d with gang:=some (t,n,gstep t 4 n gs m k) } (rowT (gdeeds t n gs m k))):=by show Z5 _ _ _ _ _;unfold Z5;rw[hg];dsimp only;rw[if_neg hmn];exact⟨rfl,rfl⟩
      have hstp:=hst m k (by omega) (by omega)
      clear hq cf hg hst hmn hct hI hde
      generalize gdeeds t n gs m k=ds at *
      generalize gstep t 4 n gs m k=g2 at *
      go_wp2
      go_quiet (fail)
      go_wp2
      go_region_with (first|(go_at_call 36;refine(hstp _).mono ?_;clear hstp;rintro e w5 ⟨v5,rfl,hr5,hd5⟩;obtain⟨va,vc,rfl⟩:=hr5.shape;have HR5:Hid (RowD wr.heap.size w5 (.slice va ds.length vc) ds):=hr5;have HD5:Hid (ZH W0 Q { d with gang:=some (t,n,g2) } w5):=hd5))
      all_goals
       clear hr5 hd5 hc0 hc1 c0 c1 c2 hcM
       by_cases hz:ds.length=0
       ·have hz1:((ds.length:Nat):Int)=0:=by omega
        have hds:ds=[]:=List.eq_nil_of_length_eq_zero hz
        go_wp2
        go_ret
        exact⟨_,[45],rfl,HGI.out _ _ (by have:=HWI.out;rw[hds]at this;exact this),HD5.out⟩
       ·have hzb:(((ds.length:Nat):Int)==0)=false:=beq_false_of_ne (by omega)
        have HZ:Hid (¬ds.length=0):=hz
        clear hz
        have HDA:Hid (YL w5 (.slice va ds.length vc) ds):=HR5.out.at (by omega)
        go_wp2
        go_loopw [20,21] (fun s20 s21 wx=>∃i:Nat,i≤ds.length∧s21=.int .i64 i∧s20=.string ⟨((ds.take i).flatMap (fun x=>Zn x++[59])).toArray⟩∧Below w5.heap.size w5 wx) (fun _ s21 _=>ds.length-(intOf s21).toNat)
        case atStart=>exact⟨0,Nat.zero_le _,rfl,rfl,qq4 _ _⟩
        case round=>
         obtain⟨i,hi,rfl,rfl,hb⟩:=hrel
         by_cases hil:i<ds.length
         ·obtain⟨b,o,rfl,hblt,q0,q1,q2,q3⟩:=(HDA.out.later hb).four hil
          have hxm:ds.getD i (0,0,0,0)∈ds:=by rw[qq6,qq7 hil];exact List.getElem_mem hil
          have hxe:ds.getD i (0,0,0,0)=ds[i]:=by rw[qq6,qq7 hil];rfl
          have hdt:=fun wx=>zcp (ds.getD i (0,0,0,0)) (HDE.out _ hxm) wx
          have hpl:=HLE.out i
          have htl:=HLT.out _ hxm
          have HSN:Hid ((ds.take (i+1)).flatMap (fun x=>Zn x++[59])=(ds.take i).flatMap (fun x=>Zn x++[59])++Zn (ds.getD i (0,0,0,0))++[59]):=by
           show _=_
           rw[qq8 hil,←hxe]
           simp
          clear hxm hxe
          generalize (ds.take i).flatMap (fun x=>Zn x++[59])=pre at *
          generalize ds.getD i (0,0,0,0)=x at *
          generalize hdx:Zn x=tx at *
          go_wp2_with (first|(go_at_call 37;refine(hdt _).mono ?_;clear hdt;rintro e w6 ⟨rfl,hb6⟩;have HB6:Hid (Below w5.heap.size w5 w6):=hb.trans (hb6.mono hb.size);clear hb6))
          go_roundw
          case rel=>
           refine⟨i+1,by omega,by go_num,?_,HB6.out⟩
           rw[HSN.out,←zZ,←zZ]
          case measure=>simp[intOf];omega
         ·have hie:i=ds.length:=by omega
          subst hie
          have HOUT:Hid (rowT ds=(ds.take ds.length).flatMap (fun x=>Zn x++[59])):=by
           show _=_
           unfold rowT
           rw[if_neg (fun e=>HZ.out (by rw[e];rfl)),List.take_length]
          go_wp2
          go_ret
          exact⟨_,_,rfl,HGI.out _ _ (by have:=HWI.out;rw[HOUT.out]at this;exact this),HD5.out.later hb⟩
   have HNO:Hid (Zz d l d badT):=HLN.out d d badT (by unfold ZV;rw[if_neg w1e,if_neg w2e,if_neg w3e];exact⟨rfl,rfl⟩)
   clear hcell hsm HLN
   by_cases k1:wd=Yt
   ·have hl1:¬((ns.length:Nat):Int)=1:=fun e=>w1e ⟨k1,by omega⟩
    replace hgr:=hgr.trans (decide_eq_true k1)
    replace hgg:=hgg.trans (decide_eq_false (by rw[k1];decide));replace hss:=hss.trans (decide_eq_false (by rw[k1];decide))
    clear w1e w2e w3e k1 HEQ
    go_wp2
    go_ret
    exact⟨d,badT,rfl,HNO.out,HD3.out⟩
   by_cases k2:wd=Y9
   ·have hl1:¬((ns.length:Nat):Int)=1:=fun e=>w2e ⟨k2,by omega⟩
    replace hgg:=hgg.trans (decide_eq_true k2)
    replace hgr:=hgr.trans (decide_eq_false (by rw[k2];decide));replace hss:=hss.trans (decide_eq_false (by rw[k2];decide))
    clear w1e w2e w3e k1 k2 HEQ
    go_wp2
    go_ret
    exact⟨d,badT,rfl,HNO.out,HD3.out⟩
   by_cases k3:wd=Xa
   ·have hl1:¬((ns.length:Nat):Int)=2:=fun e=>w3e ⟨k3,by omega⟩
    replace hss:=hss.trans (decide_eq_true k3)
    replace hgr:=hgr.trans (decide_eq_false (by rw[k3];decide));replace hgg:=hgg.trans (decide_eq_false (by rw[k3];decide))
    clear w1e w2e w3e k1 k2 k3 HEQ
    go_wp2
    go_ret
    exact⟨d,badT,rfl,HNO.out,HD3.out⟩
   replace hgr:=hgr.trans (decide_eq_false k1)
   replace hgg:=hgg.trans (decide_eq_false k2)
   replace hss:=hss.trans (decide_eq_false k3)
   clear w1e w2e w3e k1 k2 k3 HEQ
   go_wp2
   go_ret
   exact⟨d,badT,rfl,HNO.out,HD3.out⟩
end
section
open Go.RowKit Go.Deep
def RunC(w0:World):Prop:=∀(u:List UInt8) (wx:World),Below w0.heap.size w0 wx→u.length≤140737488351232→Calls Tryz.prog 6 #[.string ⟨u.toArray⟩] wx fun e w'=>(∃out,e=.returned (.string ⟨out.toArray⟩)∧ZS u out∧out.length≤100000000)∧Below wx.heap.size wx w'
end
end Go.Proofs.YtlfbdjeojgbniaaGreatDoor

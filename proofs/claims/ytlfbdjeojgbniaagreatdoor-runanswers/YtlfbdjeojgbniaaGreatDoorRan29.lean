import Derived.Test.YtlfbdjeojgbniaaGreatDoorRan28
namespace Go.Proofs.YtlfbdjeojgbniaaGreatDoor
section
open Go.RowKit Go.Deep
open Spl.Dsp (Gq gArr)
variable (M room hands:Nat) (ts:Zl) (p:Value) (g:Gs) (Bd:Bs) (w0 w:World) (h:Nat) (pick:Int)
set_option maxRecDepth 100000 in
set_option maxHeartbeats 8000000 in
theorem zes(hD:DgE M room hands ts p g Bd w0 w)(hh:h<hands)(_h6:hands≤6)(h16:room≤16)(hr1:1≤room)(hg:Good ts)(hz:(h:Int)∉g.zz)(i:Nat)(hi:i<ts.length)(ht:g.task h=((i:Nat):Int))(hw:g.work h=1)(hrd:ZE ts g.S i=true)(hdn:Down ts g.S)(hsp:g.sp.length+(allH (g.near h) (g.ring h)).length≤30) :
  Calls Tryz.prog 36 #[.pointer (some ⟨M,0,none⟩),.int .i64 h,.int .i64 pick] w fun e w'=>(∃v,e=.returned v∧RowD w.heap.size w' v (Xn ts g h))∧DgE M room hands ts p (ends ts room g h) Bd w0 w':=by
 obtain⟨own,gq,vf,vh,HB,hc,DB,dc,Hk,vk,rfl,hD⟩:=hD
 have h30:=hg.le
 have hin:=inZ hD.row hD.zle (h:Int)
 rw[decide_eq_false hz]at hin
 obtain⟨hc0,-,hc2,hc3,hc7,hc8⟩:=hD.c
 obtain⟨tb,tc,wb,wc,htv,hwv,hct,hcw,htl,hwl,htlt,hwlt,hfT,hfW⟩:=hD.tw hh
 rw[htv]at hc2
 rw[hwv]at hc3
 rw[ht]at hct
 rw[hw]at hcw
 have hD2:=hD.workTo hh hwv 0
 obtain⟨w2,hw2⟩:∃w2,w2=w.setCell ⟨wb,h,none⟩ (.int .i64 0):=⟨_,rfl⟩
 rw[←hw2]at hD2
 have HW2:Hid (w2=w.setCell ⟨wb,h,none⟩ (.int .i64 0)):=hw2
 have hsz2:w2.heap.size=w.heap.size:=by rw[hw2];simp
 have hhi:(h:Int)<(hands:Int):=by omega
 have hii:(i:Int)<(ts.length:Int):=by omega
 have hfw:=hfW h
 obtain⟨d0,-,d2,d3,-,d8⟩:=hD2.c
 obtain⟨tb',tc',wb',wc',htv',hwv',dct,dcw,-,-,dtlt,-,dfT,-⟩:=hD2.tw hh
 rw[htv]at htv'
 rw[hwv]at hwv'
 simp only[Value.slice.injEq,Option.some.injEq,Addr.mk.injEq,and_true,true_and]at htv' hwv'
 obtain⟨rfl,rfl⟩:=htv'
 obtain⟨rfl,rfl⟩:=hwv'
 rw[htv]at d2
 rw[hwv]at d3
 replace dct:w2.cell? ⟨tb,h,none⟩=some (.int .i64 ((i:Nat):Int)):=by rw[←ht];exact dct
 replace dcw:w2.cell? ⟨wb,h,none⟩=some (.int .i64 0):=by simpa[zg]using dcw
 rw[hD.dn]at hc8 d8
 have HD2:Hid (Dg M room hands ts { g with work:=updG g.work h 0 } (relabel own w.heap.size 3) gq vf vh HB hc DB dc Hk vk Bd w0 w2):=hD2
 clear hD hD2 hz hw2 hfT hfW htl hwl
 go_enter Tryz.func36,Tryz.ntmps36
 go_upto_region 6 with (first|(go_at_call 68;refine hin.mono ?_;clear hin;rintro e w ⟨rfl,rfl⟩))
 rw[←HW2.out]
 clear HW2 hc0 hc2 hc3 hc7 hc8 hct hcw hfw htlt hwlt
 go_upto_region 10 with fail
 obtain⟨w3,hw3⟩:∃w3,w3=w2.alloc (.cells #[.int .i64 4,.int .i64 h,.int .i64 i,.int .i64 0] 91):=⟨_,rfl⟩
 rw[←hw3]
 have hK3:Kc (relabel own w.heap.size 3) (fun c=>c=8) w2 w3:=by rw[hw3];exact Kc.of_below ((qq4 _ _).alloc (qq1 _) _)
 have hE3:Eh M room hands ts { g with work:=updG g.work h 0 } (relabel (relabel own w.heap.size 3) w2.heap.size 8) gq vf vh HB hc DB dc Hk vk Bd w0 w.heap.size (.slice none 0 0) (.slice none 0 0) (.slice (some ⟨w.heap.size,0,none⟩) 1 1) [] [] [(4,(h:Int),(i:Int),0)] w3:=by
  refine⟨HD2.out.later8 hK3,RowI.nil _ _,RowI.nil _ _,?_,fun k e=>by simp[Value.ownBlock]at e,fun k e=>by simp[Value.ownBlock]at e,fun k e=>?_,?_⟩
  ·rw[hw3];have:=RowD.told w w2 (by omega) (4,(h:Int),(i:Int),0);rw[hsz2]at this;exact this
  ·simp only[Value.ownBlock,Option.some.injEq]at e
   rw[←e];exact zj (by omega)
  ·have:=hK3.size;omega
 have HE3:Hid (∃own3,Eh M room hands ts { g with work:=updG g.work h 0 } own3 gq vf vh HB hc DB dc Hk vk Bd w0 w.heap.size (.slice none 0 0) (.slice none 0 0) (.slice (some ⟨w.heap.size,0,none⟩) 1 1) [] [] [(4,(h:Int),(i:Int),0)] w3):=⟨_,hE3⟩
 clear hK3 hE3 hw3 d0 d2 d3 d8 dct dcw dtlt dfT hsz2 HD2
 obtain⟨own3,hE3⟩:=HE3.out
 have HG3:Hid (Good ts):=hg
 obtain⟨d0,-,d2,-,-,d8⟩:=hE3.dg.c
 have hE3':Hid (Eh M room hands ts { g with work:=updG g.work h 0 } own3 gq vf vh HB hc DB dc Hk vk Bd w0 w.heap.size (.slice none 0 0) (.slice none 0 0) (.slice (some ⟨w.heap.size,0,none⟩) 1 1) [] [] [(4,(h:Int),(i:Int),0)] w3):=hE3
 have hrdy:=fun q=>qu gq.p gq.dn ts g.S (w3.drewN q) (hE3.dg.planNow.later ⟨rfl,rfl,rfl,qq1 _,fun _ _=>rfl⟩) hg.rng h30 (hE3.dg.bools.later ⟨rfl,rfl,rfl,qq1 _,fun _ _=>rfl⟩)
 clear hE3 HE3
 generalize hR0:Zb (Zg ts g.S ts.length)=R0 at hrdy
 have HR0:Hid (Zb (Zg ts g.S ts.length)=R0):=hR0
 clear hR0
 have HHY:Hid (Down ts g.S∧ZE ts g.S i=true∧Good ts∧g.task h=((i:Nat):Int)∧g.work h=1∧g.sp.length+(allH (g.near h) (g.ring h)).length≤30∧gq.tk=.slice (some ⟨tb,0,none⟩) hands tc∧gq.wk=.slice (some ⟨wb,0,none⟩) hands wc):=⟨hdn,hrd,hg,ht,hw,hsp,htv,hwv⟩
 clear hdn hrd hg ht hw hsp htv hwv d2
 have HTV:Hid (gq.tk=.slice (some ⟨tb,0,none⟩) hands tc):=HHY.out.2.2.2.2.2.2.1
 go_cut [10] from 66 to 74 (fun s10 wx=>Hid (∃own4,Eh M room hands ts { g with work:=updG g.work h 0 } own4 gq vf vh HB hc DB dc Hk vk Bd w0 w.heap.size s10 (.slice none 0 0) (.slice (some ⟨w.heap.size,0,none⟩) 1 1) R0 [] [(4,(h:Int),(i:Int),0)] wx))
 case first=>
  go_region_with (first|(go_at_call 65;refine(hrdy 1).mono ?_;clear hrdy;rintro e w4 ⟨⟨ov4,rfl,hr4⟩,hb4⟩;have HE4:Hid (∃own4,Eh M room hands ts { g with work:=updG g.work h 0 } own4 gq vf vh HB hc DB dc Hk vk Bd w0 w.heap.size ov4 (.slice none 0 0) (.slice (some ⟨w.heap.size,0,none⟩) 1 1) R0 [] [(4,(h:Int),(i:Int),0)] w4):=hE3'.out.ready (q:=1) hr4 hb4;clear hr4 hb4))
  all_goals
   go_wp2
   go_meet
   exact HE4
 case rest=>
  obtain⟨own4,hE4⟩:=hcut.out
  obtain⟨w4,rfl⟩:∃w4,w4=wc:=⟨_,rfl⟩
  obtain⟨ov4,rfl⟩:∃ov4,ov4=u10:=⟨_,rfl⟩
  obtain⟨e8,eci,efi,f2,fct,fT,hE6⟩:=hE4.next (i:=i) hh hi HTV.out
  obtain⟨w6,hw6⟩:∃w6,w6=(w4.setCell ⟨DB,i,none⟩ (.bool true)).setCell ⟨tb,h,none⟩ (.int .i64 (-1)):=⟨_,rfl⟩
  rw[←hw6]at hE6
  have HW6:Hid (w6=(w4.setCell ⟨DB,i,none⟩ (.bool true)).setCell ⟨tb,h,none⟩ (.int .i64 (-1))):=hw6
  have e2:=hE4.dg.c.2.2.1
  rw[HTV.out]at e2
  clear hE4 hcut hE3' hw6 d0 d8 hrdy
  obtain⟨own6,hE6⟩:=hE6
  obtain⟨k0,-,-,-,-,k8⟩:=hE6.dg.c
  have hrdy2:=fun q=>qu gq.p gq.dn ts (mark g.S i) (w6.drewN q) (hE6.dg.planNow.later ⟨rfl,rfl,rfl,qq1 _,fun _ _=>rfl⟩) HG3.out.rng h30 (hE6.dg.bools.later ⟨rfl,rfl,rfl,qq1 _,fun _ _=>rfl⟩)
  have hE6':Hid (Eh M room hands ts { g with S:=mark g.S i,task:=updG g.task h (-1),work:=updG g.work h 0 } own6 gq vf vh HB hc DB dc Hk vk Bd w0 w.heap.size ov4 (.slice none 0 0) (.slice (some ⟨w.heap.size,0,none⟩) 1 1) R0 [] [(4,(h:Int),(i:Int),0)] w6):=hE6
  clear hE6
  generalize hR1:Zb (Zg ts (mark g.S i) ts.length)=R1 at hrdy2
  have HR1:Hid (Zb (Zg ts (mark g.S i) ts.length)=R1):=hR1
  clear hR1
  go_upto_region 13 with fail
  rw[←HW6.out]
  clear HW6 e2 e8 eci efi f2 fct fT
  go_cut [11] from 87 to 95 (fun s11 wx=>Hid (∃own7,Eh M room hands ts { g with S:=mark g.S i,task:=updG g.task h (-1),work:=updG g.work h 0 } own7 gq vf vh HB hc DB dc Hk vk Bd w0 w.heap.size ov4 s11 (.slice (some ⟨w.heap.size,0,none⟩) 1 1) R0 R1 [(4,(h:Int),(i:Int),0)] wx))
  case first=>
   go_region_with (first|(go_at_call 65;refine(hrdy2 1).mono ?_;clear hrdy2;rintro e w7 ⟨⟨nv7,rfl,hr7⟩,hb7⟩;have HE7:Hid (∃own7,Eh M room hands ts { g with S:=mark g.S i,task:=updG g.task h (-1),work:=updG g.work h 0 } own7 gq vf vh HB hc DB dc Hk vk Bd w0 w.heap.size ov4 nv7 (.slice (some ⟨w.heap.size,0,none⟩) 1 1) R0 R1 [(4,(h:Int),(i:Int),0)] w7):=hE6'.out.ready2 (q:=1) hr7 hb7;clear hr7 hb7))
   all_goals
    go_wp2
    go_meet
    exact HE7
  case rest=>
   obtain⟨nv7,rfl⟩:∃nv7,nv7=u11:=⟨_,rfl⟩
   obtain⟨w7,rfl⟩:∃w7,w7=wc:=⟨_,rfl⟩
   obtain⟨g6,hg6⟩:∃g6:Gs,g6={ g with S:=mark g.S i,task:=updG g.task h (-1),work:=updG g.work h 0 }:=⟨_,rfl⟩
   rw[←hg6]at hcut
   have HG6:Hid (g6={ g with S:=mark g.S i,task:=updG g.task h (-1),work:=updG g.work h 0 }):=hg6
   clear hg6 k0 k8 hE6' hrdy2
   have HL0:Hid (R0.length≤30∧R1.length≤30∧(∀x,x∈R1→∃j:Nat,x=((j:Nat):Int))∧g6.sp.length+(allH (g6.near h) (g6.ring h)).length≤30):=by
    refine⟨?_,?_,?_,?_⟩
    ·rw[←HR0.out,zd];exact qq2 (z6 _ _ _) h30
    ·rw[←HR1.out,zd];exact qq2 (z6 _ _ _) h30
    ·intro x hx
     rw[←HR1.out]at hx
     obtain⟨j,-,rfl⟩:=xR.1 hx
     exact⟨j,rfl⟩
    ·rw[HG6.out];exact HHY.out.2.2.2.2.2.1
   have HE8:Hid (∃own8 vf8 vh8 vk8,Eh M room hands ts (gput room g6 h (fresh R0 (R1.take 0))) own8 gq vf8 vh8 HB hc DB dc Hk vk8 Bd w0 w.heap.size ov4 nv7 (.slice (some ⟨w.heap.size,0,none⟩) 1 1) R0 R1 [(4,(h:Int),(i:Int),0)] w7):=by
    obtain⟨own8,h8⟩:=hcut.out
    refine⟨own8,vf,vh,vk,?_⟩
    rw[List.take_zero,show fresh R0 []=[] from rfl,zdn]
    exact h8
   obtain⟨na,nc,hnv⟩:∃na nc,nv7=.slice na R1.length nc:=by
    obtain⟨own8,h8⟩:=hcut.out
    exact h8.now.shape
   subst hnv
   clear hcut
   have hR30:=HL0.out.2.1
   go_wp2
   go_loopw [12,13] (fun s12 s13 wr=>∃(k m:Nat),s13=.int .i64 k∧s12=.int .i64 m∧k≤R1.length∧m≤k∧Hid (m=(fresh R0 (R1.take k)).length)∧Hid (∃own8 vf8 vh8 vk8,Eh M room hands ts (gput room g6 h (fresh R0 (R1.take k))) own8 gq vf8 vh8 HB hc DB dc Hk vk8 Bd w0 w.heap.size ov4 (.slice na R1.length nc) (.slice (some ⟨w.heap.size,0,none⟩) 1 1) R0 R1 [(4,(h:Int),(i:Int),0)] wr)) (fun _ s13 _=>R1.length-(intOf s13).toNat)
   case atStart=>exact⟨0,0,rfl,rfl,Nat.zero_le _,qq1 _,rfl,HE8⟩
   case round=>
    clear HE8
    obtain⟨k,m,rfl,rfl,hk,hmk,hm,hE8⟩:=hrel
    obtain⟨own8,vf8,vh8,vk8,h8⟩:=hE8.out
    by_cases hkl:k<R1.length
    ·have hkl':(k:Int)<(R1.length:Int):=by omega
     obtain⟨gb,gc,hv,-,hglt,-⟩:=h8.now.full (by omega)
     simp only[Value.slice.injEq]at hv
     obtain⟨rfl,-,rfl⟩:=hv
     have hcx:=h8.now.cell hkl
     obtain⟨j,hj⟩:=HL0.out.2.2.1 _ (zgi hkl)
     have HSN:Hid (R1.take (k+1)=R1.take k++[((j:Nat):Int)]):=by show _=_;rw[zag hkl,hj]
     rw[hj]at hcx
     have hin2:=Prk.zjm _ ov4 R0 ((j:Nat):Int) wr h8.was.rds (by have:=HL0.out.1;omega)
     have H8:Hid (Eh M room hands ts (gput room g6 h (fresh R0 (R1.take k))) own8 gq vf8 vh8 HB hc DB dc Hk vk8 Bd w0 w.heap.size ov4 (.slice (some ⟨gb,0,none⟩) R1.length nc) (.slice (some ⟨w.heap.size,0,none⟩) 1 1) R0 R1 [(4,(h:Int),(i:Int),0)] wr):=h8
     obtain⟨oa4,oc4,hov⟩:=h8.was.shape
     clear hj
     by_cases hmem:((j:Nat):Int)∈R0
     ·have hb:Prk.memB R0 ((j:Nat):Int)=true:=by simp[Prk.memB,hmem]
      rw[hb]at hin2
      have HE9:Hid (∃own8 vf8 vh8 vk8,Eh M room hands ts (gput room g6 h (fresh R0 (R1.take (k+1)))) own8 gq vf8 vh8 HB hc DB dc Hk vk8 Bd w0 w.heap.size ov4 (.slice (some ⟨gb,0,none⟩) R1.length nc) (.slice (some ⟨w.heap.size,0,none⟩) 1 1) R0 R1 [(4,(h:Int),(i:Int),0)] wr):=by
       show ∃own8 vf8 vh8 vk8,_
       rw[HSN.out,xP,if_pos hmem,List.append_nil]
       exact⟨own8,vf8,vh8,vk8,H8.out⟩
      have hm9:Hid (m=(fresh R0 (R1.take (k+1))).length):=by show _=_;rw[HSN.out,xP,if_pos hmem,List.append_nil];exact hm.out
      clear hb hmem h8 hE8 hov
      go_wp2_with (first|(go_at_call 68;refine hin2.mono ?_;clear hin2;rintro e wr ⟨rfl,rfl⟩))
      go_roundw
      case rel=>exact⟨k+1,m,by go_num,rfl,by omega,by omega,hm9,HE9⟩
      case measure=>simp[intOf];omega
     ·have hb:Prk.memB R0 ((j:Nat):Int)=false:=by simp[Prk.memB,hmem]
      rw[hb]at hin2
      obtain⟨gk,hgk⟩:∃gk,gk=gput room g6 h (fresh R0 (R1.take k)):=⟨_,rfl⟩
      have HGK:Hid ({ gk with near:=updG gk.near h (j:Int),ring:=updG gk.ring h (putR room (gk.near h) (gk.ring h)),sp:=gk.sp++putO room (gk.near h) (gk.ring h) }=gput room g6 h (fresh R0 (R1.take (k+1)))):=by
       show _=_
       rw[HSN.out,xP,if_neg hmem,zbX,hgk]
      have HLEN:Hid (gk.sp.length+(putO room (gk.near h) (gk.ring h)).length≤60):=by
       show _≤_
       have h1:=zdm room g6 h (fresh R0 (R1.take (k+1))) (fun n hn=>by
        have hn2:n∈R1:=List.mem_of_mem_take (List.mem_filter.1 hn).1
        obtain⟨jj,rfl⟩:=HL0.out.2.2.1 n hn2
        omega)
       rw[←HGK.out]at h1
       simp only[List.length_append]at h1
       have h2:(fresh R0 (R1.take (k+1))).length≤30:=by
        refine qq2 (List.length_filter_le _ _) ?_
        simp;omega
       have:=HL0.out.2.2.2
       omega
      have hm9:Hid (m+1=(fresh R0 (R1.take (k+1))).length):=by show _=_;rw[HSN.out,xP,if_neg hmem,qb,←hm.out];rfl
      rw[←hgk]at h8
      have c1:=(h8.dg.hands1 hh).1
      have c2:=(h8.dg.hands1 hh).2
      have hput:=fun q=>h8.putHand hh hr1 j q
      clear hb hmem h8 hE8 hov H8 hgk
      go_upto_region 20 with (first|(go_at_call 68;refine hin2.mono ?_;clear hin2;rintro e wr ⟨rfl,rfl⟩))
      go_region_with (first|(go_at_call 69;refine(hput 1).mono ?_;clear hput;rintro e w9 ⟨lv,rfl,own9,vk9,hE9,hl9⟩;have hsp9:=hE9.putSpill h16 hl9 HLEN.out;clear hE9 hl9)|(go_at_call 67;refine hsp9.mono ?_;clear hsp9;rintro e w10 ⟨rfl,own10,vf10,vh10,hE10⟩;rw[HGK.out]at hE10;have HE10:Hid (∃own8 vf8 vh8 vk8,Eh M room hands ts (gput room g6 h (fresh R0 (R1.take (k+1)))) own8 gq vf8 vh8 HB hc DB dc Hk vk8 Bd w0 w.heap.size ov4 (.slice (some ⟨gb,0,none⟩) R1.length nc) (.slice (some ⟨w.heap.size,0,none⟩) 1 1) R0 R1 [(4,(h:Int),(i:Int),0)] w10):=⟨own10,vf10,vh10,_,hE10⟩;clear hE10))
      all_goals
       go_wp2
       go_roundw
       case rel=>exact⟨k+1,m+1,by go_num,by go_num,by omega,by omega,hm9,HE10⟩
       case measure=>simp[intOf];omega
    ·have hkl':¬(k:Int)<(R1.length:Int):=by omega
     obtain rfl:k=R1.length:=by omega
     have HF:fresh R0 (R1.take R1.length)=Zb (newL ts g.S i):=by
      rw[List.take_length,←HR0.out,←HR1.out]
      exact zge HG3.out HHY.out.1 hi HHY.out.2.1
     rw[HF]at h8 hm
     have hm2:m=(newL ts g.S i).length:=by rw[hm.out,zd]
     have HM2:Hid (m=(newL ts g.S i).length):=hm2
     have hcu:=Spl.yN _ gq.rw g6.zz m wr h8.dg.row.rds (by have:=h8.dg.zle;show g6.zz.length≤100;have h9:g6.zz.length≤6:=this;omega)
     have c7:=h8.dg.c.2.2.2.2.1
     have H8:Hid (Eh M room hands ts (gput room g6 h (Zb (newL ts g.S i))) own8 gq vf8 vh8 HB hc DB dc Hk vk8 Bd w0 w.heap.size ov4 (.slice na R1.length nc) (.slice (some ⟨w.heap.size,0,none⟩) 1 1) R0 R1 [(4,(h:Int),(i:Int),0)] wr):=h8
     clear h8 hE8 HF hm2 hm
     obtain⟨i82,hi82,hz0,hz1,hz2⟩:=info_parts Tryz.infoDeed
     go_upto_region 23 with (first|(go_at_call 70;refine hcu.mono ?_;clear hcu;rintro e wA ⟨va,vb,rfl,hra,hrb,hap,hbA⟩;obtain⟨ba,bn,bc,rfl⟩:∃ba bn bc,vb=.slice ba bn bc:=(by { obtain⟨x,y,hxy⟩:=hrb.shape;exact⟨x,_,y,hxy⟩ })))
     have hMl:=H8.out.dg.ltM
     have hn0:=H8.out.n0
     have hfz7:wA.frozen? ⟨M,7,none⟩=false:=(World.frozen?_of_block (a:=⟨M,7,none⟩) (hbA.block M hMl)).trans (H8.out.dg.fz 7)
     have c7A:wA.cell? ⟨M,7,none⟩=some gq.rw:=(hbA.cell (p:=⟨M,7,none⟩) hMl).trans c7
     have hz6:g6.zz.length≤6:=H8.out.dg.zle
     have hDB:=H8.out.dg.rowStore (Kc.of_below hbA) (hrb.mono (by omega)) (by simp;omega) (fun k e=>zj (hrb.low e).1)
     obtain⟨wB,hwB⟩:∃wB,wB=wA.setCell ⟨M,7,none⟩ (.slice ba bn bc):=⟨_,rfl⟩
     rw[←hwB]at hDB
     have hout:RowD w.heap.size wB (.slice (some ⟨w.heap.size,0,none⟩) 1 1) [(4,(h:Int),(i:Int),0)]:=by
      rw[hwB]
      refine H8.out.out.of_blocks (fun k e=>(qq5 _ _ _ _ (by show k≠M;intro e2;have h1:=H8.out.ld k e;have h2:=H8.out.dg.lM;rw[e2]at h1;omega)).trans (hbA.block k (H8.out.out.low e).2))
     have hva:RowI wr.heap.size wB va (g6.zz.take m):=by rw[hwB];exact hra.of_blocks (fun k e=>qq5 _ _ _ _ (by show k≠M;have:=(hra.low e).1;omega))
     have hlo:Lb (relabel own8 wr.heap.size 4) 8 (.slice (some ⟨w.heap.size,0,none⟩) 1 1):=H8.out.ld.reD H8.out.out
     have hla:Lb (relabel own8 wr.heap.size 4) 4 va:=fun k e=>zj (hra.low e).1
     obtain⟨A,hA⟩:∃A,A=g6.zz.take m:=⟨_,rfl⟩
     have HA:Hid (A=g6.zz.take m):=hA
     have hA6:A.length≤6:=by rw[hA];simp;omega
     rw[←hA]at hva
     obtain⟨aa,ac,hav⟩:=hva.shape
     subst hav
     obtain⟨gE,hgE⟩:∃gE:Gs,gE={ gput room g6 h (Zb (newL ts g.S i))with zz:=g6.zz.drop m }:=⟨_,rfl⟩
     have HGE:Hid (gE={ gput room g6 h (Zb (newL ts g.S i))with zz:=g6.zz.drop m }):=hgE
     have HB0:Hid (Dg M room hands ts gE (relabel own8 wr.heap.size 4) { gq with rw:=.slice ba bn bc } vf8 vh8 HB hc DB dc Hk vk8 Bd w0 wB):=by rw[hgE];exact hDB
     have HO0:Hid (RowD w.heap.size wB (.slice (some ⟨w.heap.size,0,none⟩) 1 1) ((4,(h:Int),(i:Int),0)::(A.take 0).map wokeD)∧Lb (relabel own8 wr.heap.size 4) 8 (.slice (some ⟨w.heap.size,0,none⟩) 1 1)∧RowI wr.heap.size wB (.slice aa A.length ac) A∧Lb (relabel own8 wr.heap.size 4) 4 (.slice aa A.length ac)∧w.heap.size≤wB.heap.size):=⟨hout,hlo,hva,hla,by rw[hwB];have:=hbA.size;simp;omega⟩
     have HWB:Hid (wB=wA.setCell ⟨M,7,none⟩ (.slice ba bn bc)):=hwB
     clear hra hrb hap hbA hDB hout hva hlo hla hA hgE hwB c7 H8
     go_upto_region 24 with fail
     rw[←HWB.out]
     clear HWB c7A hfz7
     go_wp2
     go_loopw [9,17] (fun s9 s17 wx=>∃(k:Nat) (own9:Nat→Nat),s17=.int .i64 k∧k≤A.length∧Hid (Dg M room hands ts gE own9 { gq with rw:=.slice ba bn bc } vf8 vh8 HB hc DB dc Hk vk8 Bd w0 wx)∧Hid (RowD w.heap.size wx s9 ((4,(h:Int),(i:Int),0)::(A.take k).map wokeD)∧Lb own9 8 s9∧RowI wr.heap.size wx (.slice aa A.length ac) A∧Lb own9 4 (.slice aa A.length ac)∧w.heap.size≤wx.heap.size)) (fun _ s17 _=>A.length-(intOf s17).toNat)
     case atStart=>exact⟨0,_,rfl,Nat.zero_le _,HB0,HO0⟩
     case round=>
      clear HB0 HO0
      obtain⟨k,own9,rfl,hk,hD9,hO9⟩:=hrel
      obtain⟨da,dcp,hdv⟩:=hO9.out.1.shape
      subst hdv
      by_cases hkl:k<A.length
      ·have hkl':(k:Int)<(A.length:Int):=by omega
       obtain⟨gb,gc,hv,-,hglt,-⟩:=hO9.out.2.2.1.full (by omega)
       simp only[Value.slice.injEq]at hv
       obtain⟨rfl,-,rfl⟩:=hv
       have hcx:=hO9.out.2.2.1.cell hkl
       have HTS:Hid (A.take (k+1)=A.take k++[A.getD k 0]):=zag hkl
       generalize A.getD k 0=x at hcx HTS
       have hdl:((4,(h:Int),(i:Int),0)::(A.take k).map wokeD:List Deed).length≤7:=by simp;omega
       have HDS:Hid (((4,(h:Int),(i:Int),0)::(A.take (k+1)).map wokeD:List Deed)=((4,(h:Int),(i:Int),0)::(A.take k).map wokeD)++[wokeD x]):=by show _=_;rw[HTS.out];simp
       generalize ((4,(h:Int),(i:Int),0)::(A.take k).map wokeD:List Deed)=ds at *
       have h1c:∀u∈[Value.int .i64 6,.int .i64 x,.int .i64 0,.int .i64 0],u.oneCell'=true:=by intro u hu;simp at hu;rcases hu with rfl|rfl|rfl|rfl <;> rfl
       have hor:RowD w.heap.size (wr.alloc (.cells #[.int .i64 6,.int .i64 x,.int .i64 0,.int .i64 0] 91)) (.slice da ds.length dcp) ds:=hO9.out.1.later ((qq4 _ _).alloc (qq1 _) _)
       have hsw:=hO9.out.2.2.2.2
       go_wp2_with (first|(at_builtin;go_loud (refine wpList_append_own_at _ rfl (.tmp 147) (.tmp 153) 87 rfl w.heap.size 91 i82 (.agg #[.int .i64 0,.int .i64 0,.int .i64 0,.int .i64 0]) 4 32 Tryz.underlying87 hi82 hz0 hz1 hz2 rfl (by decide) _ ds.length (flat4 ds) rfl hor ⟨wr.heap.size,0,none⟩ 1 1 [.int .i64 6,.int .i64 x,.int .i64 0,.int .i64 0] rfl rfl (xr _ _ rfl _ _ _ _ _) h1c (by unfold maxLen;omega) (by omega) (by simp;omega) ?_;intro v2 w2b hown hgr _ hat)))
       have K8:Kc own9 (fun c=>c=8) wr w2b:=⟨hgr.os,hgr.tape,hgr.output,by have:=hgr.size;simp at this;omega,fun q hq hC=>(hgr.block q (by simp;omega) (fun e=>hC (hO9.out.2.1 q e.symm))).trans (qa _ _ _ hq)⟩
       refine⟨⟨k+1,relabel own9 wr.heap.size 8,by go_num,by omega,hD9.out.later8 K8,?_⟩,by simp[intOf];omega⟩
       show _∧_∧_∧_∧_
       refine⟨?_,Lb.near hO9.out.2.1 (fun q e=>(hO9.out.1.low e).2) (fun q e=>?_),hO9.out.2.2.1.kc hO9.out.2.2.2.1 (by omega) K8,hO9.out.2.2.2.1.re hO9.out.2.2.1,qq2 hsw K8.size⟩
       ·rw[HDS.out]
        unfold RowD
        rw[qb,xO,jW]
        exact hown
       ·rcases hat with e2|e2
        ·exact Or.inl (e2.symm.trans e)
        ·have e3:=e2.symm.trans e
         simp at e3
         exact Or.inr (by omega)
      ·have hkl':¬(k:Int)<(A.length:Int):=by omega
       obtain rfl:k=A.length:=by omega
       have HE:Hid (((4,(h:Int),(i:Int),0)::(A.take A.length).map wokeD:List Deed)=Xn ts g h):=by
        show _=_
        unfold Xn
        rw[List.take_length,HA.out,HM2.out,HG6.out,HHY.out.2.2.2.1,Int.toNat_natCast]
        rfl
       have HGF:Hid (gE=ends ts room g h):=by
        show _=_
        unfold ends
        dsimp only
        rw[HHY.out.2.2.2.1,Int.toNat_natCast,HHY.out.2.2.2.2.1,HGE.out,HM2.out,HG6.out]
        rfl
       go_wp2
       go_ret
       rw[←HE.out,←HGF.out]
       have h1:=hO9.out.1
       have he1:((4,(h:Int),(i:Int),0)::(A.take A.length).map wokeD:List Deed).length=A.length+1:=by simp
       rw[he1]at h1
       exact⟨⟨_,rfl,h1⟩,own9,{ gq with rw:=.slice ba bn bc },vf8,vh8,HB,hc,DB,dc,Hk,vk8,rfl,hD9.out⟩
end
section
open Go.RowKit Go.Deep
open Spl.Dsp (Gq gArr)
variable {M room hands:Nat} {ts:Zl} {p:Value} {g:Gs} {own:Nat→Nat} {Bd:Bs} {w0 w w':World}
theorem DgO.rebase(h:DgO own M room hands ts p g Bd w0 w):DgO own M room hands ts p g ⟨fun k=>k<w.heap.size∧own k=9,w⟩ w0 w:=by
 obtain⟨gq,vf,vh,HB,hc,DB,dc,Hk,vk,hp,hD⟩:=h
 exact⟨gq,vf,vh,HB,hc,DB,dc,Hk,vk,hp,hD.rebase⟩
theorem DgO.e(h:DgO own M room hands ts p g Bd w0 w):DgE M room hands ts p g Bd w0 w:=⟨own,h⟩
theorem DgE.went(h:DgE M room hands ts p g ⟨fun k=>k<w.heap.size∧own k=9,w⟩ w0 w'):∃own' Bd',DgO own' M room hands ts p g Bd' w0 w'∧Went own own' w w':=by
 obtain⟨own',gq,vf,vh,HB,hc,DB,dc,Hk,vk,hp,hD⟩:=h
 exact⟨own',_,⟨gq,vf,vh,HB,hc,DB,dc,Hk,vk,hp,hD⟩,hD.io.1,hD.io.2.1,hD.io.2.2,hD.w1le,fun k hk ho=>⟨(hD.far k ⟨hk,ho⟩).2.2,(hD.far k ⟨hk,ho⟩).2.1⟩⟩
def XZ(M room hands:Nat)(ts:Zl)(p:Value)(g':Gs)(ds:List Deed)(own:Nat→Nat)(w0 w:World)(e:Ending)(w':World):Prop:=
 ∃v,e=.returned v∧RowD w.heap.size w' v ds∧∃own' Bd',DgO own' M room hands ts p g' Bd' w0 w'∧Went own own' w w'
theorem zf6(hD:DgO own M room hands ts p g Bd w0 w)(hI:Inv ts room hands g)(hg:Good ts)(hw:∀i,i<ts.length→1≤Zv ts i∧Zv ts i≤100)(hr1:1≤room)(h16:room≤16)(h6:hands≤6)(h pick:Nat)(hh:h<hands)(hp63:pick<9223372036854775808) :
  Calls Tryz.prog 36 #[.pointer (some ⟨M,0,none⟩),.int .i64 h,.int .i64 pick] w (XZ M room hands ts p (gstep ts room hands g h pick) (gdeeds ts hands g h pick) own w0 w):=by
 have hE:=hD.rebase.e
 have h30:=hg.le
 have hO:pick % hands<hands:=Nat.mod_lt _ (by omega)
 have fin:∀(g':Gs) (ds:List Deed),(Calls Tryz.prog 36 #[.pointer (some ⟨M,0,none⟩),.int .i64 h,.int .i64 pick] w fun e w'=>(∃v,e=.returned v∧RowD w.heap.size w' v ds)∧DgE M room hands ts p g' ⟨fun k=>k<w.heap.size∧own k=9,w⟩ w0 w')→Calls Tryz.prog 36 #[.pointer (some ⟨M,0,none⟩),.int .i64 h,.int .i64 pick] w (XZ M room hands ts p g' ds own w0 w):=fun g' ds hc=>
  hc.mono fun e w' ⟨⟨v,he,hv⟩,hd⟩=>⟨v,he,hv,hd.went⟩
 unfold gstep gdeeds
 by_cases hz:(h:Int)∈g.zz
 ·rw[if_pos hz,if_pos hz]
  exact fin _ _ (zcm M room hands ts p g _ w0 w h pick hE hz)
 rw[if_neg hz,if_neg hz]
 by_cases ht:0≤g.task h
 ·rw[if_pos ht,if_pos ht]
  obtain⟨i,hti,hi,hrd⟩:=hI.rdy (qM hh ht)
  have hwo:=hI.workOk h hh ht
  rw[hti,Int.toNat_natCast]at hwo
  have hwle:=hw i hi
  by_cases hk:1<g.work h
  ·rw[if_pos hk,if_pos hk]
   exact fin _ _ (zc5 M room hands ts p g _ w0 w h pick hE hh h6 hz ht hk (by omega))
  ·rw[if_neg hk,if_neg hk]
   have hro:=hI.room30 hh
   exact fin _ _ (zes M room hands ts p g _ w0 w h pick hE hh h6 h16 hr1 hg hz i hi hti (by omega) hrd hI.down (by omega))
 rw[if_neg ht,if_neg ht]
 by_cases hn:g.near h≠-1
 ·rw[if_pos hn,if_pos hn]
  obtain⟨i,hni,hi,hrd⟩:=hI.rdy (xG hh hn)
  rw[hni]
  exact fin _ _ (zet M room hands ts p g _ w0 w h pick hE hh h6 hz ht hn i hi hni)
 rw[if_neg hn,if_neg hn]
 have hn':g.near h=-1:=by
  rcases Int.decEq (g.near h) (-1)with e|e
  ·exact absurd e hn
  ·exact e
 by_cases hr:g.ring h≠[]
 ·rw[if_pos hr,if_pos hr]
  have hmem:(g.ring h).getLastD 0∈g.ring h:=by
   have:=yB hr
   rw[this]
   simp
  obtain⟨i,hni,hi,hrd⟩:=hI.rdy (zW hh hmem)
  rw[hni]
  exact fin _ _ (zeu M room hands ts p g _ w0 w h pick hE hh h6 hz ht hn' hr i hi hni)
 rw[if_neg hr,if_neg hr]
 have hr':g.ring h=[]:=Classical.not_not.1 hr
 by_cases hs:g.sp≠[]
 ·rw[if_pos hs,if_pos hs]
  obtain⟨x,rest,hx⟩:=List.exists_cons_of_ne_nil hs
  obtain⟨i,hni,hi,hrd⟩:=hI.rdy (jw (hands:=hands) (x:=x) (by rw[hx];simp))
  subst hni
  have e1:g.sp.headD 0=(i:Int):=by rw[hx];rfl
  rw[e1]
  exact fin _ _ (zc3 M room hands ts p g _ w0 w h pick hE hh h6 h16 hz ht hn' hr' i hi rest hx)
 rw[if_neg hs,if_neg hs]
 have hs':g.sp=[]:=Classical.not_not.1 hs
 by_cases ho:pick % hands=h∨g.ring (pick % hands)=[]
 ·rw[if_pos ho,if_pos ho]
  have hzl:g.zz.length<6:=by
   have h1:=Prk.zby (l:=(h:Int)::g.zz) (m:=(List.range hands).map (fun k:Nat=>(k:Int))) (List.nodup_cons.2 ⟨hz,hI.znd⟩) (fun x hx=>by
    rcases List.mem_cons.1 hx with e|e
    ·exact List.mem_map.2 ⟨h,List.mem_range.2 hh,e.symm⟩
    ·obtain⟨k,h1,h2,-⟩:=hI.zr x e
     exact List.mem_map.2 ⟨k,List.mem_range.2 h1,h2.symm⟩)
   simp at h1
   omega
  exact fin _ _ (zc4 M room hands ts p g _ w0 w h pick hE hh h6 h16 hz hzl ht hn' hr' hs' hp63 ho)
 rw[if_neg ho,if_neg ho]
 have hne:pick % hands≠h:=fun e=>ho (Or.inl e)
 have hro:g.ring (pick % hands)≠[]:=fun e=>ho (Or.inr e)
 obtain⟨ls,hls⟩:∃ls,Zb ls=(g.ring (pick % hands)).take (((g.ring (pick % hands)).length+1) / 2):=by
  have:∀l:List Int,(∀x,x∈l→0≤x)→∃ls,Zb ls=l:=by
   intro l
   induction l with
   | nil=>intro _;exact⟨[],rfl⟩
   | cons x l ih=>
    intro hx
    obtain⟨ls,rfl⟩:=ih (fun y hy=>hx y (List.mem_cons_of_mem _ hy))
    exact⟨x.toNat::ls,by simp[Zb,Int.toNat_of_nonneg (hx x (List.mem_cons_self ..))]⟩
  exact this _ (fun x hx=>by obtain⟨j,rfl,-⟩:=hI.rdy (zW hO (List.mem_of_mem_take hx));omega)
 have hlen:ls.length=((g.ring (pick % hands)).length+1) / 2:=by
  have h1:=congrArg List.length hls
  rw[zd,List.length_take]at h1
  have:0<(g.ring (pick % hands)).length:=List.length_pos_iff.2 hro
  omega
 have hpos:0<(g.ring (pick % hands)).length:=List.length_pos_iff.2 hro
 have hle:=hI.ringLe _ hO
 have hst:=zev M room hands ts p g _ w0 w h pick hE hh h6 h16 hr1 hz ht hn' hr' hs' hp63 (pick % hands) rfl hne ls hls (by omega) (by omega) (fun x hx=>by
  have hx2:((x:Nat):Int)∈(g.ring (pick % hands)).take (((g.ring (pick % hands)).length+1) / 2):=by rw[←hls];exact xR.2 ⟨x,hx,rfl⟩
  obtain⟨j,hj,hjl,-⟩:=hI.rdy (zW hO (List.mem_of_mem_take hx2))
  omega)
 have e1:∀l:List Nat,(Zb l).headD 0=((l.getD 0 0:Nat):Int):=fun l=>by cases l <;> rfl
 unfold robs
 dsimp only
 rw[←hls]
 simp only[e1]
 exact fin _ _ hst
end
end Go.Proofs.YtlfbdjeojgbniaaGreatDoor

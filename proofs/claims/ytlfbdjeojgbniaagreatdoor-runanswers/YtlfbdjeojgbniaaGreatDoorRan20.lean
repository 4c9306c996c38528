import Derived.Test.YtlfbdjeojgbniaaGreatDoorRan19
namespace Go.Proofs.YtlfbdjeojgbniaaGreatDoor
section
open Go.RowKit Go.Deep
variable {B:Bs} {G room hands:Nat} {ts:Zl} {g:Gs} {wk:Nat→Int} {own:Nat→Nat} {Q:Qp} {w w':World}
theorem Pg.takeNear(h:Pg B G room hands ts g wk own Q w){j:Nat}(hj:j<hands)(hn:g.near j≠-1) :
  Calls Tryz.prog 157 #[.pointer (some ⟨Q.Hk j,0,none⟩)] w fun e w'=>e=.returned (.tuple #[.int .i64 (g.near j),.nilIface])∧∃own',Pg B G room hands ts { g with near:=updG g.near j (-1) } wk own' Q w'∧Ok own own' (fun c=>c=10+j) w w':=by
 refine(Hnd.zi9 _ _ _ _ _ _ (h.hand j hj) hn).mono ?_
 rintro e w' ⟨rfl,hm,hk⟩
 have:=h.setHand j (-1) (g.ring j) hm (h.kh hj hk)
 rw[xC g.ring j]at this
 exact⟨rfl,_,this,Ok.re (h.kh hj hk) _⟩
theorem Pg.takeRing(h:Pg B G room hands ts g wk own Q w){j:Nat}(hj:j<hands)(hn:g.near j=-1)(hr:g.ring j≠[]) :
  Calls Tryz.prog 157 #[.pointer (some ⟨Q.Hk j,0,none⟩)] w fun e w'=>e=.returned (.tuple #[.int .i64 ((g.ring j).getLastD 0),.nilIface])∧∃own',Pg B G room hands ts { g with ring:=updG g.ring j (g.ring j).dropLast } wk own' Q w'∧Ok own own' (fun c=>c=10+j) w w':=by
 have hm:=h.hand j hj
 rw[hn,yB hr]at hm
 refine(Hnd.zjf _ _ _ _ _ _ hm).mono ?_
 rintro e w' ⟨rfl,hm',hk⟩
 have:=h.setHand j (-1) (g.ring j).dropLast hm' (h.kh hj hk)
 have e:updG g.near j (-1)=g.near:=by rw[←hn];exact xC g.near j
 rw[e]at this
 exact⟨rfl,_,this,Ok.re (h.kh hj hk) _⟩
theorem Pg.takeNone(h:Pg B G room hands ts g wk own Q w){j:Nat}(hj:j<hands)(hn:g.near j=-1)(hr:g.ring j=[]) :
  Calls Tryz.prog 157 #[.pointer (some ⟨Q.Hk j,0,none⟩)] w fun e w'=>e=.returned (.tuple #[.int .i64 0,.iface 97 (.int .i64 5)])∧w'=w:=by
 have hm:=h.hand j hj
 rw[hn,hr]at hm
 exact Hnd.zja _ _ _ _ hm
theorem Pg.get1(h:Pg B G room hands ts g wk own Q w) :
  Calls Tryz.prog 159 #[.pointer (some ⟨Q.Sb,0,none⟩),.int .i64 1] w fun e w'=>∃lv,e=.returned (.tuple #[lv,.nilIface])∧RowI w.heap.size w' lv (g.sp.take 1)∧∃own' Q',Q'.Kb=Q.Kb∧Q'.HB=Q.HB∧Q'.Hk=Q.Hk∧Pg B G room hands ts { g with sp:=g.sp.tail } wk own' Q' w'∧Ok own own' (fun c=>c=6) w w':=by
 refine(Spl.zjd Q.Sb room 1 g.sp Q.vs w h.sp (by omega) (by omega)).mono ?_
 rintro e w' ⟨lv,v',rfl,hl,hs,hk,hn,-⟩
 rw[List.drop_one]at hs
 exact⟨lv,rfl,hl,_,{ Q with vs:=v' },rfl,rfl,rfl,h.setSp _ v' hs (h.nearS hn) (h.ks hk),Ok.re (h.ks hk) _⟩
theorem Pg.sleep(h:Pg B G room hands ts g wk own Q w){j:Nat}(hj:j<hands)(hz:(j:Int)∉g.zz) :
  Calls Tryz.prog 161 #[.pointer (some ⟨Q.Kb,0,none⟩),.int .i64 j] w fun e w'=>e=.returned .nilIface∧∃own' Q',Pg B G room hands ts { g with zz:=g.zz++[(j:Int)] } wk own' Q' w'∧Ok own own' (fun c=>c=4) w w':=by
 refine(Prk.ziW Q.Kb hands g.zz Q.vz (j:Int) w h.pk (by omega) (by omega) hz).mono ?_
 rintro e w' ⟨rfl,v',hs,hk,hn⟩
 exact⟨rfl,_,{ Q with vz:=v' },h.setPark _ v' hs (h.nearZ hn) (h.kp hk),Ok.re (h.kp hk) _⟩
theorem zhZ(hP:Pg B G room hands ts g wk own Q w)(h o:Nat)(hh:h<hands)(ho:o<hands)(h6:hands≤6)(hno:o=h∨g.ring o=[]) :
  Calls Tryz.prog 160 #[.pointer (some ⟨G,0,none⟩),.int .i64 h,.int .i64 o] w fun e w'=>∃a c,e=.returned (.slice a 0 c)∧∃own',Pg B G room hands ts g wk own' Q w'∧Ok own own' (fun c=>c=10+h∨c=10+o) w w':=by
 by_cases e:o=h
 ·subst e
  refine(zh0 G o w).mono ?_
  rintro e w' ⟨rfl,rfl⟩
  exact⟨_,_,rfl,own,hP,⟨⟨rfl,rfl,rfl,qq1 _,fun _ _ _=>rfl⟩,fun _ _=>rfl⟩⟩
 ·have hr:g.ring o=[]:=hno.resolve_left e
  refine(zca hP h o hh ho e h6 (by rw[hr];simp) (by rw[hr];simp)).mono ?_
  rintro e w' ⟨v,rfl,own',hv,hP',hO⟩
  rw[hr]at hv hP'
  obtain⟨a,c,rfl⟩:=hv.shape
  refine⟨a,c,rfl,own',?_,hO⟩
  have e2:({ g with ring:=updG g.ring o [] }:Gs)=g:=by
   rw[←hr,xC]
  simp only[List.take_nil,List.tail_nil,za9,List.drop_nil]at hP'
  rw[e2]at hP'
  exact hP'
set_option maxRecDepth 100000 in
set_option maxHeartbeats 4000000 in
theorem zbT(hP:Pg B G room hands ts g wk own Q w)(h i:Nat)(o:Int)(hh:h<hands)(h6:hands≤6)(hi:i<1000)(g1:Gs)(ht:g1.task h<0)
  (htk:∀own1 W,Pg B G room hands ts g wk own1 Q W→Calls Tryz.prog 157 #[.pointer (some ⟨Q.Hk h,0,none⟩)] W fun e w'=>e=.returned (.tuple #[.int .i64 i,.nilIface])∧∃own',Pg B G room hands ts g1 wk own' Q w'∧Ok own1 own' (fun c=>c=10+h) W w') :
  Calls Tryz.prog 126 #[.pointer (some ⟨G,0,none⟩),.int .i64 h,.int .i64 o] w fun e w'=>e=.returned (.agg #[.int .i64 1,.int .i64 h,.int .i64 i,.int .i64 0])∧∃own' Q',Pg B G room hands ts { g1 with task:=updG g1.task h (i:Int) } wk own' Q' w':=by
 obtain⟨W,hW⟩:∃W,W=w.alloc (.cells #[.int .i64 0,.int .i64 0,.int .i64 0,.int .i64 0] 91):=⟨_,rfl⟩
 have hbW:Below w.heap.size w W:=by rw[hW];exact(qq4 _ _).alloc (qq1 _) _
 have hPW:=hP.later8 (Kc.of_below hbW)
 have hRW:W.heap[w.heap.size]?=some (.cells #[.int .i64 0,.int .i64 0,.int .i64 0,.int .i64 0] 91 (0,0)):=by rw[hW];exact heap_alloc_new w _
 have hRl:w.heap.size<W.heap.size:=by rw[hW];simp
 have htake:=htk _ W hPW
 obtain⟨-,-,-,c3,-,-⟩:=hPW.c
 have ch:=hPW.hc hh
 have hhi:(h:Int)<(hands:Int):=by omega
 have HW:Hid (W=w.alloc (.cells #[.int .i64 0,.int .i64 0,.int .i64 0,.int .i64 0] 91)):=hW
 have HB:Hid (∀w1 own2,Pg B G room hands ts g1 wk own2 Q w1→Calls Tryz.prog 158 #[.pointer (some ⟨G,0,none⟩),.agg #[.int .i64 1,.int .i64 h,.int .i64 i,.int .i64 0]] w1 fun e w'=>e=.returned (.agg #[.int .i64 1,.int .i64 h,.int .i64 i,.int .i64 0])∧∃own',Pg B G room hands ts { g1 with task:=updG g1.task h (i:Int) } wk own' Q w'∧Ok own2 own' (fun c=>c=3) w1 w'):=fun w1 own2 h1=>jR h1 1 0 h i hh h6 hi ht
 have HR:Hid (W.heap[w.heap.size]?=some (.cells #[.int .i64 0,.int .i64 0,.int .i64 0,.int .i64 0] 91 (0,0))∧relabel own w.heap.size 8 w.heap.size=8):=⟨hRW,zj (qq1 _)⟩
 clear hP hPW hbW hRW hW htk
 go_enter Tryz.func126,Tryz.ntmps126
 go_upto_region 1 with fail
 rw[←HW.out]
 clear HW
 go_wp2_with (first|(go_at_call 157;refine htake.mono ?_;clear htake;rintro e w1 ⟨rfl,own2,hP2,hO2⟩;have hb:=HB.out w1 own2 hP2;have HO2:Hid (Ok (relabel own w.heap.size 8) own2 (fun c=>c=10+h) W w1):=hO2;clear hP2 hO2 HB)|(go_at_call 158;refine hb.mono ?_;clear hb;rintro e w3 ⟨rfl,own3,hP3,hO3⟩;have h8:own2 w.heap.size=8:=(HO2.out.lab _ hRl).trans HR.out.2;have hl3:own3 w.heap.size=8:=(hO3.lab _ (qq3 hRl HO2.out.kc.size)).trans h8;have hR3:=((hO3.kc.block w.heap.size (qq3 hRl HO2.out.kc.size) (by rw[h8];omega)).trans (HO2.out.kc.block _ hRl (by rw[HR.out.2];omega))).trans HR.out.1;obtain⟨f0,f1,f2,f3,ff⟩:=yO hR3;have HP3:Hid (Pg B G room hands ts { g1 with task:=updG g1.task h (i:Int) } wk own3 Q w3):=hP3;clear hP3 hO3 h8))
 refine xF Tryz.results126 (yQ hR3 _ _ _ _) rfl rfl ⟨rfl,_,_,HP3.out.later8 (Kc.gsetP (C:=fun c=>c=8) hl3 _ _ _ _)⟩
set_option maxRecDepth 100000 in
set_option maxHeartbeats 4000000 in
theorem zcv(hP:Pg B G room hands ts g wk own Q w)(h i:Nat)(o:Int)(hh:h<hands)(h6:hands≤6)(hi:i<1000)(ht:g.task h<0)(hn:g.near h=-1)(hr:g.ring h=[])(rest:List Int)(hsp:g.sp=(i:Int)::rest) :
  Calls Tryz.prog 126 #[.pointer (some ⟨G,0,none⟩),.int .i64 h,.int .i64 o] w fun e w'=>e=.returned (.agg #[.int .i64 3,.int .i64 h,.int .i64 i,.int .i64 0])∧∃own' Q',Pg B G room hands ts { g with sp:=g.sp.tail,task:=updG g.task h (i:Int) } wk own' Q' w':=by
 obtain⟨W,hW⟩:∃W,W=w.alloc (.cells #[.int .i64 0,.int .i64 0,.int .i64 0,.int .i64 0] 91):=⟨_,rfl⟩
 have hbW:Below w.heap.size w W:=by rw[hW];exact(qq4 _ _).alloc (qq1 _) _
 have hPW:=hP.later8 (Kc.of_below hbW)
 have hRW:W.heap[w.heap.size]?=some (.cells #[.int .i64 0,.int .i64 0,.int .i64 0,.int .i64 0] 91 (0,0)):=by rw[hW];exact heap_alloc_new w _
 have hRl:w.heap.size<W.heap.size:=by rw[hW];simp
 have htake:=hPW.takeNone hh hn hr
 have hget:=hPW.get1
 obtain⟨-,c1,-,c3,-,-⟩:=hPW.c
 have ch:=hPW.hc hh
 have hhi:(h:Int)<(hands:Int):=by omega
 have HW:Hid (W=w.alloc (.cells #[.int .i64 0,.int .i64 0,.int .i64 0,.int .i64 0] 91)):=hW
 have HR:Hid (W.heap[w.heap.size]?=some (.cells #[.int .i64 0,.int .i64 0,.int .i64 0,.int .i64 0] 91 (0,0))∧relabel own w.heap.size 8 w.heap.size=8):=⟨hRW,zj (qq1 _)⟩
 have e1:g.sp.take 1=[(i:Int)]:=by rw[hsp];rfl
 rw[e1]at hget
 obtain⟨g1,hg1⟩:∃g1:Gs,g1={ g with sp:=g.sp.tail }:=⟨_,rfl⟩
 rw[←hg1]at hget
 have HG1:Hid ({ g1 with task:=updG g1.task h (i:Int) }={ g with sp:=g.sp.tail,task:=updG g.task h (i:Int) }):=by rw[hg1];exact rfl
 have HB:Hid (∀w1 own2 Q2,Pg B G room hands ts g1 wk own2 Q2 w1→Calls Tryz.prog 158 #[.pointer (some ⟨G,0,none⟩),.agg #[.int .i64 3,.int .i64 h,.int .i64 i,.int .i64 0]] w1 fun e w'=>e=.returned (.agg #[.int .i64 3,.int .i64 h,.int .i64 i,.int .i64 0])∧∃own',Pg B G room hands ts { g1 with task:=updG g1.task h (i:Int) } wk own' Q2 w'∧Ok own2 own' (fun c=>c=3) w1 w'):=fun w1 own2 Q2 h1=>jR h1 3 0 h i hh h6 hi (by rw[hg1];exact ht)
 rw[←HG1.out]
 clear hP hPW hbW hRW hW hg1 hsp hn hr ht e1 HG1
 go_enter Tryz.func126,Tryz.ntmps126
 go_upto_region 1 with fail
 rw[←HW.out]
 clear HW
 go_wp2_with (first|(go_at_call 157;refine htake.mono ?_;clear htake;rintro e W ⟨rfl,rfl⟩)|(go_at_call 159;refine hget.mono ?_;clear hget;rintro e w1 ⟨lv,rfl,hl,own2,Q2,-,-,-,hP2,hO2⟩;obtain⟨lb,lc,rfl,-,hlb,hlc,-⟩:=hl.full (by simp);have hc0:=hl.cell (k:=0) (by simp);replace hc0:w1.cell? ⟨lb,0,none⟩=some (.int .i64 (i:Int)):=hc0;have hb:=HB.out w1 own2 Q2 hP2;have HO2:Hid (Ok (relabel own w.heap.size 8) own2 (fun c=>c=6) W w1):=hO2;clear hP2 hO2 HB hl)|(go_at_call 158;refine hb.mono ?_;clear hb;rintro e w3 ⟨rfl,own3,hP3,hO3⟩;have h8:own2 w.heap.size=8:=(HO2.out.lab _ hRl).trans HR.out.2;have hl3:own3 w.heap.size=8:=(hO3.lab _ (qq3 hRl HO2.out.kc.size)).trans h8;have hR3:=((hO3.kc.block w.heap.size (qq3 hRl HO2.out.kc.size) (by rw[h8];omega)).trans (HO2.out.kc.block _ hRl (by rw[HR.out.2];omega))).trans HR.out.1;obtain⟨f0,f1,f2,f3,ff⟩:=yO hR3;have HP3:Hid (Pg B G room hands ts { g1 with task:=updG g1.task h (i:Int) } wk own3 Q2 w3):=hP3;clear hP3 hO3 h8))
 refine xF Tryz.results126 (yQ hR3 _ _ _ _) rfl rfl ⟨rfl,_,_,HP3.out.later8 (Kc.gsetP (C:=fun c=>c=8) hl3 _ _ _ _)⟩
set_option maxRecDepth 100000 in
set_option maxHeartbeats 4000000 in
theorem zeC(hP:Pg B G room hands ts g wk own Q w)(h i o:Nat)(hh:h<hands)(ho:o<hands)(hne:o≠h)(h6:hands≤6)(hi:i<1000)(ht:g.task h<0)(hn:g.near h=-1)(hr:g.ring h=[])(hsp:g.sp=[])(h16:(g.ring o).length≤16)(hpos:∀x,x∈g.ring o→0≤x)(rest:List Int)(hro:(g.ring o).take (((g.ring o).length+1) / 2)=(i:Int)::rest) :
  Calls Tryz.prog 126 #[.pointer (some ⟨G,0,none⟩),.int .i64 h,.int .i64 o] w fun e w'=>e=.returned (.agg #[.int .i64 2,.int .i64 h,.int .i64 i,.int .i64 o])∧∃own' Q',Pg B G room hands ts { puts room { g with ring:=updG g.ring o ((g.ring o).drop (((g.ring o).length+1) / 2)) } h rest with task:=updG g.task h (i:Int) } wk own' Q' w':=by
 obtain⟨W,hW⟩:∃W,W=w.alloc (.cells #[.int .i64 0,.int .i64 0,.int .i64 0,.int .i64 0] 91):=⟨_,rfl⟩
 have hbW:Below w.heap.size w W:=by rw[hW];exact(qq4 _ _).alloc (qq1 _) _
 have hPW:=hP.later8 (Kc.of_below hbW)
 have hRW:W.heap[w.heap.size]?=some (.cells #[.int .i64 0,.int .i64 0,.int .i64 0,.int .i64 0] 91 (0,0)):=by rw[hW];exact heap_alloc_new w _
 have hRl:w.heap.size<W.heap.size:=by rw[hW];simp
 have htake:=hPW.takeNone hh hn hr
 have hget:=hPW.get1
 obtain⟨-,c1,-,c3,-,-⟩:=hPW.c
 have ch:=hPW.hc hh
 have hhi:(h:Int)<(hands:Int):=by omega
 have HW:Hid (W=w.alloc (.cells #[.int .i64 0,.int .i64 0,.int .i64 0,.int .i64 0] 91)):=hW
 have HR:Hid (W.heap[w.heap.size]?=some (.cells #[.int .i64 0,.int .i64 0,.int .i64 0,.int .i64 0] 91 (0,0))∧relabel own w.heap.size 8 w.heap.size=8):=⟨hRW,zj (qq1 _)⟩
 have e1:g.sp.take 1=[]:=by rw[hsp];rfl
 have e2:({ g with sp:=g.sp.tail }:Gs)=g:=by rw[hsp];show Gs.mk _ _ _ _ _ [] _=_;rw[←hsp]
 rw[e1,e2]at hget
 have HRB:Hid (∀w1 own2 Q2,Pg B G room hands ts g wk own2 Q2 w1→Calls Tryz.prog 160 #[.pointer (some ⟨G,0,none⟩),.int .i64 h,.int .i64 o] w1 fun e w'=>∃v,e=.returned v∧∃own',Rds (fun b=>own' b=10+o) w' v ((i:Int)::rest)∧Pg B G room hands ts (puts room { g with ring:=updG g.ring o ((g.ring o).drop (((g.ring o).length+1) / 2)) } h rest) wk own' Q2 w'∧Ok own2 own' (fun c=>c=10+h∨c=10+o) w1 w'):=fun w1 own2 Q2 h1=>by
  have:=zca h1 h o hh ho hne h6 h16 hpos
  rw[hro]at this
  exact this
 obtain⟨g1,hg1⟩:∃g1:Gs,g1=puts room { g with ring:=updG g.ring o ((g.ring o).drop (((g.ring o).length+1) / 2)) } h rest:=⟨_,rfl⟩
 have hg1t:g1.task=g.task:=by rw[hg1];rfl
 rw[←hg1]at HRB ⊢
 rw[←hg1t]
 have HB:Hid (∀w1 own2 Q2,Pg B G room hands ts g1 wk own2 Q2 w1→Calls Tryz.prog 158 #[.pointer (some ⟨G,0,none⟩),.agg #[.int .i64 2,.int .i64 h,.int .i64 i,.int .i64 o]] w1 fun e w'=>e=.returned (.agg #[.int .i64 2,.int .i64 h,.int .i64 i,.int .i64 o])∧∃own',Pg B G room hands ts { g1 with task:=updG g1.task h (i:Int) } wk own' Q2 w'∧Ok own2 own' (fun c=>c=3) w1 w'):=fun w1 own2 Q2 h1=>jR h1 2 o h i hh h6 hi (by rw[hg1t];exact ht)
 clear hP hPW hbW hRW hW hg1 hsp hn hr ht e1 e2 hg1t hro hpos h16
 go_enter Tryz.func126,Tryz.ntmps126
 go_upto_region 1 with fail
 rw[←HW.out]
 clear HW
 go_wp2_with (first|(go_at_call 157;refine htake.mono ?_;clear htake;rintro e W ⟨rfl,rfl⟩)|(go_at_call 159;refine hget.mono ?_;clear hget;rintro e w1 ⟨lv,rfl,hl,own2,Q2,-,-,-,hP2,hO2⟩;obtain⟨la,lc,rfl⟩:=hl.shape;have hrob:=HRB.out w1 own2 Q2 hP2;have HO2:Hid (Ok (relabel own w.heap.size 8) own2 (fun c=>c=6) W w1):=hO2;clear hP2 hO2 HRB hl)|(go_at_call 160;refine hrob.mono ?_;clear hrob;rintro e w2 ⟨rv,rfl,own3,hl3,hP3,hO3⟩;obtain⟨ra,rc,rfl,hrl,hrc⟩:=hl3;obtain⟨rb,ro,rfl,-,hrb,hc0⟩:=hrc 0 (by simp);replace hc0:w2.cell? ⟨rb,ro,none⟩=some (.int .i64 (i:Int)):=hc0;have hb:=HB.out w2 own3 Q2 hP3;have HO3:Hid (Ok own2 own3 (fun c=>c=10+h∨c=10+o) w1 w2):=hO3;clear hP3 hO3 HB hrc)|(go_at_call 158;refine hb.mono ?_;clear hb;rintro e w3 ⟨rfl,own4,hP4,hO4⟩;have s1:=qq3 hRl HO2.out.kc.size;have s2:=qq3 s1 HO3.out.kc.size;have h8:own2 w.heap.size=8:=(HO2.out.lab _ hRl).trans HR.out.2;have h83:own3 w.heap.size=8:=(HO3.out.lab _ s1).trans h8;have hl3:own4 w.heap.size=8:=(hO4.lab _ s2).trans h83;have hR3:=(((hO4.kc.block w.heap.size s2 (by rw[h83];omega)).trans (HO3.out.kc.block _ s1 (by rw[h8];omega))).trans (HO2.out.kc.block _ hRl (by rw[HR.out.2];omega))).trans HR.out.1;obtain⟨f0,f1,f2,f3,ff⟩:=yO hR3;have HP3:Hid (Pg B G room hands ts { g1 with task:=updG g1.task h (i:Int) } wk own4 Q2 w3):=hP4;clear hP4 hO4 h8 h83))
 refine xF Tryz.results126 (yQ hR3 _ _ _ _) rfl rfl ⟨rfl,_,_,HP3.out.later8 (Kc.gsetP (C:=fun c=>c=8) hl3 _ _ _ _)⟩
set_option maxRecDepth 100000 in
set_option maxHeartbeats 4000000 in
theorem zeB(hP:Pg B G room hands ts g wk own Q w)(h o:Nat)(hh:h<hands)(ho:o<hands)(h6:hands≤6)(hn:g.near h=-1)(hr:g.ring h=[])(hsp:g.sp=[])(hz:(h:Int)∉g.zz)(hno:o=h∨g.ring o=[]) :
  Calls Tryz.prog 126 #[.pointer (some ⟨G,0,none⟩),.int .i64 h,.int .i64 o] w fun e w'=>e=.returned (.agg #[.int .i64 5,.int .i64 h,.int .i64 0,.int .i64 0])∧∃own' Q',Pg B G room hands ts { g with zz:=g.zz++[(h:Int)] } wk own' Q' w':=by
 obtain⟨W,hW⟩:∃W,W=w.alloc (.cells #[.int .i64 0,.int .i64 0,.int .i64 0,.int .i64 0] 91):=⟨_,rfl⟩
 have hbW:Below w.heap.size w W:=by rw[hW];exact(qq4 _ _).alloc (qq1 _) _
 have hPW:=hP.later8 (Kc.of_below hbW)
 have hRW:W.heap[w.heap.size]?=some (.cells #[.int .i64 0,.int .i64 0,.int .i64 0,.int .i64 0] 91 (0,0)):=by rw[hW];exact heap_alloc_new w _
 have hRl:w.heap.size<W.heap.size:=by rw[hW];simp
 have htake:=hPW.takeNone hh hn hr
 have hget:=hPW.get1
 obtain⟨-,c1,-,c3,-,-⟩:=hPW.c
 have ch:=hPW.hc hh
 have hhi:(h:Int)<(hands:Int):=by omega
 have HW:Hid (W=w.alloc (.cells #[.int .i64 0,.int .i64 0,.int .i64 0,.int .i64 0] 91)):=hW
 have HR:Hid (W.heap[w.heap.size]?=some (.cells #[.int .i64 0,.int .i64 0,.int .i64 0,.int .i64 0] 91 (0,0))∧relabel own w.heap.size 8 w.heap.size=8):=⟨hRW,zj (qq1 _)⟩
 have e1:g.sp.take 1=[]:=by rw[hsp];rfl
 have e2:({ g with sp:=g.sp.tail }:Gs)=g:=by rw[hsp];show Gs.mk _ _ _ _ _ [] _=_;rw[←hsp]
 rw[e1,e2]at hget
 have HRB:Hid (∀w1 own2 Q2,Pg B G room hands ts g wk own2 Q2 w1→Calls Tryz.prog 160 #[.pointer (some ⟨G,0,none⟩),.int .i64 h,.int .i64 o] w1 fun e w'=>∃a c,e=.returned (.slice a 0 c)∧∃own',Pg B G room hands ts g wk own' Q2 w'∧Ok own2 own' (fun c=>c=10+h∨c=10+o) w1 w'):=fun w1 own2 Q2 h1=>zhZ h1 h o hh ho h6 hno
 have HB:Hid (∀w1 own2 Q2,Pg B G room hands ts g wk own2 Q2 w1→Calls Tryz.prog 161 #[.pointer (some ⟨Q2.Kb,0,none⟩),.int .i64 h] w1 fun e w'=>e=.returned .nilIface∧∃own' Q',Pg B G room hands ts { g with zz:=g.zz++[(h:Int)] } wk own' Q' w'∧Ok own2 own' (fun c=>c=4) w1 w'):=fun w1 own2 Q2 h1=>h1.sleep hh hz
 clear hP hPW hbW hRW hW hsp hn hr e1 e2 hno hz
 go_enter Tryz.func126,Tryz.ntmps126
 go_upto_region 1 with fail
 rw[←HW.out]
 clear HW
 go_wp2_with (first|(go_at_call 157;refine htake.mono ?_;clear htake;rintro e W ⟨rfl,rfl⟩)|(go_at_call 159;refine hget.mono ?_;clear hget;rintro e w1 ⟨lv,rfl,hl,own2,Q2,-,-,-,hP2,hO2⟩;obtain⟨la,lc,rfl⟩:=hl.shape;have hrob:=HRB.out w1 own2 Q2 hP2;have HO2:Hid (Ok (relabel own w.heap.size 8) own2 (fun c=>c=6) W w1):=hO2;clear hP2 hO2 HRB hl)|(go_at_call 160;refine hrob.mono ?_;clear hrob;rintro e w2 ⟨ra,rc,rfl,own3,hP3,hO3⟩;have hb:=HB.out w2 own3 Q2 hP3;have c2:=hP3.c.2.2.1;have HO3:Hid (Ok own2 own3 (fun c=>c=10+h∨c=10+o) w1 w2):=hO3;clear hP3 hO3 HB)|(go_at_call 161;refine hb.mono ?_;clear hb;rintro e w3 ⟨rfl,own4,Q4,hP4,hO4⟩;have s1:=qq3 hRl HO2.out.kc.size;have s2:=qq3 s1 HO3.out.kc.size;have h8:own2 w.heap.size=8:=(HO2.out.lab _ hRl).trans HR.out.2;have h83:own3 w.heap.size=8:=(HO3.out.lab _ s1).trans h8;have hl3:own4 w.heap.size=8:=(hO4.lab _ s2).trans h83;have hR3:=(((hO4.kc.block w.heap.size s2 (by rw[h83];omega)).trans (HO3.out.kc.block _ s1 (by rw[h8];omega))).trans (HO2.out.kc.block _ hRl (by rw[HR.out.2];omega))).trans HR.out.1;obtain⟨f0,f1,f2,f3,ff⟩:=yO hR3;have HP3:Hid (Pg B G room hands ts { g with zz:=g.zz++[(h:Int)] } wk own4 Q4 w3):=hP4;clear hP4 hO4 h8 h83))
 refine xF Tryz.results126 (yQ hR3 _ _ _ _) rfl rfl ⟨rfl,_,_,HP3.out.later8 (Kc.gsetP (C:=fun c=>c=8) hl3 _ _ _ _)⟩
end
section
open Go.RowKit Go.Deep Go.Maps
variable {B:Bs} {G room hands:Nat} {ts:Zl} {g:Gs} {wk:Nat→Int} {own:Nat→Nat} {Q:Qp} {w w':World}
theorem Pg.sameWork(h:Pg B G room hands ts g wk own Q w)(f:Nat→Int):Pg B G room hands ts { g with work:=f } wk own Q w:=
 ⟨h.row,h.lG,h.jn,h.lJ,h.lA,h.sp,h.lS,h.pk,h.lK,h.hrow,h.lHB,h.hand,h.lH,h.has,h.lM,h.wrow,h.lW,h.far,h.w1le,h.io⟩
theorem zaz{w w':World}{b k:Nat}(h:w.mapTurned w' b)(hk:k≠b):w'.heap[k]?=w.heap[k]?:=by
 obtain⟨es,cl,es',cl',hb,rfl⟩:=h
 show(w.heap.setIfInBounds b _)[k]?=_
 rw[Array.getElem?_setIfInBounds_ne (Ne.symm hk)]
theorem yv{w w':World}{b:Nat}(h:w.mapTurned w' b):w'.os=w.os∧w'.tape=w.tape∧w'.output=w.output∧w'.heap.size=w.heap.size:=by
 obtain⟨es,cl,es',cl',hb,rfl⟩:=h
 exact⟨rfl,rfl,rfl,by show(w.heap.setIfInBounds b _).size=_;simp⟩
theorem Pg.turned(h:Pg B G room hands ts g wk own Q w)(ht:w.mapTurned w' Q.Mb):Kc own (fun c=>c=3) w w':=
 ⟨(yv ht).1,(yv ht).2.1,(yv ht).2.2.1,by rw[(yv ht).2.2.2];exact qq1 _,fun k _ hC=>zaz ht (fun e=>hC (by rw[e];exact h.lM))⟩
theorem Pg.done(h:Pg B G room hands ts g wk own Q w)(hg:Good ts)(i:Nat)(hi:i<ts.length)(hr:ZE ts g.S i=true) :
  Calls Tryz.prog 183 #[.pointer (some ⟨Q.J,0,none⟩),.int .i64 i] w fun e w'=>(∃v,e=.returned (.tuple #[v,.nilIface])∧RowI w.heap.size w' v (Zb (newL ts g.S i)))∧Pg B G room hands ts { g with S:=mark g.S i } wk (relabel own w.heap.size 7) Q w'∧Kc own (fun c=>c=7) w w':=by
 refine(zga Q.J Q.M Q.A Q.D Q.C ts hg g.S i w h.jn hi hr).mono ?_
 rintro e w' ⟨hv,hj,hk,hs⟩
 exact⟨hv,h.setJoin _ hj hs (h.kj hk),h.kj hk⟩
theorem Pg.sput(h:Pg B G room hands ts g wk own Q w){A:Nat→Prop}{lv:Value}{ys:List Int}(hl:Rds A w lv ys)(hle:g.sp.length+ys.length≤60) :
  Calls Tryz.prog 45 #[.pointer (some ⟨Q.Sb,0,none⟩),lv] w fun e w'=>e=.returned .nilIface∧∃v',Pg B G room hands ts { g with sp:=g.sp++ys } wk (relabel own w.heap.size 6) { Q with vs:=v' } w'∧Kc own (fun c=>c=6) w w':=by
 refine(Spl.zje Q.Sb room g.sp ys Q.vs lv A w h.sp hl hle).mono ?_
 rintro e w' ⟨rfl,v',hs,hk,hn⟩
 exact⟨rfl,v',h.setSp _ v' hs (h.nearS hn) (h.ks hk),h.ks hk⟩
theorem Pg.wake(h:Pg B G room hands ts g wk own Q w)(m:Nat) :
  Calls Tryz.prog 185 #[.pointer (some ⟨Q.Kb,0,none⟩),.int .i64 m] w fun e w'=>∃lv v',e=.returned (.tuple #[lv,.nilIface])∧RowI w.heap.size w' lv (g.zz.take m)∧Pg B G room hands ts { g with zz:=g.zz.drop m } wk (relabel own w.heap.size 4) { Q with vz:=v' } w'∧Kc own (fun c=>c=4) w w':=by
 refine(Prk.zjb Q.Kb hands m g.zz Q.vz w h.pk).mono ?_
 rintro e w' ⟨lv,v',rfl,hl,hs,hk,hn,-⟩
 exact⟨lv,v',rfl,hl,h.setPark _ v' hs (h.nearZ hn) (h.kp hk),h.kp hk⟩
structure Fh (B:Bs) (G room hands:Nat) (ts:Zl) (g:Gs) (wk:Nat→Int) (own:Nat→Nat) (Q:Qp) (N0 c:Nat) (nv dv:Value) (now:List Int) (ds:List Deed) (w:World):Prop where
 pg:Pg B G room hands ts g wk own Q w
 now:RowI N0 w nv now
 out:RowD N0 w dv ds
 ln:Lb own c nv
 ld:Lb own 8 dv
 n0:N0≤w.heap.size
variable {g':Gs} {Q':Qp} {N0 c d:Nat} {nv dv:Value} {now:List Int} {ds:List Deed}
theorem Fh.to(h:Fh B G room hands ts g wk own Q N0 c nv dv now ds w){C:Nat→Prop}(K:Kc own C w w')(h8:¬C 8)(hc:¬C c)(hp:Pg B G room hands ts g' wk (relabel own w.heap.size d) Q' w'):Fh B G room hands ts g' wk (relabel own w.heap.size d) Q' N0 c nv dv now ds w':=
 ⟨hp,h.now.kc h.ln hc K,h.out.kc h.ld h8 K,h.ln.re h.now,h.ld.reD h.out,qq2 h.n0 K.size⟩
theorem Fh.put(h:Fh B G room hands ts g wk own Q N0 7 nv dv now ds w){j:Nat}(hj:j<hands)(n q:Nat) :
  Calls Tryz.prog 184 #[.pointer (some ⟨Q.Hk j,0,none⟩),.int .i64 n] (w.drewN q) fun e w'=>∃lv,e=.returned lv∧∃own5,Fh B G room hands ts { g with near:=updG g.near j (n:Int),ring:=updG g.ring j (putR room (g.near j) (g.ring j)) } wk own5 Q N0 7 nv dv now ds w'∧Rds (fun _=>True) w' lv (putO room (g.near j) (g.ring j)):=by
 have hq:Fh B G room hands ts g wk (relabel own w.heap.size 9) Q N0 7 nv dv now ds (w.drewN q):=h.to (C:=fun _=>False) ⟨rfl,rfl,rfl,qq1 _,fun _ _ _=>rfl⟩ id id (h.pg.drawn q)
 refine(hq.pg.put hj n).mono ?_
 rintro e w' ⟨⟨lv,rfl,hl⟩,hp,hk⟩
 exact⟨lv,rfl,_,hq.to hk (by omega) (by omega) hp,hl.mono (fun _ _=>trivial)⟩
theorem Fh.sput(h:Fh B G room hands ts g wk own Q N0 7 nv dv now ds w){lv:Value}{ys:List Int}(hl:Rds (fun _=>True) w lv ys)(hle:g.sp.length+ys.length≤60) :
  Calls Tryz.prog 45 #[.pointer (some ⟨Q.Sb,0,none⟩),lv] w fun e w'=>e=.returned .nilIface∧∃own9 Q9,Q9.HB=Q.HB∧Q9.Hk=Q.Hk∧Q9.Kb=Q.Kb∧Q9.Sb=Q.Sb∧Fh B G room hands ts { g with sp:=g.sp++ys } wk own9 Q9 N0 7 nv dv now ds w':=by
 refine(h.pg.sput hl hle).mono ?_
 rintro e w' ⟨rfl,v',hp,hk⟩
 exact⟨rfl,_,{ Q with vs:=v' },rfl,rfl,rfl,rfl,h.to (Q':={ Q with vs:=v' }) hk (by omega) (by omega) hp⟩
theorem Fh.told(h:Fh B G room hands ts g wk own Q N0 4 nv dv now ds w){ob:Obj}{v2:Value}{x:Deed}(hg:(w.alloc ob).grownBy w' dv.ownBlock)(hat:v2.ownBlock=dv.ownBlock∨v2.ownBlock=some (w.alloc ob).heap.size)(ho:RowD N0 w' v2 (ds++[x])) :
  Fh B G room hands ts g wk (relabel own w.heap.size 8) Q N0 4 nv v2 now (ds++[x]) w':=by
 have K:Kc own (fun c=>c=8) w w':=⟨hg.os,hg.tape,hg.output,by have:=hg.size;simp at this;omega,fun k hk hC=>(hg.block k (by simp;omega) (fun e=>hC (h.ld k e.symm))).trans (qa _ _ _ hk)⟩
 refine⟨h.pg.later8 K,h.now.kc h.ln (by omega) K,ho,h.ln.re h.now,Lb.near h.ld (fun k e=>(h.out.low e).2) (fun k e=>?_),qq2 h.n0 K.size⟩
 rcases hat with e2|e2
 ·exact Or.inl (e2.symm.trans e)
 ·have e3:=e2.symm.trans e
  simp at e3
  exact Or.inr (by omega)
set_option maxRecDepth 100000 in
set_option maxHeartbeats 8000000 in
theorem zeD(hP:Pg B G room hands ts g wk own Q w)(hg:Good ts)(h i:Nat)(hh:h<hands)(h6:hands≤6)(hi:i<ts.length)(ht:g.task h=(i:Int))(hrd:ZE ts g.S i=true)(hdn:Down ts g.S)(hsp:g.sp.length+(allH (g.near h) (g.ring h)).length≤30) :
  Calls Tryz.prog 156 #[.pointer (some ⟨G,0,none⟩),.int .i64 h,.int .i64 i] w fun e w'=>∃v,e=.returned v∧RowD w.heap.size w' v (Xn ts g h)∧∃own' Q',Pg B G room hands ts (ends ts room g h) wk own' Q' w':=by
 have h30:=hg.le
 obtain⟨-,-,-,-,c4,-⟩:=hP.c
 obtain⟨n,D,hown,hn,hs,hD⟩:=hP.has.le
 have hkey:=qO (y:=h) (by omega)
 have HH:Hid (Pg B G room hands ts g wk own Q w∧Good ts∧ZE ts g.S i=true∧Down ts g.S∧g.sp.length+(allH (g.near h) (g.ring h)).length≤30∧g.task h=(i:Int)∧Maps.size D=unseen (fun h=>decide (g.task h<0)) hands∧∀x:Nat,x<hands→Maps.has D (.int .i64 x)=decide (0≤g.task x)∧(0≤g.task x→∀z,D.atKey (.int .i64 x) z=.lit (.int .i64 (g.task x)))):=⟨hP,hg,hrd,hdn,hsp,ht,hs,hD⟩
 have hhi:(h:Int)<(hands:Int):=by omega
 clear hP hg hrd hdn hsp ht hs hD
 go_enter Tryz.func156,Tryz.ntmps156
 go_upto_region 2 with (first|(at_delete;refine wpList_delete_own _ rfl _ _ 118 3 rfl 3 keyed3 Tryz.underlying118 _ Q.Mb n D rfl hown _ _ rfl hkey ?_;intro w1 hown1 hturn1))
 have hP1:=HH.out.1.setHas _ (YD.del hown HH.out.2.2.2.2.2.2.1 HH.out.2.2.2.2.2.2.2 hh (by rw[HH.out.2.2.2.2.2.1];omega) hown1) (HH.out.1.turned hturn1)
 have hs1:=(yv hturn1).2.2.2
 obtain⟨W2,hW2⟩:∃W2,W2=w1.alloc (.cells #[.int .i64 4,.int .i64 h,.int .i64 i,.int .i64 0] 91):=⟨_,rfl⟩
 have hb2:Below w1.heap.size w1 W2:=by rw[hW2];exact(qq4 _ _).alloc (qq1 _) _
 have hP2:=hP1.later8 (Kc.of_below hb2)
 have hO2:RowD w1.heap.size W2 (.slice (some ⟨w1.heap.size,0,none⟩) 1 1) [(4,(h:Int),(i:Int),0)]:=by rw[hW2];exact RowD.one w1 (4,(h:Int),(i:Int),0)
 have hdone:=hP2.done HH.out.2.1 i hi HH.out.2.2.1
 have c0:=hP2.c.1
 have HL2:Hid (Lb (relabel (relabel own w.heap.size 3) w1.heap.size 8) 8 (.slice (some ⟨w1.heap.size,0,none⟩) 1 1)):=fun k e=>zj (hO2.low e).1
 have HO2:Hid (RowD w1.heap.size W2 (.slice (some ⟨w1.heap.size,0,none⟩) 1 1) [(4,(h:Int),(i:Int),0)]):=hO2
 have HW2:Hid (W2=w1.alloc (.cells #[.int .i64 4,.int .i64 h,.int .i64 i,.int .i64 0] 91)):=hW2
 clear hown hown1 hturn1 hP1 hP2 hO2 hW2 hb2 c4 hkey
 go_upto_region 3 with fail
 rw[←HW2.out]
 clear HW2
 obtain⟨L,hL⟩:∃L,L=Zb (newL ts g.S i):=⟨_,rfl⟩
 have HL:Hid (L=Zb (newL ts g.S i)∧L.length≤30∧∀x,x∈L→∃j:Nat,x=((j:Nat):Int)):=⟨hL,by rw[hL,zd];exact qq2 (zdD _ _ _) h30,fun x hx=>by rw[hL]at hx;obtain⟨j,-,rfl⟩:=xR.1 hx;exact⟨j,rfl⟩⟩
 rw[←hL]at hdone
 clear hL
 obtain⟨g3,hg3⟩:∃g3:Gs,g3={ g with task:=updG g.task h (-1),S:=mark g.S i }:=⟨_,rfl⟩
 have HG3:Hid (g3={ g with task:=updG g.task h (-1),S:=mark g.S i }):=hg3
 rw[←hg3]at hdone
 clear hg3
 go_wp2_with (first|(go_at_call 183;refine hdone.mono ?_;clear hdone;rintro e w3 ⟨⟨nv,rfl,hn3⟩,hP3,hk3⟩;obtain⟨na,nc,rfl⟩:=hn3.shape))
 have HF3:Hid (∃own8 Q8,Fh B G room hands ts (gput room g3 h (L.take 0)) wk own8 Q8 w1.heap.size 7 (.slice na L.length nc) (.slice (some ⟨w1.heap.size,0,none⟩) 1 1) L [(4,(h:Int),(i:Int),0)] w3):=by
  refine⟨relabel (relabel (relabel own w.heap.size 3) w1.heap.size 8) W2.heap.size 7,Q,?_,hn3.mono (by have:=(HO2.out.low (k:=w1.heap.size) rfl).2;omega),HO2.out.kc HL2.out (by omega) hk3,fun k e=>zj (hn3.low e).1,HL2.out.reD HO2.out,qq2 (Nat.le_of_lt (HO2.out.low (k:=w1.heap.size) rfl).2) hk3.size⟩
  rw[List.take_zero,zdn]
  exact hP3
 clear hn3 hP3 hk3 HO2 HL2
 have hL30:=HL.out.2.1
 go_loopw [36] (fun s36 wr=>∃(k:Nat),s36=.int .i64 k∧k≤L.length∧Hid (∃own8 Q8,Fh B G room hands ts (gput room g3 h (L.take k)) wk own8 Q8 w1.heap.size 7 (.slice na L.length nc) (.slice (some ⟨w1.heap.size,0,none⟩) 1 1) L [(4,(h:Int),(i:Int),0)] wr)) (fun s36 _=>L.length-(intOf s36).toNat)
 case atStart=>exact⟨0,rfl,Nat.zero_le _,HF3⟩
 case round=>
  clear HF3
  obtain⟨k,rfl,hk,hF⟩:=hrel
  obtain⟨own8,Q8,h8⟩:=hF.out
  by_cases hkl:k<L.length
  ·have hkl':(k:Int)<(L.length:Int):=by omega
   obtain⟨gb,gc,hv,-,hglt,-⟩:=h8.now.full (by omega)
   simp only[Value.slice.injEq]at hv
   obtain⟨rfl,-,rfl⟩:=hv
   have hcx:=h8.now.cell hkl
   obtain⟨j,hj⟩:=HL.out.2.2 _ (jt hkl)
   have HSN:Hid (L.take (k+1)=L.take k++[((j:Nat):Int)]):=by show _=_;rw[zaW hkl,hj]
   rw[hj]at hcx
   obtain⟨gk,hgk⟩:∃gk,gk=gput room g3 h (L.take k):=⟨_,rfl⟩
   have HGK:Hid ({ gk with near:=updG gk.near h (j:Int),ring:=updG gk.ring h (putR room (gk.near h) (gk.ring h)),sp:=gk.sp++putO room (gk.near h) (gk.ring h) }=gput room g3 h (L.take (k+1))):=by
    show _=_
    rw[HSN.out,zbX,hgk]
   have HLEN:Hid (gk.sp.length+(putO room (gk.near h) (gk.ring h)).length≤60):=by
    show _≤_
    have h1:=zdm room g3 h (L.take (k+1)) (fun n hn=>by
     obtain⟨jj,rfl⟩:=HL.out.2.2 n (List.mem_of_mem_take hn)
     omega)
    rw[←HGK.out]at h1
    simp only[List.length_append]at h1
    have h2:(L.take (k+1)).length≤30:=by simp;omega
    have h3:g3.sp.length+(allH (g3.near h) (g3.ring h)).length≤30:=by rw[HG3.out];exact HH.out.2.2.2.2.1
    omega
   rw[←hgk]at h8
   have c1:=h8.pg.c.2.1
   have c3:=h8.pg.c.2.2.2.1
   have ch:=h8.pg.hc hh
   have hput:=fun q=>h8.put hh j q
   clear h8 hF hgk hj HSN
   go_upto_region 7 with fail
   go_region_with (first|(go_at_call 184;refine(hput 1).mono ?_;clear hput;rintro e w9 ⟨lv,rfl,own9,hF9,hl9⟩;have hsp9:=hF9.sput hl9 HLEN.out;have c19:=hF9.pg.c.2.1;clear hF9 hl9)|(go_at_call 45;refine hsp9.mono ?_;clear hsp9;rintro e w10 ⟨rfl,own10,Q10,-,-,-,-,hF10⟩;rw[HGK.out]at hF10;have HF10:Hid (∃own8 Q8,Fh B G room hands ts (gput room g3 h (L.take (k+1))) wk own8 Q8 w1.heap.size 7 (.slice (some ⟨gb,0,none⟩) L.length nc) (.slice (some ⟨w1.heap.size,0,none⟩) 1 1) L [(4,(h:Int),(i:Int),0)] w10):=⟨own10,Q10,hF10⟩;clear hF10))
   all_goals
    go_wp2
    go_roundw
    case rel=>exact⟨k+1,by go_num,by omega,HF10⟩
    case measure=>simp[intOf];omega
  ·have hkl':¬(k:Int)<(L.length:Int):=by omega
   obtain rfl:k=L.length:=by omega
   rw[List.take_length]at h8
   have c2:=h8.pg.c.2.2.1
   have hwake:=h8.pg.wake L.length
   obtain⟨A,hA⟩:∃A,A=(gput room g3 h L).zz.take L.length:=⟨_,rfl⟩
   rw[←hA]at hwake
   have hA6:A.length≤6:=by
    have:=h8.pg.pk.le
    rw[hA]
    simp only[List.length_take]
    omega
   have HA:Hid (A=(gput room g3 h L).zz.take L.length):=hA
   obtain⟨gE,hgE⟩:∃gE:Gs,gE={ gput room g3 h L with zz:=(gput room g3 h L).zz.drop L.length }:=⟨_,rfl⟩
   rw[←hgE]at hwake
   have HGE:Hid (gE={ gput room g3 h L with zz:=(gput room g3 h L).zz.drop L.length }):=hgE
   have H8:Hid (Fh B G room hands ts (gput room g3 h L) wk own8 Q8 w.heap.size 7 (.slice na L.length nc) (.slice (some ⟨w.heap.size,0,none⟩) 1 1) L [(4,(h:Int),(i:Int),0)] wr):=by rw[hs1]at h8;exact h8
   clear h8 hF hA hgE
   go_upto_region 10 with (first|(go_at_call 185;refine hwake.mono ?_;clear hwake;rintro e wA ⟨av,v',rfl,hra,hPA,hkA⟩;obtain⟨aa,ac,rfl⟩:=hra.shape))
   have HFA:Hid (∃own9 Q9,Fh B G room hands ts gE wk own9 Q9 w.heap.size 4 (.slice aa A.length ac) (.slice (some ⟨w.heap.size,0,none⟩) 1 1) A ((4,(h:Int),(i:Int),0)::(A.take 0).map wokeD) wA):=
    ⟨relabel own8 wr.heap.size 4,{ Q8 with vz:=v' },hPA,hra.mono H8.out.n0,H8.out.out.kc H8.out.ld (by omega) hkA,fun k e=>zj (hra.low e).1,H8.out.ld.reD H8.out.out,qq2 H8.out.n0 hkA.size⟩
   clear hra hPA hkA H8 c2
   obtain⟨iD,hiD,hz0,hz1,hz2⟩:=info_parts Tryz.infoDeed
   go_wp2
   go_loopw [7,67] (fun s7 s67 wx=>∃(k:Nat) (own9:Nat→Nat) (Q9:Qp),s67=.int .i64 k∧k≤A.length∧Hid (Fh B G room hands ts gE wk own9 Q9 w.heap.size 4 (.slice aa A.length ac) s7 A ((4,(h:Int),(i:Int),0)::(A.take k).map wokeD) wx)) (fun _ s67 _=>A.length-(intOf s67).toNat)
   case atStart=>
    obtain⟨own9,Q9,h9⟩:=HFA.out
    exact⟨0,own9,Q9,rfl,Nat.zero_le _,h9⟩
   case round=>
    clear HFA
    obtain⟨k,own9,Q9,rfl,hk,hF⟩:=hrel
    obtain⟨da,dc,hdv⟩:=hF.out.out.shape
    subst hdv
    by_cases hkl:k<A.length
    ·have hkl':(k:Int)<(A.length:Int):=by omega
     obtain⟨gb,gc,hv,-,hglt,-⟩:=hF.out.now.full (by omega)
     simp only[Value.slice.injEq]at hv
     obtain⟨rfl,-,rfl⟩:=hv
     have hcx:=hF.out.now.cell hkl
     have HTS:Hid (A.take (k+1)=A.take k++[A.getD k 0]):=zaW hkl
     generalize A.getD k 0=x at hcx HTS
     have hdl:((4,(h:Int),(i:Int),0)::(A.take k).map wokeD:List Deed).length≤7:=by simp;omega
     have HDS:Hid (((4,(h:Int),(i:Int),0)::(A.take (k+1)).map wokeD:List Deed)=((4,(h:Int),(i:Int),0)::(A.take k).map wokeD)++[wokeD x]):=by show _=_;rw[HTS.out];simp
     generalize ((4,(h:Int),(i:Int),0)::(A.take k).map wokeD:List Deed)=ds at *
     have h1c:∀u∈[Value.int .i64 6,.int .i64 x,.int .i64 0,.int .i64 0],u.oneCell'=true:=by intro u hu;simp at hu;rcases hu with rfl|rfl|rfl|rfl <;> rfl
     have HOR:Hid (RowD w.heap.size (wr.alloc (.cells #[.int .i64 6,.int .i64 x,.int .i64 0,.int .i64 0] 91)) (.slice da ds.length dc) ds):=hF.out.out.later ((qq4 _ _).alloc (qq1 _) _)
     have hsw:=hF.out.n0
     go_wp2_with (first|(at_builtin;go_loud (refine wpList_append_own_at _ rfl (.tmp 71) (.tmp 74) 87 rfl w.heap.size 91 iD (.agg #[.int .i64 0,.int .i64 0,.int .i64 0,.int .i64 0]) 4 32 Tryz.underlying87 hiD hz0 hz1 hz2 rfl (by decide) _ ds.length (flat4 ds) rfl HOR.out ⟨wr.heap.size,0,none⟩ 1 1 [.int .i64 6,.int .i64 x,.int .i64 0,.int .i64 0] rfl rfl (xr _ _ rfl _ _ _ _ _) h1c (by unfold maxLen;omega) (by omega) (by simp;omega) ?_;intro v2 w2b hown hgr _ hat)))
     refine⟨⟨k+1,relabel own9 wr.heap.size 8,Q9,by go_num,by omega,?_⟩,by simp[intOf];omega⟩
     rw[HDS.out]
     refine hF.out.told hgr hat ?_
     unfold RowD
     rw[qb,xO,jW]
     exact hown
    ·have hkl':¬(k:Int)<(A.length:Int):=by omega
     obtain rfl:k=A.length:=by omega
     have HE:Hid (((4,(h:Int),(i:Int),0)::(A.take A.length).map wokeD:List Deed)=Xn ts g h):=by
      show _=_
      have hti:=HH.out.2.2.2.2.2.1
      have hLl:(newL ts g.S i).length=L.length:=by rw[HL.out.1,zd]
      unfold Xn
      rw[List.take_length,HA.out,HG3.out,hti,Int.toNat_natCast,hLl]
      rfl
     have HGF:Hid ({ gE with work:=updG g.work h (g.work h-1) }=ends ts room g h):=by
      show _=_
      have hti:=HH.out.2.2.2.2.2.1
      have hLl:(newL ts g.S i).length=L.length:=by rw[HL.out.1,zd]
      unfold ends
      dsimp only
      rw[hti,Int.toNat_natCast,hLl,←HL.out.1,HGE.out,HG3.out]
      rfl
     go_wp2
     go_ret
     rw[←HE.out,←HGF.out]
     have h1:=hF.out.out
     have he1:((4,(h:Int),(i:Int),0)::(A.take A.length).map wokeD:List Deed).length=A.length+1:=by simp
     rw[he1]at h1
     have h2:=hF.out.pg.sameWork (updG g.work h (g.work h-1))
     exact⟨_,rfl,h1,own9,Q9,h2⟩
end
end Go.Proofs.YtlfbdjeojgbniaaGreatDoor

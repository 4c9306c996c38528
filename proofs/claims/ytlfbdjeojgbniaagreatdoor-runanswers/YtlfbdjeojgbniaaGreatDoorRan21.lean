import Derived.Test.YtlfbdjeojgbniaaGreatDoorRan20
namespace Go.Proofs.YtlfbdjeojgbniaaGreatDoor
section
open Go.RowKit Go.Deep Go.Maps
variable {B:Bs} {G room hands:Nat} {ts:Zl} {g:Gs} {wk:Nat→Int} {own:Nat→Nat} {Q:Qp} {w w':World}
theorem Pg.worked(h:Pg B G room hands ts g wk own Q w)(i:Nat)(x:Int):Pg B G room hands ts g (updG wk i x) (relabel own w.heap.size 2) Q (w.setCell ⟨Q.WB,i,none⟩ (.int .i64 x)):=by
 refine h.setWk _ ((h.wrow.set i (.int .i64 x)).congr (fun k _=>?_)) (Kc.store (b:=Q.WB) h.lW i _)
 unfold updG
 split <;> rfl
set_option maxHeartbeats 2000000 in
theorem zea(hP:Pg B G room hands ts g wk own Q w)(h i:Nat)(hi:i<ts.length)(hw:1<wk i)(hw2:wk i≤1000)(_h30:ts.length≤30) :
  Calls Tryz.prog 125 #[.pointer (some ⟨G,0,none⟩),.int .i64 h,.int .i64 i] w fun e w'=>e=.returned (.slice none 0 0)∧∃own',Pg B G room hands ts g (updG wk i (wk i-1)) own' Q w':=by
 obtain⟨-,-,-,-,-,c5⟩:=hP.c
 have ci:=hP.wrow.cell hi
 have fi:=hP.wrow.frozen i
 have hP2:=hP.worked i (wk i-1)
 obtain⟨-,-,-,-,-,d5⟩:=hP2.c
 have di:=hP2.wrow.cell hi
 rw[zg]at di
 have HP2:Hid (Pg B G room hands ts g (updG wk i (wk i-1)) _ Q _):=hP2
 have hii:(i:Int)<(ts.length:Int):=by omega
 obtain⟨m,hm⟩:∃m:Nat,wk i=(m:Int)+2:=⟨(wk i-2).toNat,by omega⟩
 rw[hm]at ci di d5 hw2 hw ⊢ HP2
 clear hP hP2 hm
 go_enter Tryz.func125,Tryz.ntmps125
 go_wp2
 go_ret
 exact⟨rfl,_,HP2.out⟩
set_option maxHeartbeats 2000000 in
theorem zd9(hP:Pg B G room hands ts g wk own Q w)(hg:Good ts)(h i:Nat)(hh:h<hands)(h6:hands≤6)(hi:i<ts.length)(ht:g.task h=(i:Int))(hrd:ZE ts g.S i=true)(hdn:Down ts g.S)(hsp:g.sp.length+(allH (g.near h) (g.ring h)).length≤30)(hw:wk i=1) :
  Calls Tryz.prog 125 #[.pointer (some ⟨G,0,none⟩),.int .i64 h,.int .i64 i] w fun e w'=>∃v,e=.returned v∧RowD w.heap.size w' v (Xn ts g h)∧∃own' Q',Pg B G room hands ts (ends ts room g h) (updG wk i 0) own' Q' w':=by
 obtain⟨-,-,-,-,-,c5⟩:=hP.c
 have ci:=hP.wrow.cell hi
 have fi:=hP.wrow.frozen i
 have hP2:=hP.worked i 0
 obtain⟨-,-,-,-,-,d5⟩:=hP2.c
 have di:=hP2.wrow.cell hi
 rw[zg]at di
 have hfin:=zeD hP2 hg h i hh h6 hi ht hrd hdn hsp
 have hii:(i:Int)<(ts.length:Int):=by omega
 have h30:=hg.le
 rw[hw]at ci
 have hsz:(w.setCell ⟨Q.WB,i,none⟩ (.int .i64 0)).heap.size=w.heap.size:=by simp
 rw[hsz]at hfin
 clear hP hP2 hg hrd hdn hsp ht hw hsz
 go_enter Tryz.func125,Tryz.ntmps125
 go_wp2_with (first|(go_at_call 156;refine hfin.mono ?_;clear hfin;rintro e w3 ⟨v,rfl,hv,own3,Q3,hP3⟩;have HV:Hid (RowD w.heap.size w3 v (Xn ts g h)):=hv;have HP3:Hid (Pg B G room hands ts (ends ts room g h) (updG wk i 0) own3 Q3 w3):=hP3;obtain⟨a,c,rfl⟩:=hv.shape;clear hv hP3))
 go_ret
 exact⟨_,rfl,HV.out,own3,Q3,HP3.out⟩
end
section
open Go.RowKit Go.Deep Go.Maps
theorem zeroInt(w:World):(zeroValue 3).run Tryz.prog w=.ok (.int .i64 0) w:=by kernel_rfl
variable {B:Bs} {G room hands:Nat} {ts:Zl} {g:Gs} {wk:Nat→Int} {own:Nat→Nat} {Q:Qp} {w w':World}
theorem zfq(hP:Pg B G room hands ts g wk own Q w)(h pick:Int)(hh:h<0∨(hands:Int)≤h) :
  Calls Tryz.prog 92 #[.pointer (some ⟨G,0,none⟩),.int .i64 h,.int .i64 pick] w fun e w'=>e=.returned (.tuple #[.slice none 0 0,.iface 97 (.int .i64 1)])∧w'=w:=by
 obtain⟨-,-,c2,-,-,-⟩:=hP.c
 have haw:=Prk.zi8 Q.Kb hands g.zz Q.vz h w hP.pk hh
 unfold Prk.errV at haw
 clear hP hh
 go_enter Tryz.func92,Tryz.ntmps92
 go_wp2_with (first|(go_at_call 124;refine haw.mono ?_;clear haw;rintro e w ⟨rfl,rfl⟩))
 go_ret2
 exact⟨rfl,rfl⟩
theorem zg0(hP:Pg B G room hands ts g wk own Q w)(h:Nat)(pick:Int)(hh:h<hands)(hp:pick<0) :
  Calls Tryz.prog 92 #[.pointer (some ⟨G,0,none⟩),.int .i64 h,.int .i64 pick] w fun e w'=>e=.returned (.tuple #[.slice none 0 0,.iface 97 (.int .i64 1)])∧w'=w:=by
 obtain⟨-,-,c2,-,-,-⟩:=hP.c
 have haw:=Prk.zed Q.Kb hands g.zz Q.vz h w hP.pk (by omega) (by omega)
 generalize Prk.memB g.zz (h:Int)=m at haw
 clear hP hh
 go_enter Tryz.func92,Tryz.ntmps92
 go_wp2_with (first|(go_at_call 124;refine haw.mono ?_;clear haw;rintro e w ⟨rfl,rfl⟩))
 go_ret2
 exact⟨rfl,rfl⟩
theorem zd0(hP:Pg B G room hands ts g wk own Q w)(h pick:Nat)(hh:h<hands)(hz:(h:Int)∈g.zz) :
  Calls Tryz.prog 92 #[.pointer (some ⟨G,0,none⟩),.int .i64 h,.int .i64 pick] w fun e w'=>e=.returned (.tuple #[.slice none 0 0,.nilIface])∧w'=w:=by
 obtain⟨-,-,c2,-,-,-⟩:=hP.c
 have haw:=Prk.zed Q.Kb hands g.zz Q.vz h w hP.pk (by omega) (by omega)
 have hm:Prk.memB g.zz (h:Int)=true:=by simp[Prk.memB,hz]
 rw[hm]at haw
 simp only[Bool.not_true]at haw
 have hp0:¬(pick:Int)<0:=by omega
 clear hP hh hm hz
 go_enter Tryz.func92,Tryz.ntmps92
 go_wp2_with (first|(go_at_call 124;refine haw.mono ?_;clear haw;rintro e w ⟨rfl,rfl⟩))
 go_ret2
 exact⟨rfl,rfl⟩
set_option maxRecDepth 100000 in
set_option maxHeartbeats 4000000 in
theorem zd1(hP:Pg B G room hands ts g wk own Q w)(h i pick:Nat)(hh:h<hands)(h6:hands≤6)(hz:(h:Int)∉g.zz)(ht:g.task h=(i:Int)){R:Value→World→Prop}
  (hwk:Calls Tryz.prog 125 #[.pointer (some ⟨G,0,none⟩),.int .i64 h,.int .i64 i] w fun e w'=>∃a n c,e=.returned (.slice a n c)∧R (.slice a n c) w') :
  Calls Tryz.prog 92 #[.pointer (some ⟨G,0,none⟩),.int .i64 h,.int .i64 pick] w fun e w'=>∃v,e=.returned (.tuple #[v,.nilIface])∧R v w':=by
 obtain⟨-,-,c2,-,c4,-⟩:=hP.c
 have haw:=Prk.zed Q.Kb hands g.zz Q.vz h w hP.pk (by omega) (by omega)
 have hm:Prk.memB g.zz (h:Int)=false:=by simp[Prk.memB,hz]
 rw[hm]at haw
 simp only[Bool.not_false]at haw
 have hp0:¬(pick:Int)<0:=by omega
 obtain⟨n,D,hown,hn,hs,hD⟩:=hP.has.le
 have hkey:=qO (y:=h) (by omega)
 have hhas:Maps.has D (.int .i64 h)=true:=by rw[(hD h hh).1,ht];simp
 have hat0:=(hD h hh).2 (by rw[ht];omega) (.lit (.int .i64 0))
 rw[ht]at hat0
 have HAT:Hid (D.atKey (.int .i64 h) (.lit (.int .i64 0))=.lit (.int .i64 (i:Int))):=hat0
 clear hP hh hm hz hD hs hat0 ht
 go_enter Tryz.func92,Tryz.ntmps92
 go_wp2_with (first|(go_at_call 124;refine haw.mono ?_;clear haw;rintro e w ⟨rfl,rfl⟩)|(at_lookup;refine wpList_lookup_own_ok_int _ rfl _ _ 118 rfl 3 3 .i64 keyed3 Tryz.underlying118 Tryz.underlying3 (zeroInt _) Q.Mb n D rfl hown _ _ rfl hkey ?_;intro c hat hwc;rw[hhas];obtain rfl:c=(i:Int):=by { have e:=hat.symm.trans HAT.out;injection e with e;injection e };clear hat hwc hown)|(go_at_call 125;refine hwk.mono ?_;clear hwk;rintro e w1 ⟨a,m,c,rfl,hR⟩;have HR:Hid (R (.slice a m c) w1):=hR;clear hR))
 go_ret2
 exact⟨_,rfl,HR.out⟩
set_option maxRecDepth 100000 in
set_option maxHeartbeats 4000000 in
theorem xJ(hP:Pg B G room hands ts g wk own Q w)(h pick o:Nat)(hh:h<hands)(h6:hands≤6)(hz:(h:Int)∉g.zz)(ht:g.task h<0)(hp63:pick<9223372036854775808)(ho:o=pick % hands)(a1 a2 a3 a4:Int){g':Gs}
  (hfd:Calls Tryz.prog 126 #[.pointer (some ⟨G,0,none⟩),.int .i64 h,.int .i64 o] w fun e w'=>e=.returned (.agg #[.int .i64 a1,.int .i64 a2,.int .i64 a3,.int .i64 a4])∧∃own' Q',Pg B G room hands ts g' wk own' Q' w') (hsz:∀(w':World) own' Q',Pg B G room hands ts g' wk own' Q' w'→w.heap.size≤w'.heap.size) :
  Calls Tryz.prog 92 #[.pointer (some ⟨G,0,none⟩),.int .i64 h,.int .i64 pick] w fun e w'=>∃v,e=.returned (.tuple #[v,.nilIface])∧RowD w.heap.size w' v [(a1,a2,a3,a4)]∧∃own' Q',Pg B G room hands ts g' wk own' Q' w':=by
 obtain⟨-,-,c2,c3,c4,-⟩:=hP.c
 have haw:=Prk.zed Q.Kb hands g.zz Q.vz h w hP.pk (by omega) (by omega)
 have hm:Prk.memB g.zz (h:Int)=false:=by simp[Prk.memB,hz]
 rw[hm]at haw
 simp only[Bool.not_false]at haw
 have hp0:¬(pick:Int)<0:=by omega
 obtain⟨n,D,hown,hn,hs,hD⟩:=hP.has.le
 have hkey:=qO (y:=h) (by omega)
 have hhas:Maps.has D (.int .i64 h)=false:=by rw[(hD h hh).1];simp;omega
 have hmod:(pick:Int).tmod (hands:Int)=(o:Int):=by rw[ho];exact Int.ofNat_tmod pick hands
 have hol:o<hands:=by rw[ho];exact Nat.mod_lt _ (by omega)
 have HSZ:Hid (∀(w':World) own' Q',Pg B G room hands ts g' wk own' Q' w'→w.heap.size≤w'.heap.size):=hsz
 have hh0:((hands:Int)==0)=false:=by simp;omega
 clear hP hm hz hD hs ht ho hsz
 go_enter Tryz.func92,Tryz.ntmps92
 go_wp2_with (first|(go_at_call 124;refine haw.mono ?_;clear haw;rintro e w ⟨rfl,rfl⟩)|(at_lookup;refine wpList_lookup_own_ok_int _ rfl _ _ 118 rfl 3 3 .i64 keyed3 Tryz.underlying118 Tryz.underlying3 (zeroInt _) Q.Mb n D rfl hown _ _ rfl hkey ?_;intro c hat hwc;rw[hhas];clear hat hwc hown)|(go_at_call 126;refine hfd.mono ?_;clear hfd;rintro e w1 ⟨rfl,hR⟩;have HR:Hid (∃own' Q',Pg B G room hands ts g' wk own' Q' w1):=hR;clear hR))
 go_ret2
 obtain⟨own',Q',hP1⟩:=HR.out
 exact⟨_,rfl,(RowD.one w1 (a1,a2,a3,a4)).mono (HSZ.out _ _ _ hP1),_,_,hP1.later0 (Kc.of_below ((qq4 _ _).alloc (qq1 _) _))⟩
end
section
open Go.RowKit Go.Deep Go.Maps
theorem zgx{g:Gs}{n h:Nat}(hh:h<n):(ofH g h).length≤(Yp g n).length:=by
 induction n with
 | zero=>omega
 | succ n ih=>
  rw[Yp,qb]
  by_cases e:h=n
  ·subst e;omega
  ·have:=ih (by omega);omega
theorem Inv.room30{ts:Zl}{room hands:Nat}{g:Gs}(hI:Inv ts room hands g){h:Nat}(hh:h<hands):g.sp.length+(allH (g.near h) (g.ring h)).length≤ts.length:=by
 have h1:=hI.held_le
 have h2:=zgx (g:=g) hh
 unfold Yd at h1
 unfold ofH at h2
 simp only[List.length_append]at h1 h2
 omega
def Qn(G room hands:Nat)(ts:Zl)(g':Gs)(ds:List Deed)(own:Nat→Nat)(w:World)(e:Ending)(w':World):Prop:=
 ∃v,e=.returned (.tuple #[v,.nilIface])∧RowD w.heap.size w' v ds∧∃B' own' Q' wk',Pg B' G room hands ts g' wk' own' Q' w'∧WkOk ts hands g' wk'∧Went own own' w w'
variable {B:Bs} {G room hands:Nat} {ts:Zl} {g:Gs} {wk:Nat→Int} {own:Nat→Nat} {Q:Qp} {w w':World}
theorem zh8(hP:Pg B G room hands ts g wk own Q w)(hI:Inv ts room hands g)(hK:WkOk ts hands g wk)(hg:Good ts)(hw:∀i,i<ts.length→1≤Zv ts i∧Zv ts i≤1000)(hr1:1≤room)(h16:room≤16)(h6:hands≤6)(h pick:Nat)(hh:h<hands)(hp63:pick<9223372036854775808) :
  Calls Tryz.prog 92 #[.pointer (some ⟨G,0,none⟩),.int .i64 h,.int .i64 pick] w (Qn G room hands ts (gstep ts room hands g h pick) (gdeeds ts hands g h pick) own w):=by
 have hB:=hP.rebase
 have h30:=hg.le
 have hO:pick % hands<hands:=Nat.mod_lt _ (by omega)
 unfold gstep gdeeds
 by_cases hz:(h:Int)∈g.zz
 ·rw[if_pos hz,if_pos hz]
  refine(zd0 hB h pick hh hz).mono ?_
  rintro e w' ⟨rfl,rfl⟩
  exact⟨_,rfl,RowD.nil _ _,_,_,_,_,hB,hK,hB.went⟩
 rw[if_neg hz,if_neg hz]
 by_cases ht:0≤g.task h
 ·rw[if_pos ht,if_pos ht]
  obtain⟨i,hti,hi,hrd⟩:=hI.rdy (qM hh ht)
  have hwo:=hI.workOk h hh ht
  have hwi:=hK.1 h hh ht
  rw[hti,Int.toNat_natCast]at hwi hwo
  have hwle:=hw i hi
  by_cases hk:1<g.work h
  ·rw[if_pos hk,if_pos hk]
   refine(zd1 hB h i pick hh h6 hz hti (R:=fun v w'=>v=.slice none 0 0∧∃own',Pg ⟨fun k=>k<w.heap.size∧own k=9,w⟩ G room hands ts g (updG wk i (wk i-1)) own' Q w') ((zea hB h i hi (by omega) (by omega) h30).mono fun e w' hh2=>⟨none,0,0,hh2.1,rfl,hh2.2⟩)).mono ?_
   rintro e w' ⟨v,rfl,rfl,own',hP'⟩
   exact⟨_,rfl,RowD.nil _ _,_,_,_,_,hP'.sameWork _,hK.works hI hh hti,hP'.went⟩
  ·rw[if_neg hk,if_neg hk]
   have hro:=hI.room30 hh
   refine(zd1 hB h i pick hh h6 hz hti (R:=fun v w'=>RowD w.heap.size w' v (Xn ts g h)∧∃own' Q',Pg ⟨fun k=>k<w.heap.size∧own k=9,w⟩ G room hands ts (ends ts room g h) (updG wk i 0) own' Q' w') ((zd9 hB hg h i hh h6 hi hti hrd hI.down (by omega) (by omega)).mono fun e w' hh2=>by
    obtain⟨v,rfl,hv,hr⟩:=hh2
    obtain⟨a,c,rfl⟩:=hv.shape
    exact⟨a,_,c,rfl,hv,hr⟩)).mono ?_
   rintro e w' ⟨v,rfl,hv,own',Q',hP'⟩
   exact⟨_,rfl,hv,_,_,_,_,hP',hK.ends hI hh hti 0,hP'.went⟩
 rw[if_neg ht,if_neg ht]
 have htn:g.task h<0:=by omega
 by_cases hn:g.near h≠-1
 ·rw[if_pos hn,if_pos hn]
  obtain⟨i,hni,hi,hrd⟩:=hI.rdy (xG hh hn)
  have hfr:=hI.free_hand hh (x:=g.near h) (by rw[xD hn];simp)
  have hf:=zbT hB h i ((pick % hands:Nat):Int) hh h6 (by omega) { g with near:=updG g.near h (-1) } htn (fun own1 W hW=>by
   have:=hW.takeNear hh hn
   rw[hni]at this
   exact this)
  refine(xJ hB h pick _ hh h6 hz htn hp63 rfl 1 h i 0 hf (fun w' own' Q' hp=>hp.w1le)).mono ?_
  rintro e w' ⟨v,rfl,hv,own',Q',hP'⟩
  rw[hni]
  rw[hni]at hfr
  exact⟨_,rfl,hv,_,_,_,_,hP'.sameWork _,hK.takes rfl rfl rfl hh htn hi (zE hrd).1 hfr,hP'.went⟩
 rw[if_neg hn,if_neg hn]
 have hn':g.near h=-1:=by
  rcases Int.decEq (g.near h) (-1)with e|e
  ·exact absurd e hn
  ·exact e
 by_cases hr:g.ring h≠[]
 ·rw[if_pos hr,if_pos hr]
  have hmem:(g.ring h).getLastD 0∈g.ring h:=by
   have:=yB hr
   rw[this]
   simp
  obtain⟨i,hni,hi,hrd⟩:=hI.rdy (zW hh hmem)
  have hfr:=hI.free_hand hh (x:=(g.ring h).getLastD 0) (by rw[hn',yx];exact hmem)
  have hf:=zbT hB h i ((pick % hands:Nat):Int) hh h6 (by omega) { g with ring:=updG g.ring h (g.ring h).dropLast } htn (fun own1 W hW=>by
   have:=hW.takeRing hh hn' hr
   rw[hni]at this
   exact this)
  refine(xJ hB h pick _ hh h6 hz htn hp63 rfl 1 h i 0 hf (fun w' own' Q' hp=>hp.w1le)).mono ?_
  rintro e w' ⟨v,rfl,hv,own',Q',hP'⟩
  rw[hni]
  rw[hni]at hfr
  exact⟨_,rfl,hv,_,_,_,_,hP'.sameWork _,hK.takes rfl rfl rfl hh htn hi (zE hrd).1 hfr,hP'.went⟩
 rw[if_neg hr,if_neg hr]
 have hr':g.ring h=[]:=Classical.not_not.1 hr
 by_cases hs:g.sp≠[]
 ·rw[if_pos hs,if_pos hs]
  obtain⟨x,rest,hx⟩:=List.exists_cons_of_ne_nil hs
  have hmem:x∈g.sp:=by rw[hx];simp
  obtain⟨i,hni,hi,hrd⟩:=hI.rdy (jw (hands:=hands) hmem)
  subst hni
  have hfr:=hI.free_sp hmem
  have hf:=zcv hB h i ((pick % hands:Nat):Int) hh h6 (by omega) htn hn' hr' rest hx
  refine(xJ hB h pick _ hh h6 hz htn hp63 rfl 3 h i 0 hf (fun w' own' Q' hp=>hp.w1le)).mono ?_
  rintro e w' ⟨v,rfl,hv,own',Q',hP'⟩
  have e1:g.sp.headD 0=(i:Int):=by rw[hx];rfl
  rw[e1]
  exact⟨_,rfl,hv,_,_,_,_,hP'.sameWork _,hK.takes rfl rfl rfl hh htn hi (zE hrd).1 hfr,hP'.went⟩
 rw[if_neg hs,if_neg hs]
 have hs':g.sp=[]:=Classical.not_not.1 hs
 by_cases ho:pick % hands=h∨g.ring (pick % hands)=[]
 ·rw[if_pos ho,if_pos ho]
  have hf:=zeB hB h (pick % hands) hh hO h6 hn' hr' hs' hz ho
  refine(xJ hB h pick _ hh h6 hz htn hp63 rfl 5 h 0 0 hf (fun w' own' Q' hp=>hp.w1le)).mono ?_
  rintro e w' ⟨v,rfl,hv,own',Q',hP'⟩
  exact⟨_,rfl,hv,_,_,_,_,hP',⟨hK.1,hK.2⟩,hP'.went⟩
 rw[if_neg ho,if_neg ho]
 have hne:pick % hands≠h:=fun e=>ho (Or.inl e)
 have hro:g.ring (pick % hands)≠[]:=fun e=>ho (Or.inr e)
 have hpos:0<(g.ring (pick % hands)).length:=List.length_pos_iff.2 hro
 obtain⟨x,rest,hx⟩:∃x rest,(g.ring (pick % hands)).take (((g.ring (pick % hands)).length+1) / 2)=x::rest:=List.exists_cons_of_ne_nil (by intro e;rcases List.take_eq_nil_iff.1 e with e|e;{ omega };{ exact hro e })
 have hmem:x∈g.ring (pick % hands):=List.mem_of_mem_take (i:=((g.ring (pick % hands)).length+1) / 2) (by rw[hx];simp)
 obtain⟨i,hni,hi,hrd⟩:=hI.rdy (zW hO hmem)
 subst hni
 have hfr:=hI.free_hand hO (x:=(i:Int)) (by unfold allH;split <;> simp[hmem])
 have hf:=zeC hB h i (pick % hands) hh hO hne h6 (by omega) htn hn' hr' hs' (by have:=hI.ringLe _ hO;omega) (fun y hy=>by obtain⟨j,rfl,-⟩:=hI.rdy (zW hO hy);omega) rest hx
 refine(xJ hB h pick _ hh h6 hz htn hp63 rfl 2 h i ((pick % hands:Nat):Int) hf (fun w' own' Q' hp=>hp.w1le)).mono ?_
 rintro e w' ⟨v,rfl,hv,own',Q',hP'⟩
 unfold robs
 rw[hx]
 exact⟨_,rfl,hv,_,_,_,_,hP'.sameWork _,hK.takes (g1:=puts room { g with ring:=updG g.ring (pick % hands) ((g.ring (pick % hands)).drop (((g.ring (pick % hands)).length+1) / 2)) } h rest) rfl rfl rfl hh htn hi (zE hrd).1 hfr,hP'.went⟩
end
section
open Go.RowKit Go.Deep Go.Maps
theorem Zf.task{w:World}{v:Value}{ts:Zl}(h:Zf w v ts){k:Nat}(hk:k<ts.length):∃b o c nv,v=.slice (some ⟨b,o,none⟩) ts.length c∧b<w.heap.size∧w.cell? ⟨b,o+k*2,none⟩=some (.int .i64 (Zv ts k))∧w.cell? ⟨b,o+k*2+1,none⟩=some nv∧Z0 w nv (Za ts k):=by
 obtain⟨hl,a,c,rfl,h⟩:=h
 rcases h with e|⟨b,o,rfl,hb,hc⟩
 ·subst e;simp at hk
 ·obtain⟨h1,nv,h2,h3⟩:=hc k hk
  exact⟨b,o,c,nv,rfl,hb,h1,h2,h3⟩
theorem Tryz.infoHandP:(Tryz.prog.info? 162).map (fun i=>(i.zero,i.size,i.bytes))=some (some (.pointer none),1,8):=by kernel_rfl
set_option maxRecDepth 100000 in
set_option maxHeartbeats 4000000 in
theorem zeb(v:Value)(ts:Zl)(w:World)(hp:Zf w v ts)(h30:ts.length≤30) :
  Calls Tryz.prog 47 #[v] w fun e w'=>e=.returned (.slice (some ⟨w.heap.size,0,none⟩) ts.length ts.length)∧w'.rowIs w.heap.size 3 ts.length (fun k=>.int .i64 (Zv ts k))∧Below w.heap.size w w':=by
 have HP:Hid (Zf w v ts):=hp
 obtain⟨a,c,rfl⟩:∃a c,v=.slice a ts.length c:=by obtain⟨hl,a,c,hv,-⟩:=hp;exact⟨a,c,hv⟩
 clear hp
 have hmk:=fun wx=>run_make_row' (P:=Tryz.prog) 73 3 (.int .i64 0) 8 Tryz.underlying73 Tryz.info3 rfl .i64 .i64 ts.length (by omega) (by omega) wx
 go_enter Tryz.func47,Tryz.ntmps47
 go_upto_region 2 with fail
 obtain⟨W,hW⟩:∃W,W=w.alloc (.cells (madeCells #[.int .i64 0] ts.length) 3):=⟨_,rfl⟩
 rw[←hW]
 have HW:Hid (W.rowIs w.heap.size 3 ts.length (fun k=>if k<0 then .int .i64 (Zv ts k) else .int .i64 0)∧Below w.heap.size w W∧w.heap.size<W.heap.size):=by
  rw[hW]
  exact⟨⟨_,heap_alloc_new w _,size_madeCells _ _,fun i hi=>by simp[madeCells,hi,Nat.mod_one]⟩,(qq4 _ _).alloc (qq1 _) _,by simp⟩
 clear hW hmk
 go_wp2
 go_loopw [11] (fun s11 wr=>∃k:Nat,s11=.int .i64 k∧k≤ts.length∧Hid (wr.rowIs w.heap.size 3 ts.length (fun j=>if j<k then .int .i64 (Zv ts j) else .int .i64 0)∧Below w.heap.size w wr∧w.heap.size<wr.heap.size)) (fun s11 _=>ts.length-(intOf s11).toNat)
 case atStart=>exact⟨0,rfl,Nat.zero_le _,HW⟩
 case round=>
  clear HW
  obtain⟨k,rfl,hk,hR⟩:=hrel
  by_cases hkl:k<ts.length
  ·have hkl':(k:Int)<(ts.length:Int):=by omega
   obtain⟨b,o,c',nv,hv,hbl,hcw,hcn,hi⟩:=(HP.out.later (hR.out.2.1)).task hkl
   simp only[Value.slice.injEq,true_and]at hv
   obtain⟨rfl,rfl⟩:=hv
   obtain⟨na,nl,nc,rfl⟩:∃na nl nc,nv=.slice na nl nc:=by obtain⟨_,a,c,hv,_⟩:=hi;exact⟨a,_,c,hv⟩
   obtain⟨x,hx⟩:∃x,x=Zv ts k:=⟨_,rfl⟩
   rw[←hx]at hcw
   have hfz:=hR.out.1.frozen k
   have hck:=hR.out.1.cell hkl
   rw[if_neg (by omega)]at hck
   have hlt:=hR.out.2.2
   have HX:Hid (x=Zv ts k):=hx
   clear hx hi
   go_wp2
   refine⟨⟨k+1,by go_num,by omega,?_⟩,by simp[intOf];omega⟩
   show _∧_∧_
   refine⟨((hR.out.1.set k (.int .i64 x)).of_block (qa _ _ _ (by simp;omega))).congr (fun j _=>?_),(hR.out.2.1.setCell (p:=⟨w.heap.size,k,none⟩) (qq1 _) _).alloc (by simp;omega) _,by simp;omega⟩
   by_cases e:j=k
   ·subst e
    rw[if_pos rfl,if_pos (by omega),HX.out]
   ·rw[if_neg e]
    by_cases e2:j<k
    ·rw[if_pos e2,if_pos (by omega)]
    ·rw[if_neg e2,if_neg (by omega)]
  ·have hkl':¬(k:Int)<(ts.length:Int):=by omega
   go_wp2
   go_ret
   exact⟨rfl,hR.out.1.congr (fun j hj=>by rw[if_pos (by omega)]),hR.out.2.1⟩
structure EmH (s count room:Nat) (w0 w:World):Prop where
 row:w.rowIs s 162 count (fun j=>.pointer (some ⟨s+2+2*j,0,none⟩))
 hand:∀j,j<count→Hnd.Hd (s+2+2*j) (s+1+2*j) room (-1) [] w
 size:w.heap.size=s+1+2*count
 below:Below w0.heap.size w0 w
set_option maxRecDepth 100000 in
set_option maxHeartbeats 4000000 in
theorem zaT(count room:Nat)(w:World)(h6:count≤6)(h1:1≤room)(h16:room≤16) :
  Calls Tryz.prog 44 #[.int .i64 count,.int .i64 room] w fun e w'=>e=.returned (.tuple #[.slice (some ⟨w.heap.size,0,none⟩) count count,.nilIface])∧EmH w.heap.size count room w w':=by
 have hmk:=fun wx=>run_make_row' (P:=Tryz.prog) 113 162 (.pointer none) 8 Tryz.underlying113 Tryz.infoHandP rfl .i64 .i64 count (by omega) (by omega) wx
 go_enter Tryz.func44,Tryz.ntmps44
 go_upto_region 2 with fail
 obtain⟨W,hW⟩:∃W,W=w.alloc (.cells (madeCells #[.pointer none] count) 162):=⟨_,rfl⟩
 rw[←hW]
 have HW:Hid (W.rowIs w.heap.size 162 count (fun j=>if j<0 then .pointer (some ⟨w.heap.size+2+2*j,0,none⟩) else .pointer none)∧(∀j,j<0→Hnd.Hd (w.heap.size+2+2*j) (w.heap.size+1+2*j) room (-1) [] W)∧W.heap.size=w.heap.size+1+2*0∧Below w.heap.size w W):=by
  rw[hW]
  exact⟨⟨_,heap_alloc_new w _,size_madeCells _ _,fun i hi=>by simp[madeCells,hi,Nat.mod_one]⟩,fun j hj=>by omega,by simp,(qq4 _ _).alloc (qq1 _) _⟩
 clear hW hmk
 go_wp2
 go_loopw [14,9] (fun s14 s9 wr=>∃k:Nat,s14=.int .i64 k∧k≤count∧Hid (wr.rowIs w.heap.size 162 count (fun j=>if j<k then .pointer (some ⟨w.heap.size+2+2*j,0,none⟩) else .pointer none)∧(∀j,j<k→Hnd.Hd (w.heap.size+2+2*j) (w.heap.size+1+2*j) room (-1) [] wr)∧wr.heap.size=w.heap.size+1+2*k∧Below w.heap.size w wr)) (fun s14 _ _=>count-(intOf s14).toNat)
 case atStart=>exact⟨0,rfl,Nat.zero_le _,HW⟩
 case round=>
  clear HW
  obtain⟨k,rfl,hk,hR⟩:=hrel
  by_cases hkl:k<count
  ·have hkl':(k:Int)<(count:Int):=by omega
   have hn:=Hnd.zjc room wr h1 h16
   go_wp2_with (first|(go_at_call 83;refine hn.mono ?_;clear hn;rintro e w2 ⟨rfl,hH,hb,hs⟩;have hr2:=hR.out.1.of_block (hb.block _ hR.out.1.lt);have hfz:=hr2.frozen k;have hck:=hr2.cell hkl;rw[if_neg (by omega)]at hck;have HH:Hid (Hnd.Hd (wr.heap.size+1) wr.heap.size room (-1) [] w2∧Below wr.heap.size wr w2∧w2.heap.size=wr.heap.size+2):=⟨hH,hb,hs⟩;clear hH hb hs hr2))
   have hsz:=hR.out.2.2.1
   refine⟨⟨k+1,by go_num,by omega,?_⟩,by simp[intOf];omega⟩
   obtain⟨hH,hb,hs⟩:=HH.out
   have hne:∀b,b≠w.heap.size→(w2.setCell ⟨w.heap.size,k,none⟩ (.pointer (some ⟨wr.heap.size+1,0,none⟩))).heap[b]?=w2.heap[b]?:=fun b hb=>qq5 _ _ _ _ (by show b≠w.heap.size;exact hb)
   show _∧_∧_∧_
   refine⟨((hR.out.1.of_block (hb.block _ hR.out.1.lt)).set k _).congr (fun j _=>?_),fun j hj=>?_,by simp;omega,(hR.out.2.2.2.trans (hb.mono hR.out.2.2.2.size)).setCell (p:=⟨w.heap.size,k,none⟩) (qq1 _) _⟩
   ·by_cases e:j=k
    ·subst e
     rw[if_pos rfl,if_pos (by omega),hsz]
     congr 3
     omega
    ·rw[if_neg e]
     by_cases e2:j<k
     ·rw[if_pos e2,if_pos (by omega)]
     ·rw[if_neg e2,if_neg (by omega)]
   ·by_cases e:j=k
    ·subst e
     have:=hH.of_blocks (hne _ (by omega)) (hne _ (by omega))
     generalize (w2.setCell ⟨w.heap.size,j,none⟩ (.pointer (some ⟨wr.heap.size+1,0,none⟩)))=W3 at this ⊢
     rw[hsz]at this
     rw[show w.heap.size+2+2*j=w.heap.size+1+2*j+1 by omega]
     exact this
    ·have hj2:=hR.out.2.1 j (by omega)
     exact(hj2.of_blocks (hb.block _ hj2.row.lt) (hb.block _ hj2.ring.lt)).of_blocks (hne _ (by omega)) (hne _ (by omega))
  ·have hkl':¬(k:Int)<(count:Int):=by omega
   obtain rfl:k=count:=by omega
   go_wp2
   go_ret2
   exact⟨rfl,hR.out.1.congr (fun j hj=>by rw[if_pos (by omega)]),hR.out.2.1,hR.out.2.2.1,hR.out.2.2.2⟩
end
end Go.Proofs.YtlfbdjeojgbniaaGreatDoor

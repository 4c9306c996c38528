import Derived.Test.YtlfbdjeojgbniaaGreatDoorRan37
import Derived.Test.YtlfbdjeojgbniaaGreatDoorRan30
namespace Go.Proofs.YtlfbdjeojgbniaaGreatDoor
section
open Go.RowKit Go.Deep
variable {q:Addr} {W0:World} {Y X:Nat→Prop} {S:Nat} {d:Desk} {w:World}
theorem zgN(l:List UInt8)(hl:l.length≤1048576)(w:World)(hm:Lens w) :
  Calls Tryz.prog 94 #[.string ⟨l.toArray⟩,.string ⟨#[10]⟩,.string ⟨#[59]⟩] w fun e w'=>e=.returned (.string ⟨(l.map (fun b=>if b=(10:UInt8) then 59 else b)).toArray⟩)∧Below w.heap.size w w':=by
 obtain⟨⟨m,hm⟩,_⟩:=hm
 have hc:Lib.countB ⟨l.toArray⟩ ⟨#[10]⟩≤1048576:=by
  have:=Lib.countB_le ⟨#[10]⟩ (by show 1≤(#[(10:UInt8)]).size;decide) _ ⟨l.toArray⟩ (qq1 _)
  have e:(⟨l.toArray⟩:ByteArray).size=l.length:=by show l.toArray.size=_;simp
  omega
 have h:=Tryz.strings_ReplaceAll ⟨l.toArray⟩ ⟨#[10]⟩ ⟨#[59]⟩ m w (by show l.toArray.size<_;simp;omega) hm (by show 1≤(#[(10:UInt8)]).size;decide) (by
  have e:(⟨l.toArray⟩:ByteArray).size=l.length:=by show l.toArray.size=_;simp
  have e1:(⟨#[59]⟩:ByteArray).size=1:=rfl
  rw[e,e1];omega)
 refine h.mono ?_
 rintro e w' ⟨rfl,hb⟩
 refine⟨?_,hb⟩
 rw[show Lib.replaceAll (⟨l.toArray⟩:ByteArray).data.toList (⟨#[10]⟩:ByteArray).data.toList (⟨#[59]⟩:ByteArray).data.toList=l.map (fun b=>if b=(10:UInt8) then 59 else b) from zbf 10 59 (by decide) l]
set_option maxRecDepth 100000 in
set_option maxHeartbeats 4000000 in
theorem zgZ(h:ZB W0 Y X S d w)(hv:Vars q W0)(v:Value)(n k:Nat)(ha:XU w v [n,k])(hk:k<10000) :
  Calls Tryz.prog 55 #[.pointer (some ⟨S,0,none⟩),v] w (Zi q W0 Y X S (Z5 d n k) w):=by
 obtain⟨pv,gv,e1,e2,hg⟩:=h.mem
 obtain⟨-,c1,-,-⟩:=zV e1
 obtain⟨ga,gc,rfl,hcell⟩:=ha
 have hn0:w.cell? ⟨ga,0,none⟩=some (.int .i64 (n:Int)):=hcell 0 (by simp)
 have hn1:w.cell? ⟨ga,1,none⟩=some (.int .i64 (k:Int)):=hcell 1 (by simp)
 have HD:Hid (ZB W0 Y X S d w):=h
 have HV:Hid (Vars q W0):=hv
 have HE1:Hid (w.heap[S]?=some (.cells #[pv,gv] 51 (0,0))):=e1
 have HE2:Hid (Y6 Y w pv d.ts):=e2
 clear e1 e2 hcell hv h
 obtain⟨dts,dg⟩:=d
 cases dg with
 | none=>
  obtain rfl:gv=.pointer none:=hg
  clear hn0 hn1 HE1 HE2
  have HR:Hid (Z5 ⟨dts,none⟩ n k ⟨dts,none⟩ (Ye 6)):=⟨rfl,rfl⟩
  go_enter Tryz.func55,Tryz.ntmps55
  go_wp2
  go_ret2
  exact Zi.err (by decide) (by decide) HR.out (HD.out.stays (qq4 _ _))
 | some x=>
  obtain⟨t,hands,g⟩:=x
  obtain⟨G,rfl,hgx⟩:=hg
  obtain⟨hct,h1,h6,hI⟩:=HD.out.ok.gg t hands g rfl
  by_cases hh:hands≤n
  ·have hst:∀j,Calls Tryz.prog 92 #[.pointer (some ⟨G,0,none⟩),.int .i64 (n:Int),.int .i64 (k:Int)] (w.drewN j) fun e w'=>e=.returned (.tuple #[.slice none 0 0,.iface 97 (.int .i64 1)])∧Below w.heap.size w w':=fun j=>by
    refine((hgx.later (drewS w j)).refused (n:Int) (k:Int) (by omega)).mono ?_
    rintro e w' ⟨rfl,rfl⟩
    exact⟨rfl,drewS w j⟩
   have HR:Hid (Z5 ⟨dts,some (t,hands,g)⟩ n k ⟨dts,some (t,hands,g)⟩ (Ye 1)):=(by
    show Z5 _ _ _ _ _
    unfold Z5
    dsimp only
    rw[if_pos hh]
    exact⟨rfl,rfl⟩)
   clear hgx hct h1 h6 hI hh HE1 HE2
   go_enter Tryz.func55,Tryz.ntmps55
   go_wp2
   go_region_with (first|(go_at_call 92;refine(hst _).mono ?_;clear hst;rintro e w1 ⟨rfl,hb1⟩;have HB:Hid (Below w.heap.size w w1):=hb1;clear hb1))
   all_goals
    go_wp2
    go_ret2
    exact Zi.err (by decide) (by decide) HR.out (HD.out.stays HB.out)
  ·have hst:∀j,Calls Tryz.prog 92 #[.pointer (some ⟨G,0,none⟩),.int .i64 (n:Int),.int .i64 (k:Int)] (w.drewN j) fun e w'=>∃v,e=.returned (.tuple #[v,.nilIface])∧Hid (RowD w.heap.size w' v (gdeeds t hands g n k))∧Hid (YJ W0 Y X S ⟨dts,some (t,hands,gstep t 4 hands g n k)⟩ w w'):=fun j=>by
    have hwk:∀i,i<t.length→1≤Zv t i∧Zv t i≤1000:=fun i hi=>⟨qE hct i hi,by
     have h2:=(xa ((hct.ok rfl).2.2.1 i hi)).1
     unfold Zv;omega⟩
    refine((hgx.later (drewS w j)).step hct.good hwk (by omega) (by omega) h6 n k (by omega) (by omega)).mono ?_
    rintro e w' ⟨v,rfl,hr,hg2,hk2⟩
    have hk3:X0 X w w':=⟨hk2.os,hk2.tape,hk2.output,hk2.size,hk2.block⟩
    exact⟨v,rfl,hr,HD.out.stepped HE1.out HE2.out hk3 hg2 ⟨HD.out.ok.pl,fun t' hands' g' e=>by cases e;exact⟨hct,h1,h6,hI.step hct.good (qE hct) (by omega) (by omega) k⟩⟩⟩
   have hde:=qq hI hct.good h6 (show n<hands by omega) k
   have hdl:=jU hct.good hands g n k
   have HNE:Hid (ZZ (gdeeds t hands g n k)=0):=zc9 hde (by omega)
   have HTX:Hid ((ZG (gdeeds t hands g n k)).map (fun b=>if b=(10:UInt8) then 59 else b)=(gdeeds t hands g n k).flatMap (fun x=>Zn x++[59])):=zda hde
   have HTL:Hid ((ZG (gdeeds t hands g n k)).length≤1048576):=(by
    have:=qW _ hde
    show _≤_
    omega)
   have HL:Hid ((rowT (gdeeds t hands g n k)).length≤20000):=jF hde hdl
   have HR:Hid (Z5 ⟨dts,some (t,hands,g)⟩ n k ⟨dts,some (t,hands,gstep t 4 hands g n k)⟩ (rowT (gdeeds t hands g n k))):=(by
    show Z5 _ _ _ _ _
    unfold Z5
    dsimp only
    rw[if_neg hh]
    exact⟨rfl,rfl⟩)
   clear hgx hct h1 h6 hI hh HE1 HE2 hde
   generalize gdeeds t hands g n k=ds at *
   generalize gstep t 4 hands g n k=g2 at *
   go_enter Tryz.func55,Tryz.ntmps55
   go_wp2
   go_region_with (first|(go_at_call 92;refine(hst _).mono ?_;clear hst;rintro e w1 ⟨v1,rfl,hr1,hm1⟩;obtain⟨va,vc,rfl⟩:=hr1.out.shape))
   all_goals
    by_cases hz:ds.length=0
    ·have hds:ds=[]:=List.eq_nil_of_length_eq_zero hz
     have HRT:Hid (rowT ds=[45]):=(by show _=_;rw[hds];rfl)
     clear hds HTX HTL HNE
     rw[HRT.out]at HR
     go_wp2
     go_ret2
     exact Zi.told (o:=[45]) HR.out (by decide) hm1.out
    ·have HRT:Hid (rowT ds=ds.flatMap (fun x=>Zn x++[59])):=(by
      show _=_
      unfold rowT
      rw[if_neg (fun e=>hz (by rw[e];rfl))])
     have HVW:Hid (Vars q w1):=(by
      obtain⟨Y',X',hd',-⟩:=hm1.out
      exact hd'.belowV HV.out)
     have hpr:=zgG _ ds w1 (hr1.out.at (by omega)) HVW.out.frm
     rw[HNE.out,if_pos rfl,zI]at hpr
     have HRP:Hid (∀wx,Below w1.heap.size w1 wx→Calls Tryz.prog 94 #[.string ⟨(ZG ds).toArray⟩,.string ⟨#[10]⟩,.string ⟨#[59]⟩] wx fun e w'=>e=.returned (.string ⟨(rowT ds).toArray⟩)∧Below wx.heap.size wx w'):=fun wx hbx=>by
      rw[HRT.out,←HTX.out]
      exact zgN _ HTL.out wx (HVW.out.later hbx).len
     clear HRT HTX HTL HNE
     generalize ZG ds=dt at *
     generalize rowT ds=o at *
     go_wp2_with (first|(go_at_call 93;refine hpr.mono ?_;clear hpr;rintro e w2 ⟨rfl,hb2⟩;have HB2:Hid (Below w1.heap.size w1 w2):=hb2;clear hb2)|(go_at_call 94;refine(HRP.out _ HB2.out).mono ?_;rintro e w3 ⟨rfl,hb3⟩;have HB3:Hid (Below w1.heap.size w1 w3):=HB2.out.trans (hb3.mono HB2.out.size);clear hb3))
     go_ret2
     exact Zi.told HR.out HL.out (hm1.out.later HB3.out)
end
section
open Go.RowKit Go.Deep
variable {q:Addr} {W0:World} {Y X:Nat→Prop} {S:Nat} {d:Desk} {w:World}
def Qe(f:Nat)(d:Desk)(rest:List UInt8):Desk→List UInt8→Prop:=if f=49 then YH d rest else YQ d rest
theorem zhJ(h:ZB W0 Y X S d w)(hv:Vars q W0)(f:Nat)(hf:f=49∨f=50)(l:List UInt8)(hl:l.length≤1048576) :
  Calls Tryz.prog f #[.pointer (some ⟨S,0,none⟩),.string ⟨l.toArray⟩] w (Zi q W0 Y X S (Qe f d l) w):=by
 rcases hf with rfl|rfl
 ·exact zbC h hv l hl
 ·exact zcI h hv l hl
def X1(f:Nat)(d:Desk)(ns:List Nat):Desk→List UInt8→Prop:=
 if f=52 then fun d' o=>d'=d∧o=Yq d.ts
 else if f=53 then Yv d (ns.getD 0 0)
 else if f=54 then Yi d (ns.getD 0 0)
 else if f=55 then Z5 d (ns.getD 0 0) (ns.getD 1 0)
 else fun d' o=>d'=d∧YP d o
def Xv(c f:Nat):Prop:=(f=52∧c=0)∨(f=53∧c=1)∨(f=54∧c=1)∨(f=55∧c=2)∨(f=56∧c=0)
theorem zhI(h:ZB W0 Y X S d w)(hv:Vars q W0)(c f:Nat)(hf:Xv c f)(B:Nat)(v:Value)(ns:List Nat)(hn:ZQ B w v ns)(hc:ns.length=c)(hs:∀n,n∈ns→n<10000) :
  Calls Tryz.prog f #[.pointer (some ⟨S,0,none⟩),v] w (Zi q W0 Y X S (X1 f d ns) w):=by
 rcases hf with⟨rfl,rfl⟩|⟨rfl,rfl⟩|⟨rfl,rfl⟩|⟨rfl,rfl⟩|⟨rfl,rfl⟩
 ·exact zh5 h v
 ·obtain⟨n,rfl⟩:=List.length_eq_one_iff.1 hc
  exact zdp h hv v n (hn.args (by simp))
 ·obtain⟨n,rfl⟩:=List.length_eq_one_iff.1 hc
  exact zdC h v n (hn.args (by simp))
 ·obtain⟨n,k,rfl⟩:∃n k,ns=[n,k]:=by
   match ns,hc with
   | [n,k],_=>exact⟨n,k,rfl⟩
  exact zgZ h hv v n k (hn.args (by simp)) (hs k (by simp))
 ·exact zgo h hv v
theorem za1(f:Nat)(hf:f=49∨f=50∨f=52∨f=53∨f=54∨f=55∨f=56):∀args w,(callFunc f args).run Tryz.prog w=.ok (.enter f args) w:=by
 rcases hf with rfl|rfl|rfl|rfl|rfl|rfl|rfl
 ·exact enters_of Tryz.func49 (by kernel_rfl) rfl
 ·exact enters_of Tryz.func50 (by kernel_rfl) rfl
 ·exact enters_of Tryz.func52 (by kernel_rfl) rfl
 ·exact enters_of Tryz.func53 (by kernel_rfl) rfl
 ·exact enters_of Tryz.func54 (by kernel_rfl) rfl
 ·exact enters_of Tryz.func55 (by kernel_rfl) rfl
 ·exact enters_of Tryz.func56 (by kernel_rfl) rfl
theorem Zi.mono{R R':Desk→List UInt8→Prop}{e:Ending}{w':World}(h:Zi q W0 Y X S R w e w')(hR:∀d o,R d o→R' d o):Zi q W0 Y X S R' w e w':=by
 obtain⟨d',o,ev,he,ht,hl,hm⟩:=h
 refine⟨d',o,ev,he,?_,hl,hm⟩
 rcases ht with⟨h1,h2⟩|⟨n,h1,h2,h3,h4⟩|⟨h1,h2⟩
 ·exact Or.inl ⟨h1,hR _ _ h2⟩
 ·exact Or.inr (Or.inl ⟨n,h1,h2,h3,hR _ _ h4⟩)
 ·exact Or.inr (Or.inr ⟨h1,hR _ _ h2⟩)
theorem Zi.ahead{R:Desk→List UInt8→Prop}{w1 w2:World}{e:Ending}(h:Zi q W0 Y (Yx X w.heap.size w1.heap.size) S R w1 e w2)(hb:Below w.heap.size w w1)(hl:∀k,X k→k<w.heap.size):Zi q W0 Y X S R w e w2:=by
 obtain⟨d',o,ev,he,ht,hlen,hm⟩:=h
 exact⟨d',o,ev,he,ht,hlen,hm.ahead hb hl⟩
def X5(f:Nat)(d:Desk)(rest:List UInt8)(more:Bool):Desk→List UInt8→Prop:=if more then Qe f d rest else fun d' o=>d'=d∧o=badT
set_option maxRecDepth 100000 in
theorem zf3(h:ZB W0 Y X S d w)(hv:Vars q W0)(f:Nat)(hf:f=49∨f=50)(b:Nat)(hc:w.cell? ⟨b,0,none⟩=some (metV S f))(rest:List UInt8)(more:Bool)(hl:rest.length≤1048576) :
  Calls Tryz.prog 85 #[.string ⟨rest.toArray⟩,.bool more,.pointer (some ⟨b,0,none⟩)] w (Zi q W0 Y X S (X5 f d rest more) w):=by
 cases more with
 | false=>
  have hbad:=(h.belowV hv).bad
  have HD:Hid (ZB W0 Y X S d w):=h
  have HR:Hid (X5 f d rest false d badT):=⟨rfl,rfl⟩
  clear h hv hc hf
  go_enter Tryz.func85,Tryz.ntmps85
  go_wp2
  go_quiet (fail)
  go_wp2
  go_ret2
  exact Zi.bad HR.out (HD.out.stays (drewS w _))
 | true=>
  have hm:=zhJ h hv f hf rest hl
  have hen:=za1 f (by rcases hf with rfl|rfl <;> simp)
  have HR:Hid (X5 f d rest true=Qe f d rest):=rfl
  unfold metV at hc
  clear h hv hf
  go_enter Tryz.func85,Tryz.ntmps85
  go_wp2_with (first|(go_at_fn f;refine hm.mono ?_;clear hm;rintro e w2 ⟨d',o,ev,rfl,ht,hlen,hmv⟩;have HF:Hid (Zi q W0 Y X S (Qe f d rest) w (.returned (.tuple #[.string ⟨o.toArray⟩,ev])) w2):=⟨d',o,ev,rfl,ht,hlen,hmv⟩;clear ht hlen hmv))
  go_ret2
  rw[HR.out]
  exact HF.out
def numA(c f:Nat)(d:Desk)(rest:List UInt8)(more:Bool):Desk→List UInt8→Prop:=
 match XC rest more with
 | none=>fun d' o=>d'=d∧o=badT
 | some ns=>if ns.length=c then X1 f d ns else fun d' o=>d'=d∧o=badT
theorem zej{rest:List UInt8}{more:Bool}{ns:List Nat}(h:XC rest more=some ns):∀n,n∈ns→n<10000:=by
 cases more with
 | false=>cases h;intro n hn;simp at hn
 | true=>
  have h2:Zq Ze (Zd 32 rest)=some ns:=h
  clear h
  revert h2
  generalize Zd 32 rest=ws
  induction ws generalizing ns with
  | nil=>intro h;simp[Zq]at h;subst h;intro n hn;simp at hn
  | cons x r ih=>
   intro h
   unfold Zq at h
   cases hx:Ze x with
   | none=>rw[hx]at h;cases h
   | some m=>
    cases hr:Zq Ze r with
    | none=>rw[hx,hr]at h;cases h
    | some ms=>
     rw[hx,hr]at h
     cases h
     intro n hn
     rcases List.mem_cons.1 hn with rfl|hn
     ·exact ji hx
     ·exact ih hr n hn
set_option maxRecDepth 100000 in
set_option maxHeartbeats 2000000 in
theorem zf1(h:ZB W0 Y X S d w)(hv:Vars q W0)(c f:Nat)(hf:Xv c f)(b:Nat)(hcc:w.cell? ⟨b,0,none⟩=some (.int .i64 (c:Int)))(hc:w.cell? ⟨b+1,0,none⟩=some (metV S f))(rest:List UInt8)(more:Bool)(hl:rest.length≤1048576) :
  Calls Tryz.prog 88 #[.string ⟨rest.toArray⟩,.bool more,.pointer (some ⟨b,0,none⟩),.pointer (some ⟨b+1,0,none⟩)] w (Zi q W0 Y X S (numA c f d rest more) w):=by
 have hrn:=zbB rest more hl q w (h.belowV hv)
 have HD:Hid (ZB W0 Y X S d w):=h
 have HV:Hid (Vars q W0):=hv
 have HC:Hid (w.cell? ⟨b,0,none⟩=some (.int .i64 (c:Int))∧w.cell? ⟨b+1,0,none⟩=some (metV S f)):=⟨hcc,hc⟩
 have hen:=za1 f (by rcases hf with⟨rfl,-⟩|⟨rfl,-⟩|⟨rfl,-⟩|⟨rfl,-⟩|⟨rfl,-⟩ <;> simp)
 have HK:Hid (Xv c f):=hf
 have hcb:c≤2:=by rcases hf with⟨-,rfl⟩|⟨-,rfl⟩|⟨-,rfl⟩|⟨-,rfl⟩|⟨-,rfl⟩ <;> omega
 clear h hv hcc hc hf
 go_enter Tryz.func88,Tryz.ntmps88
 go_wp2_with fail
 refine hrn.mono ?_
 clear hrn
 rintro e w1 ⟨⟨ns,v,hargs,rfl,hnum⟩|⟨hargs,rfl⟩,hb1⟩
 ·have hcc:=(hb1.cell (p:=⟨b,0,none⟩) (qL HC.out.1)).trans HC.out.1
  have hc1:=(hb1.cell (p:=⟨b+1,0,none⟩) (qL HC.out.2)).trans HC.out.2
  have HB:Hid (Below w.heap.size w w1):=hb1
  obtain⟨a,cp,rfl⟩:∃a cp,v=.slice a ns.length cp:=by
   rcases hnum.2 with⟨rfl,hz⟩|⟨g,cap,cur,rfl,_⟩
   ·exact⟨none,0,by rw[hz]⟩
   ·exact⟨_,_,rfl⟩
  by_cases hlen:ns.length=c
  ·have HR:Hid (numA c f d rest more=X1 f d ns):=(by
    show _=_
    unfold numA
    rw[hargs]
    exact if_pos hlen)
   have hm:=zhI (HD.out.later hb1) HV.out c f HK.out _ _ ns hnum hlen (zej hargs)
   have HX:=HD.out.low
   unfold metV at hc1
   subst hlen
   clear hb1 hnum hargs
   generalize hgl:ns.length=len at *
   go_wp2_with (first|(go_at_fn f;refine hm.mono ?_;clear hm;rintro e w2 ⟨d',o,ev,rfl,ht,hlen2,hmv⟩;have HF:Hid (Zi q W0 Y (Yx X w.heap.size w1.heap.size) S (X1 f d ns) w1 (.returned (.tuple #[.string ⟨o.toArray⟩,ev])) w2):=⟨d',o,ev,rfl,ht,hlen2,hmv⟩;clear ht hlen2 hmv))
   go_ret2
   rw[HR.out]
   exact HF.out.ahead HB.out HD.out.low
  ·have HR:Hid (numA c f d rest more d badT):=(by
    show numA _ _ _ _ _ _ _
    unfold numA
    rw[hargs]
    dsimp only
    rw[if_neg hlen]
    exact⟨rfl,rfl⟩)
   have hne:¬(ns.length:Int)=(c:Int):=by omega
   have hbad:=((HD.out.belowV HV.out).later HB.out).bad
   clear hb1 hnum hargs hc1 hlen
   generalize ns.length=len at *
   go_wp2
   go_quiet (fail)
   go_wp2
   go_ret2
   exact Zi.bad HR.out (HD.out.stays (HB.out.trans ((drewS w1 _).mono HB.out.size)))
 ·have HB:Hid (Below w.heap.size w w1):=hb1
  have HR:Hid (numA c f d rest more d badT):=(by
   show numA _ _ _ _ _ _ _
   unfold numA
   rw[hargs]
   exact⟨rfl,rfl⟩)
  have hbad:=((HD.out.belowV HV.out).later HB.out).bad
  clear hb1 hargs
  go_wp2
  go_quiet (fail)
  go_wp2
  go_ret2
  exact Zi.bad HR.out (HD.out.stays (HB.out.trans ((drewS w1 _).mono HB.out.size)))
end
section
open Go.RowKit Go.Deep
variable {q:Addr} {W0:World} {Y X:Nat→Prop} {S:Nat} {d:Desk} {w:World}
def askR(a:Option Ask)(d:Desk)(rest:List UInt8)(more:Bool):Desk→List UInt8→Prop:=
 match a with
 | none=>fun d' o=>d'=d∧o=badT
 | some (.text f)=>X5 f d rest more
 | some (.num c f)=>numA c f d rest more
theorem zbP{c:UInt8}{l:List UInt8}(h:(cutB c l).2.2=false):(cutB c l).1=l∧c∉l:=by
 refine⟨(jT c l h).1,fun hm=>?_⟩
 obtain⟨x,y,rfl,hx⟩:=List.eq_append_cons_of_mem hm
 rw[zfH c x y hx]at h
 cases h
theorem zc2{c:UInt8}{l:List UInt8}(h:(cutB c l).2.2=true):c∈l:=by
 apply Classical.byContradiction
 intro hn
 rw[zaP c l hn]at h
 cases h
theorem zeP{d d':Desk}{l o:List UInt8}(h:askR (YF (cutB 32 l).1) d (cutB 32 l).2.1 (cutB 32 l).2.2 d' o):Zz d l d' o:=by
 cases hm:(cutB 32 l).2.2 with
 | false=>
  obtain⟨he,hno⟩:=zbP hm
  rw[he,hm]at h
  unfold Zz
  by_cases e1:l=YU
  ·subst e1
   rw[if_pos rfl]
   exact h
  by_cases e2:l=YT
  ·subst e2
   rw[if_neg (by decide),if_pos rfl]
   exact h
  rw[if_neg e1,if_neg e2,if_pos hno]
  unfold YF at h
  by_cases e3:l=YC
  ·rw[if_pos e3]at h;exact h
  rw[if_neg e3]at h
  by_cases e4:l=Y0
  ·rw[if_pos e4]at h;exact h
  rw[if_neg e4,if_neg e1]at h
  by_cases e5:l=Yt
  ·rw[if_pos e5]at h;exact h
  rw[if_neg e5]at h
  by_cases e6:l=Y9
  ·rw[if_pos e6]at h;exact h
  rw[if_neg e6]at h
  by_cases e7:l=Xa
  ·rw[if_pos e7]at h;exact h
  rw[if_neg e7,if_neg e2]at h
  exact h
 | true=>
  have hin:=zc2 hm
  rw[hm]at h
  have e1:l≠YU:=fun e=>by rw[e]at hin;exact absurd hin (by decide)
  have e2:l≠YT:=fun e=>by rw[e]at hin;exact absurd hin (by decide)
  unfold Zz
  rw[if_neg e1,if_neg e2,if_neg (fun e=>e hin)]
  unfold Xe
  generalize (cutB 32 l).1=wd at *
  generalize (cutB 32 l).2.1=rest at *
  clear hin hm e1 e2
  have hargs:XC rest true=Zq Ze (Zd 32 rest):=rfl
  have hpos:∀ns,Zq Ze (Zd 32 rest)=some ns→ns.length≠0:=fun ns hns e=>by
   have h1:=yW _ _ _ hns
   exact absurd (List.eq_nil_of_length_eq_zero (by omega)) (zy 32 rest)
  unfold YF at h
  by_cases e3:wd=YC
  ·rw[if_pos e3]at h ⊢;exact h
  rw[if_neg e3]at h ⊢
  by_cases e4:wd=Y0
  ·rw[if_pos e4]at h ⊢;exact h
  rw[if_neg e4]at h ⊢
  have num:∀c f,askR (some (.num c f)) d rest true d' o→(Zq Ze (Zd 32 rest)=none∧d'=d∧o=badT)∨(∃ns,Zq Ze (Zd 32 rest)=some ns∧((ns.length=c∧X1 f d ns d' o)∨(ns.length≠c∧d'=d∧o=badT))):=fun c f hx=>by
   have hx:numA c f d rest true d' o:=hx
   unfold numA at hx
   rw[hargs]at hx
   cases hc:Zq Ze (Zd 32 rest) with
   | none=>rw[hc]at hx;exact Or.inl ⟨rfl,hx⟩
   | some ns=>
    rw[hc]at hx
    dsimp only at hx
    by_cases e:ns.length=c
    ·rw[if_pos e]at hx;exact Or.inr ⟨ns,rfl,Or.inl ⟨e,hx⟩⟩
    ·rw[if_neg e]at hx;exact Or.inr ⟨ns,rfl,Or.inr ⟨e,hx⟩⟩
  by_cases e5:wd=YU
  ·rw[if_pos e5]at h
   subst e5
   rcases num _ _ h with⟨hn,hx⟩|⟨ns,hn,⟨hc,-⟩|⟨-,hx⟩⟩
   ·rw[hn];exact hx
   ·exact absurd hc (hpos ns hn)
   ·rw[hn]
    show ZV _ _ _ _ _
    unfold ZV
    rw[if_neg (fun e=>absurd e.1 (by decide)),if_neg (fun e=>absurd e.1 (by decide)),if_neg (fun e=>absurd e.1 (by decide))]
    exact hx
  rw[if_neg e5]at h
  by_cases e6:wd=Yt
  ·rw[if_pos e6]at h
   subst e6
   rcases num _ _ h with⟨hn,hx⟩|⟨ns,hn,⟨hc,hx⟩|⟨hc,hx⟩⟩
   ·rw[hn];exact hx
   ·rw[hn]
    show ZV _ _ _ _ _
    unfold ZV
    rw[if_pos ⟨rfl,hc⟩]
    exact hx
   ·rw[hn]
    show ZV _ _ _ _ _
    unfold ZV
    rw[if_neg (fun e=>hc e.2),if_neg (fun e=>absurd e.1 (by decide)),if_neg (fun e=>absurd e.1 (by decide))]
    exact hx
  rw[if_neg e6]at h
  by_cases e7:wd=Y9
  ·rw[if_pos e7]at h
   subst e7
   rcases num _ _ h with⟨hn,hx⟩|⟨ns,hn,⟨hc,hx⟩|⟨hc,hx⟩⟩
   ·rw[hn];exact hx
   ·rw[hn]
    show ZV _ _ _ _ _
    unfold ZV
    rw[if_neg (fun e=>absurd e.1 (by decide)),if_pos ⟨rfl,hc⟩]
    exact hx
   ·rw[hn]
    show ZV _ _ _ _ _
    unfold ZV
    rw[if_neg (fun e=>absurd e.1 (by decide)),if_neg (fun e=>hc e.2),if_neg (fun e=>absurd e.1 (by decide))]
    exact hx
  rw[if_neg e7]at h
  by_cases e8:wd=Xa
  ·rw[if_pos e8]at h
   subst e8
   rcases num _ _ h with⟨hn,hx⟩|⟨ns,hn,⟨hc,hx⟩|⟨hc,hx⟩⟩
   ·rw[hn];exact hx
   ·rw[hn]
    show ZV _ _ _ _ _
    unfold ZV
    rw[if_neg (fun e=>absurd e.1 (by decide)),if_neg (fun e=>absurd e.1 (by decide)),if_pos ⟨rfl,hc⟩]
    exact hx
   ·rw[hn]
    show ZV _ _ _ _ _
    unfold ZV
    rw[if_neg (fun e=>absurd e.1 (by decide)),if_neg (fun e=>absurd e.1 (by decide)),if_neg (fun e=>hc e.2)]
    exact hx
  rw[if_neg e8]at h
  have other:d'=d∧o=badT→(match Zq Ze (Zd 32 rest) with
    | none=>d'=d∧o=badT
    | some ns=>ZV d wd ns d' o):=fun hx=>by
   cases Zq Ze (Zd 32 rest) with
   | none=>exact hx
   | some ns=>
    show ZV _ _ _ _ _
    unfold ZV
    rw[if_neg (fun e=>e6 e.1),if_neg (fun e=>e7 e.1),if_neg (fun e=>e8 e.1)]
    exact hx
  by_cases e9:wd=YT
  ·rw[if_pos e9]at h
   rcases num _ _ h with⟨hn,hx⟩|⟨ns,hn,⟨hc,-⟩|⟨-,hx⟩⟩
   ·exact other hx
   ·exact absurd hc (hpos ns hn)
   ·exact other hx
  rw[if_neg e9]at h
  exact other h
theorem zbN(wd:List UInt8):YF wd=some (.text 49)∨YF wd=some (.text 50)∨YF wd=some (.num 0 52)∨YF wd=some (.num 1 53)∨YF wd=some (.num 1 54)∨YF wd=some (.num 2 55)∨YF wd=some (.num 0 56)∨YF wd=none:=by
 unfold YF
 by_cases e1:wd=YC
 ·rw[if_pos e1];simp
 rw[if_neg e1]
 by_cases e2:wd=Y0
 ·rw[if_pos e2];simp
 rw[if_neg e2]
 by_cases e3:wd=YU
 ·rw[if_pos e3];simp
 rw[if_neg e3]
 by_cases e4:wd=Yt
 ·rw[if_pos e4];simp
 rw[if_neg e4]
 by_cases e5:wd=Y9
 ·rw[if_pos e5];simp
 rw[if_neg e5]
 by_cases e6:wd=Xa
 ·rw[if_pos e6];simp
 rw[if_neg e6]
 by_cases e7:wd=YT
 ·rw[if_pos e7];simp
 rw[if_neg e7];simp
theorem zhg{wd:List UInt8}{f:Nat}(h:YF wd=some (.text f)):f=49∨f=50:=by
 rcases zbN wd with e|e|e|e|e|e|e|e <;> (rw[e]at h;simp at h)
 ·exact Or.inl h.symm
 ·exact Or.inr h.symm
theorem zir{wd:List UInt8}{c f:Nat}(h:YF wd=some (.num c f)):Xv c f:=by
 unfold Xv
 rcases zbN wd with e|e|e|e|e|e|e|e <;> (rw[e]at h;simp at h)
 all_goals (obtain⟨rfl,rfl⟩:=h;simp)
set_option maxRecDepth 100000 in
set_option maxHeartbeats 2000000 in
theorem ziY(h:ZB W0 Y X S d w)(hv:Vars q W0)(M:Nat)(hM:Y5 Y M S w)(l:List UInt8)(hl:l.length≤1000000) :
  Calls Tryz.prog 60 #[.map (some M),.string ⟨l.toArray⟩] w (Zi q W0 Y X S (Zz d l) w):=by
 have hcut:=zaG l 32 w (by omega) (h.belowV hv).len
 have HD:Hid (ZB W0 Y X S d w):=h
 have HV:Hid (Vars q W0):=hv
 have HM:Hid (Y5 Y M S w):=hM
 have HR:Hid (∀d' o,askR (YF (cutB 32 l).1) d (cutB 32 l).2.1 (cutB 32 l).2.2 d' o→Zz d l d' o):=fun d' o=>zeP
 have h1:=jm 32 l
 have h2:=yf 32 l
 clear h hv hM
 generalize (cutB 32 l).1=wd at *
 generalize (cutB 32 l).2.1=rest at *
 generalize (cutB 32 l).2.2=more at *
 go_enter Tryz.func60,Tryz.ntmps60
 go_wp2_with fail
 refine hcut.mono ?_
 clear hcut
 rintro e w1 ⟨rfl,hb1⟩
 have HB:Hid (Below w.heap.size w w1):=hb1
 have hd1:=HD.out.later hb1
 have hMk:=HM.out.kept (w':=w1) (fun k hk=>hb1.block k (HD.out.low k (HD.out.yX k hk).1))
 obtain⟨v,hlk,hv⟩:=hMk.at wd (by omega)
 cases ha:YF wd with
 | none=>
  rw[ha]at hlk HR
  have hbad:=((HD.out.belowV HV.out).later HB.out).bad
  replace hlk:(Instr.lookup 48 (.map (some M)) (.string ⟨wd.toArray⟩) true).run Tryz.prog w1=.ok (.tuple #[v,.bool false]) w1:=hlk
  clear hd1 hMk hv hb1
  go_wp2
  go_quiet (fail)
  go_wp2
  go_ret2
  exact Zi.bad (HR.out d badT ⟨rfl,rfl⟩) (HD.out.stays (HB.out.trans ((drewS w1 _).mono HB.out.size)))
 | some a=>
  have hai:=hv a ha
  rw[ha]at hlk HR
  replace hlk:(Instr.lookup 48 (.map (some M)) (.string ⟨wd.toArray⟩) true).run Tryz.prog w1=.ok (.tuple #[v,.bool true]) w1:=hlk
  cases a with
  | text f=>
   obtain⟨b,rfl,hc⟩:=hai
   have hf:=zhg ha
   have hcl:=zf3 hd1 HV.out f hf b hc rest more (by omega)
   unfold fnT at hlk
   clear hd1 hMk hv hb1 hc ha
   go_wp2_with (first|(go_at_call 85;refine hcl.mono ?_;clear hcl;rintro e w2 ⟨d',o,ev,rfl,ht,hlen,hmv⟩;have HF:Hid (Zi q W0 Y (Yx X w.heap.size w1.heap.size) S (X5 f d rest more) w1 (.returned (.tuple #[.string ⟨o.toArray⟩,ev])) w2):=⟨d',o,ev,rfl,ht,hlen,hmv⟩;clear ht hlen hmv))
   go_ret2
   exact(HF.out.ahead HB.out HD.out.low).mono HR.out
  | num c f=>
   obtain⟨b,rfl,hc0,hc⟩:=hai
   have hf:=zir ha
   have hcl:=zf1 hd1 HV.out c f hf b hc0 hc rest more (by omega)
   unfold fnN at hlk
   clear hd1 hMk hv hb1 hc hc0 ha
   go_wp2_with (first|(go_at_call 88;refine hcl.mono ?_;clear hcl;rintro e w2 ⟨d',o,ev,rfl,ht,hlen,hmv⟩;have HF:Hid (Zi q W0 Y (Yx X w.heap.size w1.heap.size) S (numA c f d rest more) w1 (.returned (.tuple #[.string ⟨o.toArray⟩,ev])) w2):=⟨d',o,ev,rfl,ht,hlen,hmv⟩;clear ht hlen hmv))
   go_ret2
   exact(HF.out.ahead HB.out HD.out.low).mono HR.out
def XA(W0:World)(Y X:Nat→Prop)(S:Nat)(d:Desk)(l:List UInt8)(w:World)(e:Ending)(w':World):Prop:=
 ∃d' o,e=.returned (.string ⟨o.toArray⟩)∧Zz d l d' o∧o.length≤20000∧YJ W0 Y X S d' w w'
theorem yc(n:Int):(Ye n).length≤20000:=by
 unfold Ye
 rw[qb]
 repeat' split
 all_goals simp
set_option maxRecDepth 100000 in
theorem zei(h:ZB W0 Y X S d w)(hv:Vars q W0)(M:Nat)(hM:Y5 Y M S w)(l:List UInt8)(hl:l.length≤1000000) :
  Calls Tryz.prog 19 #[.map (some M),.string ⟨l.toArray⟩] w (XA W0 Y X S d l w):=by
 have hdo:=ziY h hv M hM l hl
 have HV:Hid (Vars q W0):=hv
 clear h hv hM
 go_enter Tryz.func19,Tryz.ntmps19
 go_wp2_with fail
 refine hdo.mono ?_
 clear hdo
 rintro e w1 ⟨d',o,ev,rfl,⟨rfl,hr⟩|⟨n,h1,h8,rfl,hr⟩|⟨rfl,hr⟩,hlen,hmv⟩
 ·have HF:Hid (XA W0 Y X S d l w (.returned (.string ⟨o.toArray⟩)) w1):=⟨d',o,rfl,hr,hlen,hmv⟩
  clear hr hlen hmv
  go_wp2
  go_ret
  exact HF.out
 ·have hva:Vars q w1:=by
   obtain⟨Y',X',hd',-⟩:=hmv
   exact hd'.belowV HV.out
  have hae:=zeh n h1 h8 w1 hva
  have HF:Hid (∀w2,Below w1.heap.size w1 w2→XA W0 Y X S d l w (.returned (.string ⟨(Ye n).toArray⟩)) w2):=fun w2 hb=>⟨d',Ye n,rfl,hr,yc n,hmv.later hb⟩
  clear hr hlen hmv hva
  go_wp2_with (first|(go_at_call 61;refine hae.mono ?_;clear hae;rintro e w2 ⟨rfl,hb2⟩;have HF2:Hid (XA W0 Y X S d l w (.returned (.string ⟨(Ye n).toArray⟩)) w2):=HF.out w2 hb2;clear hb2))
  go_ret
  exact HF2.out
 ·have hva:Vars q w1:=by
   obtain⟨Y',X',hd',-⟩:=hmv
   exact hd'.belowV HV.out
  have hae:=zeg w1 hva
  have HF:Hid (∀w2,Below w1.heap.size w1 w2→XA W0 Y X S d l w (.returned (.string ⟨badT.toArray⟩)) w2):=fun w2 hb=>⟨d',badT,rfl,hr,by decide,hmv.later hb⟩
  unfold badV at hae ⊢
  clear hr hlen hmv hva
  go_wp2_with (first|(go_at_call 61;refine hae.mono ?_;clear hae;rintro e w2 ⟨rfl,hb2⟩;have HF2:Hid (XA W0 Y X S d l w (.returned (.string ⟨badT.toArray⟩)) w2):=HF.out w2 hb2;clear hb2))
  go_ret
  exact HF2.out
end
section
open Go.RowKit Go.Deep
def XJ(W0:World)(Q:Nat)(d:Desk)(l:List UInt8)(e:Ending)(w':World):Prop:=
 ∃d' out,e=.returned (.string ⟨out.toArray⟩)∧Zz d l d' out∧ZH W0 Q d' w'
theorem eqS(l m:List UInt8):((⟨l.toArray⟩:ByteArray).toList==m)=decide (l=m):=by
 rw[ByteArray.toList_eq]
 simp[Bool.beq_eq_decide_eq]
variable {W0:World} {Q:Nat} {d:Desk} {w:World}
set_option maxRecDepth 100000 in
set_option maxHeartbeats 2000000 in
theorem lineShow(h:ZH W0 Q d w)(l:List UInt8)(hl:l.length≤1048576)(e:l=YU):Calls Tryz.prog 8 #[.pointer (some ⟨Q,0,none⟩),.string ⟨l.toArray⟩] w (XJ W0 Q d l):=by
 have hw:=y9 l w hl
 have h1:((⟨l.toArray⟩:ByteArray).toList==[115,104,111,119])=true:=by rw[eqS,e];decide
 have HL:Hid (Zz d l d (Yq d.ts)):=(by show Zz _ _ _ _;unfold Zz;rw[if_pos e];exact⟨rfl,rfl⟩)
 have HD:Hid (ZH W0 Q d w):=h
 clear h e
 generalize (⟨l.toArray⟩:ByteArray)=S at *
 generalize (⟨(cutB 32 l).1.toArray⟩:ByteArray)=S1 at *
 generalize (⟨(cutB 32 l).2.1.toArray⟩:ByteArray)=S2 at *
 generalize (cutB 32 l).2.2=more at *
 go_enter Tryz.func8,Tryz.ntmps8
 go_wp2_with fail
 refine hw.mono ?_
 clear hw
 rintro e w1 ⟨rfl,hb1⟩
 have hd1:=HD.out.later hb1
 obtain⟨pv,ov,gv,hq,Y,X,-,-,-,hY,-⟩:=hd1.mem
 obtain⟨c0,c1,c2,cf⟩:=zR hq
 have htx:=zg6 pv d.ts w1 hY.at hd1.ok.pl
 have HD1:Hid (ZH W0 Q d w1):=hd1
 clear hd1 hY hq
 go_wp2_with fail
 refine htx.mono ?_
 clear htx
 rintro e w2 ⟨rfl,hb2⟩
 go_wp2
 go_ret
 exact⟨d,_,rfl,HL.out,HD1.out.later hb2⟩
set_option maxRecDepth 100000 in
set_option maxHeartbeats 2000000 in
theorem lineLeft(h:ZH W0 Q d w)(l:List UInt8)(hl:l.length≤1048576)(e:l=YT):Calls Tryz.prog 8 #[.pointer (some ⟨Q,0,none⟩),.string ⟨l.toArray⟩] w (XJ W0 Q d l):=by
 have hw:=y9 l w hl
 have h1:((⟨l.toArray⟩:ByteArray).toList==[115,104,111,119])=false:=by rw[eqS,e];decide
 have h2:((⟨l.toArray⟩:ByteArray).toList==[108,101,102,116])=true:=by rw[eqS,e];decide
 have HL:Hid (∀o,YP d o→Zz d l d o):=fun o ho=>by unfold Zz;rw[if_neg (by rw[e];decide),if_pos e];exact⟨rfl,ho⟩
 have HD:Hid (ZH W0 Q d w):=h
 clear h e
 generalize (⟨l.toArray⟩:ByteArray)=S at *
 generalize (⟨(cutB 32 l).1.toArray⟩:ByteArray)=S1 at *
 generalize (⟨(cutB 32 l).2.1.toArray⟩:ByteArray)=S2 at *
 generalize (cutB 32 l).2.2=more at *
 go_enter Tryz.func8,Tryz.ntmps8
 go_wp2_with fail
 refine hw.mono ?_
 clear hw
 rintro e w1 ⟨rfl,hb1⟩
 have hd1:=HD.out.later hb1
 have HD1:Hid (ZH W0 Q d w1):=hd1
 cases hg:d.gang with
 | none=>
  obtain⟨pv,ov,gv,hq,Y,X,-,-,-,hY,hG⟩:=hd1.mem
  rw[hg]at hG
  obtain⟨rfl,rfl⟩:=hG
  obtain⟨c0,c1,c2,cf⟩:=zR hq
  have HN:Hid (YP d (Ye 6)):=(by show YP _ _;unfold YP;rw[hg])
  have hnm:=ym 6 w1 (by decide) (by decide)
  clear hd1 hY hq hg
  go_wp2_with fail
  refine hnm.mono ?_
  clear hnm
  rintro e w2 ⟨rfl,hb2⟩
  go_wp2
  go_ret
  exact⟨d,_,rfl,HL.out _ HN.out,HD1.out.later hb2⟩
 | some x=>
  obtain⟨t,n,g⟩:=x
  obtain⟨pv,M,hq,-,-,hlf,-⟩:=hd1.gang hg
  obtain⟨c0,c1,c2,cf⟩:=zR hq
  have HN:Hid (YP d (digs ((unseen g.S t.length:Nat):Int))):=(by show YP _ _;unfold YP;rw[hg])
  have hle:unseen g.S t.length≤1000000:=by
   have h1:=ye g.S t.length
   have h2:=(hd1.ok.gg t n g hg).1.good.le
   omega
  have hdg:=fun wx=>qr (unseen g.S t.length) wx hle
  clear hd1 hq hg
  go_wp2_with fail
  refine hlf.mono ?_
  clear hlf
  rintro e w2 ⟨rfl,hb2⟩
  have hdg2:=hdg w2
  clear hdg hle
  go_wp2_with fail
  refine hdg2.mono ?_
  clear hdg2
  rintro e w3 ⟨rfl,rfl⟩
  go_wp2
  go_ret
  exact⟨d,_,rfl,HL.out _ HN.out,HD1.out.later hb2⟩
set_option maxRecDepth 100000 in
set_option maxHeartbeats 2000000 in
theorem lineNone(h:ZH W0 Q d w)(l:List UInt8)(hl:l.length≤1048576)(e1:l≠YU)(e2:l≠YT)(hm:(cutB 32 l).2.2=false):Calls Tryz.prog 8 #[.pointer (some ⟨Q,0,none⟩),.string ⟨l.toArray⟩] w (XJ W0 Q d l):=by
 have hw:=y9 l w hl
 have h1:((⟨l.toArray⟩:ByteArray).toList==[115,104,111,119])=false:=by rw[eqS];exact decide_eq_false e1
 have h2:((⟨l.toArray⟩:ByteArray).toList==[108,101,102,116])=false:=by rw[eqS];exact decide_eq_false e2
 have HL:Hid (Zz d l d badT):=(by show Zz _ _ _ _;unfold Zz;rw[if_neg e1,if_neg e2,if_pos (zbP hm).2];exact⟨rfl,rfl⟩)
 have HD:Hid (ZH W0 Q d w):=h
 clear h e1 e2
 rw[hm]at hw
 clear hm
 generalize (⟨l.toArray⟩:ByteArray)=S at *
 generalize (⟨(cutB 32 l).1.toArray⟩:ByteArray)=S1 at *
 generalize (⟨(cutB 32 l).2.1.toArray⟩:ByteArray)=S2 at *
 go_enter Tryz.func8,Tryz.ntmps8
 go_wp2_with fail
 refine hw.mono ?_
 clear hw
 rintro e w1 ⟨rfl,hb1⟩
 go_wp2
 go_ret
 exact⟨d,badT,rfl,HL.out,HD.out.later hb1⟩
end
end Go.Proofs.YtlfbdjeojgbniaaGreatDoor

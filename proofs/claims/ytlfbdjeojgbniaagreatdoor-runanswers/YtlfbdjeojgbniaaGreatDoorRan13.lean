import Derived.Test.YtlfbdjeojgbniaaGreatDoorRan12
import Derived.Test.YtlfbdjeojgbniaaGreatDoorRan08
namespace Go.Proofs.YtlfbdjeojgbniaaGreatDoor
section
open Go.RowKit Go.Deep
def Xg(ts:Zl)(hands:Int)(e:Ending):Prop:=
 (∃p q,Zc ts p q∧gErr q hands≠0∧e=.returned (.tuple #[.int .i64 0,errV (gErr q hands)]))∨
 (Zc ts 0 0∧1≤hands∧hands≤6∧∃s:Nat,YO ts hands.toNat s∧e=.returned (.tuple #[.int .i64 s,.nilIface]))
set_option maxRecDepth 100000 in
set_option maxHeartbeats 2000000 in
theorem zdw(v:Value)(ts:Zl)(hands:Int)(w:World)(hp:Zf w v ts) :
  Calls Tryz.prog 11 #[v,.int .i64 hands] w fun e w'=>Xg ts hands e∧Below w.heap.size w w':=by
 have hrun:=ziN v ts hands w hp
 obtain⟨hl,a,c,rfl,hp⟩:=hp
 clear hp
 go_enter Tryz.func11,Tryz.ntmps11
 go_wp2_with fail
 refine hrun.mono ?_
 clear hrun
 rintro e w1 ⟨h,hb1⟩
 rcases h with⟨p,q,hc,hq,rfl⟩|⟨hc,h1,h6,s,bv,hs,rfl,hB⟩
 ·have hev:=zu hq
  have HF:Hid (∀u,u=errV (gErr q hands)→Xg ts hands (.returned (.tuple #[.int .i64 0,u]))):=fun u hu=>Or.inl ⟨p,q,hc,hq,by rw[hu]⟩
  rw[hev]at HF ⊢
  clear hev hq hc
  generalize gErr q hands=g at *
  go_wp2
  go_ret2
  exact⟨HF.out _ rfl,hb1⟩
 ·have HF:Hid (∀k:Nat,k=s→Xg ts hands (.returned (.tuple #[.int .i64 k,.nilIface]))):=fun k hk=>Or.inr ⟨hc,h1,h6,s,hs,by rw[hk]⟩
  have hpos:1≤hands.toNat:=by omega
  have h600:=qn hc.works.1 hands.toNat s
  have hsl:=hs.le hc.works.1 hpos
  by_cases hz:(Zm ts hands.toNat s).length=0
  ·have hs0:=hs.1.none hpos hz
   have HF2:=HF.out 0 hs0.symm
   have HF3:Hid (Xg ts hands (.returned (.tuple #[.int .i64 0,.nilIface]))):=HF2
   obtain⟨ba,bc,rfl⟩:=hB.shape
   rw[hz]
   clear hB hs hc HF HF2 hz hs0
   go_wp2
   go_ret2
   exact⟨HF3.out,hb1⟩
  ·have hlast:=hs.1.last hpos (by omega)
   obtain⟨g,bc,rfl,hg1,hg2,hbc,hcells⟩:=hB.full (by omega)
   have hcl:=(hcells ((Zm ts hands.toNat s).length-1) (by omega)).1
   clear hcells hB hs hc
   generalize ((Zm ts hands.toNat s).getD ((Zm ts hands.toNat s).length-1) (0,0,0)).1=t at *
   generalize (Zm ts hands.toNat s).length=bl at *
   obtain⟨n,rfl⟩:∃n,bl=n+1:=⟨bl-1,by omega⟩
   rw[show n+1-1=n by omega]at hcl
   have HF3:Hid (Xg ts hands (.returned (.tuple #[.int .i64 ((t:Int)+1),.nilIface]))):=HF.out (t+1) hlast
   have hne:(((n+1:Nat):Int)==0)=false:=by rw[beq_eq_false_iff_ne];omega
   have ht:t≤600:=by omega
   clear HF hlast hz hsl
   go_wp2
   go_ret2
   exact⟨HF3.out,hb1⟩
def Xu(ts:Zl)(hands:Int)(e:Ending):Prop:=
 (∃p q,Zc ts p q∧gErr q hands≠0∧e=.returned (.tuple #[.int .i64 0,errV (gErr q hands)]))∨
 (Zc ts 0 0∧1≤hands∧hands≤6∧∃ord,Z9 ts ord∧e=.returned (.tuple #[.int .i64 ((workTo ts ts.length+(hands-1)*Ya (ZO ts ord) ts.length) / hands),.nilIface]))
theorem jl{ts:Zl}{ord:List Nat}(hc:Zc ts 0 0)(ho:Z9 ts ord):0≤Ya (ZO ts ord) ts.length∧Ya (ZO ts ord) ts.length≤600:=by
 have hd:=(YE.of hc ho).deep
 exact⟨zcB _ _,zhG _ _ _ (by omega) (fun x _=>(hd.tlow x).2)⟩
theorem j0{hands sp:Int}(h1:1≤hands)(h6:hands≤6)(h0:0≤sp)(hs:sp≤600):0≤(hands-1)*sp∧(hands-1)*sp≤3000:=by
 have:hands=1∨hands=2∨hands=3∨hands=4∨hands=5∨hands=6:=by omega
 rcases this with rfl|rfl|rfl|rfl|rfl|rfl <;> omega
set_option maxRecDepth 100000 in
set_option maxHeartbeats 2000000 in
theorem zfY(v:Value)(ts:Zl)(hands:Int)(w:World)(hp:Zf w v ts) :
  Calls Tryz.prog 91 #[v,.int .i64 hands] w fun e w'=>Xu ts hands e∧Below w.heap.size w w':=by
 have HP:Hid (Zf w v ts):=hp
 have hck:=zaU v ts hands w hp
 obtain⟨hl,a,c,rfl,hp⟩:=hp
 clear hp
 go_enter Tryz.func91,Tryz.ntmps91
 go_wp2_with fail
 refine hck.mono ?_
 rintro e w1 ⟨⟨p,q,hc,rfl⟩,hb1⟩
 clear hck
 by_cases hq:gErr q hands=0
 ·obtain⟨rfl,h1,h6⟩:=zbV hq
  obtain⟨rfl,-⟩:=hc.ok rfl
  rw[hq,zI]
  have HC:Hid (Zc ts 0 0):=hc
  have hwa:=hc.works.1.all
  clear hc hq
  have hwk:=zin _ ts w1 (HP.out.later hb1)
  go_wp2_with (go_at_call 122;refine hwk.mono ?_;clear hwk;rintro e w2 ⟨h,hb2⟩;obtain⟨_,rfl⟩:Zc ts 0 0∧e=.returned (.tuple #[.int .i64 (workTo ts ts.length),.nilIface]):=h.resolve_left (fun⟨p,q,hq,hc,_⟩=>hq (Zc.det HC.out hc).2.symm);clear h)
  have hsp:=zh6 _ ts w2 ((HP.out.later hb1).later hb2)
  refine hsp.mono ?_
  clear hsp
  rintro e w3 ⟨h,hb3⟩
  obtain⟨hc,ord,ho,rfl⟩:Zc ts 0 0∧∃ord,Z9 ts ord∧e=.returned (.tuple #[.int .i64 (Ya (ZO ts ord) ts.length),.nilIface]):=h.resolve_left (fun⟨p,q,hq,hc,_⟩=>hq (Zc.det HC.out hc).2.symm)
  clear h
  obtain⟨hs0,hs1⟩:=jl hc ho
  obtain⟨hm0,hm1⟩:=j0 h1 h6 hs0 hs1
  have HF:Hid (Xu ts hands (.returned (.tuple #[.int .i64 ((workTo ts ts.length+(hands-1)*Ya (ZO ts ord) ts.length) / hands),.nilIface]))):=Or.inr ⟨hc,h1,h6,ord,ho,rfl⟩
  have hb4:Below w.heap.size w w3:=(hb1.trans (hb2.mono hb1.size)).trans (hb3.mono (qq2 hb1.size hb2.size))
  clear ho hc
  generalize Ya (ZO ts ord) ts.length=sp at *
  generalize workTo ts ts.length=wk at *
  generalize hmul:(hands-1)*sp=pr at *
  go_wp2
  go_ret2
  exact⟨HF.out,hb4⟩
 ·have hev:=zu hq
  rw[hev]
  have HQ:Hid (gErr q hands≠0):=hq
  have HF:Hid (∀u,u=errV (gErr q hands)→Xu ts hands (.returned (.tuple #[.int .i64 0,u]))):=fun u hu=>Or.inl ⟨p,q,hc,HQ.out,by rw[hu]⟩
  rw[hev]at HF
  clear hev hq HQ hc
  generalize gErr q hands=g at *
  go_wp2
  go_ret2
  exact⟨HF.out _ rfl,hb1⟩
theorem ZP.det{ts:Zl}{T:Nat→Bool}{r r':Int}(h:ZP ts T r)(h':ZP ts T r'):r=r':=by
 rcases h with⟨k,h1,h2,h3,rfl⟩|⟨h,rfl⟩
 ·rcases h' with⟨k',g1,g2,g3,rfl⟩|⟨g,rfl⟩
  ·rcases Nat.lt_trichotomy k k' with e|e|e
   ·rw[g2 k e]at h3;cases h3
   ·rw[e]
   ·rw[h2 k' e]at g3;cases g3
  ·rw[g k h1]at h3;cases h3
 ·rcases h' with⟨k',g1,g2,g3,rfl⟩|⟨g,rfl⟩
  ·rw[h k' g1]at g3;cases g3
  ·rfl
theorem Z9.det{ts:Zl}{a b:List Nat}(h:Z9 ts a)(h':Z9 ts b)(hc:Zc ts 0 0):a=b:=by
 have la:=(YE.of hc h).len
 have lb:=(YE.of hc h').len
 have key:∀m,m≤ts.length→a.take m=b.take m:=by
  intro m
  induction m with
  | zero=>intro _;rfl
  | succ m ih=>
   intro hm
   have e:=ih (by omega)
   have h1:=h.1 m (by omega)
   have h2:=h'.1 m (by omega)
   rw[e]at h1
   have e2:=h1.det h2
   have e3:a.getD m 0=b.getD m 0:=by omega
   rw[xm (by omega),xm (by omega)]at e3
   rw[qq8 (by omega),qq8 (by omega),e,e3]
 have:=key ts.length (qq1 _)
 rw[List.take_of_length_le (by omega),List.take_of_length_le (by omega)]at this
 exact this
def YU:List UInt8:=[115,104,111,119]
def YT:List UInt8:=[108,101,102,116]
def YC:List UInt8:=[119,101,97,118,101]
def Y0:List UInt8:=[112,108,97,110]
def Yt:List UInt8:=[103,114,101,101,100,121]
def Y9:List UInt8:=[103,97,110,103]
def Xa:List UInt8:=[115,116,101,112]
def okT:List UInt8:=[111,107]
def badT:List UInt8:=[98,97,100]
def XN:List UInt8:=[116,111,111,32,108,111,110,103,10]
def Ye(e:Int):List UInt8:=
 [69,114,114]++(if e=1 then [82,97,110,103,101] else if e=2 then [83,121,110,116,97,120] else if e=3 then [83,104,97,112,101] else if e=4 then [70,117,108,108] else if e=5 then [78,111,110,101] else if e=6 then [83,116,97,116,101] else if e=7 then [67,108,97,115,104] else [67,121,99,108,101])
def twoT(a b:Int):List UInt8:=digs a++32::digs b
structure Desk where
 ts:Zl
 gang:Option (Zl×Nat×Gs)
def Desk.new:Desk:=⟨[],none⟩
def Yv(d:Desk)(n:Nat)(d':Desk)(out:List UInt8):Prop:=
 d'=d∧((¬(1≤n∧n≤6)∧out=Ye 1)∨((1≤n∧n≤6)∧∃s ord,YO d.ts n s∧Z9 d.ts ord∧out=twoT (s:Int) ((workTo d.ts d.ts.length+((n:Int)-1)*Ya (ZO d.ts ord) d.ts.length) / (n:Int))))
def Yi(d:Desk)(n:Nat)(d':Desk)(out:List UInt8):Prop:=
 if 1≤n∧n≤6 then d'={ d with gang:=some (d.ts,n,gnew d.ts) }∧out=okT else d'=d∧out=Ye 1
def rowT(ds:List Deed):List UInt8:=if ds=[] then [45] else ds.flatMap (fun x=>Zn x++[59])
def Z5(d:Desk)(h k:Nat)(d':Desk)(out:List UInt8):Prop:=
 match d.gang with
 | none=>d'=d∧out=Ye 6
 | some (t,hands,g)=>if hands≤h then d'=d∧out=Ye 1 else d'={ d with gang:=some (t,hands,gstep t 4 hands g h k) }∧out=rowT (gdeeds t hands g h k)
def ZV(d:Desk)(w:List UInt8)(ns:List Nat)(d':Desk)(out:List UInt8):Prop:=
 if w=Yt∧ns.length=1 then Yv d (ns.getD 0 0) d' out
 else if w=Y9∧ns.length=1 then Yi d (ns.getD 0 0) d' out
 else if w=Xa∧ns.length=2 then Z5 d (ns.getD 0 0) (ns.getD 1 0) d' out
 else d'=d∧out=badT
def YH(d:Desk)(rest:List UInt8)(d':Desk)(out:List UInt8):Prop:=
 (∃q,q≠0∧Yg rest q∧d'=d∧out=Ye q)∨(∃t,YA rest t∧d'={ d with ts:=t.lay V1 [] }∧out=twoT (t.work V1) (t.span V1))
def YQ(d:Desk)(rest:List UInt8)(d':Desk)(out:List UInt8):Prop:=
 (ZW rest=none∧d'=d∧out=Ye 2)∨(∃ts p q,ZW rest=some ts∧Zc ts p q∧((q≠0∧d'=d∧out=Ye q)∨(q=0∧d'={ d with ts:=ts }∧out=okT)))
def Xe(d:Desk)(w rest:List UInt8)(d':Desk)(out:List UInt8):Prop:=
 if w=YC then YH d rest d' out
 else if w=Y0 then YQ d rest d' out
 else match Zq Ze (Zd 32 rest) with
  | none=>d'=d∧out=badT
  | some ns=>ZV d w ns d' out
def YP(d:Desk)(out:List UInt8):Prop:=
 match d.gang with
 | none=>out=Ye 6
 | some (t,_,g)=>out=digs ((unseen g.S t.length:Nat):Int)
def Zz(d:Desk)(l:List UInt8)(d':Desk)(out:List UInt8):Prop:=
 if l=YU then d'=d∧out=Yq d.ts
 else if l=YT then d'=d∧YP d out
 else if (32:UInt8)∉l then d'=d∧out=badT
 else Xe d (cutB 32 l).1 (cutB 32 l).2.1 d' out
def Yw:Desk→List (List UInt8)→Desk→List UInt8→Prop
 | d,[],d',out=>d'=d∧out=[]
 | d,l::r,d',out=>∃d1 o o2,Zz d l d1 o∧Yw d1 r d' o2∧out=o++10::o2
def Xk(t:List UInt8):List (List UInt8):=if (Zd 10 t).getLast?=some [] then (Zd 10 t).dropLast else Zd 10 t
def ZS(t:List UInt8)(out:List UInt8):Prop:=if 3000<t.length then out=XN else ∃d,Yw Desk.new (Xk t) d out
structure Desk.Ok (d:Desk):Prop where
 pl:Zc d.ts 0 0
 gg:∀t hands g,d.gang=some (t,hands,g)→Zc t 0 0∧1≤hands∧hands≤6∧Inv t 4 hands g
theorem zfZ:Zc [] 0 0:=Zc.none (by simp) (fun j hj=>by simp at hj) (fun j hj=>by simp at hj)
theorem Desk.Ok.new:Desk.new.Ok:=⟨zfZ,fun t hands g h=>by cases h⟩
theorem zcT{l:List UInt8}{q q':Int}(h:Yg l q)(h':Yg l q'):q=q':=by
 rcases h with⟨h1,rfl⟩|⟨h1,h2,rfl⟩|⟨t,h1,h2,h3,rfl⟩
 ·rcases h' with⟨g1,rfl⟩|⟨g1,g2,rfl⟩|⟨t',g1,g2,g3,rfl⟩
  ·rfl
  ·omega
  ·omega
 ·rcases h' with⟨g1,rfl⟩|⟨g1,g2,rfl⟩|⟨t',g1,g2,g3,rfl⟩
  ·omega
  ·rfl
  ·exact(h2.not t' g2).elim
 ·rcases h' with⟨g1,rfl⟩|⟨g1,g2,rfl⟩|⟨t',g1,g2,g3,rfl⟩
  ·omega
  ·exact(g2.not t h2).elim
  ·obtain rfl:=h2.det g2
   rfl
theorem YH.det{d d1 d2:Desk}{r o1 o2:List UInt8}(h:YH d r d1 o1)(h':YH d r d2 o2):d1=d2∧o1=o2:=by
 rcases h with⟨q,hq,he,rfl,rfl⟩|⟨t,ht,rfl,rfl⟩
 ·rcases h' with⟨q',hq',he',rfl,rfl⟩|⟨t',ht',rfl,rfl⟩
  ·rw[zcT he he'];exact⟨rfl,rfl⟩
  ·exact(he.not_ok hq ht').elim
 ·rcases h' with⟨q',hq',he',rfl,rfl⟩|⟨t',ht',rfl,rfl⟩
  ·exact(he'.not_ok hq' ht).elim
  ·rw[ht.det ht'];exact⟨rfl,rfl⟩
theorem YQ.det{d d1 d2:Desk}{r o1 o2:List UInt8}(h:YQ d r d1 o1)(h':YQ d r d2 o2):d1=d2∧o1=o2:=by
 rcases h with⟨h1,rfl,rfl⟩|⟨ts,p,q,h1,hc,hx⟩
 ·rcases h' with⟨g1,rfl,rfl⟩|⟨ts',p',q',g1,gc,gx⟩
  ·exact⟨rfl,rfl⟩
  ·rw[h1]at g1;cases g1
 ·rcases h' with⟨g1,rfl,rfl⟩|⟨ts',p',q',g1,gc,gx⟩
  ·rw[g1]at h1;cases h1
  ·obtain rfl:ts=ts':=Option.some.inj (h1.symm.trans g1)
   obtain⟨rfl,rfl⟩:=hc.det gc
   rcases hx with⟨h2,rfl,rfl⟩|⟨h2,rfl,rfl⟩
   ·rcases gx with⟨g2,rfl,rfl⟩|⟨g2,rfl,rfl⟩
    ·exact⟨rfl,rfl⟩
    ·exact absurd g2 h2
   ·rcases gx with⟨g2,rfl,rfl⟩|⟨g2,rfl,rfl⟩
    ·exact absurd h2 g2
    ·exact⟨rfl,rfl⟩
theorem zh7{ts:Zl}{a b:List Nat}(hc:Zc ts 0 0)(h:Z9 ts a)(h':Z9 ts b):Ya (ZO ts a) ts.length=Ya (ZO ts b) ts.length:=by
 rw[h.det h' hc]
theorem Yv.det{d d1 d2:Desk}{n:Nat}{o1 o2:List UInt8}(hok:d.Ok)(h:Yv d n d1 o1)(h':Yv d n d2 o2):d1=d2∧o1=o2:=by
 obtain⟨rfl,h⟩:=h
 obtain⟨rfl,h'⟩:=h'
 refine⟨rfl,?_⟩
 rcases h with⟨h1,rfl⟩|⟨h1,s,ord,hs,ho,rfl⟩
 ·rcases h' with⟨g1,rfl⟩|⟨g1,s',ord',gs,go,rfl⟩
  ·rfl
  ·exact absurd g1 h1
 ·rcases h' with⟨g1,rfl⟩|⟨g1,s',ord',gs,go,rfl⟩
  ·exact absurd h1 g1
  ·rw[hs.det gs,zh7 hok.pl ho go]
theorem Zz.det{d d1 d2:Desk}{l o1 o2:List UInt8}(hok:d.Ok)(h:Zz d l d1 o1)(h':Zz d l d2 o2):d1=d2∧o1=o2:=by
 unfold Zz at h h'
 by_cases e1:l=YU
 ·rw[if_pos e1]at h h'
  exact⟨h.1.trans h'.1.symm,h.2.trans h'.2.symm⟩
 rw[if_neg e1]at h h'
 by_cases e2:l=YT
 ·rw[if_pos e2]at h h'
  refine⟨h.1.trans h'.1.symm,?_⟩
  obtain⟨-,h⟩:=h
  obtain⟨-,h'⟩:=h'
  unfold YP at h h'
  revert h h'
  cases d.gang with
  | none=>exact fun h h'=>h.trans h'.symm
  | some x=>exact fun h h'=>h.trans h'.symm
 rw[if_neg e2]at h h'
 by_cases e3:(32:UInt8)∉l
 ·rw[if_pos e3]at h h'
  exact⟨h.1.trans h'.1.symm,h.2.trans h'.2.symm⟩
 rw[if_neg e3]at h h'
 unfold Xe at h h'
 by_cases e4:(cutB 32 l).1=YC
 ·rw[if_pos e4]at h h';exact h.det h'
 rw[if_neg e4]at h h'
 by_cases e5:(cutB 32 l).1=Y0
 ·rw[if_pos e5]at h h';exact h.det h'
 rw[if_neg e5]at h h'
 revert h h'
 cases Zq Ze (Zd 32 (cutB 32 l).2.1) with
 | none=>exact fun h h'=>⟨h.1.trans h'.1.symm,h.2.trans h'.2.symm⟩
 | some ns=>
  intro h h'
  have h:ZV d (cutB 32 l).1 ns d1 o1:=h
  have h':ZV d (cutB 32 l).1 ns d2 o2:=h'
  unfold ZV at h h'
  by_cases e6:(cutB 32 l).1=Yt∧ns.length=1
  ·rw[if_pos e6]at h h';exact h.det hok h'
  rw[if_neg e6]at h h'
  by_cases e7:(cutB 32 l).1=Y9∧ns.length=1
  ·rw[if_pos e7]at h h'
   unfold Yi at h h'
   by_cases e8:1≤ns.getD 0 0∧ns.getD 0 0≤6
   ·rw[if_pos e8]at h h';exact⟨h.1.trans h'.1.symm,h.2.trans h'.2.symm⟩
   ·rw[if_neg e8]at h h';exact⟨h.1.trans h'.1.symm,h.2.trans h'.2.symm⟩
  rw[if_neg e7]at h h'
  by_cases e8:(cutB 32 l).1=Xa∧ns.length=2
  ·rw[if_pos e8]at h h'
   unfold Z5 at h h'
   revert h h'
   cases d.gang with
   | none=>exact fun h h'=>⟨h.1.trans h'.1.symm,h.2.trans h'.2.symm⟩
   | some x=>
    obtain⟨t,hands,g⟩:=x
    intro h h'
    dsimp only at h h'
    by_cases e9:hands≤ns.getD 0 0
    ·rw[if_pos e9]at h h';exact⟨h.1.trans h'.1.symm,h.2.trans h'.2.symm⟩
    ·rw[if_neg e9]at h h';exact⟨h.1.trans h'.1.symm,h.2.trans h'.2.symm⟩
  rw[if_neg e8]at h h'
  exact⟨h.1.trans h'.1.symm,h.2.trans h'.2.symm⟩
end
section
def Tree.leaves:Tree→List (List UInt8)
 | .num ds=>[ds]
 | .seq a b=>a.leaves++b.leaves
 | .par a b=>a.leaves++b.leaves
theorem Tree.leaves_length(t:Tree):t.leaves.length=t.count:=by
 induction t with
 | num ds=>rfl
 | seq a b iha ihb=>simp[Tree.leaves,Tree.count,iha,ihb]
 | par a b iha ihb=>simp[Tree.leaves,Tree.count,iha,ihb]
def Yc(ts:Zl):List Int:=ts.map (·.1)
theorem zfn(zs:List Int)(ts:Zl)(x:Nat):Yc (setN zs ts x)=Yc ts:=by
 apply List.ext_getElem?
 intro i
 unfold Yc setN
 rw[List.getElem?_map,List.getElem?_map,List.getElem?_set]
 by_cases h:x=i
 ·subst h
  by_cases hl:x<ts.length
  ·simp[hl]
  ·simp[hl]
 ·simp[h]
theorem zcL(fs:List Nat)(zs:List Int)(ts:Zl):Yc (YB fs zs ts)=Yc ts:=by
 induction fs generalizing ts with
 | nil=>rfl
 | cons f r ih=>show Yc (YB r zs (setN zs ts f))=_;rw[ih,zfn]
theorem Tree.lay_works(V:List UInt8→Int)(t:Tree):∀ts,Yc (t.lay V ts)=Yc ts++t.leaves.map V:=by
 induction t with
 | num ds=>intro ts;simp[Tree.lay,Yc,Tree.leaves]
 | seq a b iha ihb=>intro ts;simp only[Tree.lay,Tree.leaves,zcL];rw[ihb,iha];simp
 | par a b iha ihb=>intro ts;simp only[Tree.lay,Tree.leaves];rw[ihb,iha];simp
theorem zfA(ts:Zl)(x:Nat):wkOf ts x=(Yc ts).getD x 0:=by
 unfold wkOf Yc
 simp only[List.getD_eq_getElem?_getD,List.getElem?_map]
 cases ts[x]? <;> rfl
def nds(n:Nat):Tree→Nat→List Int
 | .num _,_=>[]
 | .seq a b,x=>if x<n+a.count then nds n a x else if x∈b.first (n+a.count) then Zj (a.last n) else nds (n+a.count) b x
 | .par a b,x=>if x<n+a.count then nds n a x else nds (n+a.count) b x
theorem Tree.lay_nds(V:List UInt8→Int)(t:Tree):∀ts x,ts.length≤x→x<ts.length+t.count→Za (t.lay V ts) x=nds ts.length t x:=by
 induction t with
 | num ds=>
  intro ts x h1 h2
  simp only[Tree.count]at h2
  obtain rfl:x=ts.length:=by omega
  simp[Za,Tree.lay,nds]
 | seq a b iha ihb=>
  intro ts x h1 h2
  simp only[Tree.count]at h2
  unfold Za
  simp only[Tree.lay,nds]
  rw[yS _ _ _ _ (by rw[b.lay_length,a.lay_length];omega)]
  by_cases hx:x<ts.length+a.count
  ·rw[if_pos hx,if_neg (fun h=>by have:=b.first_range _ _ h;omega),b.lay_old V _ _ (by rw[a.lay_length];omega)]
   exact iha ts x h1 hx
  ·rw[if_neg hx]
   split
   ·rfl
   ·have:=ihb (a.lay V ts) x (by rw[a.lay_length];omega) (by rw[a.lay_length];omega)
    rw[a.lay_length]at this
    exact this
 | par a b iha ihb=>
  intro ts x h1 h2
  simp only[Tree.count]at h2
  unfold Za
  simp only[Tree.lay,nds]
  by_cases hx:x<ts.length+a.count
  ·rw[if_pos hx,b.lay_old V _ _ (by rw[a.lay_length];omega)]
   exact iha ts x h1 hx
  ·rw[if_neg hx]
   have:=ihb (a.lay V ts) x (by rw[a.lay_length];omega) (by rw[a.lay_length];omega)
   rw[a.lay_length]at this
   exact this
theorem jg{l:List Nat}{y:Int}:y∈Zj l↔∃k,k∈l∧y=(k:Nat):=by
 simp only[Zj,List.mem_map]
 constructor
 ·rintro⟨k,hk,rfl⟩;exact⟨k,hk,rfl⟩
 ·rintro⟨k,hk,rfl⟩;exact⟨k,hk,rfl⟩
theorem zb2(t:Tree):∀n x y,n≤x→x<n+t.count→y∈nds n t x→∃k:Nat,y=k∧n≤k∧k<x∧k∉t.last n:=by
 induction t with
 | num ds=>intro n x y _ _ h;simp[nds]at h
 | seq a b iha ihb=>
  intro n x y h1 h2 h
  simp only[Tree.count]at h2
  simp only[nds]at h
  simp only[Tree.last]
  by_cases hx:x<n+a.count
  ·rw[if_pos hx]at h
   obtain⟨k,rfl,g1,g2,_⟩:=iha n x y h1 hx h
   exact⟨k,rfl,g1,g2,fun hl=>by have:=b.last_range _ _ hl;omega⟩
  ·rw[if_neg hx]at h
   by_cases hf:x∈b.first (n+a.count)
   ·rw[if_pos hf]at h
    obtain⟨k,hk,rfl⟩:=jg.1 h
    have:=a.last_range _ _ hk
    exact⟨k,rfl,by omega,by omega,fun hl=>by have:=b.last_range _ _ hl;omega⟩
   ·rw[if_neg hf]at h
    obtain⟨k,rfl,g1,g2,g3⟩:=ihb _ x y (by omega) (by omega) h
    exact⟨k,rfl,by omega,g2,g3⟩
 | par a b iha ihb=>
  intro n x y h1 h2 h
  simp only[Tree.count]at h2
  simp only[nds]at h
  simp only[Tree.last,List.mem_append,not_or]
  by_cases hx:x<n+a.count
  ·rw[if_pos hx]at h
   obtain⟨k,rfl,g1,g2,g3⟩:=iha n x y h1 hx h
   exact⟨k,rfl,g1,g2,g3,fun hl=>by have:=b.last_range _ _ hl;omega⟩
  ·rw[if_neg hx]at h
   obtain⟨k,rfl,g1,g2,g3⟩:=ihb _ x y (by omega) (by omega) h
   exact⟨k,rfl,by omega,g2,fun hl=>by have:=a.last_range _ _ hl;omega,g3⟩
theorem zbD{a b:List Int}(ha:rising a=true)(hb:rising b=true)(h:∀x,x∈a→∀y,y∈b→x<y):rising (a++b)=true:=by
 induction a with
 | nil=>exact hb
 | cons x r ih=>
  cases r with
  | nil=>
   cases b with
   | nil=>exact ha
   | cons y s=>
    simp only[List.cons_append,List.nil_append,rising,Bool.and_eq_true,decide_eq_true_eq]
    exact⟨h x (by simp) y (by simp),hb⟩
  | cons z r=>
   simp only[rising,Bool.and_eq_true,decide_eq_true_eq]at ha
   have:=ih ha.2 (fun u hu=>h u (by simp at hu ⊢;exact Or.inr hu))
   simp only[List.cons_append,rising,Bool.and_eq_true,decide_eq_true_eq]
   exact⟨ha.1,this⟩
theorem Tree.last_rising(t:Tree):∀n,rising (Zj (t.last n))=true:=by
 induction t with
 | num ds=>intro n;rfl
 | seq a b _ ihb=>intro n;exact ihb _
 | par a b iha ihb=>
  intro n
  simp only[Tree.last,Zj,List.map_append]
  refine zbD (iha n) (ihb _) (fun x hx y hy=>?_)
  obtain⟨k,hk,rfl⟩:=jg.1 hx
  obtain⟨j,hj,rfl⟩:=jg.1 hy
  have:=a.last_range _ _ hk
  have:=b.last_range _ _ hj
  omega
theorem zeX(t:Tree):∀n x,rising (nds n t x)=true:=by
 induction t with
 | num ds=>intro n x;rfl
 | seq a b iha ihb=>
  intro n x
  simp only[nds]
  split
  ·exact iha n x
  ·split
   ·exact a.last_rising n
   ·exact ihb _ x
 | par a b iha ihb=>
  intro n x
  simp only[nds]
  split
  ·exact iha n x
  ·exact ihb _ x
theorem Tree.check(V:List UInt8→Int)(t:Tree)(hc:t.count≤30)(hv:∀ds,ds∈t.leaves→1≤V ds∧V ds≤20):Zc (t.lay V []) 0 0:=by
 have hlen:(t.lay V []).length=t.count:=by rw[t.lay_length];simp
 have hnd:∀x,x<t.count→Za (t.lay V []) x=nds 0 t x:=fun x hx=>t.lay_nds V [] x (Nat.zero_le _) (by simpa using hx)
 have hwk:∀x,x<t.count→1≤wkOf (t.lay V []) x∧wkOf (t.lay V []) x≤20:=fun x hx=>by
  rw[zfA,t.lay_works]
  have hl:x<t.leaves.length:=by rw[t.leaves_length];exact hx
  simp only[Yc,List.map_nil,List.nil_append,List.getD_eq_getElem?_getD,List.getElem?_map,List.getElem?_eq_getElem hl,Option.map_some,Option.getD_some]
  exact hv _ (List.getElem_mem hl)
 refine Zc.none (by omega) (fun j hj=>?_) (fun j hj hr=>?_)
 ·rw[hlen]at hj
  unfold ZJ ZT
  have:=hwk j hj
  unfold wkOf at this
  rw[if_neg (by omega),hnd j hj]
  have hany:((nds 0 t j).any fun n=>!Zr n ((t.lay V []).length:Nat))=false:=by
   rw[List.any_eq_false]
   intro y hy
   obtain⟨k,rfl,_,g2,_⟩:=zb2 t 0 j y (Nat.zero_le _) (by omega) hy
   simp[Zr];omega
  rw[hany]
  simp[zeX]
 ·have key:∀{x y},x<t.count→Zs (t.lay V []) x y→y<x:=by
   intro x y hx hr
   have hn:∀{a b},a<t.count→Need (t.lay V []) a b→b<a:=fun {a b} ha hn=>by
    unfold Need at hn
    rw[hnd a ha]at hn
    obtain⟨k,e,_,g2,_⟩:=zb2 t 0 a _ (Nat.zero_le _) (by omega) hn
    omega
   induction hr using Zs.ind with
   | one h=>exact hn hx h
   | more _ h ih=>have:=hn (by omega) h;omega
  have:=key (by omega) hr
  omega
end
section
def XK(ds:List UInt8):Prop:=∃d r,ds=d::r∧ZR d=true∧d≠48
theorem XK.pos{ds:List UInt8}(h:XK ds):1≤V1 ds:=by
 obtain⟨d,r,rfl,h1,h2⟩:=h
 have key:∀(r:List UInt8) (n:Nat),1≤n→1≤r.foldl cap1 n:=by
  intro r
  induction r with
  | nil=>intro n hn;exact hn
  | cons x r ih=>intro n hn;exact ih _ (by unfold cap1;omega)
 have hd:49≤d.toNat:=by
  simp[ZR]at h1
  have:d.toNat≠48:=fun e=>h2 (UInt8.toNat_inj.1 e)
  omega
 have:=key r (cap1 0 d) (by unfold cap1;omega)
 unfold V1
 show 1≤((r.foldl cap1 (cap1 0 d):Nat):Int)
 omega
def Qz:Kind→Prop
 | .chainL t=>∀ds,ds∈t.leaves→XK ds
 | .weaveL t=>∀ds,ds∈t.leaves→XK ds
 | _=>True
theorem Gr.leaves{k:Kind}{s:List UInt8}{r:Option (Tree×List UInt8)}(h:Gr k s r):Qz k→∀t s2,r=some (t,s2)→∀ds,ds∈t.leaves→XK ds:=by
 induction h with
 | num _=>
  rename_i s _
  intro _ t s2 h ds hd
  obtain⟨d,r,e1,e2,rfl,_⟩:=ze2 h
  simp[Tree.leaves]at hd
  subst hd
  have:=(zaC s).2.1 d (by rw[e1];simp)
  exact⟨d,r,rfl,this,e2⟩
 | opened _ _=>intro _ t s2 h;cases h
 | unshut _ _ _=>intro _ t s2 h;cases h
 | signs _ ih=>intro _ t s2 h;simp at h;obtain⟨rfl,_⟩:=h;exact ih trivial _ _ rfl
 | chainNo _ _=>intro _ t s2 h;cases h
 | chainOf _ _ ih1 ih2=>intro _ t s2 h;exact ih2 (ih1 trivial _ _ rfl) t s2 h
 | chainEnd _=>intro ha t s2 h;simp at h;rw[←h.1];exact ha
 | chainBad _ _=>intro _ t s2 h;cases h
 | chainMore _ _ ih1 ih2=>
  intro ha t s2 h
  refine ih2 (fun ds hd=>?_) t s2 h
  simp only[Tree.leaves,List.mem_append]at hd
  exact hd.elim (ha ds) (ih1 trivial _ _ rfl ds)
 | weaveNo _ _=>intro _ t s2 h;cases h
 | weaveOf _ _ ih1 ih2=>intro _ t s2 h;exact ih2 (ih1 trivial _ _ rfl) t s2 h
 | weaveEnd _=>intro ha t s2 h;simp at h;rw[←h.1];exact ha
 | weaveBad _ _=>intro _ t s2 h;cases h
 | weaveMore _ _ ih1 ih2=>
  intro ha t s2 h
  refine ih2 (fun ds hd=>?_) t s2 h
  simp only[Tree.leaves,List.mem_append]at hd
  exact hd.elim (ha ds) (ih1 trivial _ _ rfl ds)
theorem Whole.pos{l:List UInt8}{t:Tree}(h:Whole l t){ds:List UInt8}(hd:ds∈t.leaves):1≤V1 ds:=(h.leaves trivial t [] rfl ds hd).pos
theorem zem(t:Tree):big (t.lay V1 [])=t.leaves.any fun ds=>decide (20<V1 ds):=by
 have h1:big (t.lay V1 [])=(Yc (t.lay V1 [])).any fun n=>decide (20<n):=by
  unfold big Yc
  rw[List.any_map]
  rfl
 rw[h1,t.lay_works]
 simp only[Yc,List.map_nil,List.nil_append,List.any_map]
 rfl
theorem zbo{t:Tree}:ZY (t.lay V1 [])=0↔t.count≤30∧∀ds,ds∈t.leaves→V1 ds≤20:=by
 have hlen:(t.lay V1 []).length=t.count:=by rw[t.lay_length];simp
 unfold ZY
 rw[zem,hlen]
 cases hb:t.leaves.any fun ds=>decide (20<V1 ds) with
 | true=>
  simp only[if_true]
  rw[List.any_eq_true]at hb
  obtain⟨ds,h1,h2⟩:=hb
  constructor
  ·intro h;omega
  ·intro ⟨_,h⟩
   have:=h ds h1
   simp at h2;omega
 | false=>
  simp only[Bool.false_eq_true,if_false]
  rw[List.any_eq_false]at hb
  constructor
  ·intro h
   split at h
   ·omega
   ·exact⟨by omega,fun ds hd=>by have:=hb ds hd;simp at this;omega⟩
  ·intro ⟨h,_⟩
   rw[if_neg (by omega)]
theorem YA.facts{l:List UInt8}{t:Tree}(h:YA l t):t.count≤30∧∀ds,ds∈t.leaves→1≤V1 ds∧V1 ds≤20:=by
 obtain⟨h1,h2⟩:=zbo.1 h.2.2
 exact⟨h1,fun ds hd=>⟨h.2.1.pos hd,h2 ds hd⟩⟩
theorem YA.check{l:List UInt8}{t:Tree}(h:YA l t):Zc (t.lay V1 []) 0 0:=t.check V1 h.facts.1 h.facts.2
end
section
open Go.RowKit Go.Deep
theorem qE{ts:Zl}(hc:Zc ts 0 0):∀i,i<ts.length→1≤Zv ts i:=fun i hi=>by
 have h2:=(hc.ok rfl).2.2.1 i hi
 unfold ZJ ZT at h2
 have h3:¬((ts.getD i (0,[])).1<1∨20<(ts.getD i (0,[])).1):=fun e=>by rw[if_pos e]at h2;omega
 unfold Zv
 omega
theorem YH.ok{d d':Desk}{r o:List UInt8}(hok:d.Ok)(h:YH d r d' o):d'.Ok:=by
 rcases h with⟨q,-,-,rfl,-⟩|⟨t,ht,rfl,-⟩
 ·exact hok
 ·exact⟨ht.check,hok.gg⟩
theorem YQ.ok{d d':Desk}{r o:List UInt8}(hok:d.Ok)(h:YQ d r d' o):d'.Ok:=by
 rcases h with⟨-,rfl,-⟩|⟨ts,p,q,-,hc,⟨-,rfl,-⟩|⟨rfl,rfl,-⟩⟩
 ·exact hok
 ·exact hok
 ·obtain⟨rfl,-⟩:=hc.ok rfl
  exact⟨hc,hok.gg⟩
theorem Yi.ok{d d':Desk}{n:Nat}{o:List UInt8}(hok:d.Ok)(h:Yi d n d' o):d'.Ok:=by
 unfold Yi at h
 by_cases e:1≤n∧n≤6
 ·rw[if_pos e]at h
  obtain⟨rfl,-⟩:=h
  refine⟨hok.pl,fun t hands g hg=>?_⟩
  cases hg
  exact⟨hok.pl,e.1,e.2,Inv.new e.1⟩
 ·rw[if_neg e]at h
  obtain⟨rfl,-⟩:=h
  exact hok
theorem Z5.ok{d d':Desk}{h k:Nat}{o:List UInt8}(hok:d.Ok)(hs:Z5 d h k d' o):d'.Ok:=by
 obtain⟨ts,gang⟩:=d
 unfold Z5 at hs
 cases gang with
 | none=>
  obtain⟨rfl,-⟩:=hs
  exact hok
 | some x=>
  obtain⟨t,hands,g⟩:=x
  dsimp only at hs
  by_cases e:hands≤h
  ·rw[if_pos e]at hs
   obtain⟨rfl,-⟩:=hs
   exact hok
  ·rw[if_neg e]at hs
   obtain⟨rfl,-⟩:=hs
   refine⟨hok.pl,fun t' hands' g' hg=>?_⟩
   obtain⟨h1,h2,h3,h4⟩:=hok.gg t hands g rfl
   cases hg
   exact⟨h1,h2,h3,h4.step h1.good (qE h1) (by omega) (by omega) k⟩
theorem Zz.ok{d d':Desk}{l o:List UInt8}(hok:d.Ok)(h:Zz d l d' o):d'.Ok:=by
 unfold Zz at h
 by_cases e1:l=YU
 ·rw[if_pos e1]at h
  exact h.1▸hok
 rw[if_neg e1]at h
 by_cases e2:l=YT
 ·rw[if_pos e2]at h
  exact h.1▸hok
 rw[if_neg e2]at h
 by_cases e3:(32:UInt8)∉l
 ·rw[if_pos e3]at h
  exact h.1▸hok
 rw[if_neg e3]at h
 unfold Xe at h
 by_cases e4:(cutB 32 l).1=YC
 ·rw[if_pos e4]at h;exact h.ok hok
 rw[if_neg e4]at h
 by_cases e5:(cutB 32 l).1=Y0
 ·rw[if_pos e5]at h;exact h.ok hok
 rw[if_neg e5]at h
 revert h
 cases Zq Ze (Zd 32 (cutB 32 l).2.1) with
 | none=>exact fun h=>h.1▸hok
 | some ns=>
  intro h
  have h:ZV d (cutB 32 l).1 ns d' o:=h
  unfold ZV at h
  by_cases e6:(cutB 32 l).1=Yt∧ns.length=1
  ·rw[if_pos e6]at h;exact h.1▸hok
  rw[if_neg e6]at h
  by_cases e7:(cutB 32 l).1=Y9∧ns.length=1
  ·rw[if_pos e7]at h;exact h.ok hok
  rw[if_neg e7]at h
  by_cases e8:(cutB 32 l).1=Xa∧ns.length=2
  ·rw[if_pos e8]at h;exact h.ok hok
  rw[if_neg e8]at h
  exact h.1▸hok
theorem Yw.det:∀{ls:List (List UInt8)} {d d1 d2:Desk} {o1 o2:List UInt8},d.Ok→Yw d ls d1 o1→Yw d ls d2 o2→d1=d2∧o1=o2:=by
 intro ls
 induction ls with
 | nil=>intro d d1 d2 o1 o2 hok h h';exact⟨h.1.trans h'.1.symm,h.2.trans h'.2.symm⟩
 | cons l r ih=>
  intro d d1 d2 o1 o2 hok h h'
  obtain⟨x,a,b,h1,h2,rfl⟩:=h
  obtain⟨x',a',b',h1',h2',rfl⟩:=h'
  obtain⟨rfl,rfl⟩:=Zz.det hok h1 h1'
  obtain⟨rfl,rfl⟩:=ih (h1.ok hok) h2 h2'
  exact⟨rfl,rfl⟩
theorem Yw.both:∀{a b:List (List UInt8)} {d d1 d2:Desk} {o1 o2:List UInt8},Yw d a d1 o1→Yw d1 b d2 o2→Yw d (a++b) d2 (o1++o2):=by
 intro a
 induction a with
 | nil=>intro b d d1 d2 o1 o2 h h';obtain⟨rfl,rfl⟩:=h;exact h'
 | cons l r ih=>
  intro b d d1 d2 o1 o2 h h'
  obtain⟨x,p,q,h1,h2,rfl⟩:=h
  exact⟨x,p,q++o2,h1,ih h2 h',by simp⟩
theorem ZS.det{t a b:List UInt8}(h:ZS t a)(h':ZS t b):a=b:=by
 unfold ZS at h h'
 split at h
 ·rename_i e;rw[if_pos e]at h';exact h.trans h'.symm
 ·rename_i e;rw[if_neg e]at h'
  obtain⟨d,h⟩:=h
  obtain⟨d',h'⟩:=h'
  exact(Yw.det Desk.Ok.new h h').2
end
end Go.Proofs.YtlfbdjeojgbniaaGreatDoor

import Derived.Test.YtlfbdjeojgbniaaGreatDoorRan38
import Derived.Test.YtlfbdjeojgbniaaGreatDoorRan44
namespace Go.Proofs.YtlfbdjeojgbniaaGreatDoor
section
open Go.RowKit Go.Deep
theorem qP(l:List UInt8)(hm:(cutB 32 l).2.2=true):((⟨l.toArray⟩:ByteArray).toList==[115,104,111,119])=false∧((⟨l.toArray⟩:ByteArray).toList==[108,101,102,116])=false∧∀d d' o,Xe d (cutB 32 l).1 (cutB 32 l).2.1 d' o→Zz d l d' o:=by
 have h1:l≠YU:=fun e=>by rw[e]at hm;exact absurd hm (by decide)
 have h2:l≠YT:=fun e=>by rw[e]at hm;exact absurd hm (by decide)
 refine⟨by rw[eqS];exact decide_eq_false h1,by rw[eqS];exact decide_eq_false h2,fun d d' o h=>?_⟩
 unfold Zz
 rw[if_neg h1,if_neg h2,if_neg (fun e=>e (zc2 hm))]
 exact h
theorem zgL:Zc [] 0 0:=Zc.none (by simp) (fun j hj=>by simp at hj) (fun j hj=>by simp at hj)
set_option maxRecDepth 100000 in
theorem zgK(l:List UInt8)(w:World)(hs:l.length≤1048576) :
  Calls Tryz.prog 29 #[.string ⟨l.toArray⟩] w fun e w'=>((ZW l=none∧e=.returned (.tuple #[.slice none 0 0,.int .i64 2]))∨(∃ts p q,ZW l=some ts∧Zc ts p q∧((q≠0∧e=.returned (.tuple #[.slice none 0 0,.int .i64 q]))∨(q=0∧∃v,e=.returned (.tuple #[v,.int .i64 0])∧ZX w.heap.size w' v ts))))∧Below w.heap.size w w':=by
 cases l with
 | nil=>
  go_enter Tryz.func29,Tryz.ntmps29
  go_wp2
  go_ret2
  exact⟨Or.inr ⟨[],0,0,rfl,zgL,Or.inr ⟨rfl,_,rfl,fun W _=>⟨by simp,none,0,rfl,Or.inl rfl⟩⟩⟩,qq4 _ _⟩
 | cons b r=>exact zfi b r w hs
variable {W0:World} {Q:Nat} {d:Desk} {w:World}
set_option maxRecDepth 100000 in
set_option maxHeartbeats 4000000 in
theorem lineWeave(h:ZH W0 Q d w)(l:List UInt8)(hl:l.length≤1048576)(hm:(cutB 32 l).2.2=true)(e:(cutB 32 l).1=YC):Calls Tryz.prog 8 #[.pointer (some ⟨Q,0,none⟩),.string ⟨l.toArray⟩] w (XJ W0 Q d l):=by
 have hw:=y9 l w hl
 obtain⟨h1,h2,h3⟩:=qP l hm
 have HL:Hid (∀d' o,YH d (cutB 32 l).2.1 d' o→Zz d l d' o):=fun d' o ho=>h3 d d' o (by unfold Xe;rw[if_pos e];exact ho)
 have hw1:((⟨(cutB 32 l).1.toArray⟩:ByteArray).toList==[119,101,97,118,101])=true:=by rw[eqS,e];decide
 have hrw:=fun wx=>zbd (cutB 32 l).2.1 wx (by have:=yf 32 l;omega)
 have HD:Hid (ZH W0 Q d w):=h
 rw[hm]at hw
 clear h e hm h3
 generalize (⟨l.toArray⟩:ByteArray)=S at *
 generalize (⟨(cutB 32 l).1.toArray⟩:ByteArray)=S1 at *
 generalize (cutB 32 l).2.1=rest at *
 generalize (⟨rest.toArray⟩:ByteArray)=S2 at *
 go_enter Tryz.func8,Tryz.ntmps8
 go_wp2_with fail
 refine hw.mono ?_
 clear hw
 rintro e w1 ⟨rfl,hb1⟩
 have HD1:Hid (ZH W0 Q d w1):=HD.out.later hb1
 have hrw1:=hrw w1
 clear hrw hb1
 go_wp2_with fail
 refine hrw1.mono ?_
 clear hrw1
 rintro e w2 ⟨hb2,⟨n,hn,hwe,rfl⟩|⟨t,tv,hok,rfl,hpn⟩⟩
 ·have HN:Hid (YH d rest d (Ye n)):=Or.inl ⟨n,hn,hwe,rfl,rfl⟩
  have hq:=zfR hwe hn
  have hnm:=ym n w2 hq.1 hq.2
  have HD2:Hid (ZH W0 Q d w2):=HD1.out.later hb2
  clear hwe hb2 hq
  go_wp2_with fail
  refine hnm.mono ?_
  clear hnm
  rintro e w3 ⟨rfl,hb3⟩
  go_wp2
  go_ret
  exact⟨d,_,rfl,HL.out _ _ HN.out,HD2.out.later hb3⟩
 ·have hf:=qd t hok.facts.2
  have hcn:=hok.facts.1
  obtain⟨tw,htw⟩:=qc (show 0≤t.work V1 by omega)
  obtain⟨tp,htp⟩:=qc hf.1
  obtain⟨a,c,rfl⟩:=zF hpn.at
  have h4:=HD1.out.later hb2
  obtain⟨pv,ov,gv,hq,-⟩:=h4.mem
  obtain⟨c0,c1,c2,cf⟩:=zR hq
  have f0:=cf 0
  have HM:Hid (ZH W0 Q { d with ts:=t.lay V1 [] } (w2.setCell ⟨Q,0,none⟩ (.slice a (t.lay V1 []).length c))):=HD1.out.putPlan hb2 hpn hok.check
  have htwo:=fun wx=>zd4 tw tp wx (by omega) (by omega)
  have HW:Hid (YH d rest { d with ts:=t.lay V1 [] } (twoT (tw:Int) (tp:Int))):=Or.inr ⟨t,hok,rfl,by rw[htw,htp]⟩
  rw[htw,htp]
  clear h4 hpn hb2 hf hok hcn htw htp hq cf
  generalize (t.lay V1 []).length=n at *
  go_wp2_with fail
  refine(htwo _).mono ?_
  clear htwo
  rintro e w3 ⟨rfl,rfl⟩
  go_wp2
  go_ret
  exact⟨_,_,rfl,HL.out _ _ HW.out,HM.out⟩
set_option maxRecDepth 100000 in
set_option maxHeartbeats 4000000 in
theorem linePlan(h:ZH W0 Q d w)(l:List UInt8)(hl:l.length≤1048576)(hm:(cutB 32 l).2.2=true)(e:(cutB 32 l).1=Y0):Calls Tryz.prog 8 #[.pointer (some ⟨Q,0,none⟩),.string ⟨l.toArray⟩] w (XJ W0 Q d l):=by
 have hw:=y9 l w hl
 obtain⟨h1,h2,h3⟩:=qP l hm
 have HL:Hid (∀d' o,YQ d (cutB 32 l).2.1 d' o→Zz d l d' o):=fun d' o ho=>h3 d d' o (by unfold Xe;rw[if_neg (by rw[e];decide),if_pos e];exact ho)
 have hw1:((⟨(cutB 32 l).1.toArray⟩:ByteArray).toList==[119,101,97,118,101])=false:=by rw[eqS,e];decide
 have hw2:((⟨(cutB 32 l).1.toArray⟩:ByteArray).toList==[112,108,97,110])=true:=by rw[eqS,e];decide
 have hrw:=fun wx=>zgK (cutB 32 l).2.1 wx (by have:=yf 32 l;omega)
 have HD:Hid (ZH W0 Q d w):=h
 rw[hm]at hw
 clear h e hm h3
 generalize (⟨l.toArray⟩:ByteArray)=S at *
 generalize (⟨(cutB 32 l).1.toArray⟩:ByteArray)=S1 at *
 generalize (cutB 32 l).2.1=rest at *
 generalize (⟨rest.toArray⟩:ByteArray)=S2 at *
 go_enter Tryz.func8,Tryz.ntmps8
 go_wp2_with fail
 refine hw.mono ?_
 clear hw
 rintro e w1 ⟨rfl,hb1⟩
 have HD1:Hid (ZH W0 Q d w1):=HD.out.later hb1
 have hrw1:=hrw w1
 clear hrw hb1
 go_wp2_with fail
 refine hrw1.mono ?_
 clear hrw1
 rintro e w2 ⟨⟨ht,rfl⟩|⟨ts,p,n,ht,hc,⟨hn,rfl⟩|⟨rfl,v,rfl,hpn⟩⟩,hb2⟩
 ·have HN:Hid (YQ d rest d (Ye 2)):=Or.inl ⟨ht,rfl,rfl⟩
  have hnm:=ym 2 w2 (by decide) (by decide)
  have HD2:Hid (ZH W0 Q d w2):=HD1.out.later hb2
  clear ht hb2
  go_wp2_with fail
  refine hnm.mono ?_
  clear hnm
  rintro e w3 ⟨rfl,hb3⟩
  go_wp2
  go_ret
  exact⟨d,_,rfl,HL.out _ _ HN.out,HD2.out.later hb3⟩
 ·have HN:Hid (YQ d rest d (Ye n)):=Or.inr ⟨ts,p,n,ht,hc,Or.inl ⟨hn,rfl,rfl⟩⟩
  have hq:=zfG hc hn
  have hnm:=ym n w2 hq.1 hq.2
  have HD2:Hid (ZH W0 Q d w2):=HD1.out.later hb2
  clear ht hb2 hq hc
  go_wp2_with fail
  refine hnm.mono ?_
  clear hnm
  rintro e w3 ⟨rfl,hb3⟩
  go_wp2
  go_ret
  exact⟨d,_,rfl,HL.out _ _ HN.out,HD2.out.later hb3⟩
 ·obtain⟨rfl,-⟩:=hc.ok rfl
  obtain⟨a,c,rfl⟩:=zF hpn.at
  have h4:=HD1.out.later hb2
  obtain⟨pv,ov,gv,hq,-⟩:=h4.mem
  obtain⟨c0,c1,c2,cf⟩:=zR hq
  have f0:=cf 0
  have HM:Hid (ZH W0 Q { d with ts:=ts } (w2.setCell ⟨Q,0,none⟩ (.slice a ts.length c))):=HD1.out.putPlan hb2 hpn hc
  have HW:Hid (YQ d rest { d with ts:=ts } okT):=Or.inr ⟨ts,0,0,ht,hc,Or.inr ⟨rfl,rfl,rfl⟩⟩
  clear h4 hpn hb2 hq cf ht hc
  go_wp2
  go_ret
  exact⟨_,okT,rfl,HL.out _ _ HW.out,HM.out⟩
end
section
open Go.RowKit Go.Deep
structure RMem (N n:Nat) (w1 wr:World) (f:Nat→Int):Prop where
 row:wr.rowIs N 3 n (Zo f)
 below:Below N w1 wr
 blk:∀k,k<w1.heap.size→k≠N→wr.heap[k]?=w1.heap[k]?
theorem RMem.cell{N n:Nat}{w1 wr:World}{f:Nat→Int}(h:RMem N n w1 wr f){p:Addr}(hp:p.block<w1.heap.size)(hN:p.block≠N):wr.cell? p=w1.cell? p:=qq9 (h.blk p.block hp hN)
theorem RMem.trans{N n:Nat}{w1 w2 wr:World}{f g:Nat→Int}(h:RMem N n w1 w2 f)(k:RMem N n w2 wr g):RMem N n w1 wr g:=
 ⟨k.row,h.below.trans k.below,fun j hj hN=>(k.blk j (qq3 hj h.below.size) hN).trans (h.blk j hj hN)⟩
theorem RMem.start{N n:Nat}{w:World}{f:Nat→Int}(h:w.rowIs N 3 n (Zo f)):RMem N n w w f:=⟨h,qq4 _ _,fun _ _ _=>rfl⟩
theorem RMem.alloc{N n:Nat}{w1 wr:World}{f:Nat→Int}(h:RMem N n w1 wr f)(o:Obj):RMem N n w1 (wr.alloc o) f:=
 ⟨h.row.alloc o,h.below.alloc (Nat.le_of_lt h.row.lt) o,fun k hk hN=>(blk_alloc_lt _ _ _ (qq3 hk h.below.size)).trans (h.blk k hk hN)⟩
theorem RMem.set{N n x:Nat}{w1 wr:World}{f:Nat→Int}(h:RMem N n w1 wr f)(v:Int):RMem N n w1 (wr.setCell ⟨N,x,none⟩ (.int .i64 v)) (upd f x v):=
 ⟨yd h.row,h.below.setCell (p:=⟨N,x,none⟩) (qq1 _) _,fun k hk hN=>(qq5 wr ⟨N,x,none⟩ (.int .i64 v) k (by show k≠N;exact hN)).trans (h.blk k hk hN)⟩
theorem RMem.drew{N n:Nat}{w1 wr:World}{f:Nat→Int}(h:RMem N n w1 wr f):RMem N n w1 wr.drew f:=⟨h.row.drew,h.below.drew,h.blk⟩
theorem RMem.drewN{N n:Nat}{w1 wr:World}{f:Nat→Int}(h:RMem N n w1 wr f)(q:Nat):RMem N n w1 (wr.drewN q) f:=⟨h.row.of_block rfl,below_drewN h.below q,h.blk⟩
set_option maxRecDepth 100000 in
set_option maxHeartbeats 2000000 in
theorem zhb(v:Value)(ts:Zl)(w:World)(hp:Zf w v ts)(hck:Zc ts 0 0) :
  Calls Tryz.prog 33 #[v] w fun e w'=>e=.returned (.int .i64 (workTo ts ts.length))∧Below w.heap.size w w':=by
 obtain⟨hl,a,c,rfl,hpc⟩:=hp
 obtain⟨-,h30,herr,_⟩:=hck.ok rfl
 have HW:Hid (∀x,x<ts.length→1≤wkOf ts x∧wkOf ts x≤20):=fun x hx=>qe (herr x hx)
 clear herr hck
 go_enter Tryz.func33,Tryz.ntmps33
 go_wp2
 go_loopw [3,4] (fun s3 s4 wr=>∃k:Nat,k≤ts.length∧s4=.int .i64 k∧s3=.int .i64 (workTo ts k)∧Below w.heap.size w wr) (fun _ s4 _=>ts.length-(intOf s4).toNat)
 case atStart=>exact⟨0,Nat.zero_le _,rfl,rfl,qq4 _ _⟩
 case round=>
  obtain⟨k,hk,rfl,rfl,hB⟩:=hrel
  by_cases hkl:k<ts.length
  ·rcases hpc with rfl|⟨b,o,rfl,hbl,hc⟩
   ·simp at hkl
   have hc1':=(hB.cell (p:=⟨b,o+k*2,none⟩) hbl).trans (hc k hkl).1
   have hbd:=qg HW.out k hk
   have hwk:=HW.out k hkl
   have HE:Hid (workTo ts (k+1)=workTo ts k+(ts.getD k (0,[])).1):=rfl
   unfold wkOf at hwk
   clear hc
   generalize workTo ts k=sm at *
   generalize (ts.getD k (0,[])).1=wk at *
   go_wp2
   go_roundw
   case rel=>exact⟨k+1,by omega,by go_num,by rw[HE.out],hB⟩
   case measure=>simp[intOf];omega
  ·have hke:k=ts.length:=by omega
   subst hke
   clear hpc
   go_wp2
   go_ret
   exact⟨rfl,hB⟩
structure X9 (ts:Zl) (ord:List Nat) (N:Nat) (w1:World) (a oa:Option Addr):Prop where
 ordr:∀m,m<ts.length→∃b o,oa=some ⟨b,o,none⟩∧b<w1.heap.size∧b≠N∧w1.cell? ⟨b,o+m,none⟩=some (.int .i64 (ord.getD m 0:Nat))
 plan:∀k,k<ts.length→∃b o nv,a=some ⟨b,o,none⟩∧b<N∧w1.cell? ⟨b,o+k*2,none⟩=some (.int .i64 (wkOf ts k))∧w1.cell? ⟨b,o+k*2+1,none⟩=some nv∧
  ∃na nc,nv=.slice na (Za ts k).length nc∧(Za ts k).length*8≤140737488351232∧∀j,j<(Za ts k).length→∃nb no,na=some ⟨nb,no,none⟩∧nb<N∧w1.cell? ⟨nb,no+j,none⟩=some (.int .i64 ((Za ts k).getD j 0))
theorem X9.of{ts:Zl}{ord:List Nat}{w w0 w1:World}{a oa:Option Addr}{c oc n:Nat}(hp:Zf w (.slice a n c) ts)(hB:Below w.heap.size w w1)(hlen:ord.length=ts.length)
  (hi:Z0 w1 (.slice oa ord.length oc) (Zb ord)) (hf:∀j,(Value.slice oa ord.length oc).ownBlock=some j→w0.heap.size≤j) (h0:w.heap.size<w0.heap.size):X9 ts ord w.heap.size w1 a oa:=by
 obtain⟨_,a',c',hva,hpc⟩:=hp
 obtain⟨rfl,-,rfl⟩:a=a'∧True∧c=c':=by simp at hva;exact⟨hva.1,trivial,hva.2.2⟩
 obtain⟨_,oa',oc',hvo,hoc⟩:=hi
 obtain rfl:oa=oa':=by simp at hvo;exact hvo.1
 rw[zd,hlen]at hoc
 refine⟨fun m hm=>?_,fun k hk=>?_⟩
 ·rcases hoc with h|⟨b,o,h1,h2,h3⟩
  ·have:=congrArg List.length h
   rw[zd,hlen,List.length_nil]at this
   omega
  ·have:=hf b (by rw[h1];rfl)
   exact⟨b,o,h1,h2,by omega,by have:=h3 m hm;rwa [zL]at this⟩
 ·rcases hpc with h|⟨b,o,h1,h2,h3⟩
  ·subst h;simp at hk
  ·obtain⟨g1,nv,g2,hl2,na,nc,rfl,g3⟩:=h3 k hk
   refine⟨b,o,_,h1,h2,(hB.cell (p:=⟨b,o+k*2,none⟩) h2).trans g1,(hB.cell (p:=⟨b,o+k*2+1,none⟩) h2).trans g2,na,nc,rfl,hl2,fun j hj=>?_⟩
   rcases g3 with g3|⟨nb,no,e1,e2,e3⟩
   ·rw[g3]at hj;simp at hj
   ·exact⟨nb,no,e1,e2,(hB.cell (p:=⟨nb,no+j,none⟩) e2).trans (e3 j hj)⟩
theorem zd3{ts:Zl}{ord:List Nat}(hd:YE ts ord):∀m,m≤ord.length→∀y,0≤ZK ts ord m y∧ZK ts ord m y≤20*m:=by
 intro m
 induction m with
 | zero=>intro _ y;exact⟨Int.le_refl _,Int.le_refl _⟩
 | succ m ih=>
  intro hm y
  have:=xZ hd.rng hd.wk (hd.lt (ord.length-1-m) (by omega)) (ih (by omega)) (Za ts (ord.getD (ord.length-1-m) 0)).length (qq1 _) y
  refine⟨this.1,?_⟩
  have h2:=this.2
  show ZF ts _ _ _ y≤_
  push_cast
  omega
set_option maxRecDepth 100000 in
set_option maxHeartbeats 8000000 in
theorem zfw(v:Value)(ts:Zl)(w:World)(hp:Zf w v ts)(hck:Zc ts 0 0) :
  Calls Tryz.prog 66 #[v] w fun e w'=>(∃ord rv,Z9 ts ord∧e=.returned rv∧Z0 w' rv (Xl (ZO ts ord) ts.length))∧Below w.heap.size w w':=by
 have HP:Hid (Zf w v ts):=hp
 have HCK:Hid (Zc ts 0 0):=hck
 have hB0:Below w.heap.size w (w.alloc (.cells (madeCells #[.int .i64 0] ts.length) 3)):=(qq4 _ _).alloc (qq1 _) _
 have hord:=ze9 v ts _ (hp.later hB0) hck
 obtain⟨hl,a,c,rfl,hp⟩:=hp
 clear hp hck
 have hmk:=fun wx=>run_make_row' (P:=Tryz.prog) 73 3 (.int .i64 0) 8 Tryz.underlying73 Tryz.info3 rfl .i64 .i64 ts.length (by omega) (by omega) wx
 go_enter Tryz.func66,Tryz.ntmps66
 go_wp2_with fail
 refine hord.mono ?_
 rintro e w1 ⟨⟨ov,ord,rfl,ho,hi,hf⟩,hb1⟩
 clear hord
 have hd:=YE.of HCK.out ho
 have HD:Hid (YE ts ord):=hd
 have HO:Hid (Z9 ts ord):=ho
 have h30:=hd.small
 have hlen:=hd.len
 have hB1:Below w.heap.size w w1:=hB0.trans (hb1.mono hB0.size)
 have hrow1:w1.rowIs w.heap.size 3 ts.length (Zo (ZK ts ord 0)):=((World.rowIs_made w (.int .i64 0) ts.length 3).congr (fun k _=>rfl)).of_block (hb1.block _ (by simp))
 obtain⟨oa,oc,rfl⟩:∃oa oc,ov=.slice oa ord.length oc:=by
  obtain⟨_,x,y,h,_⟩:=hi
  rw[zd]at h
  exact⟨x,y,h⟩
 have HRD:Hid (X9 ts ord w.heap.size w1 a oa):=X9.of HP.out hB1 hlen hi hf (by simp)
 clear hi hf ho hd hb1 hB0
 have HM:Hid (RMem w.heap.size ts.length w1 w1 (ZK ts ord 0)):=RMem.start hrow1
 clear hrow1 hmk
 rw[hlen]
 go_wp2
 go_loopw [5] (fun s5 wr=>∃m:Nat,m≤ts.length∧s5=.int .i64 ((ts.length:Int)-1-(m:Int))∧Hid (RMem w.heap.size ts.length w1 wr (ZK ts ord m))) (fun s5 _=>(intOf s5+1).toNat)
 case atStart=>exact⟨0,Nat.zero_le _,by simp,HM⟩
 case round=>
  clear HM
  obtain⟨m,hm,rfl,hM⟩:=hrel
  by_cases hml:m<ts.length
  ·obtain⟨q,hq⟩:∃q:Nat,q=ts.length-1-m:=⟨_,rfl⟩
   have hqi:(ts.length:Int)-1-(m:Int)=(q:Int):=by omega
   have hql:q<ts.length:=by omega
   obtain⟨ob,oo,rfl,hob,hobN,hocell⟩:=HRD.out.ordr q hql
   have hxl:=HD.out.lt q (by omega)
   obtain⟨pb,po,nv,rfl,hpb,hp1,hp2,na,nc,rfl,hln,hnc⟩:=HRD.out.plan (ord.getD q 0) hxl
   have HNC:Hid (∀j,j<(Za ts (ord.getD q 0)).length→∃nb no,na=some ⟨nb,no,none⟩∧nb<w.heap.size∧w1.cell? ⟨nb,no+j,none⟩=some (.int .i64 ((Za ts (ord.getD q 0)).getD j 0))):=hnc
   have HX:Hid (∀k,ZF ts (ord.getD q 0) (ZK ts ord m) (k+1)=upd (ZF ts (ord.getD q 0) (ZK ts ord m) k) (nd ts (ord.getD q 0) k) (max (ZF ts (ord.getD q 0) (ZK ts ord m) k (nd ts (ord.getD q 0) k)) (ZF ts (ord.getD q 0) (ZK ts ord m) k (ord.getD q 0)))):=fun k=>rfl
   have hlow:=zd3 HD.out m (by omega)
   have HXB:Hid (∀k,k≤(Za ts (ord.getD q 0)).length→∀y,0≤ZF ts (ord.getD q 0) (ZK ts ord m) k y∧ZF ts (ord.getD q 0) (ZK ts ord m) k y≤620):=fun k hk y=>by
    have:=xZ HD.out.rng HD.out.wk hxl hlow k hk y
    omega
   have HXE:Hid (ZF ts (ord.getD q 0) (ZK ts ord m) (Za ts (ord.getD q 0)).length=ZK ts ord (m+1)):=by show ZF _ _ _ _=_;rw[hq,←hlen];rfl
   have HX0:Hid (ZF ts (ord.getD q 0) (ZK ts ord m) 0=upd (ZK ts ord m) (ord.getD q 0) (ZK ts ord m (ord.getD q 0)+wkOf ts (ord.getD q 0))):=rfl
   have hrng:Hid (∀k,k<(Za ts (ord.getD q 0)).length→nd ts (ord.getD q 0) k<ts.length∧(Za ts (ord.getD q 0)).getD k 0=(nd ts (ord.getD q 0) k:Nat)):=fun k hk=>by
    have:=xU HD.out.rng hxl hk
    exact⟨this.1,(Int.toNat_of_nonneg this.2.2).symm⟩
   rw[hqi]
   have HQ:Hid (q=ts.length-1-m):=hq
   have HQI:Hid ((ts.length:Int)-1-(m:Int)=(q:Int)):=hqi
   clear hnc hq hqi
   have hlx:=hlow (ord.getD q 0)
   have hwx:=HD.out.wk _ hxl
   clear hlow
   generalize ord.getD q 0=x at *
   generalize ZF ts x (ZK ts ord m)=TK at *
   have hN1:w.heap.size≤w1.heap.size:=hB1.size
   have ho':=(hM.out.cell (p:=⟨ob,oo+q,none⟩) hob hobN).trans hocell
   have hp1':=(hM.out.cell (p:=⟨pb,po+x*2,none⟩) (by show pb<_;omega) (by show pb≠_;omega)).trans hp1
   have hcx:=hM.out.row.cell hxl
   have hfx:=hM.out.row.frozen x
   unfold Zo at hcx
   have hM1:Hid (RMem w.heap.size ts.length w1 (wr.setCell ⟨w.heap.size,x,none⟩ (.int .i64 (ZK ts ord m x+wkOf ts x))).drew (TK 0)):=by
    show RMem _ _ _ _ _
    rw[HX0.out]
    exact(hM.out.set _).drew
   clear HX0
   generalize ZK ts ord m x=tx at *
   generalize hwx':wkOf ts x=wx at *
   clear hwx'
   have htx:0≤tx+wx∧tx+wx≤640:=by omega
   go_wp2
   go_region
   clear ho' hp1' hcx hfx hM
   obtain⟨W2,hW2⟩:∃W2,(wr.setCell ⟨w.heap.size,x,none⟩ (.int .i64 (tx+wx))).drew=W2:=⟨_,rfl⟩
   rw[hW2]at hM1 ⊢
   clear hW2
   have ho2:=(hM1.out.cell (p:=⟨ob,oo+q,none⟩) hob hobN).trans hocell
   have hp12:=(hM1.out.cell (p:=⟨pb,po+x*2,none⟩) (by show pb<_;omega) (by show pb≠_;omega)).trans hp1
   have hp22:=(hM1.out.cell (p:=⟨pb,po+x*2+1,none⟩) (by show pb<_;omega) (by show pb≠_;omega)).trans hp2
   have hMa:Hid (RMem w.heap.size ts.length w1 (W2.alloc (.cells #[.int .i64 wx,.slice na (Za ts x).length nc] 94)) (TK 0)):=hM1.out.alloc _
   have hbox:(W2.alloc (.cells #[.int .i64 wx,.slice na (Za ts x).length nc] 94)).cell? ⟨W2.heap.size,1,none⟩=some (.slice na (Za ts x).length nc):=by
    unfold World.cell?
    dsimp only
    rw[blk_alloc_new]
    rfl
   have hxN:w.heap.size≠W2.heap.size:=by have:=hM1.out.row.lt;omega
   have hpbr:pb<W2.heap.size:=by have:=hM1.out.below.size;omega
   have hobr:ob<W2.heap.size:=by have:=hM1.out.below.size;omega
   go_wp2
   clear ho2 hp12 hp22 hM1
   obtain⟨W,hW⟩:∃W,W=W2.alloc (.cells #[.int .i64 wx,.slice na (Za ts x).length nc] 94):=⟨_,rfl⟩
   obtain⟨B6,hB6⟩:∃B6,B6=W2.heap.size:=⟨_,rfl⟩
   have hBW:B6<W.heap.size:=by rw[hW,hB6];simp
   rw[←hW]at hMa hbox ⊢
   rw[←hB6]at hbox hxN ⊢
   clear hW hB6 hpbr hobr
   go_loopw [7] (fun s7 wr=>∃k:Nat,k≤(Za ts x).length∧s7=.int .i64 k∧Hid (RMem w.heap.size ts.length W wr (TK k))) (fun s7 _=>(Za ts x).length-(intOf s7).toNat)
   case atStart=>exact⟨0,Nat.zero_le _,rfl,RMem.start hMa.out.row⟩
   case round=>
    obtain⟨k,hk,rfl,hM⟩:=hrel
    have hboxr:=(hM.out.cell (p:=⟨B6,1,none⟩) hBW (by show B6≠_;exact fun e=>hxN e.symm)).trans hbox
    by_cases hkl:k<(Za ts x).length
    ·obtain⟨nb,no,rfl,hnb,hnc⟩:=HNC.out k hkl
     obtain⟨hyl,hyn⟩:=hrng.out k hkl
     have hMM:=hMa.out.trans hM.out
     have hnk:=(hMM.cell (p:=⟨nb,no+k,none⟩) (by show nb<_;omega) (by show nb≠_;omega)).trans hnc
     rw[hyn]at hnk
     have hst:=HX.out k
     have hcx:=hM.out.row.cell hxl
     have hcy:=hM.out.row.cell hyl
     have hfy:=hM.out.row.frozen (nd ts x k)
     have hok:=(hMM.cell (p:=⟨ob,oo+q,none⟩) hob hobN).trans hocell
     have HST:Hid (TK (k+1)=upd (TK k) (nd ts x k) (max (TK k (nd ts x k)) (TK k x))):=hst
     clear hnc hyn hst hMM
     unfold Zo at hcx hcy
     generalize hRx:TK k x=rx at *
     generalize hRy:TK k (nd ts x k)=ry at *
     generalize nd ts x k=y at *
     have HRY:Hid (TK k y=ry):=hRy
     clear hRx hRy
     by_cases hgt:ry<rx
     ·have HMX:Hid (max ry rx=rx):=Int.max_eq_right (by omega)
      go_wp2
      go_quiet (fail)
      go_wp2
      go_region
      go_wp2
      go_roundw
      case rel=>
       refine⟨k+1,by omega,by go_num,?_⟩
       show RMem _ _ _ _ _
       rw[HST.out,HMX.out]
       exact(hM.out.drewN _).set _
      case measure=>simp[intOf];omega
     ·have HMX:Hid (max ry rx=ry):=Int.max_eq_left (by omega)
      go_wp2
      go_quiet (fail)
      go_wp2
      go_roundw
      case rel=>
       refine⟨k+1,by omega,by go_num,?_⟩
       show RMem _ _ _ _ _
       rw[HST.out,HMX.out,←HRY.out,zik]
       exact hM.out.drewN _
      case measure=>simp[intOf];omega
    ·have hke:k=(Za ts x).length:=by omega
     have HK:Hid (k=(Za ts x).length):=hke
     clear hke
     go_wp2
     go_roundw
     case rel=>exact⟨m+1,by omega,by rw[←HQI.out];go_num,by have:=hMa.out.trans hM.out;rw[HK.out,HXE.out]at this;exact this⟩
     case measure=>simp[intOf]
  ·have hme:m=ts.length:=by omega
   have HME:Hid (m=ts.length):=hme
   have hneg:(ts.length:Int)-1-(m:Int)=-1:=by omega
   rw[hneg]
   clear hme hneg
   go_wp2
   go_ret
   have hr:=hM.out.row
   rw[HME.out]at hr
   exact⟨⟨ord,_,HO.out,rfl,zdV (by unfold ZO;rw[hlen];exact hr) (by omega)⟩,hB1.trans hM.out.below⟩
set_option maxRecDepth 100000 in
set_option maxHeartbeats 2000000 in
theorem zgY(v:Value)(ts:Zl)(w:World)(hp:Zf w v ts)(hck:Zc ts 0 0) :
  Calls Tryz.prog 34 #[v] w fun e w'=>(∃ord,Z9 ts ord∧e=.returned (.int .i64 (Ya (ZO ts ord) ts.length)))∧Below w.heap.size w w':=by
 have ht:=zfw v ts w hp hck
 obtain⟨hl,a,c,rfl,hp⟩:=hp
 clear hp
 go_enter Tryz.func34,Tryz.ntmps34
 go_wp2_with fail
 refine ht.mono ?_
 rintro e w1 ⟨⟨ord,rv,ho,rfl,hi⟩,hb1⟩
 clear ht
 have HO:Hid (Z9 ts ord):=ho
 clear ho
 obtain⟨T,hT⟩:∃T,ZO ts ord=T:=⟨_,rfl⟩
 have HT:Hid (ZO ts ord=T):=hT
 rw[hT]at hi
 clear hT
 obtain⟨hl2,ra,rc,rfl,hrc⟩:=hi
 rw[zN]at hl2 hrc ⊢
 have HC:Hid (∀k,k<ts.length→∃b o,ra=some ⟨b,o,none⟩∧w1.cell? ⟨b,o+k,none⟩=some (.int .i64 (T k))):=fun k hk=>by
  rcases hrc with h|⟨b,o,h1,_,h3⟩
  ·have:=congrArg List.length h
   rw[zN,List.length_nil]at this
   omega
  ·exact⟨b,o,h1,by have:=h3 k hk;rwa [qw T hk]at this⟩
 clear hrc
 go_wp2
 go_loopw [4,5] (fun s4 s5 wr=>∃k:Nat,k≤ts.length∧s5=.int .i64 k∧s4=.int .i64 (Ya T k)∧wr=w1) (fun _ s5 _=>ts.length-(intOf s5).toNat)
 case atStart=>exact⟨0,Nat.zero_le _,rfl,rfl,rfl⟩
 case round=>
  obtain⟨k,hk,rfl,rfl,rfl⟩:=hrel
  by_cases hkl:k<ts.length
  ·obtain⟨b,o,rfl,hc⟩:=HC.out k hkl
   have HE:Hid (Ya T (k+1)=max (Ya T k) (T k)):=rfl
   generalize Ya T k=mk at *
   generalize T k=tk at *
   by_cases hgt:mk<tk
   ·have HMX:Hid (max mk tk=tk):=Int.max_eq_right (by omega)
    go_wp2
    go_roundw
    case rel=>exact⟨k+1,by omega,by go_num,by rw[HE.out,HMX.out],trivial⟩
    case measure=>simp[intOf];omega
   ·have HMX:Hid (max mk tk=mk):=Int.max_eq_left (by omega)
    go_wp2
    go_roundw
    case rel=>exact⟨k+1,by omega,by go_num,by rw[HE.out,HMX.out],trivial⟩
    case measure=>simp[intOf];omega
  ·have hke:k=ts.length:=by omega
   subst hke
   go_wp2
   go_ret
   exact⟨⟨ord,HO.out,by rw[HT.out];rfl⟩,hb1⟩
def XS(T:Nat→Bool)(L:Nat→Int)(n:Nat):Prop:=∀k,k<n→T k=decide (L k=0)
theorem zah{T:Nat→Bool}{L:Nat→Int}{n k:Nat}(h0:∀x,0≤L x)(hT:XS T L n)(hk:k<n):(!T k)=decide (0<L k):=by
 rw[hT k hk]
 have:=h0 k
 by_cases e:L k=0
 ·simp[e]
 ·have:0<L k:=by omega
  simp[e,this]
theorem zfg{ts:Zl}{T:Nat→Bool}{L:Nat→Int}{k:Nat}(hr:ZA ts)(h0:∀x,0≤L x)(hT:XS T L ts.length)(hk:k<ts.length):rdyB ts L k=(!T k&&!missing ts T k):=by
 unfold rdyB missing
 rw[zah h0 hT hk]
 congr 2
 rw[Bool.eq_iff_iff,List.any_eq_true,List.any_eq_true]
 constructor
 ·rintro⟨y,hy,hu⟩
  have:=hr k hk y hy
  exact⟨y,hy,by rw[zah h0 hT (by omega)];exact hu⟩
 ·rintro⟨y,hy,hu⟩
  have:=hr k hk y hy
  exact⟨y,hy,by rw[zah h0 hT (by omega)]at hu;exact hu⟩
set_option maxRecDepth 100000 in
set_option maxHeartbeats 2000000 in
theorem zfj(v pv:Value)(ts:Zl)(T:Nat→Bool)(L:Nat→Int)(w:World)(hp:Zf w v ts)(hr:ZA ts)(h30:ts.length≤30)(hb:Yl w pv ts.length T)(h0:∀x,0≤L x)(hT:XS T L ts.length) :
  Calls Tryz.prog 65 #[v,pv] w fun e w'=>(∃rv,e=.returned rv∧RowI w.heap.size w' rv (Zb (Zx ts L ts.length)))∧Below w.heap.size w w':=by
 have HP:Hid (Zf w v ts):=hp
 have HB:Hid (Yl w pv ts.length T):=hb
 obtain⟨hl,a,c,rfl,hpc⟩:=hp
 obtain⟨bb,bo,bc,rfl,hblt,hbc⟩:=hb
 have HRB:Hid (∀k,k<ts.length→rdyB ts L k=(!T k&&!missing ts T k)):=fun k hk=>zfg hr h0 hT hk
 clear hpc hbc h0 hT
 go_enter Tryz.func65,Tryz.ntmps65
 go_wp2
 go_loopw [5,6] (fun s5 s6 wr=>∃k:Nat,k≤ts.length∧s6=.int .i64 k∧Hid (RowI w.heap.size wr s5 (Zb (Zx ts L k)))∧Below w.heap.size w wr) (fun _ s6 _=>ts.length-(intOf s6).toNat)
 case atStart=>exact⟨0,Nat.zero_le _,rfl,RowI.nil _ _,qq4 _ _⟩
 case round=>
  obtain⟨k,hk,rfl,hR,hB⟩:=hrel
  obtain⟨la,lc,rfl⟩:=hR.out.shape
  by_cases hkl:k<ts.length
  ·have hfr:=jX _ _ ts T k wr (HP.out.later hB) hkl hr (HB.out.later hB)
   have HT:Hid (Zx ts L (k+1)=Zx ts L k++if rdyB ts L k then [k] else []):=zbb ts L k
   have hsb:=hB.size
   have hlen:(Zb (Zx ts L k)).length≤30:=by rw[zd];have:=qS ts L k;omega
   have HR:Hid (∀wx,Below wr.heap.size wr wx→RowI w.heap.size wx (.slice la (Zb (Zx ts L k)).length lc) (Zb (Zx ts L k))):=fun wx hx=>hR.out.later hx
   have HRN:Hid (rdyB ts L k=false→Zb (Zx ts L (k+1))=Zb (Zx ts L k)):=fun e=>by rw[HT.out,e];simp
   have HRY:Hid (rdyB ts L k=true→Zb (Zx ts L (k+1))=Zb (Zx ts L k)++[(k:Int)]):=fun e=>by rw[HT.out,e];simp[Zb]
   rw[HRB.out k hkl]at HRN HRY
   have hbk:∀wx,Below wr.heap.size wr wx→wx.cell? ⟨bb,bo+k,none⟩=some (.bool (T k)):=fun wx hx=>by
    obtain⟨b2,o2,c2,hv,hlt2,hc2⟩:=(HB.out.later hB).later hx
    simp only[Value.slice.injEq,Option.some.injEq,Addr.mk.injEq,and_true]at hv
    obtain⟨⟨rfl,rfl⟩,-⟩:=hv
    exact hc2 k hkl
   have HBK:Hid (∀wx,Below wr.heap.size wr wx→wx.cell? ⟨bb,bo+k,none⟩=some (.bool (T k))):=hbk
   clear hR HT hbk
   generalize hxs:Zb (Zx ts L k)=l at *
   generalize missing ts T k=mi at *
   clear hxs
   cases hTk:T k
   ·rw[hTk]at HRN HRY HBK
    cases mi
    ·have HE:Hid (Zb (Zx ts L (k+1))=l++[(k:Int)]):=HRY.out rfl
     clear HRN HRY hTk
     go_wp2_with fail
     refine hfr.mono ?_
     clear hfr
     rintro e w1 ⟨rfl,hb1⟩
     have hs1:=hb1.size
     have hbc:=HBK.out w1 hb1
     have hoa:=(HR.out _ hb1).alloc (.cells #[.int .i64 k] 3)
     have hba2:Below w.heap.size w (w1.alloc (.cells #[.int .i64 k] 3)):=(hB.trans (hb1.mono hsb)).alloc (by omega) _
     have HO:Hid (Rds (fun _=>True) (w1.alloc (.cells #[.int .i64 k] 3)) (.slice (some ⟨w1.heap.size,0,none⟩) 1 1) [(k:Int)]):=zK w1 k
     go_wp2_with (first|(at_builtin;refine ze rfl (.tmp 26) (.tmp 28) rfl w.heap.size (fun _=>True) (.slice la l.length lc) (.slice (some ⟨w1.heap.size,0,none⟩) 1 1) l [(k:Int)] rfl rfl hoa HO.out (by simp;omega) (by simp;omega) ?_;intro v2 w2 hown2 hgr2 hat2))
     have hb2:Below w.heap.size w w2:=hba2.grown hgr2 (by simp;omega) (fun j e=>(hoa.low e).1)
     have HN:Hid (RowI w.heap.size w2 v2 (Zb (Zx ts L (k+1)))):=by show RowI _ _ _ _;rw[HE.out];exact hown2
     clear hown2 hgr2 hat2 hoa HO HR hba2
     go_wp2
     go_roundw
     case rel=>exact⟨k+1,by omega,by go_num,HN,hb2⟩
     case measure=>simp[intOf];omega
    ·have HE:Hid (Zb (Zx ts L (k+1))=l):=HRN.out rfl
     clear HRN HRY hTk
     go_wp2_with fail
     refine hfr.mono ?_
     clear hfr
     rintro e w1 ⟨rfl,hb1⟩
     have hbc:=HBK.out w1 hb1
     go_wp2
     go_roundw
     case rel=>exact⟨k+1,by omega,by go_num,by show RowI _ _ _ _;rw[HE.out];exact HR.out _ hb1,hB.trans (hb1.mono hsb)⟩
     case measure=>simp[intOf];omega
   ·rw[hTk]at HRN HBK
    have HE:Hid (Zb (Zx ts L (k+1))=l):=HRN.out rfl
    clear HRN HRY hTk
    go_wp2_with fail
    refine hfr.mono ?_
    clear hfr
    rintro e w1 ⟨rfl,hb1⟩
    have hbc:=HBK.out w1 hb1
    generalize (!mi)=mj at *
    go_wp2
    go_roundw
    case rel=>exact⟨k+1,by omega,by go_num,by show RowI _ _ _ _;rw[HE.out];exact HR.out _ hb1,hB.trans (hb1.mono hsb)⟩
    case measure=>simp[intOf];omega
  ·have hke:k=ts.length:=by omega
   have HE:Hid (RowI w.heap.size wr (.slice la (Zb (Zx ts L k)).length lc) (Zb (Zx ts L ts.length))):=by
    have:=hR.out
    rw[hke]at this ⊢;exact this
   clear hR hke
   go_wp2
   go_ret
   exact⟨⟨_,rfl,HE.out⟩,hB⟩
theorem zh9(l:List (Nat×Nat×Nat))(h:∀b,b∈l→b.1≤600):Yu l≤601:=by
 have key:∀(l:List (Nat×Nat×Nat)) n,n≤601→(∀b,b∈l→b.1≤600)→l.foldl (fun n b=>max n (b.1+1)) n≤601:=by
  intro l
  induction l with
  | nil=>intro n hn _;exact hn
  | cons b l ih=>
   intro n hn h
   have:=h b (List.mem_cons_self ..)
   exact ih _ (by show max n (b.1+1)≤601;omega) (fun c hc=>h c (List.mem_cons_of_mem _ hc))
 exact key l 0 (by omega) h
theorem zie{l:List (Nat×Nat×Nat)}{k:Nat}(hk:k<l.length):l.take (k+1)=l.take k++[l.getD k (0,0,0)]:=by
 rw[qq8 hk,qq6,qq7 hk];rfl
theorem ziv{l:List (Nat×Nat×Nat)}{k:Nat}(hk:k<l.length):l.getD k (0,0,0)∈l:=by
 rw[qq6,qq7 hk];exact List.getElem_mem hk
set_option maxRecDepth 100000 in
set_option maxHeartbeats 2000000 in
theorem zfr(bv:Value)(bs:List (Nat×Nat×Nat))(C:Nat)(w:World)(hB:RowB C w bv bs)(hb:∀b,b∈bs→b.1≤600)(hl:bs.length≤600) :
  Calls Tryz.prog 31 #[bv] w fun e w'=>e=.returned (.int .i64 (Yu bs))∧w'=w:=by
 have HB:Hid (RowB C w bv bs):=hB
 have HL:Hid (∀b,b∈bs→b.1≤600):=hb
 obtain⟨a,c,rfl⟩:=hB.shape
 clear hB hb
 go_enter Tryz.func31,Tryz.ntmps31
 go_wp2
 go_loopw [3,4] (fun s3 s4 wr=>∃k:Nat,k≤bs.length∧s4=.int .i64 k∧s3=.int .i64 (Yu (bs.take k))∧wr=w) (fun _ s4 _=>bs.length-(intOf s4).toNat)
 case atStart=>exact⟨0,Nat.zero_le _,rfl,rfl,rfl⟩
 case round=>
  obtain⟨k,hk,rfl,rfl,rfl⟩:=hrel
  by_cases hkl:k<bs.length
  ·obtain⟨g,cc,hv,_,hg,hc,hcells⟩:=HB.out.full (by omega)
   simp only[Value.slice.injEq,true_and]at hv
   obtain⟨rfl,rfl⟩:=hv
   have hc1:=(hcells k hkl).1
   have hx:=HL.out _ (ziv hkl)
   have HS:Hid (Yu (bs.take (k+1))=max (Yu (bs.take k)) ((bs.getD k (0,0,0)).1+1)):=by show _=_;rw[zie hkl,zcN]
   have hsl:=zh9 (bs.take k) (fun b hb=>HL.out b (List.mem_of_mem_take hb))
   clear hcells
   generalize (bs.getD k (0,0,0)).1=t at *
   generalize Yu (bs.take k)=n at *
   by_cases htn:n≤t
   ·have HE:Hid (((Yu (bs.take (k+1)):Nat):Int)=(t:Int)+1):=by show _=_;rw[HS.out];omega
    clear HS
    go_wp2
    go_roundw
    case rel=>exact⟨k+1,by omega,by go_num,by rw[HE.out],trivial⟩
    case measure=>simp[intOf];omega
   ·have HE:Hid (Yu (bs.take (k+1))=n):=by show _=_;rw[HS.out];omega
    clear HS
    go_wp2
    go_roundw
    case rel=>exact⟨k+1,by omega,by go_num,by rw[HE.out],trivial⟩
    case measure=>simp[intOf];omega
  ·have hke:k=bs.length:=by omega
   have HE:Hid (bs.take k=bs):=by rw[hke];exact List.take_length
   clear hke
   go_wp2
   go_ret
   exact⟨by show Ending.returned (.int .i64 ((Yu (bs.take k):Nat):Int))=_;rw[HE.out],rfl⟩
end
end Go.Proofs.YtlfbdjeojgbniaaGreatDoor

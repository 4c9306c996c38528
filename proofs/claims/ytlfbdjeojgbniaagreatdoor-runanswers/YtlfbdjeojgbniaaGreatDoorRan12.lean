import Derived.Test.YtlfbdjeojgbniaaGreatDoorRan11
import Derived.Test.YtlfbdjeojgbniaaGreatDoorRan06
namespace Go.Proofs.YtlfbdjeojgbniaaGreatDoor
section
open Go.RowKit Go.Deep
theorem Zc.works{ts:Zl}(hc:Zc ts 0 0):Xr ts∧ZA ts∧∀j,j<ts.length→¬Zs ts j j:=by
 obtain⟨_,h30,herr,hno⟩:=hc.ok rfl
 exact⟨⟨h30,fun x hx=>qe (herr x hx)⟩,yh herr,hno⟩
theorem yw{l:List Nat}{k:Nat}(hk:k<l.length):l.take (k+1)=l.take k++[l.getD k 0]:=by
 rw[qq8 hk,qq6,qq7 hk];rfl
theorem zdl{l:List Nat}{k:Nat}(hk:k<l.length):l.getD k 0∈l:=by
 rw[qq6,qq7 hk];exact List.getElem_mem hk
theorem zaR{l:List Nat}(hd:l.Nodup){L:Nat→Int}(h:∀x,0≤L x∧L x≤20)(x:Nat):-1≤decs L l x∧decs L l x≤20:=by
 rw[zfI hd]
 have:=h x
 split <;> omega
theorem qo(w:World)(a b c:Value)(t:TypeId):∀j u,[a,b,c][j]?=some u→(w.alloc (.cells #[a,b,c] t)).cell? ((⟨w.heap.size,0,none⟩:Addr).add j)=some u:=by
 intro j u hu
 rw[Addr.add_lit,Nat.zero_add]
 unfold World.cell?
 dsimp only
 rw[blk_alloc_new]
 show(#[a,b,c])[j]?=some u
 simpa using hu
def Qh(ts:Zl)(hands:Int)(n:Nat)(e:Ending)(w':World):Prop:=
 (∃p q,Zc ts p q∧gErr q hands≠0∧e=.returned (.tuple #[.slice none 0 0,errV (gErr q hands)]))∨
 (Zc ts 0 0∧1≤hands∧hands≤6∧∃s bv,YO ts hands.toNat s∧e=.returned (.tuple #[bv,.nilIface])∧RowB n w' bv (Zm ts hands.toNat s))
theorem zbV{q hands:Int}(h:gErr q hands=0):q=0∧1≤hands∧hands≤6:=by
 unfold gErr at h
 split at h
 ·split at h
  ·omega
  ·omega
 ·omega
set_option maxRecDepth 100000 in
set_option maxHeartbeats 4000000 in
theorem ziN(v:Value)(ts:Zl)(hands:Int)(w:World)(hp:Zf w v ts) :
  Calls Tryz.prog 41 #[v,.int .i64 hands] w fun e w'=>Qh ts hands w.heap.size e w'∧Below w.heap.size w w':=by
 obtain⟨i36,hi36,hz0,hz1,hz2⟩:=info_parts Tryz.info102
 have HP:Hid (Zf w v ts):=hp
 have hck:=zaU v ts hands w hp
 obtain⟨hl,a,c,rfl,hp⟩:=hp
 clear hp
 go_enter Tryz.func41,Tryz.ntmps41
 go_wp2_with fail
 refine hck.mono ?_
 rintro e w1 ⟨⟨p,q,hc,rfl⟩,hb1⟩
 clear hck
 by_cases hq:gErr q hands=0
 ·obtain⟨rfl,h1,h6⟩:=zbV hq
  obtain⟨rfl,-⟩:=hc.ok rfl
  rw[hq,zI]
  obtain⟨hd,rfl⟩:=qc (show 0≤hands by omega)
  obtain⟨hw,hr,hno⟩:=hc.works
  have HC:Hid (Zc ts 0 0):=hc
  have h30:=hw.1
  have HW:Hid (Xr ts):=hw
  clear hc hq hw hno
  have hwk:=zhc _ ts w1 (HP.out.later hb1) h30
  go_wp2_with (go_at_call 81;refine hwk.mono ?_;clear hwk;rintro e w2 ⟨rfl,hrow,hb2⟩)
  have HG:Hid (GMem w1.heap.size ts.length w1 w2 (Zh ts hd 0) (.slice none 0 0) (Zm ts hd 0)):=⟨hrow,RowB.nil _ _,hb2⟩
  have HPW:Hid (∀wx,Below w1.heap.size w1 wx→Zf wx (.slice a ts.length c) ts):=fun wx hx=>(HP.out.later hb1).later hx
  clear hrow hb2
  go_loopw [7,9] (fun s7 s9 wr=>∃s:Nat,s≤600∧s9=.int .i64 s∧Hid (Busy ts hd s)∧Hid (GMem w1.heap.size ts.length w1 wr (Zh ts hd s) s7 (Zm ts hd s))) (fun _ s9 _=>600-(intOf s9).toNat)
  case atStart=>exact⟨0,by omega,rfl,Busy.zero _ _,HG⟩
  case round=>
   clear HG
   obtain⟨s,hs600,rfl,hbusy,hG⟩:=hrel
   obtain⟨ba,bc,rfl⟩:=hG.out.bits.shape
   have hrd:=zgM _ ts (Zh ts hd s) w1.heap.size wr (HPW.out _ hG.out.below) hG.out.row hr h30
   by_cases hem:Zx ts (Zh ts hd s) ts.length=[]
   ·have HS:Hid (YO ts hd s):=⟨hbusy.out,hem⟩
    rw[hem]at hrd
    clear hbusy
    go_wp2_with fail
    refine hrd.mono ?_
    clear hrd
    rintro e w3 ⟨⟨rv,rfl,hR⟩,hb3⟩
    obtain⟨ra,rc,rfl⟩:=hR.shape
    have HF:Hid (RowB w.heap.size w3 (.slice ba (Zm ts hd s).length bc) (Zm ts hd s)):=(hG.out.later hb3).bits.mono hb1.size
    have HB:Hid (Below w.heap.size w w3):=hb1.trans ((hG.out.later hb3).below.mono hb1.size)
    clear hG hR hem hb3
    generalize (Zm ts hd s).length=bl at *
    go_wp2
    go_ret2
    exact⟨Or.inr ⟨HC.out,h1,h6,s,_,HS.out,rfl,HF.out⟩,HB.out⟩
   ·have HBS:Hid (Busy ts hd (s+1)):=hbusy.out.succ hem
    have hs1:s+1≤600:=HBS.out.le HW.out (by omega)
    have HL:Hid (Zh ts hd (s+1)=decs (Zh ts hd s) (nowL ts hd (Zh ts hd s))):=rfl
    have HT:Hid (Zm ts hd (s+1)=Zm ts hd s++ZM s (nowL ts hd (Zh ts hd s))):=rfl
    have HLB:Hid (∀x,0≤Zh ts hd s x∧Zh ts hd s x≤20):=fun x=>yu HW.out hd s x
    have HBL:Hid ((Zm ts hd (s+1)).length≤600):=qn HW.out hd (s+1)
    unfold nowL at HL HT
    have hpos:=List.length_pos_iff.2 hem
    have hln:=qS ts (Zh ts hd s) ts.length
    have HND:Hid ((Zx ts (Zh ts hd s) ts.length).Nodup):=qB _ _ _
    have HLT:Hid (∀x,x∈Zx ts (Zh ts hd s) ts.length→x<ts.length):=fun x hx=>(j7.1 hx).1
    rw[HT.out]at HBL
    have HT2:=HT
    clear hbusy hem HT
    generalize Zh ts hd s=L at *
    generalize Zx ts L ts.length=l at *
    generalize Zm ts hd s=bs at *
    go_wp2_with fail
    refine hrd.mono ?_
    clear hrd
    rintro e w3 ⟨⟨rv,rfl,hR⟩,hb3⟩
    have hil:=zd l
    obtain⟨g,rc,rfl,hg1,hg2,hrc,hrm⟩:=hR.full (by rw[hil];exact hpos)
    rw[hil]at hR hrc ⊢
    have HG3:Hid (GMem w1.heap.size ts.length w1 w3 L (.slice ba bs.length bc) bs):=hG.out.later hb3
    have hgN:w1.heap.size<g:=by have:=hG.out.row.lt;omega
    have HIL:Hid ((Zb l).length=l.length):=hil
    have HR:Hid (RowI g w3 (.slice (some ⟨g,0,none⟩) l.length rc) (Zb l)):=by
     rcases hR.2 with⟨h,_⟩|⟨g',cap,cur,hv,_,r⟩
     ·simp at h
     ·simp only[Value.slice.injEq,Option.some.injEq,Addr.mk.injEq,and_true]at hv
      obtain⟨rfl,h2,rfl⟩:=hv
      exact⟨hR.1,Or.inr ⟨g,rc,cur,by rw[h2],qq1 _,r⟩⟩
    clear hG hR hb3 hil hg1
    have hne:((l.length:Int)==0)=false:=by rw[beq_eq_false_iff_ne];omega
    obtain⟨m,hm1,hm2,HM,hor⟩:∃m:Nat,m≤l.length∧m≤hd∧Hid (l.take m=l.take hd)∧((l.length<hd∧Hid (m=l.length))∨(¬l.length<hd∧Hid (m=hd))):=by
     by_cases e:l.length<hd
     ·exact⟨l.length,by omega,by omega,by show _=_;rw[List.take_of_length_le (qq1 _),List.take_of_length_le (by omega)],Or.inl ⟨e,rfl⟩⟩
     ·exact⟨hd,by omega,by omega,rfl,Or.inr ⟨e,rfl⟩⟩
    have hmc:l.length≤rc:=hrc
    have hEL:Hid (Zh ts hd (s+1)=decs L (l.take m)):=by show _=_;rw[HL.out,HM.out]
    have hET:Hid (Zm ts hd (s+1)=bs++ZM s (l.take m)):=by show _=_;rw[HT2.out,HM.out]
    have hBL:Hid (bs.length+m≤600):=by
     have:=HBL.out
     rw[←HM.out,qb,zG,List.length_take,Nat.min_eq_left hm1]at this
     exact this
    clear HM HL HT2 HBL
    rcases hor with⟨hlt,hcase⟩|⟨hlt,hcase⟩
    all_goals
     go_wp2
     go_loopw [7,37] (fun s7 s37 wr=>∃k:Nat,k≤m∧s37=.int .i64 k∧Hid (GMem w1.heap.size ts.length w1 wr (decs L (l.take k)) s7 (bs++ZM s (l.take k)))∧Hid (RowI g wr (.slice (some ⟨g,0,none⟩) l.length rc) (Zb l))) (fun _ s37 _=>m-(intOf s37).toNat)
     case atStart=>exact⟨0,Nat.zero_le _,rfl,by show GMem _ _ _ _ _ _ _;simpa[decs,ZM]using HG3.out,HR⟩
     case round=>
      clear HG3 HR
      obtain⟨k,hk,rfl,hG,hR⟩:=hrel
      by_cases hkm:k<m
      ·have hkl:k<l.length:=by omega
       have hcell:=RowI.cell hR.out (k:=k) (by rw[HIL.out];exact hkl)
       rw[zL]at hcell
       have hx:=HLT.out _ (zdl hkl)
       have HD:Hid (decs L (l.take (k+1))=upd (decs L (l.take k)) (l.getD k 0) (decs L (l.take k) (l.getD k 0)-1)):=by show _=_;rw[yw hkl,zbR]
       have HBT:Hid (bs++ZM s (l.take (k+1))=bs++ZM s (l.take k)++[(s,k,l.getD k 0)]):=by
        show _=_
        rw[yw hkl,zal,List.length_take,Nat.min_eq_left (by omega),List.append_assoc]
       have hbd:=zaR (l:=l.take k) (HND.out.sublist (List.take_sublist _ _)) HLB.out (l.getD k 0)
       have hlb:(bs++ZM s (l.take k)).length≤599:=by
        rw[qb,zG,List.length_take,Nat.min_eq_left (by omega)]
        have:=hBL.out
        omega
       generalize l.getD k 0=x at *
       generalize bs++ZM s (l.take k)=cs at *
       generalize decs L (l.take k)=F at *
       obtain⟨ca,cc,rfl⟩:=hG.out.bits.shape
       have hGa:=hG.out.later (w':=wr.alloc (.cells #[.int .i64 s,.int .i64 k,.int .i64 x] 102)) ((qq4 _ _).alloc (qq1 _) _)
       have hRa:=hR.out.alloc (.cells #[.int .i64 s,.int .i64 k,.int .i64 x] 102)
       have ho:=hGa.bits
       have hsz:w1.heap.size≤wr.heap.size:=Nat.le_of_lt hG.out.row.lt
       unfold RowB at ho
       have HGA:Hid (GMem w1.heap.size ts.length w1 (wr.alloc (.cells #[.int .i64 s,.int .i64 k,.int .i64 x] 102)) F (.slice ca cs.length cc) cs):=hGa
       have HRA:Hid (RowI g (wr.alloc (.cells #[.int .i64 s,.int .i64 k,.int .i64 x] 102)) (.slice (some ⟨g,0,none⟩) l.length rc) (Zb l)):=hRa
       obtain⟨y,hy⟩:∃y,F x=y:=⟨_,rfl⟩
       have HY:Hid (F x=y):=hy
       rw[hy]at hbd HD
       clear hy
       have h1c:∀u∈[Value.int .i64 (s:Int),.int .i64 (k:Int),.int .i64 (x:Int)],u.oneCell'=true:=by intro u hu;simp at hu;rcases hu with rfl|rfl|rfl <;> rfl
       clear hGa hRa hG hR
       go_wp2_with (at_builtin;refine wpList_append_own _ rfl (.tmp 42) (.tmp 47) 77 rfl w1.heap.size 102 i36 (.agg #[.int .i64 0,.int .i64 0,.int .i64 0]) 3 24 Tryz.underlying77 hi36 hz0 hz1 hz2 rfl (by decide) _ cs.length (flat cs) rfl ho ⟨wr.heap.size,0,none⟩ 1 1 [.int .i64 s,.int .i64 k,.int .i64 x] rfl rfl (qo wr _ _ _ _) h1c (by unfold maxLen;omega) (by omega) (by simp;omega) ?_;intro v2 w4 hown hgr _;have hG4:GMem w1.heap.size ts.length w1 w4 F v2 (cs++[(s,k,x)]):=HGA.out.app hown hgr;have hc4:w4.cell? ⟨w1.heap.size,x,none⟩=some (.int .i64 y):=(hG4.row.cell hx).trans (congrArg (fun z=>some (Value.int .i64 z)) HY.out);have hf4:=hG4.row.frozen x;have hl4:=hG4.row.lt;have HG4:Hid (GMem w1.heap.size ts.length w1 w4 F v2 (cs++[(s,k,x)])):=hG4;have HR4:Hid (RowI g w4 (.slice (some ⟨g,0,none⟩) l.length rc) (Zb l)):=HRA.out.past HGA.out.bits hgr;clear hG4 hown hgr ho)
       have HN:Hid (GMem w1.heap.size ts.length w1 (w4.setCell ⟨w1.heap.size,x,none⟩ (.int .i64 (y-1))) (decs L (l.take (k+1))) v2 (bs++ZM s (l.take (k+1)))):=by
        show GMem _ _ _ _ _ _ _
        rw[HD.out,HBT.out]
        exact HG4.out.set x _
       have HRN:Hid (RowI g (w4.setCell ⟨w1.heap.size,x,none⟩ (.int .i64 (y-1))) (.slice (some ⟨g,0,none⟩) l.length rc) (Zb l)):=
        HR4.out.of_blocks (fun j hj=>qq5 w4 ⟨w1.heap.size,x,none⟩ _ j (by show j≠w1.heap.size;have:=(HR4.out.low hj).1;omega))
       go_roundw
       case rel=>exact⟨k+1,by omega,by go_num,HN,HRN⟩
       case measure=>simp[intOf];omega
      ·have hkm2:=hkm
       have hke:k=m:=by omega
       rw[hcase.out]at hkm2
       have HN0:=hG.out
       rw[hke,←hEL.out,←hET.out]at HN0
       have HN:Hid _:=HN0
       clear HN0
       clear hG hR hke
       go_wp2
       go_roundw
       case rel=>exact⟨s+1,hs1,by go_num,HBS,HN⟩
       case measure=>simp[intOf];omega
 ·have hev:=zu hq
  rw[hev]
  have HV:Hid (errV (gErr q hands)=.iface 97 (.int .i64 (gErr q hands))):=hev
  have HQ:Hid (gErr q hands≠0):=hq
  clear hev hq
  have HF:Hid (∀u,u=errV (gErr q hands)→Qh ts hands w.heap.size (.returned (.tuple #[.slice none 0 0,u])) w1):=fun u hu=>Or.inl ⟨p,q,hc,HQ.out,by rw[hu]⟩
  rw[HV.out]at HF
  clear HV HQ hc
  generalize gErr q hands=g at *
  go_wp2
  go_ret2
  exact⟨HF.out _ rfl,hb1⟩
end
section
open Go.RowKit Go.Deep Go.Shelf
attribute [local go_sem] Oper.semAt_some
def Zk(ts:Zl):List (Nat×Nat)→Nat→Int
 | l=>l.foldl (fun T x=>ZF ts x.2 T (Za ts x.2).length) (fun _=>0)
theorem yV(ts:Zl)(l:List (Nat×Nat))(x:Nat×Nat):Zk ts (l++[x])=ZF ts x.2 (Zk ts l) (Za ts x.2).length:=by
 simp[Zk]
theorem zae(ts:Zl)(ord:List Nat):∀k,Zk ts (backs (fun q=>ord.getD q 0) ord.length k)=ZK ts ord k:=by
 intro k
 induction k with
 | zero=>rfl
 | succ k ih=>
  rw[show backs (fun q=>ord.getD q 0) ord.length (k+1)=backs (fun q=>ord.getD q 0) ord.length k++[(ord.length-1-k,ord.getD (ord.length-1-k) 0)] from rfl,yV,ih]
  rfl
theorem xZ{ts:Zl}(_:ZA ts)(hw:∀x,x<ts.length→1≤wkOf ts x∧wkOf ts x≤20){x:Nat}(hx:x<ts.length){T:Nat→Int}{b:Int}(hT:∀y,0≤T y∧T y≤b) :
  ∀k,k≤(Za ts x).length→∀y,0≤ZF ts x T k y∧ZF ts x T k y≤b+20:=by
 intro k
 induction k with
 | zero=>
  intro _ y
  have h1:=hw x hx
  have h2:=hT x
  by_cases e:y=x
  ·subst e;rw[ZF,yE];omega
  ·rw[ZF,zq _ _ e];have:=hT y;omega
 | succ k ih=>
  intro hk y
  have hi:=ih (by omega)
  have h1:=hi (nd ts x k)
  have h2:=hi x
  by_cases e:y=nd ts x k
  ·subst e;rw[ZF,yE];omega
  ·rw[ZF,zq _ _ e];exact hi y
theorem zbj{ts:Zl}(hr:ZA ts)(hw:∀x,x<ts.length→1≤wkOf ts x∧wkOf ts x≤20):∀(l:List (Come ts.length)),∀y,0≤Zk ts (l.map Subtype.val) y∧Zk ts (l.map Subtype.val) y≤20*l.length:=by
 have key:∀n (l:List (Come ts.length)),l.length=n→∀y,0≤Zk ts (l.map Subtype.val) y∧Zk ts (l.map Subtype.val) y≤20*l.length:=by
  intro n
  induction n with
  | zero=>intro l hl y;rw[List.eq_nil_of_length_eq_zero hl];simp[Zk]
  | succ n ih=>
   intro l hl
   rcases List.eq_nil_or_concat l with rfl|⟨l',x,rfl⟩
   ·simp at hl
   rw[List.concat_eq_append]at *
   have hl':l'.length=n:=by simpa using hl
   intro y
   have:=xZ hr hw x.2 (ih l' hl') (Za ts x.1.2).length (qq1 _) y
   rw[List.map_append,List.map_singleton,yV]
   simp only[List.length_append,List.length_singleton]
   omega
 exact fun l=>key _ l rfl
theorem yG{n:Int}(h0:0≤n)(h1:n<9223372036854775808):IntKind.i64.wrap n=n:=by rw[IntKind.wrap_i64];omega
structure Y4 (N n:Nat) (w1 W wr:World) (f:Nat→Int):Prop where
 row:wr.rowIs N 3 n (Zo f)
 box:Boxed wr (N+1) 73 (.slice (some ⟨N,0,none⟩) n n)
 below:Below N w1 wr
 keeps:KeepsOthers W wr
 kept:Xw (N+2) N W wr
theorem Y4.set{N n x:Nat}{w1 W wr:World}{f:Nat→Int}{v:Int}(h:Y4 N n w1 W wr f):Y4 N n w1 W (wr.setCell ⟨N,x,none⟩ (.int .i64 v)).drew (upd f x v):={
 row:=(yd h.row).drew
 box:=(qq5 wr ⟨N,x,none⟩ (.int .i64 v) (N+1) (by show N+1≠N;omega)).trans h.box
 below:=(h.below.setCell (p:=⟨N,x,none⟩) (qq1 _) _).drew
 keeps:=(h.keeps.trans (KeepsOthers.setCell _ _ _)).trans (KeepsOthers.drew _)
 kept:=⟨(h.kept.1.setCell (p:=⟨N,x,none⟩) (qq1 _) _).drew,(qq5 wr ⟨N,x,none⟩ (.int .i64 v) (N+2) (by show N+2≠N;omega)).trans h.kept.2⟩
 }
theorem ziM{β:Type}(b t n:Nat)(f:β→Nat→Value):Own (fun s W=>W.rowIs b t n (f s)):=fun s X Y row hs hg hr=>by
 refine hs.of_block (hg.block b hs.lt (fun e=>?_))
 obtain⟨o,ho,hc⟩:=hr b e.symm
 obtain⟨cc,hb,_⟩:=hs
 rw[hb]at ho
 cases ho;cases hc
set_option maxRecDepth 100000 in
set_option maxHeartbeats 8000000 in
theorem zid(v:Value)(ts:Zl)(w:World)(hp:Zf w v ts) :
  CallsIn Fence.wide 4 Tryz.prog 153 #[v] w fun e w'=>((∃p q,q≠0∧Zc ts p q∧e=.returned (.tuple #[.slice none 0 0,errV q]))∨
   (Zc ts 0 0∧∃ord rv,Z9 ts ord∧e=.returned (.tuple #[rv,.nilIface])∧Z0 w' rv (Xl (ZO ts ord) ts.length)))∧Below w.heap.size w w':=by
 have HP:Hid (Zf w v ts):=hp
 obtain⟨hl,a,c,rfl,hp⟩:=hp
 clear hp
 have hbB:Below w.heap.size w (w.alloc (.cells #[.slice a ts.length c] 27)):=(qq4 _ _).alloc (qq1 _) _
 have hck:=zfa _ ts _ (HP.out.later hbB)
 have hmk:=fun wx=>run_make_row' (P:=Tryz.prog) 73 3 (.int .i64 0) 8 Tryz.underlying73 Tryz.info3 rfl .i64 .i64 ts.length (by omega) (by omega) wx
 refine callsIn_of_wp_marks Tryz.func153 rfl trivial ?_ rfl
 simp only[Tryz.ntmps153,List.size_toArray,List.length_cons,List.length_nil,Nat.reduceAdd,Nat.reduceSub,Array.replicate_succ,Array.replicate_zero,List.push_toArray,List.append_toArray,List.nil_append,List.cons_append]
 gi_wp2_with fail
 refine⟨trivial,(callsIn_wide.2 hck).mono ?_⟩
 rintro e w1 ⟨h,hb1⟩
 clear hck
 have hb2:Below w.heap.size w w1:=hbB.trans (hb1.mono hbB.size)
 rcases h with⟨p,q,hq,hc,rfl⟩|⟨hc,ord,ov,rfl,ho,hi⟩
 ·have hev:=zu hq
  rw[hev]
  have HV:Hid (errV q=.iface 97 (.int .i64 q)):=hev
  clear hev
  gi_wp2
  exact⟨_,results_tmp2 rfl _ _ _,Or.inl ⟨p,q,hq,hc,by rw[HV.out];rfl⟩,hb2⟩
 ·have hd:=YE.of hc ho
  have HD:Hid (YE ts ord):=hd
  have HO:Hid (Z9 ts ord):=ho
  have HCK:Hid (Zc ts 0 0):=hc
  have h30:=hd.small
  have hlen:=hd.len
  have hboxP:w1.cell? ⟨w.heap.size,0,none⟩=some (.slice a ts.length c):=(hb1.cell (p:=⟨w.heap.size,0,none⟩) (by simp)).trans (by simp)
  have hbP:w.heap.size<w1.heap.size:=by have:=hb1.size;simp at this;omega
  have hpw:=HP.out.later hb2
  obtain⟨_,a',c',hva,hpc⟩:=hpw
  obtain⟨rfl,-,rfl⟩:a=a'∧True∧c=c':=by simp at hva;exact⟨hva.1,trivial,hva.2⟩
  clear hva
  obtain⟨_,oa,oc,rfl,hoc⟩:=hi
  rw[zd,hlen]at hoc ⊢
  have HOC:Hid (∀m,m<ts.length→∃b o,oa=some ⟨b,o,none⟩∧b<w1.heap.size∧w1.cell? ⟨b,o+m,none⟩=some (.int .i64 (ord.getD m 0:Nat))):=fun m hm=>by
   rcases hoc with h|⟨b,o,h1,h2,h3⟩
   ·have:=congrArg List.length h
    rw[zd,hlen,List.length_nil]at this
    omega
   ·exact⟨b,o,h1,h2,by have:=h3 m hm;rwa [zL]at this⟩
  have HPC:Hid (∀k,k<ts.length→∃b o nv,a=some ⟨b,o,none⟩∧b<w1.heap.size∧w1.cell? ⟨b,o+k*2,none⟩=some (.int .i64 (wkOf ts k))∧w1.cell? ⟨b,o+k*2+1,none⟩=some nv∧Z0 w1 nv (Za ts k)):=fun k hk=>by
   rcases hpc with h|⟨b,o,h1,h2,h3⟩
   ·subst h;simp at hk
   ·obtain⟨g1,nv,g2,g3⟩:=h3 k hk
    exact⟨b,o,nv,h1,h2,g1,g2,g3⟩
  clear hoc hpc hc ho hd
  gi_wp2_with fail
  refine⟨trivial,(ziu Fence.wide 3 trivial rfl _ _ _ _).mono ?_⟩
  rintro e w' ⟨rfl,rfl⟩
  gi_wp2
  have bT:=Boxed.new (w1.alloc (.cells (madeCells #[.int .i64 0] ts.length) 3)) 73 (.slice (some ⟨w1.heap.size,0,none⟩) ts.length ts.length)
  have bS:=Boxed.new ((w1.alloc (.cells (madeCells #[.int .i64 0] ts.length) 3)).alloc (.cells #[.slice (some ⟨w1.heap.size,0,none⟩) ts.length ts.length] 73)) 73 (.slice oa ts.length oc)
  have hr0:=(World.rowIs_made w1 (.int .i64 0) ts.length 3)
  have hB0:Below w1.heap.size w1 (((w1.alloc (.cells (madeCells #[.int .i64 0] ts.length) 3)).alloc (.cells #[.slice (some ⟨w1.heap.size,0,none⟩) ts.length ts.length] 73)).alloc (.cells #[.slice oa ts.length oc] 73)):=
   (((qq4 _ _).alloc (qq1 _) _).alloc (by simp) _).alloc (by simp;omega) _
  simp only[World.size_alloc,Nat.add_assoc,Nat.reduceAdd]at bT bS
  refine wpIn_rangeFunc_ownG rfl (by decide) (gf:=203) (lb:=#[.pointer (some ⟨w1.heap.size+2,0,none⟩)]) rfl trivial (enters_of Tryz.func203 (by kernel_rfl) rfl)
   (zek Fence.wide 3 trivial rfl (by decide) (w1.heap.size+2) w1.heap.size ts.length oc ts.length oa (fun q=>ord.getD q 0) (by omega) (fun q hq=>HD.out.lt q (by omega)) _ (by simp) (by simp;omega) bS.cell
    (fun q hq=>by obtain⟨b,o,h1,h2,h3⟩:=HOC.out q hq;exact⟨b,o,h1,h2,(hB0.cell (p:=⟨b,o+q,none⟩) h2).trans h3⟩))
   zfK (ziH (by simp;omega) (by simp)) (qq4 _ _) (fun _=>rfl)
   (fun pre W=>(W.rowIs w1.heap.size 3 ts.length (Zo (Zk ts (pre.map Subtype.val)))∧Boxed W (w1.heap.size+1) 73 (.slice (some ⟨w1.heap.size,0,none⟩) ts.length ts.length))∧Below w1.heap.size w1 W)
   (fun _ _ _=>False)
   (OwnFrom.and (OwnFrom.and (Own.from (ziM _ _ _ _) _) (Own.from (boxed_own _ _ _) _)) (ownFrom_below (qq1 _) (by simp;omega)))
   (fun _ _ _ _ _ hs _ _=>hs)
   ⟨⟨((hr0.alloc _).alloc _).congr (fun k _=>rfl),bT.alloc _⟩,hB0⟩
   (fun x=>{ tmps:=#[.slice a ts.length c,.pointer (some ⟨w.heap.size,0,none⟩),.slice none 0 0,.nilIface,.slice oa ts.length oc,.nilIface,.pointer (some ⟨w1.heap.size+1,0,none⟩),undef,.int .i64 (x.1.2:Nat),undef,undef,.tuple #[.slice oa ts.length oc,.nilIface],.slice a ts.length c,.tuple #[.slice oa ts.length oc,.nilIface],.slice oa ts.length oc,.nilIface,.nilIface,.bool false,undef,.slice a ts.length c,.int .i64 (ts.length:Nat),.slice (some ⟨w1.heap.size,0,none⟩) ts.length ts.length,.slice oa ts.length oc,.func (.func 203) #[] #[.pointer (some ⟨w1.heap.size+2,0,none⟩)],.int .i64 (x.1.1:Nat),.int .i64 (x.1.2:Nat),undef,undef,undef,undef,undef,undef,undef,undef,undef,undef,undef,undef,undef,undef,undef,undef,undef,undef,undef,undef,undef,undef,undef,undef,undef,undef,undef,undef,undef,undef,undef,undef,undef,undef,undef],defers:=[] }) ?assign ?body ?done ?stop
  case assign=>
   intro l x W K hK
   gi_wp2
   exact hK
  case body=>
   rintro l pre x W ⟨⟨hrow,hbox⟩,hB⟩ hlp
   have hxl:x.1.2<ts.length:=x.2
   have hlow:=zbj HD.out.rng HD.out.wk pre
   have HN:Hid (Zk ts ((pre++[x]).map Subtype.val)=ZF ts x.1.2 (Zk ts (pre.map Subtype.val)) (Za ts x.1.2).length):=by show Zk ts ((pre++[x]).map Subtype.val)=_;rw[List.map_append,List.map_singleton,yV]
   have HL:Hid (∀k,k≤(Za ts x.1.2).length→∀y,0≤ZF ts x.1.2 (Zk ts (pre.map Subtype.val)) k y∧ZF ts x.1.2 (Zk ts (pre.map Subtype.val)) k y≤620):=fun k hk y=>by
    have:=xZ HD.out.rng HD.out.wk hxl hlow k hk y
    omega
   have HX:Hid (∀k,ZF ts x.1.2 (Zk ts (pre.map Subtype.val)) (k+1)=upd (ZF ts x.1.2 (Zk ts (pre.map Subtype.val)) k) (nd ts x.1.2 k) (max (ZF ts x.1.2 (Zk ts (pre.map Subtype.val)) k (nd ts x.1.2 k)) (ZF ts x.1.2 (Zk ts (pre.map Subtype.val)) k x.1.2))):=fun k=>rfl
   have HX0:Hid (ZF ts x.1.2 (Zk ts (pre.map Subtype.val)) 0=upd (Zk ts (pre.map Subtype.val)) x.1.2 (Zk ts (pre.map Subtype.val) x.1.2+wkOf ts x.1.2)):=rfl
   have hrng:Hid (∀k,k<(Za ts x.1.2).length→nd ts x.1.2 k<ts.length∧(Za ts x.1.2).getD k 0=(nd ts x.1.2 k:Nat)):=fun k hk=>by
    have:=xU HD.out.rng hxl hk
    exact⟨this.1,(Int.toNat_of_nonneg this.2.2).symm⟩
   have hM0:Y4 w1.heap.size ts.length w1 W W (Zk ts (pre.map Subtype.val)):=⟨hrow,hbox,hB,KeepsOthers.refl _,qq4 _ _,rfl⟩
   obtain⟨pb,po,nv,hpa,hpb,hp1,hp2,hin⟩:=HPC.out x.1.2 hxl
   have hl0:=hlow x.1.2
   have hwk:=HD.out.wk x.1.2 hxl
   have hlp':(pre.length:Int)<30:=by omega
   have hcx:=hrow.cell hxl
   have hfx:=hrow.frozen x.1.2
   have hbc:=hbox.cell
   have hbp:=(hB.cell (p:=⟨w.heap.size,0,none⟩) hbP).trans hboxP
   have hp1':=(hB.cell (p:=⟨pb,po+x.1.2*2,none⟩) hpb).trans hp1
   have hM1:Hid (Y4 w1.heap.size ts.length w1 W (W.setCell ⟨w1.heap.size,x.1.2,none⟩ (.int .i64 (Zk ts (pre.map Subtype.val) x.1.2+wkOf ts x.1.2))).drew (ZF ts x.1.2 (Zk ts (pre.map Subtype.val)) 0)):=by
    show Y4 _ _ _ _ _ _
    rw[HX0.out]
    exact hM0.set
   subst hpa
   obtain⟨hln,na,nc,rfl,hnc⟩:=hin
   unfold Zo at hcx
   clear hrow hbox hM0 HX0
   generalize ZF ts x.1.2 (Zk ts (pre.map Subtype.val))=TK at *
   generalize Zk ts (pre.map Subtype.val)=T0 at *
   generalize wkOf ts x.1.2=wx at *
   generalize hT0x:T0 x.1.2=tx at *
   clear hT0x hlow
   generalize hxy:x.1.2=y at *
   obtain⟨W2,hW2⟩:∃W2,(W.setCell ⟨w1.heap.size,y,none⟩ (.int .i64 (tx+wx))).drew=W2:=⟨_,rfl⟩
   have HW2:Hid ((W.setCell ⟨w1.heap.size,y,none⟩ (.int .i64 (tx+wx))).drew=W2):=hW2
   rw[hW2]at hM1
   clear hW2
   have hp2':=(hM1.out.below.cell (p:=⟨pb,po+y*2+1,none⟩) hpb).trans hp2
   have hbp2:=(hM1.out.below.cell (p:=⟨w.heap.size,0,none⟩) hbP).trans hboxP
   have hp12:=(hM1.out.below.cell (p:=⟨pb,po+y*2,none⟩) hpb).trans hp1
   have hbc2:=hM1.out.box.cell
   gi_wp2
   have HS:W.drew.cell? ⟨w1.heap.size+1,0,none⟩=some (.slice (some ⟨w1.heap.size,0,none⟩) ts.length ts.length)∧W.drew.cell? ⟨w.heap.size,0,none⟩=some (.slice (some ⟨pb,po,none⟩) ts.length c)∧W.drew.cell? ⟨pb,po+y*2,none⟩=some (.int .i64 wx):=⟨hbc,hbp,hp1'⟩
   refine xW (S:=fun W'=>W'.cell? ⟨w1.heap.size+1,0,none⟩=some (.slice (some ⟨w1.heap.size,0,none⟩) ts.length ts.length)∧W'.cell? ⟨w.heap.size,0,none⟩=some (.slice (some ⟨pb,po,none⟩) ts.length c)∧W'.cell? ⟨pb,po+y*2,none⟩=some (.int .i64 wx)) 12 rfl (by kernel_rfl) (by kernel_rfl) ?hL ?_
   case hL=>rintro⟨_,_,h⟩;exact h
   refine wpAnyH_take (i:=0) (v:=?v0_1) rfl (by kernel_rfl) (by kernel_rfl) (by kernel_rfl) (fun _ _ _ h=>h) (Or.inl ⟨by rfl,?hy0_1⟩) HS ?_
   case hy0_1=>
    intro wz hSz
    obtain⟨z0,z1,z2⟩:=hSz
    go_simp
    try rfl
   refine wpAnyH_take (i:=1) (v:=?v1_2) rfl (by kernel_rfl) (by kernel_rfl) (by kernel_rfl) (fun _ _ _ h=>h) (Or.inl ⟨by rfl,?hy1_2⟩) HS ?_
   case hy1_2=>
    intro wz hSz
    obtain⟨z0,z1,z2⟩:=hSz
    go_simp
    try rfl
   refine wpAnyH_take (i:=2) (v:=?v2_3) rfl (by kernel_rfl) (by kernel_rfl) (by kernel_rfl) (fun _ _ _ h=>h) (Or.inl ⟨by rfl,?hy2_3⟩) HS ?_
   case hy2_3=>
    intro wz hSz
    obtain⟨z0,z1,z2⟩:=hSz
    go_simp
    try rfl
   refine wpAnyH_take (i:=4) (v:=?v4_4) rfl (by kernel_rfl) (by kernel_rfl) (by kernel_rfl) (fun _ _ _ h=>h) (Or.inl ⟨by rfl,?hy4_4⟩) HS ?_
   case hy4_4=>
    intro wz hSz
    obtain⟨z0,z1,z2⟩:=hSz
    go_simp
    try rfl
   refine wpAnyH_take (i:=5) (v:=?v5_5) rfl (by kernel_rfl) (by kernel_rfl) (by kernel_rfl) (fun _ _ _ h=>h) (Or.inl ⟨by rfl,?hy5_5⟩) HS ?_
   case hy5_5=>
    intro wz hSz
    obtain⟨z0,z1,z2⟩:=hSz
    go_simp
    try rfl
   refine wpAnyH_take (i:=6) (v:=?v6_6) rfl (by kernel_rfl) (by kernel_rfl) (by kernel_rfl) (fun _ _ _ h=>h) (Or.inl ⟨by rfl,?hy6_6⟩) HS ?_
   case hy6_6=>
    intro wz hSz
    obtain⟨z0,z1,z2⟩:=hSz
    go_simp
    try rfl
   refine wpAnyH_take (i:=7) (v:=?v7_7) rfl (by kernel_rfl) (by kernel_rfl) (by kernel_rfl) (fun _ _ _ h=>h) (Or.inl ⟨by rfl,?hy7_7⟩) HS ?_
   case hy7_7=>
    intro wz hSz
    obtain⟨z0,z1,z2⟩:=hSz
    go_simp
    try rfl
   refine wpAnyH_take (i:=8) (v:=?v8_8) rfl (by kernel_rfl) (by kernel_rfl) (by kernel_rfl) (fun _ _ _ h=>h) (Or.inl ⟨by rfl,?hy8_8⟩) HS ?_
   case hy8_8=>
    intro wz hSz
    obtain⟨z0,z1,z2⟩:=hSz
    go_simp
    try rfl
   refine qh (i:=3) (v:=.int .i64 tx) (w':=W.drew) (by kernel_rfl) rfl (by rfl) ?hy3_9 HS ?_
   case hy3_9=>go_simp
   refine wpAnyH_take (i:=9) (v:=.int .i64 (tx+wx)) rfl (by kernel_rfl) (by kernel_rfl) (by kernel_rfl) (fun _ _ _ h=>h) (Or.inl ⟨by rfl,?hy9_10⟩) HS ?_
   case hy9_10=>
    intro wz hSz
    obtain⟨z0,z1,z2⟩:=hSz
    go_simp
    first|exact yG (by omega) (by omega)|(rw[yG (by omega) (by omega)])
   refine wpAnyH_take (i:=10) (v:=?v10_11) rfl (by kernel_rfl) (by kernel_rfl) (by kernel_rfl) (fun _ _ _ h=>h) (Or.inl ⟨by rfl,?hy10_11⟩) HS ?_
   case hy10_11=>
    intro wz hSz
    obtain⟨z0,z1,z2⟩:=hSz
    go_simp
    try rfl
   refine qi (i:=11) (w':=W2) (by kernel_rfl) rfl (by rfl) ?hy11_12 ⟨hbc2,hbp2,hp12⟩ ?_
   case hy11_12=>
    go_simp
    first|exact HW2.out|rfl
   refine wpAnyH_done (by kernel_rfl) ?_ _
   clear HS hbc hbp hcx hfx hp1' hp12 HW2
   gi_wp2
   clear hp2' hbp2
   gi_loopw [43] (fun s43 wr=>∃k:Nat,k≤(Za ts y).length∧s43=.int .i64 k∧Hid (Y4 w1.heap.size ts.length w1 W wr (TK k))) (fun s43 _=>(Za ts y).length-(intOf s43).toNat)
   case atStart=>exact⟨0,Nat.zero_le _,rfl,hM1⟩
   case round=>
    clear hM1 hbc2
    obtain⟨k,hk,rfl,hM⟩:=hrel
    by_cases hkl:k<(Za ts y).length
    ·rcases hnc with hnc|⟨nb,no,rfl,hnb,hnc⟩
     ·rw[hnc]at hkl;simp at hkl
     obtain⟨hzl,hzn⟩:=hrng.out k hkl
     have hnk:=(hM.out.below.cell (p:=⟨nb,no+k,none⟩) hnb).trans (hnc k hkl)
     rw[hzn]at hnk
     have hst:=HX.out k
     have hbz:=HL.out k hk (nd ts y k)
     have hby:=HL.out k hk y
     have hcz:=hM.out.row.cell hzl
     have hcy:=hM.out.row.cell hxl
     have hfz:=hM.out.row.frozen (nd ts y k)
     have hbc:=hM.out.box.cell
     have hM3:Hid (Y4 w1.heap.size ts.length w1 W (wr.setCell ⟨w1.heap.size,nd ts y k,none⟩ (.int .i64 (if TK k (nd ts y k)<TK k y then TK k y else TK k (nd ts y k)))).drew (TK (k+1))):=by
      show Y4 _ _ _ _ _ _
      rw[hst,←zhH]
      exact hM.out.set
     unfold Zo at hcz hcy
     clear hzn hst hnc
     generalize TK k (nd ts y k)=tz at *
     generalize TK k y=ty at *
     generalize nd ts y k=z at *
     obtain⟨W3,hW3⟩:∃W3,(wr.setCell ⟨w1.heap.size,z,none⟩ (.int .i64 (if tz<ty then ty else tz))).drew=W3:=⟨_,rfl⟩
     have HW3:Hid ((wr.setCell ⟨w1.heap.size,z,none⟩ (.int .i64 (if tz<ty then ty else tz))).drew=W3):=hW3
     rw[hW3]at hM3
     clear hW3
     have hbc3:=hM3.out.box.cell
     gi_wp2
     have HS:wr.drew.cell? ⟨w1.heap.size+1,0,none⟩=some (.slice (some ⟨w1.heap.size,0,none⟩) ts.length ts.length):=hbc
     refine xW (S:=fun W'=>W'.cell? ⟨w1.heap.size+1,0,none⟩=some (.slice (some ⟨w1.heap.size,0,none⟩) ts.length ts.length)) 13 rfl (by kernel_rfl) (by kernel_rfl) ?hL2 ?_
     case hL2=>rintro⟨_,_,h⟩;exact h
     refine wpAnyH_take (i:=0) (v:=?v0_13) rfl (by kernel_rfl) (by kernel_rfl) (by kernel_rfl) (fun _ _ _ h=>h) (Or.inl ⟨by rfl,?hy0_13⟩) HS ?_
     case hy0_13=>
      intro wz hSz
      go_simp
      try rfl
     refine wpAnyH_take (i:=1) (v:=?v1_14) rfl (by kernel_rfl) (by kernel_rfl) (by kernel_rfl) (fun _ _ _ h=>h) (Or.inl ⟨by rfl,?hy1_14⟩) HS ?_
     case hy1_14=>
      intro wz hSz
      go_simp
      try rfl
     refine wpAnyH_take (i:=2) (v:=?v2_15) rfl (by kernel_rfl) (by kernel_rfl) (by kernel_rfl) (fun _ _ _ h=>h) (Or.inl ⟨by rfl,?hy2_15⟩) HS ?_
     case hy2_15=>
      intro wz hSz
      go_simp
      try rfl
     refine wpAnyH_take (i:=3) (v:=?v3_16) rfl (by kernel_rfl) (by kernel_rfl) (by kernel_rfl) (fun _ _ _ h=>h) (Or.inl ⟨by rfl,?hy3_16⟩) HS ?_
     case hy3_16=>
      intro wz hSz
      go_simp
      try rfl
     refine wpAnyH_take (i:=4) (v:=?v4_17) rfl (by kernel_rfl) (by kernel_rfl) (by kernel_rfl) (fun _ _ _ h=>h) (Or.inl ⟨by rfl,?hy4_17⟩) HS ?_
     case hy4_17=>
      intro wz hSz
      go_simp
      try rfl
     refine wpAnyH_take (i:=6) (v:=?v6_18) rfl (by kernel_rfl) (by kernel_rfl) (by kernel_rfl) (fun _ _ _ h=>h) (Or.inl ⟨by rfl,?hy6_18⟩) HS ?_
     case hy6_18=>
      intro wz hSz
      go_simp
      try rfl
     refine wpAnyH_take (i:=7) (v:=?v7_19) rfl (by kernel_rfl) (by kernel_rfl) (by kernel_rfl) (fun _ _ _ h=>h) (Or.inl ⟨by rfl,?hy7_19⟩) HS ?_
     case hy7_19=>
      intro wz hSz
      go_simp
      try rfl
     refine wpAnyH_take (i:=8) (v:=?v8_20) rfl (by kernel_rfl) (by kernel_rfl) (by kernel_rfl) (fun _ _ _ h=>h) (Or.inl ⟨by rfl,?hy8_20⟩) HS ?_
     case hy8_20=>
      intro wz hSz
      go_simp
      try rfl
     refine zec (i:=5) (j:=9) (v:=.int .i64 tz) (v2:=.int .i64 ty) (d:=52) (d2:=56) (by kernel_rfl) (by kernel_rfl) (by kernel_rfl) rfl rfl rfl rfl (by decide) (by decide) (by rfl) (by rfl) (by rfl) (by rfl) ?x1 ?x2 ?x3 ?x4 HS ?_
     case x1=>go_simp
     case x2=>go_simp
     case x3=>go_simp
     case x4=>go_simp
     refine wpAnyH_take (i:=10) (v:=?v10_21) rfl (by kernel_rfl) (by kernel_rfl) (by kernel_rfl) (fun _ _ _ h=>h) (Or.inl ⟨by rfl,?hy10_21⟩) HS ?_
     case hy10_21=>
      intro wz hSz
      go_simp
      try rfl
     refine wpAnyH_take (i:=11) (v:=?v11_22) rfl (by kernel_rfl) (by kernel_rfl) (by kernel_rfl) (fun _ _ _ h=>h) (Or.inl ⟨by rfl,?hy11_22⟩) HS ?_
     case hy11_22=>
      intro wz hSz
      go_simp
      try rfl
     refine qi (i:=12) (w':=W3) (by kernel_rfl) rfl (by rfl) ?hy12_23 hbc3 ?_
     case hy12_23=>
      go_simp
      first|exact HW3.out|rfl
     refine wpAnyH_done (by kernel_rfl) ?_ _
     clear HS hbc hcz hcy hfz HW3 hnk
     gi_wp2
     go_roundw
     case rel=>exact⟨k+1,by omega,by go_num,hM3⟩
     case measure=>simp[intOf];omega
    ·have hke:k=(Za ts y).length:=by omega
     have HK:Hid (k=(Za ts y).length):=hke
     clear hke
     gi_wp2
     have hR:=hM.out.row
     rw[HK.out,←HN.out]at hR
     exact⟨hM.out.keeps.from _,hM.out.kept,⟨hR,hM.out.box⟩,hM.out.below⟩
  case done=>
   rintro D ys W hD hys ⟨⟨hrow,hbox⟩,hB⟩ hK
   have hbc:=hbox.cell
   gi_wp2
   refine⟨by simp,.inl ⟨_,_,rfl,run_takeDeferred hK,?_⟩⟩
   have hBW:Below w.heap.size W (W.putObj D (.deferred none)):=belowK_b (w:=w) (qq1 _) W D _ _ (by simp at hD;omega) hK rfl rfl
   refine⟨_,results_tmp2 rfl _ _ _,Or.inr ⟨HCK.out,ord,_,HO.out,rfl,zdV (c:=ts.length) ?_ (by omega)⟩,(hb2.trans (hB.mono (by omega))).trans hBW⟩
   have h1:=congrArg (Zk ts) hys
   have h2:Zk ts (backs (fun q=>ord.getD q 0) ts.length ts.length)=ZO ts ord:=by
    have:=zae ts ord ord.length
    unfold ZO
    rw[←this,hlen]
   rw[h1,h2]at hrow
   exact hrow.of_block (World.putObj_heap_other (by simp at hD;omega))
  case stop=>
   rintro D c pre W _ _ h _
   exact h.elim
theorem zg3(v:Value)(ts:Zl)(w:World)(hp:Zf w v ts) :
  Calls Tryz.prog 153 #[v] w fun e w'=>((∃p q,q≠0∧Zc ts p q∧e=.returned (.tuple #[.slice none 0 0,errV q]))∨
   (Zc ts 0 0∧∃ord rv,Z9 ts ord∧e=.returned (.tuple #[rv,.nilIface])∧Z0 w' rv (Xl (ZO ts ord) ts.length)))∧Below w.heap.size w w':=callsIn_wide.1 (zid v ts w hp)
end
section
open Go.RowKit Go.Deep
set_option maxHeartbeats 2000000 in
theorem zh6(v:Value)(ts:Zl)(w:World)(hp:Zf w v ts) :
  Calls Tryz.prog 123 #[v] w fun e w'=>((∃p q,q≠0∧Zc ts p q∧e=.returned (.tuple #[.int .i64 0,errV q]))∨
   (Zc ts 0 0∧∃ord,Z9 ts ord∧e=.returned (.tuple #[.int .i64 (Ya (ZO ts ord) ts.length),.nilIface])))∧Below w.heap.size w w':=by
 have ht:=zg3 v ts w hp
 obtain⟨hl,a,c,rfl,hp⟩:=hp
 clear hp
 go_enter Tryz.func123,Tryz.ntmps123
 go_wp2_with fail
 refine ht.mono ?_
 rintro e w1 ⟨h,hb1⟩
 clear ht
 rcases h with⟨p,q,hq,hc,rfl⟩|⟨hc,ord,rv,ho,rfl,hi⟩
 ·have hev:=zu hq
  rw[hev]
  have HV:Hid (errV q=.iface 97 (.int .i64 q)):=hev
  clear hev
  go_wp2
  go_ret2
  exact⟨Or.inl ⟨p,q,hq,hc,by rw[HV.out];rfl⟩,hb1⟩
 ·have hg:=zcw rv (ZO ts ord) ts.length w1 hi
  obtain⟨_,ra,rc,rfl,_⟩:=hi
  go_wp2_with (go_at_call 154;refine hg.mono ?_;rintro e w' ⟨rfl,rfl⟩)
  go_ret2
  exact⟨Or.inr ⟨hc,ord,ho,rfl⟩,hb1⟩
set_option maxRecDepth 100000 in
set_option maxHeartbeats 2000000 in
theorem zin(v:Value)(ts:Zl)(w:World)(hp:Zf w v ts) :
  Calls Tryz.prog 122 #[v] w fun e w'=>((∃p q,q≠0∧Zc ts p q∧e=.returned (.tuple #[.int .i64 0,errV q]))∨
   (Zc ts 0 0∧e=.returned (.tuple #[.int .i64 (workTo ts ts.length),.nilIface])))∧Below w.heap.size w w':=by
 have HP:Hid (Zf w v ts):=hp
 have hck:=yY v ts w hp
 obtain⟨hl,a,c,rfl,hp⟩:=hp
 clear hp
 go_enter Tryz.func122,Tryz.ntmps122
 go_wp2_with fail
 refine hck.mono ?_
 rintro e w1 ⟨⟨p,q,rfl,hc⟩,hb1⟩
 clear hck
 by_cases hq:q=0
 ·subst hq
  rw[zI]
  obtain⟨rfl,h30,herr,_⟩:=hc.ok rfl
  have HC:Hid (Zc ts 0 0):=hc
  have HW:Hid (∀x,x<ts.length→1≤wkOf ts x∧wkOf ts x≤20):=fun x hx=>qe (herr x hx)
  clear hc herr
  have hpw:=HP.out.later hb1
  obtain⟨_,a',c',hva,hpc⟩:=hpw
  obtain⟨rfl,-,rfl⟩:a=a'∧True∧c=c':=by simp at hva;exact⟨hva.1,trivial,hva.2⟩
  clear hva
  go_wp2
  go_loopw [6,19] (fun s6 s19 wr=>∃k:Nat,k≤ts.length∧s19=.int .i64 k∧s6=.int .i64 (workTo ts k)∧Below w1.heap.size w1 wr) (fun _ s19 _=>ts.length-(intOf s19).toNat)
  case atStart=>exact⟨0,Nat.zero_le _,rfl,rfl,qq4 _ _⟩
  case round=>
   obtain⟨k,hk,rfl,rfl,hB⟩:=hrel
   by_cases hkl:k<ts.length
   ·rcases hpc with rfl|⟨b,o,rfl,hbl,hc⟩
    ·simp at hkl
    obtain⟨hc1,nv,hc2,hin⟩:=hc k hkl
    obtain⟨a2,c2,rfl⟩:∃a2 c2,nv=.slice a2 (Za ts k).length c2:=by
     obtain⟨_,a2,c2,h,_⟩:=hin
     exact⟨a2,c2,h⟩
    have hc1':=(hB.cell (p:=⟨b,o+k*2,none⟩) hbl).trans hc1
    have hc2':=(hB.cell (p:=⟨b,o+k*2+1,none⟩) hbl).trans hc2
    have hbd:=qg HW.out k hk
    have hwk:=HW.out k hkl
    have HE:Hid (workTo ts (k+1)=workTo ts k+(ts.getD k (0,[])).1):=rfl
    unfold wkOf at hwk
    clear hc hc1 hc2 hin
    generalize workTo ts k=sm at *
    generalize (ts.getD k (0,[])).1=wk at *
    generalize (Za ts k).length=nl at *
    go_wp2
    go_roundw
    case rel=>exact⟨k+1,by omega,by go_num,by rw[HE.out],hB.alloc hB.size _⟩
    case measure=>simp[intOf];omega
   ·have hke:k=ts.length:=by omega
    subst hke
    clear hpc
    go_wp2
    go_ret2
    exact⟨Or.inr ⟨HC.out,rfl⟩,hb1.trans (hB.mono hb1.size)⟩
 ·have hev:=zu hq
  rw[hev]
  have HV:Hid (errV q=.iface 97 (.int .i64 q)):=hev
  clear hev
  go_wp2
  go_ret2
  exact⟨Or.inl ⟨p,q,hq,hc,by rw[HV.out];rfl⟩,hb1⟩
end
end Go.Proofs.YtlfbdjeojgbniaaGreatDoor

import Derived.Test.YtlfbdjeojgbniaaGreatDoorRan21
import Derived.Test.YtlfbdjeojgbniaaGreatDoorRan13
namespace Go.Proofs.YtlfbdjeojgbniaaGreatDoor
section
open Go.RowKit Go.Deep Go.Maps
def ownN(s0 s1 s2 s3 s4 s5 s6 s7 s8:Nat):Nat→Nat:=fun k=>
 if k<s0 then 9 else if k<s1 then 7 else if k<s2 then 4 else if k<s3 then 6 else if k=s3 then 1 else if k<s4 then 10+(k-s3-1) / 2 else if k<s5 then 8 else if k<s6 then 6 else if k<s7 then 3 else if k<s8 then 2 else 0
theorem zgh{J M A D C hands room:Nat}{ts:Zl}{vs:Value}{w w1 w2 w3 w4 w5 w6 W7 w8:World}(h6:hands≤6)(_r1:1≤room)
  (HJ1:JnT J M A D C ts (fun _=>false) w1∧(w.heap.size≤J∧w.heap.size≤M∧w.heap.size≤A∧w.heap.size≤D)∧Below w.heap.size w w1)
  (HP2:Prk.Pk w1.heap.size hands [] (.slice none 0 0) w2∧Below w1.heap.size w1 w2) (HS3:Spl.Sp w2.heap.size room [] (.slice none 0 0) w3∧Below w2.heap.size w2 w3)
  (HE4:EmH w3.heap.size hands room w3 w4∧JnT J M A D C ts (fun _=>false) w4) (_HB5:Below w4.heap.size w4 w5)
  (HS6:Spl.Sp w2.heap.size room ([]++Zb (Zg ts (fun _=>false) ts.length)) vs w6∧Spl.Ks w2.heap.size (Value.slice none 0 0).ownBlock w5 w6∧Spl.Near w5.heap.size (.slice none 0 0) vs)
  (HALL:YD W7 w6.heap.size hands (fun _=>-1)∧(∀k,k<w4.heap.size→k≠w2.heap.size→W7.heap[k]?=w4.heap[k]?)∧Below w.heap.size w W7∧Below w6.heap.size w6 W7)
  (HSZ:w1.heap.size≤w2.heap.size∧w2.heap.size≤w3.heap.size∧w4.heap.size=w3.heap.size+1+2*hands∧w4.heap.size≤w5.heap.size∧w5.heap.size≤w6.heap.size∧W7.heap.size=w6.heap.size+1∧w1.heap.size<w2.heap.size∧w2.heap.size<w3.heap.size∧w.heap.size≤w1.heap.size)
  (HW8:w8.rowIs W7.heap.size 3 ts.length (fun k=>.int .i64 (Zv ts k))∧Below W7.heap.size W7 w8) :
  ∃own Q,Pg ⟨fun k=>k<w.heap.size,w⟩ w8.heap.size room hands ts (gnew ts) (Zv ts) own Q (w8.alloc (.cells #[.pointer (some ⟨J,0,none⟩),.pointer (some ⟨w2.heap.size,0,none⟩),.pointer (some ⟨w1.heap.size,0,none⟩),.slice (some ⟨w3.heap.size,0,none⟩) hands hands,.map (some w6.heap.size),.slice (some ⟨W7.heap.size,0,none⟩) ts.length ts.length] 121)):=by
 obtain⟨hJ1,⟨j1,j2,j3,j4⟩,b01⟩:=HJ1
 obtain⟨hP2,b12⟩:=HP2
 obtain⟨hS3,b23⟩:=HS3
 obtain⟨hE4,hJ4⟩:=HE4
 obtain⟨hS6,k6,hn6⟩:=HS6
 obtain⟨hhas,k47,b07,b67⟩:=HALL
 obtain⟨s12,s23,s34,s45,s56,s67,t12,t23,s01⟩:=HSZ
 obtain⟨hw8,b78⟩:=HW8
 have s78:=b78.size
 have hWlt:=hw8.lt
 obtain⟨W9,hW9⟩:∃W9,W9=w8.alloc (.cells #[.pointer (some ⟨J,0,none⟩),.pointer (some ⟨w2.heap.size,0,none⟩),.pointer (some ⟨w1.heap.size,0,none⟩),.slice (some ⟨w3.heap.size,0,none⟩) hands hands,.map (some w6.heap.size),.slice (some ⟨W7.heap.size,0,none⟩) ts.length ts.length] 121):=⟨_,rfl⟩
 rw[←hW9]
 have k89:∀k,k<w8.heap.size→W9.heap[k]?=w8.heap[k]?:=fun k hk=>by rw[hW9];exact qa _ _ _ hk
 have s89:W9.heap.size=w8.heap.size+1:=by rw[hW9];simp
 have k79:∀k,k<W7.heap.size→W9.heap[k]?=W7.heap[k]?:=fun k hk=>(k89 k (by omega)).trans (b78.block k hk)
 have k49:∀k,k<w4.heap.size→k≠w2.heap.size→W9.heap[k]?=w4.heap[k]?:=fun k hk hne=>(k79 k (by omega)).trans (k47 k hk hne)
 have k69:∀k,k<w6.heap.size→W9.heap[k]?=w6.heap[k]?:=fun k hk=>(k79 k (by omega)).trans (b67.block k hk)
 have b34:=hE4.below
 have k14:∀k,k<w1.heap.size→w4.heap[k]?=w1.heap[k]?:=fun k hk=>(b34.block k (by omega)).trans ((b23.block k (by omega)).trans (b12.block k hk))
 have k24:∀k,k<w2.heap.size→w4.heap[k]?=w2.heap[k]?:=fun k hk=>(b34.block k (by omega)).trans (b23.block k (by omega))
 obtain⟨own,hown⟩:∃own,own=ownN w.heap.size w1.heap.size w2.heap.size w3.heap.size w4.heap.size w5.heap.size w6.heap.size W7.heap.size w8.heap.size:=⟨_,rfl⟩
 have l9:∀k,k<w.heap.size→own k=9:=fun k h=>by rw[hown];unfold ownN;rw[if_pos h]
 have l7:∀k,w.heap.size≤k→k<w1.heap.size→own k=7:=fun k h1 h2=>by rw[hown];unfold ownN;rw[if_neg (by omega),if_pos (by omega)]
 have l4:∀k,w1.heap.size≤k→k<w2.heap.size→own k=4:=fun k h1 h2=>by rw[hown];unfold ownN;rw[if_neg (by omega),if_neg (by omega),if_pos (by omega)]
 have l6:∀k,w2.heap.size≤k→k<w3.heap.size→own k=6:=fun k h1 h2=>by rw[hown];unfold ownN;rw[if_neg (by omega),if_neg (by omega),if_neg (by omega),if_pos (by omega)]
 have l1:own w3.heap.size=1:=by rw[hown];unfold ownN;rw[if_neg (by omega),if_neg (by omega),if_neg (by omega),if_neg (by omega),if_pos rfl]
 have lh:∀k,w3.heap.size<k→k<w4.heap.size→own k=10+(k-w3.heap.size-1) / 2:=fun k h1 h2=>by rw[hown];unfold ownN;rw[if_neg (by omega),if_neg (by omega),if_neg (by omega),if_neg (by omega),if_neg (by omega),if_pos (by omega)]
 have l66:∀k,w5.heap.size≤k→k<w6.heap.size→own k=6:=fun k h1 h2=>by rw[hown];unfold ownN;rw[if_neg (by omega),if_neg (by omega),if_neg (by omega),if_neg (by omega),if_neg (by omega),if_neg (by omega),if_neg (by omega),if_pos (by omega)]
 have l3:own w6.heap.size=3:=by rw[hown];unfold ownN;rw[if_neg (by omega),if_neg (by omega),if_neg (by omega),if_neg (by omega),if_neg (by omega),if_neg (by omega),if_neg (by omega),if_neg (by omega),if_pos (by omega)]
 have l2:own W7.heap.size=2:=by rw[hown];unfold ownN;rw[if_neg (by omega),if_neg (by omega),if_neg (by omega),if_neg (by omega),if_neg (by omega),if_neg (by omega),if_neg (by omega),if_neg (by omega),if_neg (by omega),if_pos (by omega)]
 have l0:own w8.heap.size=0:=by rw[hown];unfold ownN;rw[if_neg (by omega),if_neg (by omega),if_neg (by omega),if_neg (by omega),if_neg (by omega),if_neg (by omega),if_neg (by omega),if_neg (by omega),if_neg (by omega),if_neg (by omega)]
 clear hown
 have jJ:=(Jn.row hJ1).lt
 have jM:=(Jn.miss hJ1).lt
 have jA:=Jn.ltA hJ1
 have jD:=(Jn.done hJ1).lt
 have k19:∀k,k<w1.heap.size→W9.heap[k]?=w1.heap[k]?:=fun k hk=>(k49 k (by omega) (by omega)).trans (k14 k hk)
 rw[List.nil_append]at hS6
 have hvs:∀k,vs.ownBlock=some k→w5.heap.size≤k∧k<w6.heap.size:=fun k e=>by
  rcases hn6 k e with h|h
  ·simp[Value.ownBlock]at h
  ·exact⟨h,(hS6.row.low e).2⟩
 refine⟨own,⟨J,M,A,D,C,w2.heap.size,vs,w1.heap.size,.slice none 0 0,w3.heap.size,fun j=>w3.heap.size+2+2*j,fun j=>w3.heap.size+1+2*j,w6.heap.size,W7.heap.size⟩,?_⟩
 refine { row:=?_,lG:=l0,jn:=?_,lJ:=⟨l7 _ j1 jJ,l7 _ j2 jM,l7 _ j3 jA,l7 _ j4 jD⟩,lA:=?_,sp:=?_,lS:=⟨l6 _ (qq1 _) t23,fun k e=>l66 k (hvs k e).1 (hvs k e).2⟩,pk:=?_,lK:=⟨l4 _ (qq1 _) t12,fun k e=>by simp[Value.ownBlock]at e⟩,hrow:=?_,lHB:=l1,hand:=?_,lH:=?_,has:=?_,lM:=l3,wrow:=?_,lW:=l2,far:=?_,w1le:=?_,io:=?_ }
 ·rw[hW9]
  refine World.rowIs_alloc _ _ _ _ ?_
  intro i hi
  change i<6 at hi
  rcases(by omega:i=0∨i=1∨i=2∨i=3∨i=4∨i=5)with rfl|rfl|rfl|rfl|rfl|rfl <;> rfl
 ·exact Jn.of_blocks hJ1 (k19 _ jJ) (k19 _ jM) (k19 _ jA) (k19 _ jD) (fun k _ hk=>k19 k hk)
 ·intro k v b hk hv hb
  have hv1:=(qq9 (a:=⟨A,k,none⟩) (k19 _ jA)).symm.trans hv
  obtain⟨av,ha⟩:=Jn.aft hJ1
  have e:=(ha.row.cell hk).symm.trans hv1
  simp only[Option.some.injEq]at e
  subst e
  have hl:=(ha.own k hk).low hb
  have hC:=Jn.lt hJ1
  exact⟨by omega,l7 b (by omega) hl.2⟩
 ·exact hS6.of_blocks (k69 _ (by omega)) (fun k e=>k69 k (hvs k e).2)
 ·exact hP2.of_blocks ((k49 _ (by omega) (by omega)).trans (k24 _ t12)) (fun k e=>by simp[Value.ownBlock]at e)
 ·exact hE4.row.of_block (k49 _ (by omega) (by omega))
 ·intro k hk
  exact(hE4.hand k hk).of_blocks (k49 _ (by omega) (by omega)) (k49 _ (by omega) (by omega))
 ·intro k hk
  exact⟨by show own (w3.heap.size+2+2*k)=10+k;rw[lh _ (by omega) (by omega)];omega,by show own (w3.heap.size+1+2*k)=10+k;rw[lh _ (by omega) (by omega)];omega⟩
 ·exact hhas.of_block (k79 _ (by omega))
 ·exact hw8.of_block (k89 _ hw8.lt)
 ·intro k hk
  exact⟨hk,l9 k hk,(k79 k (by omega)).trans (b07.block k hk)⟩
 ·show w.heap.size≤W9.heap.size
  omega
 ·rw[hW9]
  exact⟨b78.os.trans b07.os,b78.tape.trans b07.tape,b78.output.trans b07.output⟩
def Ql(room hands:Nat)(ts:Zl)(w:World)(e:Ending)(w':World):Prop:=
 ∃G own Q,e=.returned (.tuple #[.pointer (some ⟨G,0,none⟩),.nilIface])∧Pg ⟨fun k=>k<w.heap.size,w⟩ G room hands ts (gnew ts) (Zv ts) own Q w'∧w.heap.size≤G∧Below w.heap.size w w'
set_option maxRecDepth 100000 in
set_option maxHeartbeats 4000000 in
theorem zgg(v:Value)(ts:Zl)(w:World)(hp:Zf w v ts)(hc:Zc ts 0 0)(hands room:Nat)(h1:1≤hands)(h6:hands≤6)(r1:1≤room)(r16:room≤16) :
  Calls Tryz.prog 13 #[v,.int .i64 hands,.int .i64 room] w (Ql room hands ts w):=by
 have hjn:=zdE v ts w hp hc
 have h30:=hc.good.le
 have HP:Hid (Zf w v ts):=hp
 obtain⟨pa,pc,rfl⟩:∃a c,v=.slice a ts.length c:=by obtain⟨hl,a,c,hv,-⟩:=hp;exact⟨a,c,hv⟩
 have hmk:∀wx,Sem.run Tryz.prog (Instr.makeMap 118 none) wx=.ok (.map (some wx.heap.size)) (wx.alloc (.map #[] 0)):=fun wx=>by kernel_rfl
 clear hp hc
 go_enter Tryz.func13,Tryz.ntmps13
 go_upto_region 16 with (first
  | (go_at_call 12;refine hjn.mono ?_;clear hjn;rintro e w1 ⟨J,M,A,D,C,rfl,hJ1,hlow,hb1⟩;have hpk:=Prk.zaJ hands w1 h1 h6;have HJ1:Hid (JnT J M A D C ts (fun _=>false) w1∧(w.heap.size≤J∧w.heap.size≤M∧w.heap.size≤A∧w.heap.size≤D)∧Below w.heap.size w w1):=⟨hJ1,hlow,hb1⟩;clear hJ1 hlow hb1)
  | (go_at_call 42;refine hpk.mono ?_;clear hpk;rintro e w2 ⟨rfl,hP2,hb2⟩;have hsp:=Spl.zaJ room w2 r1 r16;have HP2:Hid (Prk.Pk w1.heap.size hands [] (.slice none 0 0) w2∧Below w1.heap.size w1 w2):=⟨hP2,hb2⟩;clear hP2 hb2)
  | (go_at_call 43;refine hsp.mono ?_;clear hsp;rintro e w3 ⟨rfl,hS3,hb3⟩;have hem:=zaT hands room w3 h6 r1 r16;have HS3:Hid (Spl.Sp w2.heap.size room [] (.slice none 0 0) w3∧Below w2.heap.size w2 w3):=⟨hS3,hb3⟩;clear hS3 hb3)
  | (go_at_call 44;refine hem.mono ?_;clear hem;rintro e w4 ⟨rfl,hE4⟩;have hJ4:=((HJ1.out.1.later HP2.out.2).later HS3.out.2).later hE4.below;have hrd:=zeO J M A D C ts (fun _=>false) w4 hJ4;have HE4:Hid (EmH w3.heap.size hands room w3 w4∧JnT J M A D C ts (fun _=>false) w4):=⟨hE4,hJ4⟩;clear hE4 hJ4)
  | (go_at_call 46;refine hrd.mono ?_;clear hrd;rintro e w5 ⟨⟨rv,rfl,hr5⟩,hb5⟩;obtain⟨ra,rc,rfl⟩:=hr5.shape;have hput:=Spl.zje w2.heap.size room [] (Zb (Zg ts (fun _=>false) ts.length)) (.slice none 0 0) _ _ w5 ((HS3.out.1.later HE4.out.1.below).later hb5) hr5.rds (by have:=z6 ts (fun _=>false) ts.length;rw[zd];simp;omega);have HB5:Hid (Below w4.heap.size w4 w5):=hb5;clear hb5 hr5)
  | (go_at_call 45;refine hput.mono ?_;clear hput;rintro e w6 ⟨rfl,vs,hS6,hk6,hn6⟩;have HS6:Hid (Spl.Sp w2.heap.size room ([]++Zb (Zg ts (fun _=>false) ts.length)) vs w6∧Spl.Ks w2.heap.size (Value.slice none 0 0).ownBlock w5 w6∧Spl.Near w5.heap.size (.slice none 0 0) vs):=⟨hS6,hk6,hn6⟩;clear hS6 hk6 hn6))
 obtain⟨W7,hW7⟩:∃W7,W7=w6.alloc (.map #[] 0):=⟨_,rfl⟩
 have s12:=HP2.out.2.size
 have s23:=HS3.out.2.size
 have s4e:=HE4.out.1.size
 have s45:=HB5.out.size
 have s56:=HS6.out.2.1.size
 have s67:W7.heap.size=w6.heap.size+1:=by rw[hW7];simp
 have k46:∀k,k<w4.heap.size→k≠w2.heap.size→w6.heap[k]?=w4.heap[k]?:=fun k hk hne=>(HS6.out.2.1.block k (by omega) hne (by simp[Value.ownBlock])).trans (HB5.out.block k hk)
 have hKb:=HP2.out.1.lt
 have hSb:=HS3.out.1.lt
 have hJlt:=Jn.row HE4.out.2 |>.lt
 have b01:=HJ1.out.2.2
 have s01:=b01.size
 have b04:Below w.heap.size w w4:=((b01.trans (HP2.out.2.mono s01)).trans (HS3.out.2.mono (by omega))).trans (HE4.out.1.below.mono (by omega))
 have b06:Below w.heap.size w w6:=⟨HS6.out.2.1.os.trans (HB5.out.os.trans b04.os),HS6.out.2.1.tape.trans (HB5.out.tape.trans b04.tape),HS6.out.2.1.output.trans (HB5.out.output.trans b04.output),by omega,fun k hk=>(k46 k (by omega) (by omega)).trans (b04.block k hk)⟩
 have b07:Below w.heap.size w W7:=by rw[hW7];exact b06.alloc (by omega) _
 have hwo:=zeb _ ts W7 (HP.out.later b07) h30
 have hhas:YD W7 w6.heap.size hands (fun _=>-1):=by rw[hW7];exact YD.start w6 hands
 have k47:∀k,k<w4.heap.size→k≠w2.heap.size→W7.heap[k]?=w4.heap[k]?:=fun k hk hne=>by rw[hW7];exact(qa _ _ _ (by omega)).trans (k46 k hk hne)
 have b67:Below w6.heap.size w6 W7:=by rw[hW7];exact(qq4 _ _).alloc (qq1 _) _
 have HALL:Hid (YD W7 w6.heap.size hands (fun _=>-1)∧(∀k,k<w4.heap.size→k≠w2.heap.size→W7.heap[k]?=w4.heap[k]?)∧Below w.heap.size w W7∧Below w6.heap.size w6 W7):=⟨hhas,k47,b07,b67⟩
 have HW7:Hid (W7=w6.alloc (.map #[] 0)):=hW7
 have HSZ:Hid (w1.heap.size≤w2.heap.size∧w2.heap.size≤w3.heap.size∧w4.heap.size=w3.heap.size+1+2*hands∧w4.heap.size≤w5.heap.size∧w5.heap.size≤w6.heap.size∧W7.heap.size=w6.heap.size+1∧w1.heap.size<w2.heap.size∧w2.heap.size<w3.heap.size∧w.heap.size≤w1.heap.size):=⟨s12,s23,s4e,s45,s56,s67,hKb,hSb,s01⟩
 clear hW7 k46 k47 b06 b07 b67 hhas s12 s23 s4e s45 s56 s67 hKb hSb b01 s01 b04 hJlt
 go_wp2_with (first|(go_at_call 47;rw[←HW7.out];refine hwo.mono ?_;clear hwo;rintro e w8 ⟨rfl,hw8,hb8⟩;have HW8:Hid (w8.rowIs W7.heap.size 3 ts.length (fun k=>.int .i64 (Zv ts k))∧Below W7.heap.size W7 w8):=⟨hw8,hb8⟩;clear hw8 hb8))
 go_ret2
 obtain⟨own,Q,hG⟩:=zgh h6 r1 HJ1.out HP2.out HS3.out HE4.out HB5.out HS6.out HALL.out HSZ.out HW8.out
 have hs78:=HW8.out.2.size
 have hs07:=HALL.out.2.2.1.size
 exact⟨_,own,Q,rfl,hG,by omega,(HALL.out.2.2.1.trans (HW8.out.2.mono hs07)).alloc (by omega) _⟩
end
section
open Go.RowKit Go.Deep
variable {W0:World} {G room hands:Nat} {ts:Zl} {g:Gs} {w w':World}
end
section
variable {ts:Zl} {room hands:Nat} {g:Gs}
theorem zeA(h:Nat):Xn ts g h=(4,(h:Int),g.task h,0)::(g.zz.take (newL ts g.S (g.task h).toNat).length).map wokeD:=rfl
end
section
end
section
variable {ts:Zl} {room hands:Nat} {g:Gs}
theorem qq(hI:Inv ts room hands g)(hg:Good ts)(h6:hands≤6){h:Nat}(hh:h<hands)(pick:Nat):∀d,d∈gdeeds ts hands g h pick→ZI d=0:=by
 have hle:=hg.le
 have one:∀(i:Int) (a o:Int),i∈Yd g hands→1≤a∧a≤4→(a=2∧0≤o∧o<(hands:Int))∨(a≠2∧o=0)→ZI (a,(h:Int),i,o)=0:=fun i a o hi ha ho=>by
  obtain⟨k,rfl,hk,_⟩:=hI.rdy hi
  unfold ZI
  dsimp only
  rw[if_neg (by omega),if_neg (by omega)]
 intro d hd
 unfold gdeeds at hd
 by_cases hz:(h:Int)∈g.zz
 ·simp only[if_pos hz]at hd;cases hd
 simp only[if_neg hz]at hd
 by_cases ht:0≤g.task h
 ·simp only[if_pos ht]at hd
  by_cases hk:1<g.work h
  ·simp only[if_pos hk]at hd;cases hd
  ·simp only[if_neg hk]at hd
   rw[zeA]at hd
   rcases List.mem_cons.1 hd with rfl|hd
   ·exact one _ 4 0 (qM hh ht) ⟨by omega,by omega⟩ (Or.inr ⟨by omega,rfl⟩)
   ·obtain⟨x,hx,rfl⟩:=List.mem_map.1 hd
    obtain⟨k,hk,rfl,_⟩:=hI.zr x (List.mem_of_mem_take hx)
    unfold ZI wokeD
    dsimp only
    rw[if_neg (by omega),if_neg (by omega)]
 simp only[if_neg ht]at hd
 by_cases hn:g.near h≠-1
 ·simp only[if_pos hn]at hd
  rw[List.mem_singleton.1 hd]
  exact one _ 1 0 (xG hh hn) ⟨by omega,by omega⟩ (Or.inr ⟨by omega,rfl⟩)
 simp only[if_neg hn]at hd
 by_cases hr:g.ring h≠[]
 ·simp only[if_pos hr]at hd
  rw[List.mem_singleton.1 hd]
  exact one _ 1 0 (zW hh (by rw[yB hr];simp)) ⟨by omega,by omega⟩ (Or.inr ⟨by omega,rfl⟩)
 simp only[if_neg hr]at hd
 by_cases hs:g.sp≠[]
 ·simp only[if_pos hs]at hd
  rw[List.mem_singleton.1 hd]
  refine one _ 3 0 (jw ?_) ⟨by omega,by omega⟩ (Or.inr ⟨by omega,rfl⟩)
  cases hc:g.sp with
  | nil=>exact absurd hc hs
  | cons x r=>simp
 simp only[if_neg hs]at hd
 by_cases hp:pick % hands=h∨g.ring (pick % hands)=[]
 ·simp only[if_pos hp]at hd
  rw[List.mem_singleton.1 hd]
  unfold ZI
  dsimp only
  rw[if_neg (by omega),if_neg (by omega)]
 ·simp only[if_neg hp]at hd
  rw[List.mem_singleton.1 hd]
  have hpl:pick % hands<hands:=Nat.mod_lt _ (by omega)
  refine one _ 2 _ (zW hpl ?_) ⟨by omega,by omega⟩ (Or.inl ⟨rfl,by omega,by omega⟩)
  have hlen:0<(g.ring (pick % hands)).length:=List.length_pos_iff.2 (fun e=>hp (Or.inr e))
  refine List.mem_of_mem_take (i:=((g.ring (pick % hands)).length+1) / 2) ?_
  cases hc:(g.ring (pick % hands)).take (((g.ring (pick % hands)).length+1) / 2) with
  | nil=>
   have h2:=congrArg List.length hc
   rw[List.length_take]at h2
   have h3:min (((g.ring (pick % hands)).length+1) / 2) (g.ring (pick % hands)).length=0:=h2
   omega
  | cons x r=>simp
end
section
open Go.RowKit Go.Deep
theorem least(P:Nat→Prop):∀n,P n→∃k,P k∧∀j,j<k→¬P j:=by
 intro n
 induction n using Nat.strongRecOn with
 | _ n ih=>
  intro hn
  by_cases h:∃j,j<n∧P j
  ·obtain⟨j,hj,hp⟩:=h
   exact ih j hj hp
  ·exact⟨n,hn,fun j hj hp=>h ⟨j,hj,hp⟩⟩
theorem zhj{X:Nat→Prop}{w w':World}(h:Below w.heap.size w w'):Kx X w w':=⟨h.os,h.tape,h.output,h.size,fun k hk _=>h.block k hk⟩
variable {B:Bs} {G room hands:Nat} {ts:Zl} {g:Gs} {wk:Nat→Int} {own:Nat→Nat} {Q:Qp} {w w':World}
def GX(X:Nat→Prop)(G room hands:Nat)(ts:Zl)(g:Gs)(w:World):Prop:=
 ∃B own Q wk,Pg B G room hands ts g wk own Q w∧WkOk ts hands g wk∧Inv ts room hands g∧∀k,X k→k<w.heap.size∧own k=9
variable {X Y:Nat→Prop}
theorem GX.sub(h:GX X G room hands ts g w)(hs:∀k,Y k→X k):GX Y G room hands ts g w:=by
 obtain⟨B,own,Q,wk,hP,hK,hI,hX⟩:=h
 exact⟨B,own,Q,wk,hP,hK,hI,fun k hk=>hX k (hs k hk)⟩
theorem GX.away(h:GX X G room hands ts g w)(K:Kx X w w'):GX (fun k=>X k∨(w.heap.size≤k∧k<w'.heap.size)) G room hands ts g w':=by
 obtain⟨B,own,Q,wk,hP,hK,hI,hX⟩:=h
 refine⟨_,_,Q,wk,hP.away ⟨K.os,K.tape,K.output,K.size,fun k hk hC=>K.block k hk (fun e=>hC (hX k e).2)⟩,hK,hI,fun k hk=>?_⟩
 rcases hk with hk|⟨h1,h2⟩
 ·have:=hX k hk
  exact⟨qq3 this.1 K.size,by rw[za this.1];exact this.2⟩
 ·exact⟨h2,zj h1⟩
theorem GX.later(h:GX X G room hands ts g w)(hb:Below w.heap.size w w'):GX X G room hands ts g w':=(h.away (zhj hb)).sub (fun _ hk=>Or.inl hk)
structure X0 (X:Nat→Prop) (w w':World):Prop where
 os:w'.os=w.os
 tape:w'.tape=w.tape
 output:w'.output=w.output
 size:w.heap.size≤w'.heap.size
 block:∀k,X k→w'.heap[k]?=w.heap[k]?
theorem GX.step(h:GX X G room hands ts g w)(hg:Good ts)(hw:∀i,i<ts.length→1≤Zv ts i∧Zv ts i≤1000)(hr1:1≤room)(h16:room≤16)(h6:hands≤6)(j pick:Nat)(hj:j<hands)(hp63:pick<9223372036854775808) :
  Calls Tryz.prog 92 #[.pointer (some ⟨G,0,none⟩),.int .i64 j,.int .i64 pick] w fun e w'=>∃v,e=.returned (.tuple #[v,.nilIface])∧RowD w.heap.size w' v (gdeeds ts hands g j pick)∧GX X G room hands ts (gstep ts room hands g j pick) w'∧X0 X w w':=by
 obtain⟨B,own,Q,wk,hP,hK,hI,hX⟩:=h
 refine(zh8 hP hI hK hg hw hr1 h16 h6 j pick hj hp63).mono ?_
 rintro e w' ⟨v,rfl,hv,B',own',Q',wk',hP',hK',hW⟩
 exact⟨v,rfl,hv,⟨B',own',Q',wk',hP',hK',hI.step hg (fun i hi=>(hw i hi).1) hr1 hj pick,fun k hk=>⟨qq3 (hX k hk).1 hW.size,(hW.block k (hX k hk).1 (hX k hk).2).2⟩⟩,hW.os,hW.tape,hW.output,hW.size,fun k hk=>(hW.block k (hX k hk).1 (hX k hk).2).1⟩
theorem GX.refused(h:GX X G room hands ts g w)(x y:Int)(hno:x<0∨(hands:Int)≤x∨y<0) :
  Calls Tryz.prog 92 #[.pointer (some ⟨G,0,none⟩),.int .i64 x,.int .i64 y] w fun e w'=>e=.returned (.tuple #[.slice none 0 0,.iface 97 (.int .i64 1)])∧w'=w:=by
 obtain⟨B,own,Q,wk,hP,hK,hI,hX⟩:=h
 by_cases hr:x<0∨(hands:Int)≤x
 ·exact zfq hP x y hr
 ·obtain⟨j,rfl⟩:∃j:Nat,x=j:=⟨x.toNat,by omega⟩
  exact zg0 hP j y (by omega) (by omega)
theorem zgf(hP:Pg B G room hands ts g wk own Q w) :
  Calls Tryz.prog 15 #[.pointer (some ⟨G,0,none⟩)] w fun e w'=>e=.returned (.int .i64 (unseen g.S ts.length))∧∃q,w'=w.drewN q:=by
 have c0:=hP.c.1
 have hl:=zhD Q.J Q.M Q.A Q.D Q.C ts g.S w hP.jn
 clear hP
 go_enter Tryz.func15,Tryz.ntmps15
 go_wp2_with (first|(go_at_call 14;refine hl.mono ?_;clear hl;rintro e w1 ⟨rfl,q,rfl⟩))
 go_ret
 exact⟨rfl,_,rfl⟩
theorem GX.left(h:GX X G room hands ts g w) :
  Calls Tryz.prog 15 #[.pointer (some ⟨G,0,none⟩)] w fun e w'=>e=.returned (.int .i64 (unseen g.S ts.length))∧Below w.heap.size w w':=by
 obtain⟨B,own,Q,wk,hP,hK,hI,hX⟩:=h
 refine(zgf hP).mono ?_
 rintro e w' ⟨rfl,q,rfl⟩
 exact⟨rfl,rfl,rfl,rfl,qq1 _,fun _ _=>rfl⟩
theorem ziZ{v:Value}(hp:Zf w v ts)(hc:Zc ts 0 0)(h1:1≤hands)(h6:hands≤6)(r1:1≤room)(r16:room≤16) :
  Calls Tryz.prog 13 #[v,.int .i64 hands,.int .i64 room] w fun e w'=>∃G,e=.returned (.tuple #[.pointer (some ⟨G,0,none⟩),.nilIface])∧GX (fun k=>k<w.heap.size) G room hands ts (gnew ts) w'∧Below w.heap.size w w':=by
 refine(zgg v ts w hp hc hands room h1 h6 r1 r16).mono ?_
 rintro e w' ⟨G,own,Q,rfl,hP,hG,hb⟩
 exact⟨G,rfl,⟨_,own,Q,_,hP,WkOk.new ts hands,Inv.new h1,fun k hk=>⟨by have hk':k<w.heap.size:=hk;have:=hb.size;omega,(hP.far k hk).2.1⟩⟩,hb⟩
end
section
open Go.RowKit Go.Deep
def Y6(Y:Nat→Prop)(w:World)(pv:Value)(ts:Zl):Prop:=∀W:World,(∀k,Y k→W.heap[k]?=w.heap[k]?)→Zf W pv ts
theorem Y6.at{Y:Nat→Prop}{w:World}{pv:Value}{ts:Zl}(h:Y6 Y w pv ts):Zf w pv ts:=h w (fun _ _=>rfl)
theorem Y6.kept{Y:Nat→Prop}{w w':World}{pv:Value}{ts:Zl}(h:Y6 Y w pv ts)(e:∀k,Y k→w'.heap[k]?=w.heap[k]?):Y6 Y w' pv ts:=fun W hW=>h W (fun k hk=>(hW k hk).trans (e k hk))
theorem Y6.nil(Y:Nat→Prop)(w:World):Y6 Y w (.slice none 0 0) []:=fun W _=>⟨by simp,none,0,rfl,Or.inl rfl⟩
def XL(X:Nat→Prop):Option (Zl×Nat×Gs)→Value→World→Prop
 | none,gv,_=>gv=.pointer none
 | some (ts,hands,g),gv,w=>∃G,gv=.pointer (some ⟨G,0,none⟩)∧GX X G 4 hands ts g w
structure ZB (W0:World) (Y X:Nat→Prop) (S:Nat) (d:Desk) (w:World):Prop where
 low:∀k,X k→k<w.heap.size
 old:∀k,k<W0.heap.size→X k
 sz:W0.heap.size≤S
 xS:X S
 yX:∀k,Y k→X k∧k≠S
 bel:Below W0.heap.size W0 w
 mem:∃pv gv,w.heap[S]?=some (.cells #[pv,gv] 51 (0,0))∧Y6 Y w pv d.ts∧XL X d.gang gv w
 ok:d.Ok
variable {W0:World} {Y X Z:Nat→Prop} {S:Nat} {d d':Desk} {w w' w'':World}
theorem XL.away{o:Option (Zl×Nat×Gs)}{gv:Value}(h:XL X o gv w)(K:Kx X w w'):XL (fun k=>X k∨(w.heap.size≤k∧k<w'.heap.size)) o gv w':=by
 cases o with
 | none=>exact h
 | some x=>
  obtain⟨G,h1,h2⟩:=h
  exact⟨G,h1,h2.away K⟩
theorem XL.sub{o:Option (Zl×Nat×Gs)}{gv:Value}(h:XL X o gv w)(e:∀k,Z k→X k):XL Z o gv w:=by
 cases o with
 | none=>exact h
 | some x=>
  obtain⟨G,h1,h2⟩:=h
  exact⟨G,h1,h2.sub e⟩
def Yx(X:Nat→Prop)(a b:Nat):Nat→Prop:=fun k=>X k∨(a≤k∧k<b)
theorem ZB.away(h:ZB W0 Y X S d w)(K:Kx Z w w')(hX:∀k,Z k→X k)(hY:∀k,Z k→¬Y k∧k≠S∧W0.heap.size≤k):ZB W0 Y (Yx X w.heap.size w'.heap.size) S d w':=by
 obtain⟨pv,gv,h1,h2,h3⟩:=h.mem
 have hs:∀k,X k→¬Z k→w'.heap[k]?=w.heap[k]?:=fun k hx hz=>K.block k (h.low k hx) hz
 refine⟨fun k hk=>?_,fun k hk=>Or.inl (h.old k hk),h.sz,Or.inl h.xS,fun k hk=>⟨Or.inl (h.yX k hk).1,(h.yX k hk).2⟩,?_,⟨pv,gv,?_,?_,?_⟩,h.ok⟩
 ·rcases hk with hk|hk
  ·exact qq3 (h.low k hk) K.size
  ·exact hk.2
 ·exact⟨K.os.trans h.bel.os,K.tape.trans h.bel.tape,K.output.trans h.bel.output,qq2 h.bel.size K.size,fun k hk=>(hs k (h.old k hk) (fun hz=>by have:=(hY k hz).2.2;omega)).trans (h.bel.block k hk)⟩
 ·exact(hs S h.xS (fun hz=>(hY S hz).2.1 rfl)).trans h1
 ·exact h2.kept (fun k hk=>hs k (h.yX k hk).1 (fun hz=>(hY k hz).1 hk))
 ·exact h3.away ⟨K.os,K.tape,K.output,K.size,fun k hk hx=>K.block k hk (fun hz=>hx (hX k hz))⟩
theorem ZB.later(h:ZB W0 Y X S d w)(hb:Below w.heap.size w w'):ZB W0 Y (Yx X w.heap.size w'.heap.size) S d w':=
 h.away (Z:=fun _=>False) ⟨hb.os,hb.tape,hb.output,hb.size,fun k hk _=>hb.block k hk⟩ (fun _ h=>h.elim) (fun _ h=>h.elim)
def YJ(W0:World)(Y X:Nat→Prop)(S:Nat)(d':Desk)(w w':World):Prop:=
 ∃Y' X':Nat→Prop,ZB W0 Y' X' S d' w'∧(∀k,Y k→Y' k)∧(∀k,X k→X' k)∧(∀k,Y' k→Y k∨w.heap.size≤k)∧X0 (fun k=>X k∧k≠S) w w'
theorem ZB.stays(h:ZB W0 Y X S d w)(hb:Below w.heap.size w w'):YJ W0 Y X S d w w':=
 ⟨Y,_,h.later hb,fun _ hk=>hk,fun _ hk=>Or.inl hk,fun _ hk=>Or.inl hk,hb.os,hb.tape,hb.output,hb.size,fun k hk=>hb.block k (h.low k hk.1)⟩
theorem YJ.later(h:YJ W0 Y X S d w w')(hb:Below w'.heap.size w' w''):YJ W0 Y X S d w w'':=by
 obtain⟨Y',X',h1,h2,h3,h4,h5⟩:=h
 exact⟨Y',_,h1.later hb,h2,fun k hk=>Or.inl (h3 k hk),h4,hb.os.trans h5.os,hb.tape.trans h5.tape,hb.output.trans h5.output,qq2 h5.size hb.size,fun k hk=>(hb.block k (h1.low k (h3 k hk.1))).trans (h5.block k hk)⟩
theorem YJ.ahead(h:YJ W0 Y (Yx X w.heap.size w'.heap.size) S d w' w'')(hb:Below w.heap.size w w')(hl:∀k,X k→k<w.heap.size):YJ W0 Y X S d w w'':=by
 obtain⟨Y',X',h1,h2,h3,h4,h5⟩:=h
 exact⟨Y',X',h1,h2,fun k hk=>h3 k (Or.inl hk),fun k hk=>(h4 k hk).imp id (qq2 hb.size),h5.os.trans hb.os,h5.tape.trans hb.tape,h5.output.trans hb.output,qq2 hb.size h5.size,fun k hk=>(h5.block k ⟨Or.inl hk.1,hk.2⟩).trans (hb.block k (hl k hk.1))⟩
theorem zdt(S:Nat)(w:World)(j:Nat)(u:Value):Kx (fun k=>k=S) w (w.setCell ⟨S,j,none⟩ u):=
 ⟨rfl,rfl,rfl,by simp,fun k _ hk=>qq5 _ _ _ _ (by show k≠S;exact hk)⟩
theorem zgW{w:World}{pv gv u:Value}(h:w.heap[S]?=some (.cells #[pv,gv] 51 (0,0))):(w.setCell ⟨S,0,none⟩ u).heap[S]?=some (.cells #[u,gv] 51 (0,0)):=by
 simp[World.setCell,Array.getElem?_modify,h]
theorem zgX{w:World}{pv gv u:Value}(h:w.heap[S]?=some (.cells #[pv,gv] 51 (0,0))):(w.setCell ⟨S,1,none⟩ u).heap[S]?=some (.cells #[pv,u] 51 (0,0)):=by
 simp[World.setCell,Array.getElem?_modify,h]
theorem ZB.putPlan(h:ZB W0 Y X S d w)(hb:Below w.heap.size w w'){v:Value}{ts:Zl}(hp:ZX w.heap.size w' v ts)(hc:Zc ts 0 0):YJ W0 Y X S { d with ts:=ts } w (w'.setCell ⟨S,0,none⟩ v):=by
 have h2:=h.later hb
 obtain⟨pv,gv,e1,e2,e3⟩:=h2.mem
 have hS:S<w.heap.size:=h.low S h.xS
 have hkk:∀k,k≠S→(w'.setCell ⟨S,0,none⟩ v).heap[k]?=w'.heap[k]?:=fun k hk=>qq5 _ _ _ _ hk
 refine⟨Yx Y w.heap.size w'.heap.size,Yx X w.heap.size w'.heap.size,⟨fun k hk=>?_,fun k hk=>Or.inl (h.old k hk),h.sz,Or.inl h.xS,fun k hk=>?_,?_,⟨v,gv,zgW e1,?_,?_⟩,⟨hc,h.ok.gg⟩⟩,fun k hk=>Or.inl hk,fun k hk=>Or.inl hk,fun k hk=>hk.imp id (fun e=>e.1),hb.os,hb.tape,hb.output,by simpa using hb.size,fun k hk=>?_⟩
 ·have:=h2.low k hk;simpa using this
 ·rcases hk with hk|hk
  ·exact⟨Or.inl (h.yX k hk).1,(h.yX k hk).2⟩
  ·exact⟨Or.inr hk,fun e=>by omega⟩
 ·exact h2.bel.setCell (p:=⟨S,0,none⟩) h.sz v
 ·intro W hW
  refine hp W (fun k h3 h4=>?_)
  refine(hW k (Or.inr ⟨h3,h4⟩)).trans (hkk k (by omega))
 ·refine(e3.away ((zdt S w' 0 v).trans (Kx.refl _ _) (fun _ hj=>Or.inl hj) |> fun K=>⟨K.os,K.tape,K.output,K.size,fun k hk hx=>K.block k hk (fun e=>hx (by rw[e];exact h2.xS))⟩)).sub (fun k hk=>Or.inl hk)
 ·exact(hkk k hk.2).trans (hb.block k (h.low k hk.1))
theorem ZB.putGang(h:ZB W0 Y X S d w)(hb:Below w.heap.size w w'){G hands:Nat}(hg:GX (fun k=>k<w.heap.size) G 4 hands d.ts (gnew d.ts) w')(h1:1≤hands)(h6:hands≤6):YJ W0 Y X S { d with gang:=some (d.ts,hands,gnew d.ts) } w (w'.setCell ⟨S,1,none⟩ (.pointer (some ⟨G,0,none⟩))):=by
 have h2:=h.later hb
 obtain⟨pv,gv,e1,e2,e3⟩:=h2.mem
 have hS:S<w.heap.size:=h.low S h.xS
 have hkk:∀k,k≠S→(w'.setCell ⟨S,1,none⟩ (.pointer (some ⟨G,0,none⟩))).heap[k]?=w'.heap[k]?:=fun k hk=>qq5 _ _ _ _ hk
 refine⟨Y,fun k=>k<w.heap.size,⟨fun k hk=>?_,fun k hk=>h.low k (h.old k hk),h.sz,hS,fun k hk=>⟨h.low k (h.yX k hk).1,(h.yX k hk).2⟩,?_,⟨pv,_,zgX e1,?_,G,rfl,?_⟩,⟨h.ok.pl,fun t hands' g' e=>?_⟩⟩,fun k hk=>hk,fun k hk=>h.low k hk,fun k hk=>Or.inl hk,hb.os,hb.tape,hb.output,by simpa using hb.size,fun k hk=>?_⟩
 ·have:=hb.size
  have hk':k<w.heap.size:=hk
  simp only[World.size_setCell];omega
 ·exact h2.bel.setCell (p:=⟨S,1,none⟩) h.sz _
 ·exact e2.kept (fun k hy=>hkk k (h.yX k hy).2)
 ·exact(hg.away (w':=w'.setCell ⟨S,1,none⟩ (.pointer (some ⟨G,0,none⟩))) ((zdt S w' 1 _).trans (Kx.refl _ _) (fun _ hj=>Or.inl hj) |> fun K=>⟨K.os,K.tape,K.output,K.size,fun k hk hx=>K.block k hk (fun e=>hx (by rw[e];exact hS))⟩)).sub (fun k hk=>Or.inl hk)
 ·cases e
  exact⟨h.ok.pl,h1,h6,Inv.new h1⟩
 ·exact(hkk k hk.2).trans (hb.block k (h.low k hk.1))
theorem ZB.stepped(h:ZB W0 Y X S d w){ts:Zl}{hands G:Nat}{g':Gs}{pv:Value}(hm:w.heap[S]?=some (.cells #[pv,.pointer (some ⟨G,0,none⟩)] 51 (0,0)))(hp:Y6 Y w pv d.ts)(hk:X0 X w w')(hg:GX X G 4 hands ts g' w')(ho:({ d with gang:=some (ts,hands,g') }:Desk).Ok):YJ W0 Y X S { d with gang:=some (ts,hands,g') } w w':=by
 refine⟨Y,X,⟨fun k hx=>qq3 (h.low k hx) hk.size,h.old,h.sz,h.xS,h.yX,⟨hk.os.trans h.bel.os,hk.tape.trans h.bel.tape,hk.output.trans h.bel.output,qq2 h.bel.size hk.size,fun k hx=>(hk.block k (h.old k hx)).trans (h.bel.block k hx)⟩,⟨pv,_,(hk.block S h.xS).trans hm,hp.kept (fun k hy=>hk.block k (h.yX k hy).1),G,rfl,hg⟩,ho⟩,fun _ e=>e,fun _ e=>e,fun _ e=>Or.inl e,hk.os,hk.tape,hk.output,hk.size,fun k hx=>hk.block k hx.1⟩
end
end Go.Proofs.YtlfbdjeojgbniaaGreatDoor
namespace Go.Proofs.YtlfbdjeojgbniaaGreatDoor.Spl
open Go.RowKit Go.Deep
def Yr(va vb:Value):Prop:=∀k,va.ownBlock=some k→vb.ownBlock=some k→False
theorem Yr.symm{va vb:Value}(h:Yr va vb):Yr vb va:=fun k h1 h2=>h k h2 h1
theorem yU{B:Nat}{w1 w2:World}{va vb v':Value}{nb:Nat}{xb:List Value}(hb:w1.ownsRow B 3 1 vb nb xb)(hap:Yr va vb)(hg:w1.grownBy w2 va.ownBlock)(hat:v'.ownBlock=va.ownBlock∨v'.ownBlock=some w1.heap.size):w2.ownsRow B 3 1 vb nb xb∧Yr v' vb:=by
 refine⟨hb.kept hg ?_,fun k h1 h2=>?_⟩
 ·cases h:vb.ownBlock with
  | none=>exact Or.inl rfl
  | some k=>exact Or.inr (fun e=>hap k e.symm h)
 ·rcases hat with h|h
  ·exact hap k (h.symm.trans h1) h2
  ·have:=(hb.lt k h2).2
   rw[h]at h1
   simp only[Option.some.injEq]at h1
   omega
structure CutM (n k:Nat) (xs la lb:List Int) (w wr:World) (va vb:Value):Prop where
 ea:la=xs.take (min k n)
 eb:lb=(xs.take k).drop n
 a:RowI w.heap.size wr va la
 b:RowI w.heap.size wr vb lb
 ap:Yr va vb
 below:Below w.heap.size w wr
theorem yw(xs:List Int){k:Nat}(h:k<xs.length):xs.take (k+1)=xs.take k++[xs.getD k 0]:=by
 rw[qq8 h,qq6,qq7 h];rfl
theorem zK(w:World)(x:Int):Rds (fun _=>True) (w.alloc (.cells #[.int .i64 x] 3)) (.slice (some ⟨w.heap.size,0,none⟩) 1 1) [x]:=
 ((RowI.whole _ _ 1 _ rfl (by omega) (heap_alloc_new w _)).rds).mono (fun _ _=>trivial)
set_option maxRecDepth 100000 in
set_option maxHeartbeats 2000000 in
theorem yN(A:Nat→Prop)(v:Value)(xs:List Int)(n:Nat)(w:World)(h:Rds A w v xs)(hx:xs.length≤100) :
  Calls Tryz.prog 70 #[v,.int .i64 n] w fun e w'=>∃va vb,e=.returned (.tuple #[va,vb])∧RowI w.heap.size w' va (xs.take n)∧RowI w.heap.size w' vb (xs.drop n)∧Yr va vb∧Below w.heap.size w w':=by
 obtain⟨a1,c1,rfl,hl1,h⟩:=h
 have H:Hid (∀k,k<xs.length→∃b o,a1=some ⟨b,o,none⟩∧A b∧b<w.heap.size∧w.cell? ⟨b,o+k,none⟩=some (.int .i64 (xs.getD k 0))):=h
 clear h hl1
 go_enter Tryz.func70,Tryz.ntmps70
 go_wp2
 go_loopw [6,7,8] (fun va vb s8 wr=>∃(k:Nat) (la lb:List Int),k≤xs.length∧s8=.int .i64 k∧Hid (CutM n k xs la lb w wr va vb)) (fun _ _ s8 _=>xs.length-(intOf s8).toNat)
 case atStart=>exact⟨0,[],[],Nat.zero_le _,rfl,⟨by simp,by simp,RowI.nil _ _,RowI.nil _ _,fun k h=>by simp[Value.ownBlock]at h,qq4 _ _⟩⟩
 case round=>
  obtain⟨k,la,lb,hk,rfl,hM⟩:=hrel
  obtain⟨aa,ac,rfl⟩:=hM.out.a.shape
  obtain⟨ba,bc,rfl⟩:=hM.out.b.shape
  have hla:la.length≤100:=by rw[hM.out.ea];simp;omega
  have hlb:lb.length≤100:=by rw[hM.out.eb];simp;omega
  by_cases hkl:k<xs.length
  ·obtain⟨b1,o1,rfl,_,hb1,hc1⟩:=H.out k hkl
   have hc2:=(hM.out.below.cell (p:=⟨b1,o1+k,none⟩) hb1).trans hc1
   have hT:=yw xs hkl
   have HT:Hid (xs.take (k+1)=xs.take k++[xs.getD k 0]):=hT
   clear hc1 hT
   generalize xs.getD k 0=x at *
   have hsz:=hM.out.below.size
   have HO:Hid (Rds (fun _=>True) (wr.alloc (.cells #[.int .i64 x] 3)) (.slice (some ⟨wr.heap.size,0,none⟩) 1 1) [x]):=zK wr x
   by_cases hkn:k<n
   ·have hkn':(k:Int)<(n:Int):=by omega
    have hoa:=hM.out.a.alloc (.cells #[.int .i64 x] 3)
    go_wp2_with (first|(at_builtin;refine ze rfl (.tmp 18) (.tmp 23) rfl w.heap.size (fun _=>True) (.slice aa la.length ac) (.slice (some ⟨wr.heap.size,0,none⟩) 1 1) la [x] rfl rfl hoa HO.out (by simp;omega) (by simp;omega) ?_;intro v2 w2 hown2 hgr2 hat2))
    obtain⟨hb2,hap2⟩:=yU (hM.out.b.alloc (.cells #[.int .i64 x] 3)) hM.out.ap hgr2 (by simpa using hat2)
    have hM2:Hid (CutM n (k+1) xs (la++[x]) lb w w2 v2 (.slice ba lb.length bc)):=by
     refine⟨?_,?_,hown2,hb2,hap2,(hM.out.below.alloc hsz _).grown hgr2 (by simp;omega) (fun j e=>(hM.out.a.low e).1)⟩
     ·rw[show min (k+1) n=k+1 by omega,HT.out,hM.out.ea,show min k n=k by omega]
     ·rw[hM.out.eb,List.drop_eq_nil_of_le (by simp;omega),List.drop_eq_nil_of_le (by simp;omega)]
    clear hM hown2 hgr2 hat2 hb2 hap2 hoa HO
    go_wp2
    go_roundw
    case rel=>exact⟨k+1,_,_,by omega,by go_num,hM2⟩
    case measure=>simp[intOf];omega
   ·have hkn':¬(k:Int)<(n:Int):=by omega
    have hob:=hM.out.b.alloc (.cells #[.int .i64 x] 3)
    go_wp2_with (first|(at_builtin;refine ze rfl (.tmp 25) (.tmp 30) rfl w.heap.size (fun _=>True) (.slice ba lb.length bc) (.slice (some ⟨wr.heap.size,0,none⟩) 1 1) lb [x] rfl rfl hob HO.out (by simp;omega) (by simp;omega) ?_;intro v2 w2 hown2 hgr2 hat2))
    obtain⟨ha2,hap2⟩:=yU (hM.out.a.alloc (.cells #[.int .i64 x] 3)) hM.out.ap.symm hgr2 (by simpa using hat2)
    have hM2:Hid (CutM n (k+1) xs la (lb++[x]) w w2 (.slice aa la.length ac) v2):=by
     refine⟨?_,?_,ha2,hown2,hap2.symm,(hM.out.below.alloc hsz _).grown hgr2 (by simp;omega) (fun j e=>(hM.out.b.low e).1)⟩
     ·rw[show min (k+1) n=min k n by omega]
      exact hM.out.ea
     ·rw[HT.out,List.drop_append_of_le_length (by simp;omega),hM.out.eb]
    clear hM hown2 hgr2 hat2 ha2 hap2 hob HO
    go_wp2
    go_roundw
    case rel=>exact⟨k+1,_,_,by omega,by go_num,hM2⟩
    case measure=>simp[intOf];omega
  ·have hke:k=xs.length:=by omega
   have hkl':¬(k:Int)<(xs.length:Int):=by omega
   have HA:Hid (RowI w.heap.size wr (.slice aa la.length ac) (xs.take n)):=by
    have:=hM.out.a
    have e:=hM.out.ea
    rw[show xs.take (min k n)=xs.take n from by rw[hke,Nat.min_comm,←List.take_eq_take_min]]at e
    rwa [e]at this ⊢
   have HBB:Hid (RowI w.heap.size wr (.slice ba lb.length bc) (xs.drop n)):=by
    have:=hM.out.b
    have e:=hM.out.eb
    rw[hke,List.take_length]at e
    rwa [e]at this ⊢
   have HL:Hid (Below w.heap.size w wr):=hM.out.below
   have HP:Hid (Yr (.slice aa la.length ac) (.slice ba lb.length bc)):=hM.out.ap
   clear hM
   go_wp2
   go_ret2
   exact⟨_,_,rfl,HA.out,HBB.out,HP.out,HL.out⟩
end Go.Proofs.YtlfbdjeojgbniaaGreatDoor.Spl

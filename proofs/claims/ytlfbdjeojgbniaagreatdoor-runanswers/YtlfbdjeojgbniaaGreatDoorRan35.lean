import Derived.Test.YtlfbdjeojgbniaaGreatDoorRan34
import Derived.Stop.Asserts
import Derived.Lib.SmallJoins
import Derived.Lib.AppendIntMem
namespace Go.Proofs.YtlfbdjeojgbniaaGreatDoor
section
open Go.RowKit Go.Deep
def Y3(w:World):Prop:=3<w.heap.size∧∀k:Nat,k<6→w.cell? ⟨3,k*2,none⟩=some (.string ⟨(Yk ((k:Int)+1)).toArray⟩)∧w.cell? ⟨3,k*2+1,none⟩=some (.int .i64 ((Xq ((k:Int)+1):Nat):Int))
theorem Y3.later{w w':World}(h:Y3 w)(hb:Below w.heap.size w w'):Y3 w':=
 ⟨qq3 h.1 hb.size,fun k hk=>⟨(hb.cell (p:=⟨3,k*2,none⟩) h.1).trans (h.2 k hk).1,(hb.cell (p:=⟨3,k*2+1,none⟩) h.1).trans (h.2 k hk).2⟩⟩
def YK(l:List Int):List UInt8:=l.flatMap (fun z=>32::digs z)
def XO(d:Deed):List Int:=[d.2.1,d.2.2.1,d.2.2.2].take (Xq d.1)
theorem qV(d:Deed)(h:ZI d=0):Zn d=Yk d.1++YK (XO d):=by
 obtain⟨h1,-⟩:=xM h
 unfold Zn XX XO Xq YK
 by_cases e4:4<d.1
 ·rw[if_pos e4,if_neg (by omega),if_pos e4];simp[Z8]
 ·rw[if_neg e4]
  by_cases e2:d.1=2
  ·rw[if_pos e2,if_pos e2];simp[Z8]
  ·rw[if_neg e2,if_neg e2,if_neg e4];simp[Z8]
theorem zfv(l:List Int)(z:Int):YK (l++[z])=(YK l++[32])++digs z:=by simp[YK]
theorem zhQ(a:Int):Xq a≤3:=by
 unfold Xq
 split
 ·omega
 ·split <;> omega
theorem zad(l:List Int)(h:∀z,z∈l→0≤z∧z<100):(YK l).length≤3*l.length:=by
 induction l with
 | nil=>simp[YK]
 | cons a r ih=>
  have h1:=zQ (h a (by simp))
  have h2:=ih (fun z hz=>h z (List.mem_cons_of_mem _ hz))
  have e:YK (a::r)=(32::digs a)++YK r:=by simp[YK]
  rw[e,qb,List.length_cons,List.length_cons]
  omega
theorem zcd(a:Int):(Yk a).length≤8:=by
 unfold Yk
 split
 ·decide
 ·split
  ·decide
  ·split
   ·decide
   ·split
    ·decide
    ·split <;> decide
set_option maxRecDepth 100000 in
set_option maxHeartbeats 4000000 in
theorem zbM(w0 w:World)(b:Nat)(acc:List UInt8)(x1 x2 x3 x4:Int)(hb0:Below w0.heap.size w0 w)(h:Zu w0.heap.size b w acc)(hf:Y3 w0)(hd:ZI (x1,x2,x3,x4)=0)(hl:acc.length≤10000000) :
  Calls Tryz.prog 128 #[.pointer (some ⟨b,0,none⟩),.agg #[.int .i64 x1,.int .i64 x2,.int .i64 x3,.int .i64 x4]] w fun e w'=>e=.returned (.tuple #[])∧Zu w0.heap.size b w' (acc++(Zn (x1,x2,x3,x4)++[10]))∧Below w0.heap.size w0 w':=by
 have HTX:Hid (Zn (x1,x2,x3,x4)=Yk x1++YK ([x2,x3,x4].take (Xq x1))):=qV _ hd
 obtain⟨h1,h2,h3,h4,h5,-⟩:=xM hd
 dsimp only at h1 h2 h3 h4 h5
 have hall:∀z,z∈[x2,x3,x4]→0≤z∧z<100:=fun z hz=>by
  simp only[List.mem_cons,List.not_mem_nil,or_false]at hz
  rcases hz with rfl|rfl|rfl
  ·omega
  ·omega
  ·by_cases e:x1=2
   ·have:=h4 e;omega
   ·have:=h5 e;omega
 obtain⟨k,hk⟩:∃k:Nat,x1=(k:Int)+1:=⟨(x1-1).toNat,by omega⟩
 have hk6:k<6:=by omega
 have hki:(k:Int)<6:=by omega
 have hsub:IntKind.i64.wrap (x1-1)=(k:Int):=by rw[hk,Int.add_sub_cancel];rw[IntKind.wrap_i64];omega
 have hbA:Below w0.heap.size w0 (w.alloc (.cells #[.int .i64 x1,.int .i64 x2,.int .i64 x3,.int .i64 x4] 91)):=hb0.alloc hb0.size _
 have hfA:=hf.later hbA
 obtain⟨f0,f1⟩:=hfA.2 k hk6
 rw[←hk]at f0 f1
 have hnl:=zhQ x1
 have HB:Hid (Zu w0.heap.size b w acc):=h
 have hblt:b<w.heap.size:=by
  rcases h with h|h
  ·exact h.lt
  ·exact h.lt
 have hwl:=zcd x1
 generalize hwd:Yk x1=wd at *
 generalize hm:Xq x1=m at *
 obtain⟨W,hW⟩:∃W,W=(w.alloc (.cells #[.int .i64 x1,.int .i64 x2,.int .i64 x3,.int .i64 x4] 91)).alloc (.cells #[.string ⟨wd.toArray⟩,.int .i64 (m:Int)] 249):=⟨_,rfl⟩
 have hbW:Below w.heap.size w W:=by rw[hW];exact((qq4 _ _).alloc (qq1 _) _).alloc (by simp) _
 have hb0W:Below w0.heap.size w0 W:=hb0.trans (hbW.mono hb0.size)
 have hps:=putString w0.heap.size b acc wd W (h.later hbW) (by omega) hb0W.size
 have q1:W.heap[w.heap.size]?=some (.cells #[.int .i64 x1,.int .i64 x2,.int .i64 x3,.int .i64 x4] 91 (0,0)):=by
  rw[hW,qa _ _ _ (by simp)];exact blk_alloc_new _ _
 have q2:W.heap[w.heap.size+1]?=some (.cells #[.string ⟨wd.toArray⟩,.int .i64 (m:Int)] 249 (0,0)):=by
  have:=blk_alloc_new (w.alloc (.cells #[.int .i64 x1,.int .i64 x2,.int .i64 x3,.int .i64 x4] 91)) (.cells #[.string ⟨wd.toArray⟩,.int .i64 (m:Int)] 249)
  rw[nblk_alloc]at this
  rw[hW];exact this
 have HW:Hid (W=(w.alloc (.cells #[.int .i64 x1,.int .i64 x2,.int .i64 x3,.int .i64 x4] 91)).alloc (.cells #[.string ⟨wd.toArray⟩,.int .i64 (m:Int)] 249)):=hW
 have w0c:W.cell? ⟨w.heap.size+1,0,none⟩=some (.string ⟨wd.toArray⟩):=by simp[World.cell?,q2]
 have HALL:Hid (∀z,z∈[x2,x3,x4]→0≤z∧z<100):=hall
 have HQ:Hid (∀w2,Kept b W w2→w2.heap[w.heap.size]?=some (.cells #[.int .i64 x1,.int .i64 x2,.int .i64 x3,.int .i64 x4] 91 (0,0))∧w2.heap[w.heap.size+1]?=some (.cells #[.string ⟨wd.toArray⟩,.int .i64 (m:Int)] 249 (0,0))):=fun w2 hk2=>⟨hk2 _ _ _ q1 (by decide) (by omega),hk2 _ _ _ q2 (by decide) (by omega)⟩
 have HB0:Hid (Below w0.heap.size w0 W):=hb0W
 clear hd h2 h3 h4 h5 hall hk h1 hb0 hbA hfA hf h hbW hb0W hW q1 q2 hwd hm
 go_enter Tryz.func128,Tryz.ntmps128
 go_upto_region 2 with fail
 rw[←HW.out]
 clear HW f0 f1 hsub
 go_wp2_with (first|(go_at_call 18;refine hps.mono ?_;clear hps;rintro e w2 ⟨⟨kk,rfl⟩,h2,hb2,hk2⟩;obtain⟨q1,q2⟩:=HQ.out w2 hk2;have e1:w2.cell? ⟨w.heap.size,1,none⟩=some (.int .i64 x2):=(by simp[World.cell?,q1]);have e2:w2.cell? ⟨w.heap.size,2,none⟩=some (.int .i64 x3):=(by simp[World.cell?,q1]);have e3:w2.cell? ⟨w.heap.size,3,none⟩=some (.int .i64 x4):=(by simp[World.cell?,q1]);have e4:(w2.alloc (.cells #[.int .i64 x2,.int .i64 x3,.int .i64 x4] 251)).cell? ⟨w.heap.size+1,1,none⟩=some (.int .i64 (m:Int)):=(World.cell?_alloc_lt _ _ ⟨w.heap.size+1,1,none⟩ (lt_of_block q2)).trans (by simp[World.cell?,q2]);have H2:Hid (Zu w0.heap.size b w2 (acc++wd)):=h2;have HB2:Hid (Below w0.heap.size w0 w2):=HB0.out.trans hb2;clear h2 hb2 hk2 q1 q2))
 have HBL:Hid (b<w2.heap.size):=by
  rcases H2.out with h|h
  ·exact h.lt
  ·exact h.lt
 have H3:Hid (Zu w0.heap.size b (w2.alloc (.cells #[.int .i64 x2,.int .i64 x3,.int .i64 x4] 251)) (acc++wd)):=H2.out.later ((qq4 _ _).alloc (qq1 _) _)
 have HN3:Hid ((w2.alloc (.cells #[.int .i64 x2,.int .i64 x3,.int .i64 x4] 251)).heap[w2.heap.size]?=some (.cells #[.int .i64 x2,.int .i64 x3,.int .i64 x4] 251 (0,0))):=blk_alloc_new _ _
 have HB3:Hid (Below w0.heap.size w0 (w2.alloc (.cells #[.int .i64 x2,.int .i64 x3,.int .i64 x4] 251))):=HB2.out.alloc HB2.out.size _
 clear e1 e2 e3 e4 HB HB0 HQ w0c
 go_loopw [25] (fun s25 wr=>∃i:Nat,i≤m∧s25=.int .i64 i∧Hid (Zu w0.heap.size b wr ((acc++wd)++YK ([x2,x3,x4].take i)))∧Hid (wr.heap[w2.heap.size]?=some (.cells #[.int .i64 x2,.int .i64 x3,.int .i64 x4] 251 (0,0)))∧Hid (Below w0.heap.size w0 wr)) (fun s25 _=>m-(intOf s25).toNat)
 case atStart=>exact⟨0,Nat.zero_le _,rfl,by rw[List.take_zero];show Zu _ _ _ (_++[]);rw[List.append_nil];exact H3,HN3,HB3⟩
 case round=>
  clear H3 HN3 HB3 H2 HB2
  obtain⟨i,hi,rfl,hbu,hnb,hB⟩:=hrel
  by_cases him:i<m
  ·have hi3:i<3:=by omega
   obtain⟨z,hz0,hzc,hzt⟩:∃z:Nat,z<100∧wr.cell? ⟨w2.heap.size,i,none⟩=some (.int .i64 (z:Int))∧[x2,x3,x4].take (i+1)=[x2,x3,x4].take i++[(z:Int)]:=by
    have hg:[x2,x3,x4][i]?=some ([x2,x3,x4][i]'(by simpa using hi3)):=List.getElem?_eq_getElem _
    have hm:=HALL.out _ (List.getElem_mem (l:=[x2,x3,x4]) (n:=i) (by simpa using hi3))
    refine⟨([x2,x3,x4][i]'(by simpa using hi3)).toNat,by omega,?_,?_⟩
    ·rw[Int.toNat_of_nonneg hm.1]
     rcases(by omega:i=0∨i=1∨i=2)with rfl|rfl|rfl <;> simp[World.cell?,hnb.out]
    ·rw[Int.toNat_of_nonneg hm.1]
     exact qq8 (by simpa using hi3)
   have hlen:((acc++wd)++YK ([x2,x3,x4].take i)).length≤10000000+8+9:=by
    have:=zad ([x2,x3,x4].take i) (fun z hz=>HALL.out z (List.mem_of_mem_take hz))
    have h3:([x2,x3,x4].take i).length≤3:=by simp;omega
    simp only[List.length_append]
    omega
   have hpb:=putByte w0.heap.size b _ 32 (by omega) wr hbu.out (by omega) hB.out.size
   have hnum:=fun W=>putNumber z hz0 W
   have HT:Hid (((acc++wd)++YK ([x2,x3,x4].take i))++[UInt8.ofNat 32]++digs (z:Int)=(acc++wd)++YK ([x2,x3,x4].take (i+1))):=(show _=_ by rw[hzt,zfv];simp)
   have hdl:=zQ (z:=(z:Int)) (by omega)
   have HNX:Hid (∀wx acc',Zu w0.heap.size b wx acc'→Below w0.heap.size w0 wx→acc'.length≤10000000+8+9+1→Calls Tryz.prog 18 #[.pointer (some ⟨b,0,none⟩),.string ⟨(digs (z:Int)).toArray⟩] wx fun e w'=>(∃k,e=.returned (.tuple #[.int .i64 k,.nilIface]))∧Zu w0.heap.size b w' (acc'++digs (z:Int))∧Below w0.heap.size wx w'∧Kept b wx w'):=fun wx acc' hx hbx hlx=>putString w0.heap.size b acc' (digs (z:Int)) wx hx (by omega) hbx.size
   have HK:Hid (∀wx,Kept b wr wx→wx.heap[w2.heap.size]?=some (.cells #[.int .i64 x2,.int .i64 x3,.int .i64 x4] 251 (0,0))):=fun wx hk=>hk _ _ _ hnb.out (by decide) (by have:=HBL.out;omega)
   have HZC:Hid (∀wx:World,wx.heap[w2.heap.size]?=wr.heap[w2.heap.size]?→wx.cell? ⟨w2.heap.size,i,none⟩=some (.int .i64 (z:Int))):=fun wx e=>(qq9 (a:=⟨w2.heap.size,i,none⟩) e).trans hzc
   have HNB:Hid (wr.heap[w2.heap.size]?=some (.cells #[.int .i64 x2,.int .i64 x3,.int .i64 x4] 251 (0,0))):=hnb
   have HLEN:Hid (((acc++wd)++YK ([x2,x3,x4].take i)).length≤10000000+8+9):=hlen
   clear hbu hnb hzt hlen hzc hdl
   generalize ((acc++wd)++YK ([x2,x3,x4].take i))=acc1 at *
   have hi3i:(i:Int)<3:=by omega
   go_wp2_with (first|(go_at_call 21;refine hpb.mono ?_;clear hpb;rintro e w3 ⟨rfl,h3,hb3,hk3⟩;have HN3:=HK.out w3 hk3;have hzc3:=HZC.out w3 (HN3.trans HNB.out.symm);have HB3:Hid (Below w0.heap.size w0 w3):=hB.out.trans hb3;have hps:=HNX.out w3 _ h3 HB3.out (by simp only[List.length_append,List.length_singleton];have:=HLEN.out;omega);have HN3':Hid (w3.heap[w2.heap.size]?=some (.cells #[.int .i64 x2,.int .i64 x3,.int .i64 x4] 251 (0,0))):=HN3;clear HN3 h3 hb3 hk3)|(go_at_call 95;refine(hnum _).mono ?_;rintro e w3 ⟨rfl,rfl⟩)|(go_at_call 18;refine hps.mono ?_;clear hps;rintro e w4 ⟨⟨kk,rfl⟩,h4,hb4,hk4⟩;rw[HT.out]at h4;have H4:Hid (Zu w0.heap.size b w4 ((acc++wd)++YK ([x2,x3,x4].take (i+1)))):=h4;have HB4:Hid (Below w0.heap.size w0 w4):=HB3.out.trans hb4;have HN4:Hid (w4.heap[w2.heap.size]?=some (.cells #[.int .i64 x2,.int .i64 x3,.int .i64 x4] 251 (0,0))):=hk4 _ _ _ HN3'.out (by decide) (by have:=HBL.out;omega);clear h4 hb4 hk4))
   go_roundw
   case rel=>exact⟨i+1,by omega,by go_num,H4,HN4,HB4⟩
   case measure=>simp[intOf];omega
  ·have him2:i=m:=by omega
   subst him2
   have hlen:((acc++wd)++YK ([x2,x3,x4].take i)).length≤10000000+8+9:=by
    have:=zad ([x2,x3,x4].take i) (fun z hz=>HALL.out z (List.mem_of_mem_take hz))
    have h3:([x2,x3,x4].take i).length≤3:=by simp;omega
    simp only[List.length_append]
    omega
   have hpb:=putByte w0.heap.size b _ 10 (by omega) wr hbu.out (by omega) hB.out.size
   clear hbu hnb hlen
   go_wp2_with (first|(go_at_call 21;refine hpb.mono ?_;clear hpb;rintro e w3 ⟨rfl,h3,hb3,hk3⟩;have HB3:Hid (Below w0.heap.size w0 w3):=hB.out.trans hb3;have H3:Hid (Zu w0.heap.size b w3 (((acc++wd)++YK ([x2,x3,x4].take i))++[UInt8.ofNat 10])):=h3;clear h3 hb3 hk3))
   go_end0
   refine⟨rfl,?_,HB3.out⟩
   rw[HTX.out]
   have:=H3.out
   simpa using this
theorem zen(w:World):Zu w.heap.size w.heap.size (w.alloc (.cells #[.pointer none,.slice none 0 0] 56)) []:=
 Or.inl ⟨qq1 _,.slice none 0 0,blk_alloc_new _ _,World.ownsRow_nil _ _ _ _,by simp[Value.ownBlock]⟩
theorem zaS{ds:List Deed}{k:Nat}(hkl:k<ds.length):ZG (ds.take (k+1))=ZG (ds.take k)++(Zn (ds.getD k (0,0,0,0))++[10]):=by
 unfold ZG
 rw[qq8 hkl,List.flatMap_append,qq6,qq7 hkl]
 simp only[List.flatMap_cons,List.flatMap_nil,List.append_nil,Option.getD_some]
theorem jq{d:Deed}(h:ZI d=0):(Zn d).length≤17:=by
 rw[qV d h]
 obtain⟨h1,h2,h3,h4,h5,-⟩:=xM h
 have e1:=zcd d.1
 have e2:=zad (XO d) (fun z hz=>by
  have hm:=List.mem_of_mem_take hz
  simp only[List.mem_cons,List.not_mem_nil,or_false]at hm
  rcases hm with rfl|rfl|rfl
  ·omega
  ·omega
  ·by_cases e:d.1=2
   ·have:=h4 e;omega
   ·have:=h5 e;omega)
 have e3:(XO d).length≤3:=by simp[XO];omega
 rw[qb]
 omega
theorem qW(l:List Deed)(h:∀d,d∈l→ZI d=0):(ZG l).length≤18*l.length:=by
 induction l with
 | nil=>simp[ZG]
 | cons d r ih=>
  have h1:=jq (h d (by simp))
  have h2:=ih (fun x hx=>h x (List.mem_cons_of_mem _ hx))
  have e:ZG (d::r)=(Zn d++[10])++ZG r:=by simp[ZG]
  rw[e,qb,qb,List.length_cons]
  simp
  omega
set_option maxRecDepth 100000 in
set_option maxHeartbeats 4000000 in
theorem zgG(v:Value)(ds:List Deed)(w:World)(hv:YL w v ds)(hf:Y3 w) :
  Calls Tryz.prog 93 #[v] w fun e w'=>e=.returned (.tuple #[.string ⟨(if ZZ ds=0 then ZG ds else []).toArray⟩,errV (ZZ ds)])∧Below w.heap.size w w':=by
 have hcd:=zaN v ds w hv
 have HV:Hid (YL w v ds):=hv
 have HF:Hid (Y3 w):=hf
 obtain⟨_,a,c,rfl,_⟩:=hv
 by_cases he:ZZ ds=0
 case neg=>
  rw[if_neg he]
  rw[zu he]at hcd
  have HE:Hid (errV (ZZ ds)=.iface 97 (.int .i64 (ZZ ds))):=zu he
  clear he
  generalize ZZ ds=de at *
  go_enter Tryz.func93,Tryz.ntmps93
  go_wp2_with (first|(go_at_call 127;refine hcd.mono ?_;clear hcd;rintro e w1 ⟨rfl,hb1⟩))
  go_ret2
  exact⟨by rw[HE.out];rfl,hb1⟩
 case pos=>
  rw[if_pos he,he]
  rw[he,zI]at hcd
  obtain⟨hl,hok⟩:=zbs he
  have HOK:Hid (∀k,k<ds.length→ZI (ds.getD k (0,0,0,0))=0):=fun k hk=>hok _ (by rw[qq6,qq7 hk];exact List.getElem_mem hk)
  clear he hok hf
  go_enter Tryz.func93,Tryz.ntmps93
  go_wp2_with (first|(go_at_call 127;refine hcd.mono ?_;clear hcd;rintro e w1 ⟨rfl,hb1⟩;have HB1:Hid (Below w.heap.size w w1):=hb1;clear hb1))
  have HBU:Hid (Zu w1.heap.size w1.heap.size (w1.alloc (.cells #[.pointer none,.slice none 0 0] 56)) []):=zen w1
  go_loopw [15] (fun s15 wr=>∃k:Nat,k≤ds.length∧s15=.int .i64 k∧Hid (Zu w1.heap.size w1.heap.size wr (ZG (ds.take k)))∧Hid (Below w1.heap.size w1 wr)) (fun s15 _=>ds.length-(intOf s15).toNat)
  case atStart=>exact⟨0,Nat.zero_le _,rfl,HBU,(qq4 _ _).alloc (qq1 _) _⟩
  case round=>
   clear HBU
   obtain⟨k,hk,rfl,hbu,hb⟩:=hrel
   by_cases hkl:k<ds.length
   ·obtain⟨b,o,rfl,hbl,c0,c1,c2,c3⟩:=(HV.out.later (HB1.out.trans (hb.out.mono HB1.out.size))).four hkl
    have hde:=HOK.out k hkl
    have HTK:Hid (ZG (ds.take (k+1))=ZG (ds.take k)++(Zn (ds.getD k (0,0,0,0))++[10])):=zaS hkl
    have hD:ds.getD k (0,0,0,0)=((ds.getD k (0,0,0,0)).1,(ds.getD k (0,0,0,0)).2.1,(ds.getD k (0,0,0,0)).2.2.1,(ds.getD k (0,0,0,0)).2.2.2):=rfl
    have hlen:(ZG (ds.take k)).length≤10000000:=by
     have:=qW (ds.take k) (fun d hd=>(by
      obtain⟨j,hj,e⟩:=List.getElem_of_mem (List.mem_of_mem_take hd)
      have:=HOK.out j hj
      rw[qq6,qq7 hj]at this
      rw[←e];exact this))
     have h2:(ds.take k).length≤1000:=by simp;omega
     omega
    have hwl:=zbM w1 (wr.alloc (.cells #[.int .i64 (ds.getD k (0,0,0,0)).1,.int .i64 (ds.getD k (0,0,0,0)).2.1,.int .i64 (ds.getD k (0,0,0,0)).2.2.1,.int .i64 (ds.getD k (0,0,0,0)).2.2.2] 91)) w1.heap.size (ZG (ds.take k)) (ds.getD k (0,0,0,0)).1 (ds.getD k (0,0,0,0)).2.1 (ds.getD k (0,0,0,0)).2.2.1 (ds.getD k (0,0,0,0)).2.2.2 (hb.out.alloc hb.out.size _) (hbu.out.later ((qq4 _ _).alloc (qq1 _) _)) (HF.out.later HB1.out) (by rw[←hD];exact hde) hlen
    rw[←hD,←HTK.out]at hwl
    clear hD hde hbu HTK hlen hb
    generalize (ds.getD k (0,0,0,0)).1=x1 at *
    generalize (ds.getD k (0,0,0,0)).2.1=x2 at *
    generalize (ds.getD k (0,0,0,0)).2.2.1=x3 at *
    generalize (ds.getD k (0,0,0,0)).2.2.2=x4 at *
    go_wp2_with (first|(go_at_call 128;refine hwl.mono ?_;clear hwl;rintro e w3 ⟨rfl,h3,hb3⟩;have H3:Hid (Zu w1.heap.size w1.heap.size w3 (ZG (ds.take (k+1)))):=h3;have HB3:Hid (Below w1.heap.size w1 w3):=hb3;clear h3 hb3))
    go_roundw
    case rel=>exact⟨k+1,by omega,by go_num,H3,HB3⟩
    case measure=>simp[intOf];omega
   ·have hst:=Tryz.Builder_String_any w1.heap.size w1.heap.size (ZG (ds.take k)) wr hbu.out hb.out.size
    have hke:ds.take k=ds:=List.take_of_length_le (by omega)
    rw[hke]at hst
    have HB2:Hid (Below w.heap.size w wr):=HB1.out.trans (hb.out.mono HB1.out.size)
    have HSZ:Hid (w.heap.size≤w1.heap.size):=HB1.out.size
    clear hbu hb hke
    go_wp2_with (first|(go_at_call 22;refine hst.mono ?_;clear hst;rintro e w3 ⟨rfl,hb3⟩;have HB3:Hid (Below w.heap.size w w3):=HB2.out.trans (hb3.mono HSZ.out);clear hb3))
    go_ret2
    exact⟨rfl,HB3.out⟩
end
section
open Go.RowKit Go.Extern.Stop Go.Stop Go.Extern
theorem Tryz.valueOf45(t:Addr)(w:World):(ReflectliteValue.unpack (.iface 178 (.pointer (some t)))).run Tryz.prog w
  = .ok (.agg #[.pointer (some ⟨16,178,none⟩),.pointer (some ⟨w.heap.size,0,none⟩),.int .u64 150]) (w.alloc (.cells #[.pointer (some t)] 178)):=by kernel_rfl
theorem Tryz.type45(a:Addr)(w:World):(ReflectliteValue.methodAny (ReflectliteValue.valueError "reflectlite.Value.Type" 0) (fun t _ _ _=>ReflectliteType.toType t) #[.agg #[.pointer (some ⟨16,178,none⟩),.pointer (some a),.int .u64 150]]).run Tryz.prog w
  = .ok (.iface 257 (.agg #[.pointer (some ⟨16,178,none⟩)])) w:=by kernel_rfl
theorem Tryz.methodKind(h:Value)(w:World):(Go.method 454 257 (.agg #[h]) "Kind").run Tryz.prog w=.ok (240,h) w:=by kernel_rfl
theorem Tryz.kind45(w:World):((ReflectliteType.abiMethod fun t=>(fun a:Nat=>Value.int IntKind.u8 (a:Int)) <$> Rtype.kind t) #[.pointer (some ⟨16,178,none⟩)]).run Tryz.prog w=.ok (.int .u8 22) w:=by kernel_rfl
theorem Tryz.kind38(w:World):((ReflectliteType.abiMethod fun t=>(fun a:Nat=>Value.int IntKind.u8 (a:Int)) <$> Rtype.kind t) #[.pointer (some ⟨16,97,none⟩)]).run Tryz.prog w=.ok (.int .u8 2) w:=by kernel_rfl
theorem Tryz.parts45(a:Addr)(w:World):(ReflectliteValue.parts (.agg #[.pointer (some ⟨16,178,none⟩),.pointer (some a),.int .u64 150])).run Tryz.prog w=.ok (some (178,a,150)) w:=by kernel_rfl
theorem Tryz.isNil45(a p:Addr)(W:World)(ha:W.cell? a=some (.pointer (some p))) :
  (ReflectliteValue.method (ReflectliteValue.valueError "reflectlite.Value.IsNil" 0) ReflectliteValue.isNil #[.agg #[.pointer (some ⟨16,178,none⟩),.pointer (some a),.int .u64 150]]).run Tryz.prog W=.ok (.bool false) W:=by
 show Sem.run Tryz.prog (ReflectliteValue.parts (.agg #[.pointer (some ⟨16,178,none⟩),.pointer (some a),.int .u64 150]) >>= _) W=_
 simp only[Sem.run_bind,Tryz.parts45,Result.andThen]
 simp[ReflectliteValue.isNil,loadVar,isAgg,underlying,Tryz.underlying178,ha,Result.andThen]
theorem Tryz.methodElem(h:Value)(w:World):(Go.method 454 257 (.agg #[h]) "Elem").run Tryz.prog w=.ok (256,.agg #[h]) w:=by kernel_rfl
theorem Tryz.methodImplements(h:Value)(w:World):(Go.method 454 257 (.agg #[h]) "Implements").run Tryz.prog w=.ok (257,.agg #[h]) w:=by kernel_rfl
theorem Tryz.methodAssignableTo(h:Value)(w:World):(Go.method 454 257 (.agg #[h]) "AssignableTo").run Tryz.prog w=.ok (254,.agg #[h]) w:=by kernel_rfl
theorem Tryz.elem45(w:World):(ReflectliteType.method ReflectliteType.elem #[.agg #[.pointer (some ⟨16,178,none⟩)]]).run Tryz.prog w=.ok (.iface 257 (.agg #[.pointer (some ⟨16,97,none⟩)])) w:=by kernel_rfl
theorem Tryz.implements38(w:World):(ReflectliteType.relation "Implements" ReflectliteType.implements_ #[.agg #[.pointer (some ⟨16,97,none⟩)],.iface 257 (.agg #[.pointer (some ⟨16,35,none⟩)])]).run Tryz.prog w=.ok (.bool true) w:=by kernel_rfl
theorem Tryz.typeOf38(v:Value)(w:World):(ReflectliteType.typeOf #[.iface 97 v]).run Tryz.prog w=.ok (.iface 257 (.agg #[.pointer (some ⟨16,97,none⟩)])) w:=by kernel_rfl
theorem Tryz.assignable38(w:World):(ReflectliteType.relation "AssignableTo" ReflectliteType.assignableTo #[.agg #[.pointer (some ⟨16,97,none⟩)],.iface 257 (.agg #[.pointer (some ⟨16,97,none⟩)])]).run Tryz.prog w=.ok (.bool true) w:=by kernel_rfl
theorem Tryz.valueOf38(n:Int)(w:World):(ReflectliteValue.unpack (.iface 97 (.int .i64 n))).run Tryz.prog w
  = .ok (.agg #[.pointer (some ⟨16,97,none⟩),.pointer (some ⟨w.heap.size,0,none⟩),.int .u64 130]) (w.alloc (.cells #[.int .i64 n] 97)):=by kernel_rfl
theorem Tryz.elemOf45(w:World):(Rtype.elem? 178).run Tryz.prog w=.ok (some 97) w:=by kernel_rfl
theorem Tryz.mk38(p:Addr)(w:World):(ReflectliteValue.mk 97 p ReflectliteValue.flagAddr).run Tryz.prog w=.ok (.agg #[.pointer (some ⟨16,97,none⟩),.pointer (some p),.int .u64 386]) w:=by kernel_rfl
theorem Tryz.elemV45(a p:Addr)(W:World)(ha:W.cell? a=some (.pointer (some p))) :
  (ReflectliteValue.method (ReflectliteValue.valueError "reflectlite.Value.Elem" 0) ReflectliteValue.elem #[.agg #[.pointer (some ⟨16,178,none⟩),.pointer (some a),.int .u64 150]]).run Tryz.prog W
   = .ok (.agg #[.pointer (some ⟨16,97,none⟩),.pointer (some p),.int .u64 386]) W:=by
 show Sem.run Tryz.prog (ReflectliteValue.parts (.agg #[.pointer (some ⟨16,178,none⟩),.pointer (some a),.int .u64 150]) >>= _) W=_
 simp only[Sem.run_bind,Tryz.parts45,Result.andThen]
 simp[ReflectliteValue.elem,loadVar,isAgg,underlying,Tryz.underlying178,ha,Result.andThen,Tryz.elemOf45,Tryz.mk38]
theorem Tryz.parts38a(a:Addr)(w:World):(ReflectliteValue.parts (.agg #[.pointer (some ⟨16,97,none⟩),.pointer (some a),.int .u64 386])).run Tryz.prog w=.ok (some (97,a,386)) w:=by kernel_rfl
theorem Tryz.parts38(a:Addr)(w:World):(ReflectliteValue.parts (.agg #[.pointer (some ⟨16,97,none⟩),.pointer (some a),.int .u64 130])).run Tryz.prog w=.ok (some (97,a,130)) w:=by kernel_rfl
theorem Tryz.direct38(w:World):(Rtype.directlyAssignable 97 97).run Tryz.prog w=.ok true w:=by kernel_rfl
theorem Tryz.set38(ta b:Addr)(n:Int)(old:Value)(W:World)(hb:W.cell? b=some (.int .i64 n))(ht:W.cell? ta=some old)(hf:W.frozen? ta=false) :
  (ReflectliteValue.set #[.agg #[.pointer (some ⟨16,97,none⟩),.pointer (some ta),.int .u64 386],.agg #[.pointer (some ⟨16,97,none⟩),.pointer (some b),.int .u64 130]]).run Tryz.prog W
   = .ok (.tuple #[]) (W.setCell ta (.int .i64 n)):=by
 show Sem.run Tryz.prog (ReflectliteValue.parts (.agg #[.pointer (some ⟨16,97,none⟩),.pointer (some ta),.int .u64 386]) >>= fun p=>ReflectliteValue.parts (.agg #[.pointer (some ⟨16,97,none⟩),.pointer (some b),.int .u64 130]) >>= fun q=>_) W=_
 simp only[Sem.run_bind,Tryz.parts38a,Tryz.parts38,Result.andThen]
 simp[ReflectliteValue.flagAddr,loadVar,isAgg,underlying,Tryz.underlying97,hb,Result.andThen,Tryz.direct38,storeVar,Value.cells,storeCells,Addr.add]
 rw[run_store Tryz.prog W ta _ _ (by rfl)]
 simp[ht,hf]
end
section
open Go.RowKit
def Xy(w:World):Prop:=w.cell? ⟨1,0,none⟩=some (.iface 257 (.agg #[.pointer (some ⟨16,35,none⟩)]))
theorem Xy.pos{w:World}(h:Xy w):1<w.heap.size:=by
 rcases Nat.lt_or_ge 1 w.heap.size with hp|h0
 ·exact hp
 ·unfold Xy at h;simp[World.cell?,Array.getElem?_eq_none h0]at h
theorem Xy.later{w w':World}(h:Xy w)(hb:Below w.heap.size w w'):Xy w':=(hb.cell (p:=⟨1,0,none⟩) h.pos).trans h
end
section
open Go.RowKit Go.Deep
def badV(q:Addr):Value:=.iface 313 (.pointer (some q))
structure Vars (q:Addr) (w:World):Prop where
 syn:Synt w
 len:Lens w
 typ:Xy w
 frm:Y3 w
 tab:Lib.TabIs Tryz.prog w "internal/strconv.uint64pow10" .u64 Lib.pow10Tab
 tlt:8<w.heap.size
 bad:w.cell? ⟨0,0,none⟩=some (badV q)
 blt:0<w.heap.size
 txt:w.cell? q=some (.string ⟨badT.toArray⟩)
 qlt:q.block<w.heap.size
theorem Tryz.tabGlobal:Tryz.prog.globalNamed "internal/strconv.uint64pow10"=some 8:=by kernel_rfl
theorem Vars.later{q:Addr}{w w':World}(h:Vars q w)(hb:Below w.heap.size w w'):Vars q w':=
 ⟨h.syn.later hb,h.len.later hb,h.typ.later hb,h.frm.later hb,Go.Joins.tab_stays Tryz.tabGlobal h.tab hb (qq1 _),qq3 h.tlt hb.size,(hb.cell (p:=⟨0,0,none⟩) h.blt).trans h.bad,qq3 h.blt hb.size,(hb.cell (p:=q) h.qlt).trans h.txt,qq3 h.qlt hb.size⟩
theorem qN{q:Addr}(n:Nat)(hn:n≤1000000)(w:World)(hv:Vars q w):Calls Tryz.prog 95 #[.int .i64 (n:Int)] w fun e w'=>e=.returned (.string ⟨(digs (n:Int)).toArray⟩)∧Below w.heap.size w w':=by
 refine(Tryz.strconv_Itoa (n:Int) (by omega) (by omega) w hv.tab).mono ?_
 rintro e w' ⟨rfl,k,os,rfl⟩
 refine⟨?_,Lib.below_grow _ _ (qq1 _) _ _⟩
 rw[Lib.itoa_nonneg]
 unfold digs
 rw[Int.toNat_natCast]
set_option maxRecDepth 100000 in
set_option maxHeartbeats 2000000 in
theorem zcH(l:List UInt8)(hl:l.length≤1048576)(q:Addr)(w:World)(hv:Vars q w) :
  Calls Tryz.prog 120 #[.string ⟨l.toArray⟩] w fun e w'=>(∃n:Int,e=.returned (.tuple #[.int .i64 n,.bool (Ze l).isSome])∧∀m:Nat,Ze l=some m→n=m)∧Below w.heap.size w w':=by
 have hsz:(⟨l.toArray⟩:ByteArray).size=l.length:=by show l.toArray.size=_;simp
 have hdl:(⟨l.toArray⟩:ByteArray).data.toList=l:=by simp
 by_cases h2:4<l.length
 ·have h2i:(4:Int)<(l.length:Int):=by omega
  have HN:Hid (Ze l=none):=zgu h2
  clear hv
  go_enter Tryz.func120,Tryz.ntmps120
  go_wp2
  go_ret2
  exact⟨⟨0,by rw[HN.out];rfl,fun m hm=>by rw[HN.out]at hm;cases hm⟩,qq4 _ _⟩
 have h2i:¬(4:Int)<(l.length:Int):=by omega
 rcases zfW l (by omega)with hat|⟨v,hat,hv4⟩
 ·have HN:Hid (Ze l=none):=zdI hat
  obtain⟨te,pe,hc,hlt⟩:=hv.syn
  have hsy:=Tryz.strconv_Atoi_syntax ⟨l.toArray⟩ (by rw[hsz];omega) (by rw[hdl];exact hat) (.iface te pe) w hc (Or.inr ⟨te,pe,rfl⟩)
  clear hat hc hlt hdl hv
  go_enter Tryz.func120,Tryz.ntmps120
  go_wp2_with (first|(go_at_call 109;refine hsy.mono ?_;clear hsy;rintro e w2 ⟨N,rfl,_,_,hb2⟩))
  go_ret2
  exact⟨⟨0,by rw[HN.out];rfl,fun m hm=>by rw[HN.out]at hm;cases hm⟩,hb2⟩
 ·have hok:=Tryz.strconv_Atoi_ok ⟨l.toArray⟩ (by rw[hsz];omega) v (by rw[hdl];exact hat) w
  have hok2:=hok.mono (R':=fun e w'=>e=.returned (.tuple #[.int .i64 v,.nilIface])∧Below w.heap.size w w') (fun e w' ⟨h1,h2⟩=>⟨h1,by
   rcases h2 with rfl|⟨t,rfl⟩
   ·exact qq4 _ _
   ·exact Lib.bytesWorld_below _ _ _⟩)
  clear hok hdl
  by_cases h0:0≤v
  ·have hit:∀wx,Below w.heap.size w wx→Calls Tryz.prog 95 #[.int .i64 v] wx fun e w'=>e=.returned (.string ⟨(Lib.decDigits v.toNat).toArray⟩)∧Below wx.heap.size wx w':=fun wx hbx=>by
    have:=qN v.toNat (by omega) wx (hv.later hbx)
    unfold digs at this
    rw[Int.toNat_of_nonneg h0]at this
    exact this
   have HIT:Hid (∀wx,Below w.heap.size w wx→Calls Tryz.prog 95 #[.int .i64 v] wx fun e w'=>e=.returned (.string ⟨(Lib.decDigits v.toNat).toArray⟩)∧Below wx.heap.size wx w'):=hit
   by_cases hd:digs v=l
   ·have HN:Hid (Ze l=some v.toNat):=(show Ze l=some v.toNat by rw[←hd];exact zhN h0 hv4)
    have hd2:Lib.decDigits v.toNat=l:=hd
    rw[hd2]at HIT
    have HV:Hid (v=((v.toNat:Nat):Int)):=(Int.toNat_of_nonneg h0).symm
    clear hd hd2 hat hit hv
    go_enter Tryz.func120,Tryz.ntmps120
    go_wp2_with (first|(go_at_call 109;refine hok2.mono ?_;clear hok2;rintro e w2 ⟨rfl,hb2⟩;have HB2:Hid (Below w.heap.size w w2):=hb2;clear hb2)|(go_at_call 95;refine(HIT.out _ HB2.out).mono ?_;rintro e w3 ⟨rfl,hb3⟩))
    go_ret2
    exact⟨⟨v,by rw[HN.out];simp,fun m hm=>by rw[HN.out]at hm;rw[←Option.some.inj hm];exact HV.out⟩,HB2.out.trans (hb3.mono HB2.out.size)⟩
   ·have HN:Hid (Ze l=none):=zfM hat (fun h=>hd h.2)
    have hd2:¬Lib.decDigits v.toNat=l:=hd
    have hne:¬(⟨(Lib.decDigits v.toNat).toArray⟩:ByteArray)=⟨l.toArray⟩:=fun e=>hd2 (by have:=congrArg (fun b:ByteArray=>b.data.toList) e;simpa using this)
    clear hd hat hit hv
    go_enter Tryz.func120,Tryz.ntmps120
    go_wp2_with (first|(go_at_call 109;refine hok2.mono ?_;clear hok2;rintro e w2 ⟨rfl,hb2⟩;have HB2:Hid (Below w.heap.size w w2):=hb2;clear hb2)|(go_at_call 95;refine(HIT.out _ HB2.out).mono ?_;rintro e w3 ⟨rfl,hb3⟩))
    go_ret2
    exact⟨⟨v,by rw[HN.out];simp[hd2],fun m hm=>by rw[HN.out]at hm;cases hm⟩,HB2.out.trans (hb3.mono HB2.out.size)⟩
  ·have HN:Hid (Ze l=none):=zfM hat (fun h=>h0 h.1)
   clear hat hv
   go_enter Tryz.func120,Tryz.ntmps120
   go_wp2_with (first|(go_at_call 109;refine hok2.mono ?_;clear hok2;rintro e w2 ⟨rfl,hb2⟩))
   go_ret2
   exact⟨⟨v,by rw[HN.out];rfl,fun m hm=>by rw[HN.out]at hm;cases hm⟩,hb2⟩
def Xx(w:World)(g:Nat)(ws:List (List UInt8)):Prop:=g<w.heap.size∧∀k,k<ws.length→w.cell? ⟨g,k,none⟩=some (.string ⟨(ws.getD k []).toArray⟩)
theorem Xx.later{w w':World}{g:Nat}{ws:List (List UInt8)}(h:Xx w g ws)(hb:Below w.heap.size w w'):Xx w' g ws:=
 ⟨qq3 h.1 hb.size,fun k hk=>(hb.cell (p:=⟨g,k,none⟩) h.1).trans (h.2 k hk)⟩
theorem zdY(l:List UInt8)(hl:l.length≤1048576)(w:World)(hm:Lens w) :
  Calls Tryz.prog 119 #[.string ⟨l.toArray⟩,.string ⟨#[32]⟩] w fun e w'=>e=.returned (.slice (some ⟨w.heap.size,0,none⟩) (Zd 32 l).length (Zd 32 l).length)∧Xx w' w.heap.size (Zd 32 l)∧Below w.heap.size w w':=by
 obtain⟨⟨m,hm⟩,_⟩:=hm
 have h:=Tryz.strings_Split ⟨l.toArray⟩ ⟨#[32]⟩ m w (by show l.toArray.size<_;simp;omega) hm (by show 1≤(#[(32:UInt8)]).size;decide)
 have hp:(Lib.splitB ⟨#[32]⟩ 0 (Lib.countB ⟨l.toArray⟩ ⟨#[32]⟩) ⟨l.toArray⟩).map (·.data.toList)=Zd 32 l:=by
  rw[Lib.splitB_data]
  exact zfo 32 _ l rfl
 have hn:Lib.countB ⟨l.toArray⟩ ⟨#[32]⟩+1=(Zd 32 l).length:=by
  rw[←hp,List.length_map,Lib.splitB_all _ (by show 1≤(#[(32:UInt8)]).size;decide) 0 _ _ rfl]
 refine h.mono ?_
 rintro e w' ⟨rfl,rfl⟩
 rw[hn]
 refine⟨rfl,⟨by simp,fun k hk=>?_⟩,(qq4 _ _).alloc (qq1 _) _⟩
 have hlt:k<(Lib.splitB ⟨#[32]⟩ 0 (Lib.countB ⟨l.toArray⟩ ⟨#[32]⟩) ⟨l.toArray⟩).length:=by rw[←hp,List.length_map]at hk;exact hk
 have hg:(Zd 32 l).getD k []=((Lib.splitB ⟨#[32]⟩ 0 (Lib.countB ⟨l.toArray⟩ ⟨#[32]⟩) ⟨l.toArray⟩)[k]'hlt).data.toList:=by
  rw[qq6,←hp,List.getElem?_map,qq7 hlt]
  rfl
 rw[hg]
 unfold World.cell?
 rw[blk_alloc_new]
 simp[List.getElem?_map,List.getElem?_eq_getElem hlt]
theorem ZQ.mono{B B':Nat}{w:World}{v:Value}{ns:List Nat}(h:ZQ B w v ns)(hb:B'≤B):ZQ B' w v ns:=by
 rcases h.2 with hn|⟨g,cap,cur,hv,hg,r⟩
 ·exact⟨h.1,Or.inl hn⟩
 ·exact⟨h.1,Or.inr ⟨g,cap,cur,hv,qq2 hb hg,r⟩⟩
def XC(rest:List UInt8)(more:Bool):Option (List Nat):=if more then Zq Ze (Zd 32 rest) else some []
theorem zaK{α:Type}{f:List UInt8→Option α}{ws:List (List UInt8)}{k:Nat}(hk:k<ws.length)(h:f (ws.getD k [])=none):Zq f ws=none:=by
 have e:ws=ws.take k++ws.getD k []::ws.drop (k+1):=by
  conv=>lhs;rw[←List.take_append_drop k ws,List.drop_eq_getElem_cons hk]
  rw[qq6,qq7 hk];rfl
 rw[e]
 exact qH f _ _ _ h
set_option maxRecDepth 100000 in
set_option maxHeartbeats 4000000 in
theorem zbB(rest:List UInt8)(more:Bool)(hl:rest.length≤1048576)(q:Addr)(w:World)(hv:Vars q w) :
  Calls Tryz.prog 89 #[.string ⟨rest.toArray⟩,.bool more] w fun e w'=>((∃ns v,XC rest more=some ns∧e=.returned (.tuple #[v,.bool true])∧ZQ w.heap.size w' v ns)∨(XC rest more=none∧e=.returned (.tuple #[.slice none 0 0,.bool false])))∧Below w.heap.size w w':=by
 cases more with
 | false=>
  clear hv
  go_enter Tryz.func89,Tryz.ntmps89
  go_wp2
  go_ret2
  exact⟨Or.inl ⟨[],_,rfl,rfl,World.ownsRow_nil _ _ _ _⟩,qq4 _ _⟩
 | true=>
  obtain⟨i3,hi3,hz0,hz1,hz2⟩:=info_parts Tryz.info3
  have hsp:=zdY rest hl w hv.len
  have HV:Hid (Vars q w):=hv
  have hwl:(Zd 32 rest).length≤1048577:=qq2 (z7 32 rest) (by omega)
  have hxl:∀k,k<(Zd 32 rest).length→((Zd 32 rest).getD k []).length≤1048576:=fun k hk=>by
   have:=zcM 32 rest _ (List.getElem_mem hk)
   rw[qq6,qq7 hk]
   exact qq2 this hl
  have HA:Hid (XC rest true=Zq Ze (Zd 32 rest)):=rfl
  clear hv hl
  generalize Zd 32 rest=ws at *
  go_enter Tryz.func89,Tryz.ntmps89
  go_wp2_with (first|(go_at_call 119;refine hsp.mono ?_;clear hsp;rintro e w1 ⟨rfl,ht1,hb1⟩;have HT1:Hid (Xx w1 w.heap.size ws):=ht1;have HB1:Hid (Below w.heap.size w w1):=hb1;clear ht1 hb1))
  go_loopw [6,16] (fun s6 s16 wr=>∃(k:Nat) (ns:List Nat),k≤ws.length∧ns.length=k∧s16=.int .i64 k∧Hid (Zq Ze (ws.take k)=some ns)∧Hid (ZQ w1.heap.size wr s6 ns)∧Hid (Below w1.heap.size w1 wr)) (fun _ s16 _=>ws.length-(intOf s16).toNat)
  case atStart=>exact⟨0,[],Nat.zero_le _,rfl,rfl,rfl,World.ownsRow_nil _ _ _ _,qq4 _ _⟩
  case round=>
   obtain⟨k,ns,hk,hnk,rfl,hall,hown,hb⟩:=hrel
   by_cases hkl:k<ws.length
   ·have hcl:=((HT1.out.later hb.out).2 k hkl)
    have hlt:=(HT1.out.later hb.out).1
    have hrn:=zcH (ws.getD k []) (hxl k hkl) q wr (HV.out.later (HB1.out.trans (hb.out.mono HB1.out.size)))
    cases hn:Ze (ws.getD k []) with
    | none=>
     have HF:Hid (Zq Ze ws=none):=zaK hkl hn
     rw[hn]at hrn
     clear hn hxl
     generalize ws.getD k []=word at *
     go_wp2_with (first|(go_at_call 120;refine hrn.mono ?_;clear hrn;rintro e w3 ⟨⟨n,rfl,-⟩,hb3⟩;have HB3:Hid (Below wr.heap.size wr w3):=hb3;clear hb3))
     go_ret2
     exact⟨Or.inr ⟨HA.out.trans HF.out,rfl⟩,HB1.out.trans ((hb.out.trans (HB3.out.mono hb.out.size)).mono HB1.out.size)⟩
    | some m=>
     have HS:Hid (Zq Ze (ws.take (k+1))=some (ns++[m])):=(by
      show _=_
      have e:ws.take (k+1)=ws.take k++[ws.getD k []]:=by
       rw[qq8 hkl,qq6,qq7 hkl];rfl
      rw[e]
      exact yy Ze _ _ _ _ hall.out hn)
     have hrn2:=hrn.mono (R':=fun e w'=>e=.returned (.tuple #[.int .i64 (m:Int),.bool true])∧Below wr.heap.size wr w') (fun e w' ⟨⟨n,h1,h2⟩,h3⟩=>⟨by rw[h1,h2 m hn,hn];rfl,h3⟩)
     clear hn hrn hxl
     generalize ws.getD k []=word at *
     go_wp2_with (first|(go_at_call 120;refine hrn2.mono ?_;clear hrn2;rintro e w3 ⟨rfl,hb3⟩;have HB3:Hid (Below wr.heap.size wr w3):=hb3;have HO:Hid (ZQ w1.heap.size w3 u6 ns):=hown.out.later' hb3;have hown2:=HO.out.alloc (.cells #[.int .i64 (m:Int)] 3);clear hb3)|(at_builtin;refine wpList_append_own _ rfl (.tmp 27) (.tmp 29) 73 rfl w1.heap.size 3 i3 (.int .i64 0) 1 8 Tryz.underlying73 hi3 hz0 hz1 hz2 rfl (by decide) _ ns.length (ns.map natV) rfl hown2 ⟨w3.heap.size,0,none⟩ 1 1 [.int .i64 (m:Int)] rfl rfl ?c1 ?c2 ?c3 ?c4 ?c5 ?_))
     case c1=>exact cell_one_new w3 _ 3
     case c2=>intro u hu;simp at hu;subst hu;rfl
     case c3=>unfold maxLen;omega
     case c4=>omega
     case c5=>have:=hb.out.size;have:=HB3.out.size;simp;omega
     intro v' w4 hown' hgrow _
     have HB4:Hid (Below w1.heap.size w1 w4):=((hb.out.trans (HB3.out.mono hb.out.size)).alloc (by have:=hb.out.size;have:=HB3.out.size;omega) _).grown hgrow (by have:=hb.out.size;have:=HB3.out.size;simp;omega) (fun j e=>(hown2.lt j e).1)
     have HO4:Hid (ZQ w1.heap.size w4 v' (ns++[m])):=(by
      show ZQ _ _ _ _
      unfold ZQ
      rw[qb,List.map_append,hnk]
      exact hown')
     clear hown' hgrow hown2 hown
     go_wp2
     go_roundw
     case rel=>exact⟨k+1,ns++[m],by omega,by simp;omega,by go_num,HS,HO4,HB4⟩
     case measure=>simp[intOf];omega
   ·have hke:ws.take k=ws:=List.take_of_length_le (by omega)
    rw[hke]at hall
    clear hke hxl
    go_wp2
    go_ret2
    exact⟨Or.inl ⟨ns,_,HA.out.trans hall.out,rfl,ZQ.mono hown.out HB1.out.size⟩,HB1.out.trans (hb.out.mono HB1.out.size)⟩
end
end Go.Proofs.YtlfbdjeojgbniaaGreatDoor

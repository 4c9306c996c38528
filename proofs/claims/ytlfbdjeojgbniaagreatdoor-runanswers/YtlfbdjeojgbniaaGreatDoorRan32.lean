import Derived.Test.YtlfbdjeojgbniaaGreatDoorRan11
import Derived.Test.YtlfbdjeojgbniaaGreatDoorRan31
namespace Go.Proofs.YtlfbdjeojgbniaaGreatDoor
section
open Go.RowKit Go.Deep
theorem Tryz.info56:(Tryz.prog.info? 56).map (fun i=>(i.zero,i.size,i.bytes))=some (some (.agg #[.pointer none,.slice none 0 0]),2,32):=by kernel_rfl
theorem Tryz.info5:(Tryz.prog.info? 5).map (fun i=>(i.zero,i.size,i.bytes))=some (some (.int .u8 0),1,1):=by kernel_rfl
theorem Tryz.lies56:liesAt Tryz.prog Tryz.prog.depth 56 (2 / Tryz.prog.cellsOf 56) 0 56 1=true:=by kernel_rfl
set_option maxHeartbeats 1000000 in
set_option maxRecDepth 100000 in
theorem qp(b:Nat)(w:World)(h0:w.cell? ⟨b,0,none⟩=some (.pointer (some ⟨b,0,none⟩))) :
  Calls Tryz.prog 59 #[.pointer (some ⟨b,0,none⟩)] w fun e w'=>e=.returned (.tuple #[])∧w'=w:=by
 obtain⟨j,hj,_⟩:=info_parts Tryz.info56
 go_enter Tryz.func59,Tryz.ntmps59
 go_wp2
 rw[Lib.run_neq_ptr_same w _ Tryz.underlying53 hj]
 go_wp2
 go_end0
 exact⟨rfl,rfl⟩
set_option maxHeartbeats 1000000 in
set_option maxRecDepth 100000 in
theorem qj(b:Nat)(w:World)(h0:w.cell? ⟨b,0,none⟩=some (.pointer none))(hsh:w.shape? b=some (56,2))(hfz:w.frozen? ⟨b,0,none⟩=false) :
  Calls Tryz.prog 59 #[.pointer (some ⟨b,0,none⟩)] w fun e w'=>e=.returned (.tuple #[])∧w'=w.setCell ⟨b,0,none⟩ (.pointer (some ⟨b,0,none⟩)):=by
 obtain⟨j,hj,hz0,hz1,hz2⟩:=info_parts Tryz.info56
 go_enter Tryz.func59,Tryz.ntmps59
 go_wp2
 rw[Lib.run_to_unsafe w ⟨b,0,none⟩ Tryz.underlying53 Tryz.underlying174 hj (by rw[hz1];decide) hsh (Nat.zero_lt_succ 1)]
 simp only[Result.andThen]
 rw[Oper.upon_value]
 go_wp2
 rw[run_callFunc_extern Tryz.func97 (by kernel_rfl) (by kernel_rfl) (by kernel_rfl) (e:=Extern.AbiNoEscape.same) (by kernel_rfl)]
 rw[Lib.run_noEscape]
 simp only[Result.andThen]
 rw[Oper.upon_value]
 go_wp2
 rw[Lib.run_from_unsafe w ⟨b,0,none⟩ Tryz.underlying174 Tryz.underlying53 hj hsh Tryz.lies56]
 simp only[Result.andThen]
 rw[Oper.upon_value]
 go_wp2
 go_end0
 exact⟨rfl,rfl⟩
def Kept(b:Nat)(w w':World):Prop:=∀k cs t,w.heap[k]?=some (.cells cs t (0,0))→t≠5→k≠b→w'.heap[k]?=some (.cells cs t (0,0))
theorem Kept.refl(b:Nat)(w:World):Kept b w w:=fun _ _ _ h _ _=>h
theorem Kept.alloc{b:Nat}{w1 w2:World}(h:Kept b w1 w2)(o:Obj):Kept b w1 (w2.alloc o):=fun i cs t hi ht hb=>by
 have:=h i cs t hi ht hb
 rw[blk_alloc_lt _ _ _ (lt_of_block this)];exact this
theorem Kept.own{b:Nat}{w1 w2:World}(h:Kept b w1 w2)(j:Nat)(u:Value):Kept b w1 (w2.setCell ⟨b,j,none⟩ u):=fun i cs t hi ht hb=>by
 rw[blk_setCell_other _ _ _ _ (by simpa using hb)];exact h i cs t hi ht hb
theorem Kept.grown{b B n:Nat}{w1 w2 w3:World}{v:Value}{xs:List Value}(h:Kept b w1 w2)(ho:w2.ownsRow B 5 1 v n xs)(hg:w2.grownBy w3 v.ownBlock):Kept b w1 w3:=fun i cs t hi ht hb=>by
 have h2:=h i cs t hi ht hb
 rw[hg.block i (lt_of_block h2) (fun e=>?_)]
 ·exact h2
 ·rcases ho.2 with⟨hv,_⟩|⟨g,cap,cur,hv,_,hh,_⟩
  ·subst hv;simp[Value.ownBlock]at e
  ·subst hv
   simp only[Value.ownBlock,Option.some.injEq]at e
   subst e
   rw[h2]at hh
   simp at hh
   exact ht hh.2
theorem qU(B b:Nat)(bs:List Value)(w:World)(h:Lib.IsBuilder 56 5 B b bs w) :
  Calls Tryz.prog 59 #[.pointer (some ⟨b,0,none⟩)] w fun e w'=>e=.returned (.tuple #[])∧(Lib.BuilderAt 56 5 B b (.pointer (some ⟨b,0,none⟩)) bs w'∧Below B w w'∧Kept b w w'):=by
 rcases h with h|h
 ·refine(qj b w h.cell0 h.shape h.frozen0).mono ?_
  rintro e w' ⟨rfl,rfl⟩
  exact⟨rfl,h.used _,(qq4 B w).setCell (p:=⟨b,0,none⟩) h.1 _,(Kept.refl b w).own 0 _⟩
 ·refine(qp b w h.cell0).mono ?_
  rintro e w' ⟨rfl,rfl⟩
  exact⟨rfl,h,qq4 B _,Kept.refl b _⟩
set_option maxHeartbeats 2000000 in
set_option maxRecDepth 100000 in
theorem zbL(B b:Nat)(bs:List Value)(c:Int)(w:World)(h:Lib.IsBuilder 56 5 B b bs w)(hlen:bs.length+1≤140737488355328)(hBw:B≤w.heap.size) :
  Calls Tryz.prog 21 #[.pointer (some ⟨b,0,none⟩),.int .u8 c] w fun e w'=>e=.returned .nilIface∧(Lib.BuilderAt 56 5 B b (.pointer (some ⟨b,0,none⟩)) (bs++[.int .u8 c]) w'∧Below B w w'∧Kept b w w'):=by
 obtain⟨i0,hi,hz0,hz1,hz2⟩:=info_parts Tryz.info5
 have hcc:=qU B b bs w h
 go_enter Tryz.func21,Tryz.ntmps21
 go_wp2_with (go_at_call 59;refine hcc.mono ?_)
 rintro e w1 ⟨rfl,h1,hb1,hkp1⟩
 clear hcc
 obtain⟨hB,v,hbk,hown,hne⟩:=h1
 have c0:w1.cell? ⟨b,0,none⟩=some (.pointer (some ⟨b,0,none⟩)):=by rw[Lib.cell_of_heap hbk];rfl
 have c1:w1.cell? ⟨b,1,none⟩=some v:=by rw[Lib.cell_of_heap hbk];rfl
 go_wp2_with (at_builtin;refine wpList_append_own _ rfl _ _ 54 rfl B 5 i0 (.int .u8 0) 1 1 Tryz.underlying54 hi hz0 hz1 hz2 rfl (by decide) _ _ _ rfl (hown.alloc _) ⟨w1.heap.size,0,none⟩ 1 1 [.int .u8 c] rfl rfl ?c1 ?c2 ?c3 ?c4 ?c5 ?_)
 case c1=>
  have h2:=cell_one_new w1 (.int .u8 c) 5
  exact h2
 case c2=>intro u hu;simp at hu;subst hu;rfl
 case c3=>unfold maxLen;omega
 case c4=>omega
 case c5=>have:=hb1.size;simp;omega
 intro v' w2 hown' hgrow _
 have hlt:b<w1.heap.size:=lt_of_block hbk
 have hb2:w2.heap[b]?=some (.cells #[.pointer (some ⟨b,0,none⟩),v] 56 (0,0)):=by
  rw[hgrow.block b (by simp;omega) (fun e=>hne e.symm),Lib.alloc_old w1 _ b hlt]
  exact hbk
 have d0:w2.cell? ⟨b,0,none⟩=some (.pointer (some ⟨b,0,none⟩)):=by rw[Lib.cell_of_heap hb2];rfl
 have d1:w2.cell? ⟨b,1,none⟩=some v:=by rw[Lib.cell_of_heap hb2];rfl
 have f1:w2.frozen? ⟨b,1,none⟩=false:=Lib.frozen_of_heap hb2 1
 obtain⟨g,cap,rfl⟩:∃g cap,v'=.slice (some ⟨g,0,none⟩) (bs.length+1) cap:=by
  rcases hown'.2 with⟨_,h0⟩|⟨g,cap,cur,hv,_⟩
  ·omega
  ·exact⟨g,cap,hv⟩
 go_wp2
 go_ret
 refine⟨rfl,?_,?_,?_⟩
 ·exact Lib.BuilderAt.put (T:=56) (e:=5) hB hb2 (bs':=bs++[.int .u8 c]) (by simpa using hown') (by decide)
 ·exact((hb1.alloc (by have:=hb1.size;omega) _).grown hgrow (by have:=hb1.size;simp;omega) (fun k hk=>(hown.lt k hk).1)).setCell (p:=⟨b,1,none⟩) hB _
 ·exact((hkp1.alloc _).grown (hown.alloc _) hgrow).own 1 _
set_option maxHeartbeats 2000000 in
set_option maxRecDepth 100000 in
theorem zaF(B b:Nat)(bs:List Value)(s:ByteArray)(w:World)(h:Lib.IsBuilder 56 5 B b bs w)(hlen:bs.length+s.size≤140737488355328)(hBw:B≤w.heap.size) :
  Calls Tryz.prog 18 #[.pointer (some ⟨b,0,none⟩),.string s] w fun e w'=>e=.returned (.tuple #[.int .i64 s.size,.nilIface])∧(Lib.BuilderAt 56 5 B b (.pointer (some ⟨b,0,none⟩)) (bs++Lib.strCells s) w'∧Below B w w'∧Kept b w w'):=by
 obtain⟨i0,hi,hz0,hz1,hz2⟩:=info_parts Tryz.info5
 have hcc:=qU B b bs w h
 go_enter Tryz.func18,Tryz.ntmps18
 go_wp2_with (go_at_call 59;refine hcc.mono ?_)
 rintro e w1 ⟨rfl,h1,hb1,hkp1⟩
 clear hcc
 obtain⟨hB,v,hbk,hown,hne⟩:=h1
 have c0:w1.cell? ⟨b,0,none⟩=some (.pointer (some ⟨b,0,none⟩)):=by rw[Lib.cell_of_heap hbk];rfl
 have c1:w1.cell? ⟨b,1,none⟩=some v:=by rw[Lib.cell_of_heap hbk];rfl
 go_wp2_with (at_builtin;refine Lib.wpList_append_own_string _ rfl _ _ 54 9 rfl B 5 i0 Tryz.underlying54 Tryz.underlying9 hi hz0 hz1 hz2 _ _ _ rfl hown s rfl ?c3 ?c4 ?c5 ?_)
 case c3=>unfold maxLen;omega
 case c4=>omega
 case c5=>have:=hb1.size;omega
 intro v' w2 hown' hgrow _
 have hlt:b<w1.heap.size:=lt_of_block hbk
 have hb2:w2.heap[b]?=some (.cells #[.pointer (some ⟨b,0,none⟩),v] 56 (0,0)):=by
  rw[hgrow.block b hlt (fun e=>hne e.symm)]
  exact hbk
 have d0:w2.cell? ⟨b,0,none⟩=some (.pointer (some ⟨b,0,none⟩)):=by rw[Lib.cell_of_heap hb2];rfl
 have d1:w2.cell? ⟨b,1,none⟩=some v:=by rw[Lib.cell_of_heap hb2];rfl
 have f1:w2.frozen? ⟨b,1,none⟩=false:=Lib.frozen_of_heap hb2 1
 obtain⟨ao,n',cap,rfl⟩:∃ao n' cap,v'=.slice ao n' cap:=by
  rcases hown'.2 with⟨hv,_⟩|⟨g,cap,cur,hv,_⟩
  ·exact⟨_,_,_,hv⟩
  ·exact⟨_,_,_,hv⟩
 go_wp2
 go_ret2
 refine⟨rfl,?_,?_,?_⟩
 ·exact Lib.BuilderAt.put (T:=56) (e:=5) hB hb2 (bs':=bs++Lib.strCells s) (by simpa[Lib.strCells_length]using hown') (by decide)
 ·exact(hb1.grown hgrow (by have:=hb1.size;omega) (fun k hk=>(hown.lt k hk).1)).setCell (p:=⟨b,1,none⟩) hB _
 ·exact(hkp1.grown hown hgrow).own 1 _
def Zu(B b:Nat)(w:World)(acc:List UInt8):Prop:=Lib.IsBuilder 56 5 B b (Lib.byteCells acc) w
theorem Zu.later{B b:Nat}{w w':World}{acc:List UInt8}(h:Zu B b w acc)(hb:Below w.heap.size w w'):Zu B b w' acc:=by
 have key:∀p,Lib.BuilderAt 56 5 B b p (Lib.byteCells acc) w→Lib.BuilderAt 56 5 B b p (Lib.byteCells acc) w':=by
  rintro p ⟨h1,v,h2,h3,h4⟩
  exact⟨h1,v,(hb.block b (lt_of_block h2)).trans h2,h3.kept (row:=none) ⟨hb.os,hb.tape,hb.output,hb.size,fun k hk _=>hb.block k hk⟩ (by cases v.ownBlock <;> simp),h4⟩
 rcases h with h|h
 ·exact Or.inl (key _ h)
 ·exact Or.inr (key _ h)
theorem putByte(B b:Nat)(acc:List UInt8)(c:Nat)(hc:c<256)(w:World)(h:Zu B b w acc)(hl:acc.length≤100000000)(hB:B≤w.heap.size) :
  Calls Tryz.prog 21 #[.pointer (some ⟨b,0,none⟩),.int .u8 (c:Int)] w fun e w'=>e=.returned .nilIface∧Zu B b w' (acc++[UInt8.ofNat c])∧Below B w w'∧Kept b w w':=by
 refine(zbL B b (Lib.byteCells acc) (c:Int) w h (by simp[Lib.byteCells];omega) hB).mono ?_
 rintro e w' ⟨rfl,h1,h2,h3⟩
 refine⟨rfl,Or.inr ?_,h2,h3⟩
 have e:Lib.byteCells (acc++[UInt8.ofNat c])=Lib.byteCells acc++[.int .u8 (c:Int)]:=by
  have:(UInt8.ofNat c).toNat=c:=by rw[UInt8.toNat_ofNat'];omega
  simp only[Lib.byteCells,List.map_append,List.map_cons,List.map_nil,this]
 rw[e];exact h1
theorem putString(B b:Nat)(acc x:List UInt8)(w:World)(h:Zu B b w acc)(hl:acc.length+x.length≤100000000)(hB:B≤w.heap.size) :
  Calls Tryz.prog 18 #[.pointer (some ⟨b,0,none⟩),.string ⟨x.toArray⟩] w fun e w'=>(∃k,e=.returned (.tuple #[.int .i64 k,.nilIface]))∧Zu B b w' (acc++x)∧Below B w w'∧Kept b w w':=by
 refine(zaF B b (Lib.byteCells acc) ⟨x.toArray⟩ w h (by simp[Lib.byteCells];show _+x.toArray.size≤_;simp;omega) hB).mono ?_
 rintro e w' ⟨rfl,h1,h2,h3⟩
 refine⟨⟨_,rfl⟩,Or.inr ?_,h2,h3⟩
 have e:Lib.byteCells (acc++x)=Lib.byteCells acc++Lib.strCells ⟨x.toArray⟩:=by
  simp[Lib.byteCells,Lib.strCells]
 rw[e];exact h1
theorem putNumber(n:Nat)(hn:n<100)(w:World):Calls Tryz.prog 95 #[.int .i64 (n:Int)] w fun e w'=>e=.returned (.string ⟨(digs (n:Int)).toArray⟩)∧w'=w:=by
 have:=Tryz.strconv_Itoa_small n hn w
 unfold digs
 rw[Int.toNat_natCast]
 exact this
def YI(b:UInt8):Bool:=decide (48≤b.toNat)&&decide (b.toNat≤57)
def Xp(r:Nat):Bool:=decide (r<48)||decide (57<r)
theorem zdG(b:UInt8):Xp b.toNat=!YI b:=by
 unfold Xp YI
 by_cases h1:b.toNat<48
 ·have:¬48≤b.toNat:=by omega
  simp[h1,this]
 ·by_cases h2:57<b.toNat
  ·have:¬b.toNat≤57:=by omega
   simp[h2,this]
  ·have h3:48≤b.toNat:=by omega
   have h4:b.toNat≤57:=by omega
   simp[h1,h2,h3,h4]
theorem zco(n b0 b1 b2 b3:Nat)(h:128≤b0):57<(Lib.decodeN n b0 b1 b2 b3).1:=by
 unfold Lib.decodeN
 rw[if_neg (by omega)]
 split
 ·split <;> simp;omega
 ·split
  ·split
   ·rename_i hh;simp;omega
   ·simp
  ·split
   ·split
    ·rename_i hh;simp;omega
    ·simp
   ·simp
theorem zhx(s:ByteArray):∀f pos,s.size-pos≤f→(0≤Lib.idxFuncFrom Xp true s f pos↔∃i,∃h:i<s.size,pos≤i∧YI (s[i]'h)=false):=by
 intro f
 induction f with
 | zero=>
  intro pos hf
  constructor
  ·intro h;simp[Lib.idxFuncFrom]at h
  ·rintro⟨i,h,hp,_⟩;omega
 | succ f ih=>
  intro pos hf
  unfold Lib.idxFuncFrom
  by_cases hp:pos<s.size
  ·rw[if_pos hp]
   by_cases ha:(s[pos]'hp).toNat<128
   ·rw[decode_ascii s pos hp ha]
    simp only[zdG]
    cases hd:YI (s[pos]'hp) with
    | false=>
     simp only[Bool.not_false,↓reduceIte]
     exact⟨fun _=>⟨pos,hp,qq1 _,hd⟩,fun _=>by omega⟩
    | true=>
     simp only[Bool.not_true,Bool.false_eq_true,↓reduceIte]
     rw[ih (pos+1) (by omega)]
     constructor
     ·rintro⟨i,h,h1,h2⟩;exact⟨i,h,by omega,h2⟩
     ·rintro⟨i,h,h1,h2⟩
      by_cases e:i=pos
      ·subst e;rw[hd]at h2;simp at h2
      ·exact⟨i,h,by omega,h2⟩
   ·have hh:57<(Utf8.decode s pos).1:=by
     rw[Lib.decode_at]
     refine zco _ _ _ _ _ ?_
     have:s.get! pos=s[pos]'hp:=by simp[ByteArray.get!,hp];rfl
     rw[this];omega
    have ht:Xp (Utf8.decode s pos).1=true:=by unfold Xp;simp[hh]
    rw[ht]
    simp only[↓reduceIte]
    refine⟨fun _=>⟨pos,hp,qq1 _,?_⟩,fun _=>by omega⟩
    unfold YI
    have:¬(s[pos]'hp).toNat≤57:=by omega
    simp[this]
  ·rw[if_neg hp]
   constructor
   ·intro h;omega
   ·rintro⟨i,h,h1,_⟩;omega
theorem ziF(s:ByteArray):decide (0≤Lib.idxFunc Xp true s)=s.data.toList.any (fun b=>!YI b):=by
 rw[Bool.eq_iff_iff,decide_eq_true_iff]
 unfold Lib.idxFunc
 rw[zhx s s.size 0 (by omega),List.any_eq_true]
 constructor
 ·rintro⟨i,h,_,hd⟩
  refine⟨s[i]'h,?_,by simp[hd]⟩
  have:s[i]'h=s.data.toList[i]'(by simpa using h):=by simp;rfl
  rw[this];exact List.getElem_mem _
 ·rintro⟨b,hb,hd⟩
  obtain⟨i,hi,he⟩:=List.getElem_of_mem hb
  have hi':i<s.size:=by simpa using hi
  refine⟨i,hi',Nat.zero_le _,?_⟩
  have:s[i]'hi'=s.data.toList[i]'hi:=by simp;rfl
  rw[this,he]
  simpa using hd
theorem enters40:∀args w,(callFunc 108 args).run Tryz.prog w=.ok (.enter 108 args) w:=enters_of Tryz.func108 (by kernel_rfl) rfl
theorem zc0(w:World):PredAt Tryz.prog 108 #[] encR Xp w:=fun W x _=>by
 show Calls Tryz.prog 108 #[.int .i32 x] W _
 by_cases h1:x<48
 ·have i1:(x:Int)<48:=by omega
  go_enter Tryz.func108,Tryz.ntmps108
  go_wp2
  go_ret
  exact⟨zM (by simp[Xp,h1]),0,rfl⟩
 ·have i1:¬(x:Int)<48:=by omega
  by_cases h2:57<x
  ·have i2:(57:Int)<(x:Int):=by omega
   go_enter Tryz.func108,Tryz.ntmps108
   go_wp2
   go_ret
   exact⟨zM (by simp[Xp,h2]),0,rfl⟩
  ·have i2:¬(57:Int)<(x:Int):=by omega
   go_enter Tryz.func108,Tryz.ntmps108
   go_wp2
   go_ret
   exact⟨zM (by simp[Xp,h1,h2]),0,rfl⟩
def Synt(w:World):Prop:=∃te pe,w.cell? ⟨4,0,none⟩=some (.iface te pe)∧4<w.heap.size
theorem Synt.later{w w':World}(h:Synt w)(hb:Below w.heap.size w w'):Synt w':=by
 obtain⟨te,pe,hc,hl⟩:=h
 exact⟨te,pe,(hb.cell (p:=⟨4,0,none⟩) hl).trans hc,qq3 hl hb.size⟩
theorem zcn(acc:Nat)(l:List UInt8)(h:l.any (fun b=>!YI b)=false):∃n,Lib.decFrom acc l=some n:=by
 induction l generalizing acc with
 | nil=>exact⟨acc,rfl⟩
 | cons b r ih=>
  simp only[List.any_cons,Bool.or_eq_false_iff,Bool.not_eq_false']at h
  have hd:48≤b.toNat∧b.toNat≤57:=by simpa[YI]using h.1
  have hv:Lib.digitVal b=some (b.toNat-48):=by unfold Lib.digitVal;rw[if_pos hd]
  obtain⟨n,hn⟩:=ih (acc*10+(b.toNat-48)) h.2
  exact⟨n,by unfold Lib.decFrom;rw[hv];exact hn⟩
theorem jp(acc:Nat)(l:List UInt8)(h:l.any (fun b=>!YI b)=true):Lib.decFrom acc l=none:=by
 induction l generalizing acc with
 | nil=>simp at h
 | cons b r ih=>
  unfold Lib.decFrom
  cases hv:Lib.digitVal b with
  | none=>rfl
  | some d=>
   have hd:YI b=true:=by
    unfold Lib.digitVal at hv
    split at hv
    ·rename_i hh;simp[YI,hh]
    ·simp at hv
   simp only[List.any_cons,hd,Bool.not_true,Bool.false_or]at h
   exact ih _ h
theorem zit(l:List UInt8)(n:Nat)(h0:l≠[])(h:l.any (fun b=>!YI b)=false)(hn:Lib.decFrom 0 l=some n):Lib.atoi l=some (n:Int):=by
 cases l with
 | nil=>exact absurd rfl h0
 | cons b r=>
  simp only[List.any_cons,Bool.or_eq_false_iff,Bool.not_eq_false']at h
  have hd:48≤b.toNat∧b.toNat≤57:=by simpa[YI]using h.1
  have h1:(b==45)=false:=by
   rw[beq_eq_false_iff_ne];rintro rfl;simp at hd
  have h2:(b==43)=false:=by
   rw[beq_eq_false_iff_ne];rintro rfl;simp at hd
  simp[Lib.atoi,h1,h2,Lib.decNat,hn]
theorem zfJ(s:ByteArray)(h:0<s.size):s.data.toList.head?=some (s[0]'h):=by
 rw[List.head?_eq_getElem?,List.getElem?_eq_getElem (by simpa using h)]
 simp;rfl
set_option maxRecDepth 100000 in
set_option maxHeartbeats 2000000 in
theorem zbc(s:ByteArray)(w:World)(hs:s.size≤1048576)(he:Synt w) :
  Calls Tryz.prog 76 #[.string s] w fun e w'=>e=.returned (.tuple #[.int .i64 (((Ze s.data.toList).getD 0:Nat):Int),.bool (Ze s.data.toList).isSome])∧Below w.heap.size w w':=by
 have hll:s.data.toList.length=s.size:=by simp
 by_cases h4:4<s.size
 ·have i4:(4:Int)<(s.size:Int):=by omega
  have HN:Hid (Ze s.data.toList=none):=by unfold Ze;rw[if_pos (Or.inl (by omega))];rfl
  clear he hll
  go_enter Tryz.func76,Tryz.ntmps76
  go_wp2
  go_ret2
  exact⟨by rw[HN.out];rfl,qq4 _ _⟩
 have i4:¬(4:Int)<(s.size:Int):=by omega
 by_cases h1:1<s.size∧s.data.toList.head?=some 48
 ·obtain⟨h1,hh⟩:=h1
  have i1:(1:Int)<(s.size:Int):=by omega
  have hp:0<s.size:=by omega
  have h48:s[0]'hp=48:=by rw[zfJ s hp]at hh;exact Option.some.inj hh
  have hb:(((s[0]'hp).toNat:Int)==48)=true:=by rw[h48];rfl
  have HN:Hid (Ze s.data.toList=none):=by unfold Ze;rw[if_pos (Or.inr ⟨by omega,hh⟩)];rfl
  clear he hll hh h48
  go_enter Tryz.func76,Tryz.ntmps76
  go_wp2
  go_ret2
  exact⟨by rw[HN.out];rfl,qq4 _ _⟩
 have hguard:¬(1:Int)<(s.size:Int)∨((1:Int)<(s.size:Int)∧∃hp:0<s.size,(((s[0]'hp).toNat:Int)==48)=false):=by
  by_cases h:1<s.size
  ·right
   have hp:0<s.size:=by omega
   refine⟨by omega,hp,?_⟩
   rw[beq_eq_false_iff_ne]
   intro e
   refine h1 ⟨h,?_⟩
   rw[zfJ s hp]
   have:(s[0]'hp).toNat=48:=by omega
   exact congrArg some (UInt8.toNat_inj.1 this)
  ·left;omega
 have hnum:Ze s.data.toList=Lib.decNat s.data.toList:=by
  unfold Ze
  rw[if_neg]
  rintro (h|⟨h,hh⟩)
  ·omega
  ·exact h1 ⟨by omega,hh⟩
 have hcf:=Tryz.strings_ContainsFunc 108 #[] enters40 Xp s w (zc0 w)
 rw[ziF]at hcf
 clear h1
 cases ha:s.data.toList.any (fun b=>!YI b)
 ·rw[ha]at hcf
  by_cases h0:s.size=0
  ·have hnil:s.data.toList=[]:=List.eq_nil_of_length_eq_zero (by omega)
   have HN:Hid (Ze s.data.toList=none):=by rw[hnum,hnil];rfl
   obtain⟨te,pe,hc,hl⟩:=he
   have hsy:=fun (W:World) (hW:W.cell? ⟨4,0,none⟩=some (.iface te pe))=>Tryz.strconv_Atoi_syntax s (by omega) (by rw[hnil];rfl) (.iface te pe) W hW (Or.inr ⟨te,pe,rfl⟩)
   clear ha hnum hll
   rcases hguard with hg|⟨hg,_⟩
   ·go_enter Tryz.func76,Tryz.ntmps76
    go_wp2_with (go_at_call 107;refine hcf.mono ?_;rintro e w1 ⟨rfl,hb1⟩)
    refine(hsy w1 ((hb1.cell (p:=⟨4,0,none⟩) hl).trans hc)).mono ?_
    rintro e w2 ⟨N,rfl,_,_,hb2⟩
    have hB:Below w.heap.size w w2:=hb1.trans (hb2.mono hb1.size)
    clear hsy hcf hb1 hb2 hc
    go_wp2
    go_quiet (fail)
    go_wp2
    go_ret2
    exact⟨by rw[HN.out];rfl,⟨hB.os,hB.tape,hB.output,hB.size,hB.block⟩⟩
   ·omega
  ·obtain⟨n,hn⟩:=zcn 0 s.data.toList ha
   have hne:s.data.toList≠[]:=fun e=>by rw[e]at hll;simp at hll;omega
   have HN:Hid (Ze s.data.toList=some n):=by
    rw[hnum];unfold Lib.decNat
    rw[if_neg (by simpa using hne)];exact hn
   have hat:=fun (W:World)=>Tryz.strconv_Atoi s n (by omega) (zit _ n hne ha hn) W
   clear ha hnum hll hn hne he
   rcases hguard with hg|⟨hg,hp,hz⟩
   all_goals
    go_enter Tryz.func76,Tryz.ntmps76
    go_wp2_with (go_at_call 107;refine hcf.mono ?_;rintro e w1 ⟨rfl,hb1⟩)
    refine(hat w1).mono ?_
    rintro e w2 ⟨rfl,t,hw2⟩
    have hB:Below w.heap.size w w2:=by rw[hw2];exact hb1.trans ((Lib.bytesWorld_below _ _ _).mono hb1.size)
    clear hat hcf hb1 hw2
    go_wp2
    go_quiet (fail)
    go_wp2
    go_ret2
    exact⟨by rw[HN.out];rfl,⟨hB.os,hB.tape,hB.output,hB.size,hB.block⟩⟩
 ·rw[ha]at hcf
  have HN:Hid (Ze s.data.toList=none):=by
   rw[hnum];unfold Lib.decNat
   split
   ·rfl
   ·exact jp 0 _ ha
  clear ha hnum hll he
  rcases hguard with hg|⟨hg,hp,hz⟩
  all_goals
   go_enter Tryz.func76,Tryz.ntmps76
   go_wp2_with (go_at_call 107;refine hcf.mono ?_;rintro e w1 ⟨rfl,hb1⟩)
   go_ret2
   exact⟨by rw[HN.out];rfl,hb1⟩
def strV(l:List UInt8):Value:=.string ⟨l.toArray⟩
def Lens(w:World):Prop:=(∃m,w.cell? ⟨2,0,none⟩=some (.int .i64 m))∧2<w.heap.size
theorem Lens.later{w w':World}(h:Lens w)(hb:Below w.heap.size w w'):Lens w':=by
 obtain⟨⟨m,hc⟩,hl⟩:=h
 exact⟨⟨m,(hb.cell (p:=⟨2,0,none⟩) hl).trans hc⟩,qq3 hl hb.size⟩
theorem zcY{B:Nat}{a w:World}(h:Below B a w)(n:Nat):Below B a (w.drewN n):=⟨h.os,h.tape,h.output,h.size,h.block⟩
theorem zaG(l:List UInt8)(c:UInt8)(w:World)(hl:l.length≤1048576)(hm:Lens w) :
  Calls Tryz.prog 38 #[.string ⟨l.toArray⟩,.string ⟨#[c]⟩] w fun e w'=>e=.returned (.tuple #[.string ⟨(cutB c l).1.toArray⟩,.string ⟨(cutB c l).2.1.toArray⟩,.bool (cutB c l).2.2])∧Below w.heap.size w w':=by
 obtain⟨⟨m,hm⟩,_⟩:=hm
 have h:=Tryz.strings_Cut ⟨l.toArray⟩ ⟨#[c]⟩ m w (by show l.toArray.size<_;simp;omega) hm
 have e:Lib.cut (⟨l.toArray⟩:ByteArray).data.toList (⟨#[c]⟩:ByteArray).data.toList=cutB c l:=by
  rw[←zhn]
 rw[e]at h
 exact h.mono fun _ _ ⟨he,n,hw⟩=>⟨he,by rw[hw];exact zcY (qq4 _ _) n⟩
theorem qk(l:List UInt8)(w:World)(hl:l.length≤1048576)(he:Synt w) :
  Calls Tryz.prog 76 #[.string ⟨l.toArray⟩] w fun e w'=>e=.returned (.tuple #[.int .i64 (((Ze l).getD 0:Nat):Int),.bool (Ze l).isSome])∧Below w.heap.size w w':=
 zbc ⟨l.toArray⟩ w (by show l.toArray.size≤_;simp;omega) he
theorem zbE(C:Nat)(hC:C≤2000000)(i3:TypeInfo)(hi3:Tryz.prog.info? 3=some i3)(hz0:i3.zero=some (.int .i64 0))(hz1:i3.size=1)(hz2:i3.bytes=8)(wx:World) :
  (Instr.makeSlice 73 (.int .i64 0) (.int .i64 (C:Int))).run Tryz.prog wx=.ok (.slice (some ⟨wx.heap.size,0,none⟩) 0 C) (wx.alloc (.cells (madeCells #[.int .i64 0] C) 3)):=by
 have hr:=run_make (P:=Tryz.prog) wx 73 3 i3 (.int .i64 0) Tryz.underlying73 hi3 hz0 .i64 .i64 0 C (by omega) (by omega) (by rw[hz2];omega) (by omega)
 simp only[hz1,Int.toNat_zero,Int.toNat_natCast,Nat.mul_one]at hr
 exact hr
def ZQ(B:Nat)(w:World)(v:Value)(ns:List Nat):Prop:=w.ownsRow B 3 1 v ns.length (ns.map natV)
theorem ZQ.later'{B:Nat}{w w':World}{v:Value}{ns:List Nat}(h:ZQ B w v ns)(hb:Below w.heap.size w w'):ZQ B w' v ns:=
 World.ownsRow.kept (row:=none) h ⟨hb.os,hb.tape,hb.output,hb.size,fun k hk _=>hb.block k hk⟩ (by cases v.ownBlock <;> simp)
def Xd(c:UInt8)(l:List UInt8)(done:List (List UInt8))(rest:List UInt8)(more:Bool):Prop:=
 Zd c l=done++(if more then Zd c rest else [])
theorem Xd.step{c:UInt8}{l:List UInt8}{done:List (List UInt8)}{rest:List UInt8}(h:Xd c l done rest true):Xd c l (done++[(cutB c rest).1]) (cutB c rest).2.1 (cutB c rest).2.2:=by
 unfold Xd at h ⊢
 rw[h,List.append_assoc]
 simp only[↓reduceIte]
 conv=>lhs;rw[yj c rest]
 rfl
theorem Xd.bad{α:Type}{f:List UInt8→Option α}{c:UInt8}{l:List UInt8}{done:List (List UInt8)}{rest:List UInt8}(h:Xd c l done rest true)(hx:f (cutB c rest).1=none):Zq f (Zd c l)=none:=by
 unfold Xd at h
 rw[h]
 simp only[↓reduceIte]
 rw[yj c rest]
 exact qH f _ _ _ hx
def YX(rest:List UInt8)(more:Bool):Nat:=if more then rest.length+1 else 0
theorem zau(c:UInt8)(rest:List UInt8):YX (cutB c rest).2.1 (cutB c rest).2.2<YX rest true:=by
 unfold YX
 cases h:(cutB c rest).2.2 with
 | true=>have:=zcl c rest h;simp;omega
 | false=>simp
theorem jm(c:UInt8)(l:List UInt8):(cutB c l).1.length≤l.length:=by
 induction l with
 | nil=>simp[cutB]
 | cons b r ih=>rw[yZ];split <;> simp;omega
theorem yf(c:UInt8)(l:List UInt8):(cutB c l).2.1.length≤l.length:=by
 induction l with
 | nil=>simp[cutB]
 | cons b r ih=>rw[yZ];split <;> simp;omega
set_option maxRecDepth 100000 in
set_option maxHeartbeats 4000000 in
theorem zaA(l:List UInt8)(w:World)(hl:l.length≤1048576)(he:Synt w)(hm:Lens w) :
  Calls Tryz.prog 77 #[.string ⟨l.toArray⟩] w fun e w'=>((∃ns v,Zq Ze (Zd 44 l)=some ns∧e=.returned (.tuple #[v,.bool true])∧ZQ w.heap.size w' v ns)∨(Zq Ze (Zd 44 l)=none∧e=.returned (.tuple #[.slice none 0 0,.bool false])))∧Below w.heap.size w w':=by
 obtain⟨i3,hi3,hz0,hz1,hz2⟩:=info_parts Tryz.info3
 have hcount:=Tryz.strings_Count_one ⟨l.toArray⟩ 44 w
 have hcl:Lib.countByte (⟨l.toArray⟩:ByteArray).data.toList 44≤1048576:=by
  show l.toArray.toList.count 44≤_
  have:=List.count_le_length (a:=(44:UInt8)) (l:=l)
  simp;omega
 generalize Lib.countByte (⟨l.toArray⟩:ByteArray).data.toList 44=C at hcount hcl
 have hmk:∀wx:World,(Instr.makeSlice 73 (.int .i64 0) (.int .i64 ((C:Int)+1))).run Tryz.prog wx=.ok (.slice (some ⟨wx.heap.size,0,none⟩) 0 (C+1)) (wx.alloc (.cells (madeCells #[.int .i64 0] (C+1)) 3)):=fun wx=>by
  have:=zbE (C+1) (by omega) i3 hi3 hz0 hz1 hz2 wx
  rwa [show(((C+1:Nat)):Int)=(C:Int)+1 by omega]at this
 have hown0:ZQ w.heap.size (w.alloc (.cells (madeCells #[.int .i64 0] (C+1)) 3)) (.slice (some ⟨w.heap.size,0,none⟩) 0 (C+1)) []:=by
  have h:=World.ownsRow_made (base:=w.heap.size) (e:=3) (size:=1) w (madeCells #[.int .i64 0] (C+1)) (C+1) (qq1 _) (by unfold maxLen;omega) (by rw[size_madeCells];omega)
  simpa[ZQ]using h
 have HE:Hid (Synt w):=he
 have HM:Hid (Lens w):=hm
 clear he hm
 go_enter Tryz.func77,Tryz.ntmps77
 go_wp2_with (go_at_call 110;refine hcount.mono ?_;rintro e w1 ⟨rfl,rfl⟩)
 have hbl0:Below w1.heap.size w1 (w1.alloc (.cells (madeCells #[.int .i64 0] (C+1)) 3)):=(qq4 _ _).alloc (qq1 _) _
 clear hcount hmk
 go_loopg [0,4,6] (l.length+1) (fun gg s0 s4 s6 wr=>∃done rest more ns,s0=.string ⟨(rest:List UInt8).toArray⟩∧s6=.bool more∧Hid (ZQ w1.heap.size wr s4 ns)∧Hid (Xd 44 l done rest more)∧Hid (Zq Ze done=some ns)∧Below w1.heap.size w1 wr∧rest.length≤l.length∧ns.length+YX rest more≤l.length+1∧YX rest more≤gg)
 case atStart=>exact⟨[],l,true,[],rfl,rfl,hown0,rfl,rfl,hbl0,qq1 _,by simp[YX],by simp[YX]⟩
 case round=>
  clear hown0 hbl0
  obtain⟨done,rest,more,ns,rfl,rfl,hown,hst,hall,hb,hrl,hnl,hg⟩:=hrel
  cases more
  ·go_wp2
   go_ret2
   refine⟨Or.inl ⟨ns,_,?_,rfl,hown.out⟩,hb⟩
   have:=hst.out
   unfold Xd at this
   simp only[Bool.false_eq_true,↓reduceIte,List.append_nil]at this
   rw[this];exact hall.out
  ·have hcut:=zaG rest 44 wr (by omega) (HM.out.later hb)
   have hstep:=hst.out.step
   have hr:=zau 44 rest
   have hl1:=jm 44 rest
   have hl2:=yf 44 rest
   have HBad:Hid (Ze (cutB 44 rest).1=none→Zq Ze (Zd 44 l)=none):=fun h=>hst.out.bad h
   have HStep:Hid (Xd 44 l (done++[(cutB 44 rest).1]) (cutB 44 rest).2.1 (cutB 44 rest).2.2):=hstep
   clear hstep
   generalize hc1:(cutB 44 rest).1=word at *
   generalize hc2:(cutB 44 rest).2.1=rest2 at *
   generalize hc3:(cutB 44 rest).2.2=more2 at *
   clear hc1 hc2 hc3 hst
   go_wp2_with fail
   refine hcut.mono ?_
   rintro e w2 ⟨rfl,hb2⟩
   have hB2:Below w1.heap.size w1 w2:=hb.trans (hb2.mono hb.size)
   have hrn:=qk word w2 (by omega) (HE.out.later hB2)
   clear hcut
   cases hn:Ze word with
   | none=>
    rw[hn]at hrn
    simp only[Option.getD_none,Option.isSome_none]at hrn
    have HF:Hid (Zq Ze (Zd 44 l)=none):=HBad.out hn
    clear hn
    go_wp2_with (go_at_call 76;refine hrn.mono ?_;rintro e w3 ⟨rfl,hb3⟩)
    go_ret2
    exact⟨Or.inr ⟨HF.out,rfl⟩,hB2.trans (hb3.mono hB2.size)⟩
   | some n=>
    rw[hn]at hrn
    simp only[Option.getD_some,Option.isSome_some]at hrn
    have HA:Hid (Zq Ze (done++[word])=some (ns++[n])):=yy _ _ _ _ _ hall.out hn
    clear hn
    go_wp2_with fail
    refine hrn.mono ?_
    rintro e w3 ⟨rfl,hb3⟩
    clear hrn
    have hB3:Below w1.heap.size w1 w3:=hB2.trans (hb3.mono hB2.size)
    have hown3:=(hown.out.later' hb2).later' hb3
    go_wp2_with (at_builtin;refine wpList_append_own _ rfl (.tmp 27) (.tmp 29) 73 rfl w1.heap.size 3 i3 (.int .i64 0) 1 8 Tryz.underlying73 hi3 hz0 hz1 hz2 rfl (by decide) _ ns.length (ns.map natV) rfl (World.ownsRow.alloc hown3 _) ⟨w3.heap.size,0,none⟩ 1 1 [.int .i64 (n:Nat)] rfl rfl ?c1 ?c2 ?c3 ?c4 ?c5 ?_)
    case c1=>exact cell_one_new w3 (.int .i64 (n:Nat)) 3
    case c2=>intro u hu;simp at hu;subst hu;rfl
    case c3=>unfold maxLen;omega
    case c4=>omega
    case c5=>have:=hB3.size;simp;omega
    intro v' w4 hown' hgrow _
    have HO:Hid (ZQ w1.heap.size w4 v' (ns++[n])):=by simpa[ZQ,natV,Hid]using hown'
    have hB4:Below w1.heap.size w1 w4:=(hB3.alloc hB3.size _).grown hgrow (by have:=hB3.size;simp;omega) (fun j e=>(World.ownsRow.lt hown3 j e).1)
    clear hown' hgrow hown3 hown hb2 hb3
    go_wp2
    go_roundg (YX rest2 more2)
    case measure=>omega
    case rel=>exact⟨done++[word],rest2,more2,ns++[n],rfl,rfl,HO,HStep,HA,hB4,by omega,by simp;omega,qq1 _⟩
end
end Go.Proofs.YtlfbdjeojgbniaaGreatDoor

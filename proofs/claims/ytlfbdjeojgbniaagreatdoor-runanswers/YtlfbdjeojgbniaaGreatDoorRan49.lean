import Derived.Test.YtlfbdjeojgbniaaGreatDoorRan48
namespace Go.Proofs.YtlfbdjeojgbniaaGreatDoor
section
open Go.RowKit Go.Deep Go.Shelf
def strL(l:List UInt8):Value:=.string ⟨l.toArray⟩
theorem bsize(l:List UInt8):(⟨l.toArray⟩:ByteArray).size=l.length:=by show l.toArray.size=_;simp
theorem yI(l:List UInt8)(f i:Nat):(⟨l.toArray⟩:ByteArray).extract f i=⟨((l.drop f).take (i-f)).toArray⟩:=by
 apply ByteArray.ext
 simp
theorem zck(c:UInt8)(l:List UInt8):cutB c l=if 0≤Lib.indexByte l c then (l.take (Lib.indexByte l c).toNat,l.drop ((Lib.indexByte l c).toNat+1),true) else (l,[],false):=by
 rw[←zhn]
 unfold Lib.cut
 rw[Lib.index_one]
 rfl
set_option maxRecDepth 100000 in
set_option maxHeartbeats 2000000 in
theorem zgl(l:List UInt8)(hl:l.length≤9223372036854775806)(w:World):Calls Tryz.prog 100 #[strL l,.string ⟨#[10]⟩] w fun e w'=>e=.returned (.bool (decide (l.getLast?=some 10)))∧w'=w:=by
 unfold strL
 have hsz:=bsize l
 rcases List.eq_nil_or_concat l with rfl|⟨r,c,hcon⟩
 ·go_enter Tryz.func100,Tryz.ntmps100
  go_wp2
  go_ret
  exact⟨rfl,rfl⟩
 ·rw[List.concat_eq_append]at hcon
  subst hcon
  have hlen:(r++[c]).length=r.length+1:=by simp
  have e1:(⟨(r++[c]).toArray⟩:ByteArray).extract r.length (r.length+1)=⟨#[c]⟩:=by rw[yI];simp
  have hw1:IntKind.i64.wrap (((r.length+1:Nat):Int)-1)=(r.length:Int):=by
   rw[IntKind.wrap_i64]
   have hl2:r.length+1≤9223372036854775806:=by rw[←hlen];exact hl
   omega
  rw[hlen]at hsz hl
  have hw2:IntKind.i64.wrap ((r.length:Int)+1-1)=(r.length:Int):=by rw[IntKind.wrap_i64];omega
  rw[show(r++[c]).getLast?=some c by simp]
  have b1:(r.length:Int)≤((r.length+1:Nat):Int):=by omega
  have b2:(r.length:Int)≤(r.length:Int)+1:=by omega
  have b3:(1:Int)≤(r.length:Int)+1:=by omega
  generalize (⟨(r++[c]).toArray⟩:ByteArray)=S at *
  by_cases hc:c=10
  ·subst hc
   go_enter Tryz.func100,Tryz.ntmps100
   go_wp2
   go_ret
   exact⟨by simp,rfl⟩
  ·have hne:¬(⟨#[c]⟩:ByteArray)=⟨#[10]⟩:=fun e=>hc (by have:=congrArg (fun b:ByteArray=>b.data.toList) e;simpa using this)
   go_enter Tryz.func100,Tryz.ntmps100
   go_wp2
   go_ret
   exact⟨by simp[hc],rfl⟩
attribute [local go_sem] Oper.semAt_some
def Qi{α:Type}(F:Fence)(n:Nat)(P:Program)(g:Nat)(lb:Array Value)(Bs:Nat)(encs:α→Array Value)(S Sp:List α→Prop)(N:Nat)(w:World):Prop:=
 ∀(l:Nat) (J Jx:List α→World→Prop) (W:World),Below w.heap.size w W→(∀s A B,J s A→A.grownBy B (some Bs)→J s B)→
  (∀pre x W1,J pre W1→pre.length<N→YieldAt F (n-1) P l (encs x) W1 fun e W'=>(e=.returned (.bool true)∧J (pre++[x]) W'∧W'.heap[Bs]?=W1.heap[Bs]?)∨(e=.returned (.bool false)∧Jx (pre++[x]) W'))→
  J [] W→CallsIn F n P g (#[.func (.yield l) #[] #[]]++lb) W fun e W'=>(∃v,e=.returned v)∧((∃xs,S xs∧J xs W')∨(∃pre,Sp pre∧Jx pre W'))
theorem jv{A B:World}{Bs k:Nat}{o:Obj}(hg:A.grownBy B (some Bs))(h:A.heap[k]?=some o)(hne:k≠Bs):B.heap[k]?=some o:=
 (hg.block k (Array.getElem?_eq_some_iff.1 h).1 (fun e=>hne (Option.some.inj e))).trans h
def Qk{α:Type}(D Bs:Nat)(I:List α→World→Prop)(xs:List α)(W:World):Exit→Act→World→Prop
 | .normal,_,W'=>W'.heap[D]?=W.heap[D]?∧W'.heap[D+1]?=W.heap[D+1]?∧W'.heap[Bs]?=W.heap[Bs]?∧I xs W'
 | _,_,_=>False
theorem zff{F:Fence}{n:Nat}{P:Program}{α:Type}{g:Operand}{ps:Array Tmp}{assign body:Code}{Q:Exit→Act→World→Prop}{a:Act}{w:World}
  (hro:F.round=none) (h1:1≤n) {gf:Nat} {lb:Array Value} (hg:a.eval g=.func (.func gf) #[] lb) (hFg:F.fn gf) (eg:∀args w,(callFunc gf args).run P w=.ok (.enter gf args) w)
  {Bs:Nat} {encs:α→Array Value} {S Sp:List α→Prop} {N:Nat} {w0:World} (hseq:Qi F (n-1) P gf lb Bs encs S Sp N w0) (hBs:Bs<w.heap.size) (hb0:Below w0.heap.size w0 w) (hps:∀x,(encs x).size=ps.size)
  (I:List α→World→Prop) (hIp:∀s W k o,(k=w.heap.size∨k=w.heap.size+1)→I s W→I s (W.putObj k o)) (hIB:∀s A B,I s A→A.grownBy B (some Bs)→I s B) (h0:∀R:Loop,I [] ((w.alloc (.deferred (some []))).alloc (.loop R))) (a₁:α→Act)
  (hassign:∀(l:Nat) (x:α) (W:World) (K:Act→World→Prop),K (a₁ x) W→assign.wpIn (F.inRound l) (n-1-1) P (Exit.then K (fun _ _ _=>False)) { tmps:=(ps.zip (encs x)).foldl (fun t (p,v)=>t.setIfInBounds p v) a.tmps,defers:=[] } W)
  (hbody:∀(l:Nat) (pre:List α) (x:α) (W:World),I pre W→pre.length<N→w.heap.size+1<W.heap.size→body.wpIn (F.inRound l) (n-1-1) P (Qk w.heap.size Bs I (pre++[x]) W) (a₁ x) W)
  (hdone:∀(D:Nat) (xs:List α) (W:World),w.heap.size≤D→S xs→I xs W→W.heap[D]?=some (.deferred (some []))→Q .normal { a with defers:={ target:=.collected D,args:=#[] }::a.defers } W) :
  (Code.rangeFunc g ps assign body).wpIn F n P Q a w:=by
 refine wpIn_rangeFunc (fun fn hfn=>?_)
 rw[hro]
 generalize hD:w.heap.size=D at *
 obtain⟨R,hR⟩:∃R:LoopState→Option Code→Loop,R=fun st pe=>{ state:=st,pending:=pe,fn,tmps:=a.tmps,params:=ps,assign,body,defers:=D }:=⟨_,rfl⟩
 obtain⟨W1,hW1⟩:∃W1,W1=(w.alloc (.deferred (some []))).alloc (.loop (R .ready none)):=⟨_,rfl⟩
 have sz:(w.alloc (.deferred (some []))).heap.size=D+1:=by rw[World.size_alloc,hD]
 have r1:W1.heap[D+1]?=some (.loop (R .ready none)):=by
  have:=World.alloc_heap_new (w.alloc (.deferred (some []))) (.loop (R .ready none))
  rw[sz]at this
  rw[hW1];exact this
 have d1:W1.heap[D]?=some (.deferred (some [])):=by
  have:=World.alloc_heap_new w (.deferred (some []))
  rw[hD]at this
  rw[hW1];exact(qa _ _ _ (by rw[sz];omega)).trans this
 have i1:I [] W1:=by rw[hW1];exact h0 _
 have b1:Below w0.heap.size w0 W1:=by
  rw[hW1];exact hb0.trans ((((qq4 _ w).alloc (qq1 _) _).alloc (by simp) _).mono hb0.size)
 refine⟨D+1,[{ target:=.collected D,args:=#[] }],W1,{ target:=.fn (.func gf) lb,args:=#[.func (.yield (D+1)) #[] #[]] },W1,gf,#[.func (.yield (D+1)) #[] #[]]++lb,W1,?_,?_,?_,?_,fun _=>h1,?_⟩
 ·rw[hW1,hR,←hD];exact run_enterLoop_outer _ _ _ _ _
 ·simp only[resolve,hg]
  simp[go_sem]
 ·intro f' hf'
  simp[Target.leads]at hf'
  subst hf'
  exact hFg
 ·simp[invoke,go_sem,eg]
 refine(hseq (D+1) (fun pre W=>I pre W∧W.heap[D+1]?=some (.loop (R .ready none))∧W.heap[D]?=some (.deferred (some []))) (fun _ _=>False) W1 b1
  (fun s A B hs hgr=>⟨hIB s A B hs.1 hgr,jv hgr hs.2.1 (by omega),jv hgr hs.2.2 (by omega)⟩) ?_ ⟨i1,r1,d1⟩).mono ?_
 ·rintro pre x W ⟨hi,hl,hk⟩ hlen
  have hlt:D+1<W.heap.size:=(Array.getElem?_eq_some_iff.1 hl).1
  have hy:=run_yield (P:=P) (args:=encs x) hl (by rw[hR];exact hps x)
  rw[hR]at hy
  refine⟨fn,_,assign,body,hy,roundIn_of_wpIn hfn (hassign _ x W _ ⟨_,run_beginRound hl (by rw[hR]),?_⟩)⟩
  have l2:(W.putObj (D+1) (.loop { R .ready none with state:=.busy })).heap[D+1]?=some (.loop { R .ready none with state:=.busy }):=World.putObj_heap_same hlt
  have k2:(W.putObj (D+1) (.loop { R .ready none with state:=.busy })).heap[D]?=some (.deferred (some [])):=(World.putObj_heap_other (by omega)).trans hk
  have s2:(W.putObj (D+1) (.loop { R .ready none with state:=.busy })).heap[Bs]?=W.heap[Bs]?:=World.putObj_heap_other (by omega)
  refine wpIn_mono (hbody _ pre x _ (hIp _ _ _ _ (Or.inr rfl) hi) hlen (lt_of_block l2)) (fun e a3 W3 hp=>?_)
  cases e with
  | normal=>
   obtain⟨d3,l3,s3,i3⟩:=hp
   have l3:=l3.trans l2
   have d3:=d3.trans k2
   have er:=run_endRound (P:=P) none l3
   rw[hR]at er l3 ⊢
   exact⟨_,_,er,.inl ⟨rfl,⟨hIp _ _ _ _ (Or.inr rfl) i3,World.putObj_heap_same (Array.getElem?_eq_some_iff.1 l3).1,(World.putObj_heap_other (by omega)).trans d3⟩,(World.putObj_heap_other (by omega)).trans (s3.trans s2)⟩⟩
  | ret=>exact hp.elim
  | exit _=>exact hp.elim
  | goto _=>exact hp.elim
  | panic _=>exact hp.elim
  | outgrown=>exact hp.elim
 ·rintro e W2 ⟨⟨v,rfl⟩,(⟨xs,hS,hi,hl,hk⟩|⟨pre,hSp,hf⟩)⟩
  ·have el:=run_endLoop (P:=P) hl (by rw[hR];simp)
   rw[hR]at el
   exact⟨none,_,el,hdone _ xs _ (qq1 _) hS (hIp _ _ _ _ (Or.inr rfl) hi) ((World.putObj_heap_other (by omega)).trans hk)⟩
  ·exact hf.elim
def Z1(l:List UInt8):List (List UInt8):=(Zd 10 l).dropLast.map (fun x=>x++[10])++(if (Zd 10 l).getLast?=some [] then [] else [(Zd 10 l).getLastD []])
theorem zaZ:Z1 []=[]:=rfl
theorem zaY{l:List UInt8}(h:(cutB 10 l).2.2=true):Z1 l=((cutB 10 l).1++[10])::Z1 (cutB 10 l).2.1:=by
 have e:=yj 10 l
 rw[h,if_pos rfl]at e
 unfold Z1
 rw[e]
 cases hs:Zd 10 (cutB 10 l).2.1 with
 | nil=>exact absurd hs (zy _ _)
 | cons x r=>simp
theorem zaq{l:List UInt8}(h:(cutB 10 l).2.2=false)(hne:l≠[]):Z1 l=[l]:=by
 have e:=yj 10 l
 rw[h,(jT 10 l h).1]at e
 unfold Z1
 rw[e]
 simp[hne]
def Qj(Bs:Nat)(w:World):Nat:=match w.cell? ⟨Bs,0,none⟩ with|some (.string x)=>x.size|_=>0
theorem jy{Bs:Nat}{w:World}{s:List UInt8}(h:w.heap[Bs]?=some (.cells #[strL s] 9 (0,0))):Qj Bs w=s.length:=by
 unfold Qj
 have:w.cell? ⟨Bs,0,none⟩=some (strL s):=by simp[World.cell?,h]
 rw[this]
 exact bsize s
theorem zgk(w:World)(Bs:Nat)(v:Value):w.grownBy (w.setCell ⟨Bs,0,none⟩ v) (some Bs):=⟨rfl,rfl,rfl,by simp,fun k _ hk=>qq5 _ _ _ _ (by show k≠Bs;exact fun e=>hk (by rw[e]))⟩
theorem zeR(s:List UInt8)(h:s≠[]):0<(Z1 s).length:=by
 cases hc:(cutB 10 s).2.2 with
 | true=>rw[zaY hc];simp
 | false=>rw[zaq hc h];simp
set_option maxRecDepth 100000 in
set_option maxHeartbeats 4000000 in
theorem zgp(F:Fence)(n:Nat)(hF:∀f,F.fn f)(hwd:F=Fence.wide)(hro:F.round=none)(hn:2≤n)(l Bs N:Nat)(t:List UInt8)(ht:t.length≤3000)(hN:(Z1 t).length≤N)(J Jx:List { x:List UInt8 // x.length≤3000 }→World→Prop)
  (hJB:∀s A B,J s A→A.grownBy B (some Bs)→J s B)
  (hY:∀pre x W1,J pre W1→pre.length<N→YieldAt F (n-1) Tryz.prog l #[strL x.1] W1 fun e W'=>(e=.returned (.bool true)∧J (pre++[x]) W'∧W'.heap[Bs]?=W1.heap[Bs]?)∨(e=.returned (.bool false)∧Jx (pre++[x]) W'))
  (W:World) (hb:W.heap[Bs]?=some (.cells #[strL t] 9 (0,0))) (h0:J [] W) :
  CallsIn F n Tryz.prog 57 #[.func (.yield l) #[] #[],.pointer (some ⟨Bs,0,none⟩)] W fun e W'=>(∃v,e=.returned v)∧((∃xs:List { x:List UInt8 // x.length≤3000 },xs.map Subtype.val=Z1 t∧J xs W')∨(∃pre,pre.map Subtype.val <+: Z1 t∧Jx pre W')):=by
 subst hwd
 have HY:Hid (∀pre x W1,J pre W1→pre.length<N→YieldAt Fence.wide (n-1) Tryz.prog l #[strL x.1] W1 fun e W'=>(e=.returned (.bool true)∧J (pre++[x]) W'∧W'.heap[Bs]?=W1.heap[Bs]?)∨(e=.returned (.bool false)∧Jx (pre++[x]) W')):=hY
 have HJB:Hid (∀s A B,J s A→A.grownBy B (some Bs)→J s B):=hJB
 clear hY hJB
 have hn1:1≤n:=by omega
 refine callsIn_of_wp Tryz.func57 rfl (hF _) ?_ hro
 simp only[Tryz.ntmps57,List.size_toArray,List.length_cons,List.length_nil,Nat.reduceAdd,Nat.reduceSub,Array.replicate_succ,Array.replicate_zero,List.push_toArray,List.append_toArray,List.nil_append,List.cons_append]
 gi_wp2
 gi_loopw [] (fun wr=>∃(pre:List { x:List UInt8 // x.length≤3000 }) (s:List UInt8),Z1 t=pre.map Subtype.val++Z1 s∧s.length≤3000∧wr.heap[Bs]?=some (.cells #[strL s] 9 (0,0))∧J pre wr) (fun wr=>Qj Bs wr)
 case atStart=>exact⟨[],t,by simp,ht,hb,h0⟩
 case round=>
  obtain⟨pre,s,hsp,hsl,hbx,hJ⟩:=hrel
  have hc:wr.cell? ⟨Bs,0,none⟩=some (strL s):=by simp[World.cell?,hbx]
  have hfz:wr.frozen? ⟨Bs,0,none⟩=false:=by simp[World.frozen?,hbx]
  have hsz:=bsize s
  have HSP:Hid (Z1 t=pre.map Subtype.val++Z1 s):=hsp
  have HBX:Hid (wr.heap[Bs]?=some (.cells #[strL s] 9 (0,0))):=hbx
  clear hsp hbx
  by_cases hs0:s=[]
  ·subst hs0
   unfold strL at hc
   gi_wp2
   go_end0
   exact⟨⟨_,rfl⟩,.inl ⟨pre,by rw[HSP.out,zaZ];simp,hJ⟩⟩
  ·have hpos:0<s.length:=List.length_pos_iff.2 hs0
   have hpi:(0:Int)<(s.length:Int):=by omega
   have hlen:pre.length<N:=by
    have h1:=congrArg List.length HSP.out
    have h2:=zeR s hs0
    rw[qb,List.length_map]at h1
    omega
   have hix:=Tryz.strings_IndexByte ⟨s.toArray⟩ 10 wr
   have hdl:(⟨s.toArray⟩:ByteArray).data.toList=s:=by simp
   rw[hdl,show((10:Int).toNat.toUInt8)=10 from rfl]at hix
   unfold strL at hc
   cases hcb:(cutB 10 s).2.2
   case false=>
    have hneg:Lib.indexByte s 10=-1:=by
     have h3:=zck 10 s
     by_cases h:0≤Lib.indexByte s 10
     ·rw[if_pos h]at h3;rw[h3]at hcb;cases hcb
     ·have:=Lib.indexByte_ge s 10;omega
    rw[hneg]at hix
    have hJ2:=HJB.out pre wr (wr.setCell ⟨Bs,0,none⟩ (.string ⟨#[]⟩)) hJ (zgk _ _ _)
    obtain⟨fn,tmps,assign,body,hy,hR⟩:=HY.out pre ⟨s,hsl⟩ _ hJ2 hlen
    unfold strL at hy
    dsimp only at hy
    have HL:Hid (Z1 s=[s]):=zaq hcb hs0
    have HB2:Hid ((wr.setCell ⟨Bs,0,none⟩ (.string ⟨#[]⟩)).heap[Bs]?=some (.cells #[strL []] 9 (0,0))):=yp wr Bs 0 _ _ _ HBX.out
    clear hcb hneg hdl hs0 hJ hJ2
    gi_wp2_with fail
    refine(callsIn_wide.2 hix).mono ?_
    rintro e w2 ⟨rfl,rfl⟩
    gi_wp2
    refine hR.mono ?_
    rintro e W3 (⟨rfl,hJ3,hk3⟩|⟨rfl,hJx3⟩)
    ·have HB3:Hid (W3.heap[Bs]?=some (.cells #[strL []] 9 (0,0))):=hk3.trans HB2.out
     gi_wp2
     go_roundw
     case rel=>exact⟨pre++[⟨s,hsl⟩],[],by rw[HSP.out,HL.out,zaZ];simp,by simp,HB3.out,hJ3⟩
     case measure=>rw[jy HB3.out,jy HBX.out];exact hpos
    ·gi_wp2
     refine bodyPost_ret (results_none rfl _ _ _) rfl ?_
     exact⟨⟨_,rfl⟩,.inr ⟨_,by rw[HSP.out,HL.out];simp,hJx3⟩⟩
   case true=>
    obtain⟨i,hi⟩:∃i:Nat,Lib.indexByte s 10=(i:Int):=by
     have h3:=zck 10 s
     by_cases h:0≤Lib.indexByte s 10
     ·exact qc h
     ·rw[if_neg h]at h3;rw[h3]at hcb;cases hcb
    have hcut:cutB 10 s=(s.take i,s.drop (i+1),true):=by
     have h3:=zck 10 s
     rw[hi,if_pos (by omega),Int.toNat_natCast]at h3
     exact h3
    have hil:=Lib.indexByte_some hi
    have hilt:i<s.length:=(List.getElem?_eq_some_iff.1 hil.1).1
    have htk:s.take (i+1)=s.take i++[10]:=by
     rw[qq8 hilt]
     congr 2
     exact(List.getElem?_eq_some_iff.1 hil.1).2
    have HL:Hid (Z1 s=s.take (i+1)::Z1 (s.drop (i+1))):=(show _=_ by rw[zaY hcb,hcut,htk])
    rw[hi]at hix
    have e1:(⟨s.toArray⟩:ByteArray).extract 0 (i+1)=⟨(s.take (i+1)).toArray⟩:=by rw[yI];simp
    have e2:(⟨s.toArray⟩:ByteArray).extract (i+1) s.length=⟨(s.drop (i+1)).toArray⟩:=by rw[yI,List.take_of_length_le (by simp)]
    have hw1:IntKind.i64.wrap ((i:Int)+1)=((i+1:Nat):Int):=by rw[IntKind.wrap_i64];omega
    have b1:((i+1:Nat):Int)≤(s.length:Int):=by omega
    have b2:(i:Int)+1≤(s.length:Int):=by omega
    have b3:i+1≤s.length:=by omega
    have hge:(0:Int)≤(i:Int):=by omega
    obtain⟨W2,hW2⟩:∃W2,W2=(wr.setCell ⟨Bs,0,none⟩ (.string ⟨(s.drop (i+1)).toArray⟩)).drew:=⟨_,rfl⟩
    have hJ2:J pre W2:=HJB.out pre wr W2 hJ (by rw[hW2];exact⟨rfl,rfl,rfl,by simp[World.drew],fun k _ hk=>qq5 _ _ _ _ (by show k≠Bs;exact fun e=>hk (by rw[e]))⟩)
    have HB2:Hid (W2.heap[Bs]?=some (.cells #[strL (s.drop (i+1))] 9 (0,0))):=by
     show W2.heap[Bs]?=_
     rw[hW2];exact yp wr Bs 0 _ _ _ HBX.out
    obtain⟨fn,tmps,assign,body,hy,hR⟩:=HY.out pre ⟨s.take (i+1),by simp;omega⟩ W2 hJ2 hlen
    unfold strL at hy
    dsimp only at hy
    have HW2:Hid (W2=(wr.setCell ⟨Bs,0,none⟩ (.string ⟨(s.drop (i+1)).toArray⟩)).drew):=hW2
    have HDL:Hid ((s.drop (i+1)).length≤3000∧(s.drop (i+1)).length<s.length):=⟨by simp;omega,by simp;omega⟩
    clear hcb hi hdl hs0 hJ hJ2 hcut hil htk hW2
    gi_wp2_with fail
    refine(callsIn_wide.2 hix).mono ?_
    rintro e w2 ⟨rfl,rfl⟩
    gi_wp2
    gi_region
    rw[←HW2.out]
    gi_wp2
    refine hR.mono ?_
    rintro e W3 (⟨rfl,hJ3,hk3⟩|⟨rfl,hJx3⟩)
    ·have HB3:Hid (W3.heap[Bs]?=some (.cells #[strL (s.drop (i+1))] 9 (0,0))):=hk3.trans HB2.out
     gi_wp2
     go_roundw
     case rel=>exact⟨pre++[⟨s.take (i+1),by simp;omega⟩],s.drop (i+1),by rw[HSP.out,HL.out];simp,HDL.out.1,HB3.out,hJ3⟩
     case measure=>rw[jy HB3.out,jy HBX.out];exact HDL.out.2
    ·gi_wp2
     refine bodyPost_ret (results_none rfl _ _ _) rfl ?_
     exact⟨⟨_,rfl⟩,.inr ⟨_,by rw[HSP.out,HL.out];simp,hJx3⟩⟩
theorem zgq(n:Nat)(hn:2≤n)(Bs:Nat)(t:List UInt8)(ht:t.length≤3000)(w:World)(hB:Bs<w.heap.size)(hb:w.heap[Bs]?=some (.cells #[strL t] 9 (0,0))) :
  Qi Fence.wide n Tryz.prog 57 #[.pointer (some ⟨Bs,0,none⟩)] Bs (fun x:{ x:List UInt8 // x.length≤3000 }=>#[strL x.1]) (fun xs=>xs.map Subtype.val=Z1 t) (fun pre=>pre.map Subtype.val <+: Z1 t) (Z1 t).length w:=fun l J Jx W hW hJB hY h0=>
 zgp Fence.wide n (fun _=>trivial) rfl rfl hn l Bs (Z1 t).length t ht (qq1 _) J Jx hJB hY W ((hW.block Bs hB).trans hb) h0
theorem zhF(F:Fence)(n:Nat)(h:F.fn 17)(hro:F.round=none)(t:List UInt8)(w:World) :
  CallsIn F n Tryz.prog 17 #[strL t] w fun e w'=>e=.returned (.func (.func 57) #[] #[.pointer (some ⟨w.heap.size,0,none⟩)])∧w'=w.alloc (.cells #[strL t] 9):=by
 unfold strL
 refine callsIn_of_wp Tryz.func17 rfl h ?_ hro
 simp only[Tryz.ntmps17,List.size_toArray,List.length_cons,List.length_nil,Nat.reduceAdd,Nat.reduceSub,Array.replicate_succ,Array.replicate_zero,List.push_toArray,List.append_toArray,List.nil_append,List.cons_append]
 gi_wp2
 go_ret
 exact⟨rfl,rfl⟩
end
section
open Go.RowKit Go.Deep
theorem zdZ(c:UInt8):∀(l x:List UInt8),x∈Zd c l→c∉x:=by
 intro l
 induction l with
 | nil=>intro x hx;simp[Zd]at hx;rw[hx];simp
 | cons b r ih=>
  intro x hx
  rw[yn]at hx
  by_cases hb:b=c
  ·rw[if_pos hb]at hx
   rcases List.mem_cons.1 hx with rfl|hx
   ·simp
   ·exact ih x hx
  ·rw[if_neg hb]at hx
   obtain⟨a,s,hs⟩:=List.exists_cons_of_ne_nil (zy c r)
   rw[hs]at hx ih
   rcases List.mem_cons.1 hx with rfl|hx
   ·intro hm
    rcases List.mem_cons.1 hm with e|hm
    ·exact hb e.symm
    ·exact ih a (by simp) hm
   ·exact ih x (by simp[hx])
def Y1(l:List UInt8):List UInt8:=if l.getLast?=some 10 then l.dropLast else l
theorem zg7(l:List UInt8):(Y1 l).length≤l.length:=by
 unfold Y1
 split
 ·simp
 ·exact qq1 _
theorem zdv(t:List UInt8):(Z1 t).map Y1=Xk t:=by
 have hend:∀x:List UInt8,Y1 (x++[10])=x:=fun x=>by unfold Y1;simp
 have h1:((Zd 10 t).dropLast.map (fun x=>x++[10])).map Y1=(Zd 10 t).dropLast:=by
  rw[List.map_map]
  conv=>rhs;rw[←List.map_id (Zd 10 t).dropLast]
  exact List.map_congr_left (fun x _=>hend x)
 unfold Z1 Xk
 by_cases h:(Zd 10 t).getLast?=some []
 ·rw[if_pos h,if_pos h,List.append_nil,h1]
 ·rw[if_neg h,if_neg h,List.map_append,h1]
  have hne:=zy 10 t
  have hl:(Zd 10 t).getLastD []=(Zd 10 t).getLast hne:=by rw[List.getLastD_eq_getLast?,List.getLast?_eq_some_getLast hne];rfl
  have ht:Y1 ((Zd 10 t).getLast hne)=(Zd 10 t).getLast hne:=by
   unfold Y1
   rw[if_neg]
   intro e
   exact zdZ 10 t _ (List.getLast_mem hne) (List.mem_of_getLast? e)
  rw[hl,List.map_cons,List.map_nil,ht]
  exact List.dropLast_concat_getLast hne
theorem zeQ(t:List UInt8):(Z1 t).length≤t.length+1:=by
 have h:=z7 10 t
 have hp:=List.length_pos_iff.2 (zy 10 t)
 unfold Z1
 rw[qb,List.length_map,List.length_dropLast]
 split
 ·simp;omega
 ·simp;omega
theorem Yw.more{d d1 d2:Desk}{ls:List (List UInt8)}{l o out:List UInt8}(h:Yw d ls d1 out)(h1:Zz d1 l d2 o):Yw d (ls++[l]) d2 (out++(o++[10])):=
 h.both ⟨d2,o,[],h1,⟨rfl,rfl⟩,rfl⟩
theorem Bld.cut{Z:Nat→Prop}{b:Nat}{acc:List UInt8}{w:World}(h:Bld Z b acc w):Bld (fun k=>Z k∧k<w.heap.size) b acc w:=by
 have hlt:=h.lt
 obtain⟨p,v,h1,h2,h3,h4,h5⟩:=h.mem
 exact⟨fun k hk=>h.low k hk.1,⟨h.zb,hlt⟩,p,v,h1,h2,h3,h4,fun k hk=>⟨h5 k hk,(h3.lt k hk).2⟩⟩
def XD(n:Nat)(k:Nat):Prop:=k=n+2∨k=n+3∨k=n+4
structure RB (w:World) (n:Nat) (d:Desk) (acc:List UInt8) (Y X Z:Nat→Prop) (W:World):Prop where
 desk:ZB w Y X w.heap.size d W
 asks:Y5 Y (w.heap.size+1) w.heap.size W
 bld:Bld Z (n+1) acc W
 zx:∀k,Z k→k<W.heap.size∧X k∧¬Y k∧¬XD n k
 box:W.heap[n]?=some (.cells #[.map (some (w.heap.size+1))] 48 (0,0))
 xn:X n∧¬Y n
 lp:∀k,XD n k→X k∧¬Y k
 sz:w.heap.size<n∧n+5≤W.heap.size
variable {w W W':World} {n:Nat} {d:Desk} {acc:List UInt8} {Y X Z:Nat→Prop}
theorem RB.away(h:RB w n d acc Y X Z W)(K:Kx (XD n) W W'):RB w n d acc Y (Yx X W.heap.size W'.heap.size) Z W':=by
 have hs:=h.sz
 have hyW:∀k,Y k→k<W.heap.size:=fun k hk=>h.desk.low k (h.desk.yX k hk).1
 refine⟨h.desk.away K (fun k hk=>(h.lp k hk).1) (fun k hk=>⟨(h.lp k hk).2,?_,?_⟩),h.asks.kept (fun k hk=>K.block k (hyW k hk) (fun hl=>(h.lp k hl).2 hk)),h.bld.kept (fun k hk hlt=>K.block k hlt (h.zx k hk).2.2.2),fun k hk=>?_,(K.block n (by omega) (fun hl=>?_)).trans h.box,⟨Or.inl h.xn.1,h.xn.2⟩,fun k hk=>⟨Or.inl (h.lp k hk).1,(h.lp k hk).2⟩,hs.1,qq2 hs.2 K.size⟩
 ·rcases hk with rfl|rfl|rfl <;> omega
 ·rcases hk with rfl|rfl|rfl <;> omega
 ·obtain⟨h1,h2,h3,h4⟩:=h.zx k hk
  exact⟨qq3 h1 K.size,Or.inl h2,h3,h4⟩
 ·rcases hl with e|e|e <;> omega
theorem RB.moved(h:RB w n d acc Y X Z W){d':Desk}(hm:YJ w Y X w.heap.size d' W W'):∃Y' X',RB w n d' acc Y' X' Z W'∧∀k,X k→k≠w.heap.size→W'.heap[k]?=W.heap[k]?:=by
 obtain⟨Y',X',hd,hY,hX,hY',hK⟩:=hm
 have hs:=h.sz
 have hkeep:∀k,X k→k≠w.heap.size→W'.heap[k]?=W.heap[k]?:=fun k hk hne=>hK.block k ⟨hk,hne⟩
 have hno:∀k,k<W.heap.size→¬Y k→¬Y' k:=fun k hk hn e=>(hY' k e).elim hn (fun e=>by omega)
 refine⟨Y',X',⟨hd,(h.asks.kept (fun k hk=>hkeep k (h.desk.yX k hk).1 (h.desk.yX k hk).2)).more hY,h.bld.kept (fun k hk _=>hkeep k (h.zx k hk).2.1 (by have:=h.bld.low k hk;omega)),fun k hk=>?_,(hkeep n h.xn.1 (by omega)).trans h.box,⟨hX n h.xn.1,hno n (by omega) h.xn.2⟩,fun k hk=>⟨hX k (h.lp k hk).1,hno k (by rcases hk with e|e|e <;> omega) (h.lp k hk).2⟩,hs.1,qq2 hs.2 hK.size⟩,hkeep⟩
 obtain⟨h1,h2,h3,h4⟩:=h.zx k hk
 exact⟨qq3 h1 hK.size,hX k h2,hno k h1 h3,h4⟩
theorem RB.wrote(h:RB w n d acc Y X Z W){acc':List UInt8}(hb:Bld (XP Z W.heap.size) (n+1) acc' W')(K:Kx Z W W'):∃X' Z',RB w n d acc' Y X' Z' W'∧(∀k,X k→X' k)∧∀k,XD n k→W'.heap[k]?=W.heap[k]?:=by
 have hs:=h.sz
 have hyW:∀k,Y k→k<W.heap.size:=fun k hk=>h.desk.low k (h.desk.yX k hk).1
 refine⟨Yx X W.heap.size W'.heap.size,_,⟨h.desk.away K (fun k hk=>(h.zx k hk).2.1) (fun k hk=>⟨(h.zx k hk).2.2.1,?_,?_⟩),h.asks.kept (fun k hk=>K.block k (hyW k hk) (fun hz=>(h.zx k hz).2.2.1 hk)),hb.cut,fun k hk=>?_,(K.block n (by omega) (fun hz=>?_)).trans h.box,⟨Or.inl h.xn.1,h.xn.2⟩,fun k hk=>⟨Or.inl (h.lp k hk).1,(h.lp k hk).2⟩,hs.1,qq2 hs.2 K.size⟩,fun k hk=>Or.inl hk,fun k hk=>K.block k (by rcases hk with e|e|e <;> omega) (fun hz=>(h.zx k hz).2.2.2 hk)⟩
 ·have:=h.bld.low k hk;omega
 ·have:=h.bld.low k hk;omega
 ·obtain⟨hk,hlt⟩:=hk
  rcases hk with hk|hk
  ·obtain⟨h1,h2,h3,h4⟩:=h.zx k hk
   exact⟨hlt,Or.inl h2,h3,h4⟩
  ·exact⟨hlt,Or.inr ⟨hk,hlt⟩,fun e=>by have:=hyW k e;omega,fun e=>by rcases e with e|e|e <;> omega⟩
 ·have:=h.bld.low n hz;omega
end
end Go.Proofs.YtlfbdjeojgbniaaGreatDoor
namespace Go.Proofs
open Go.Shelf
open Go.RowKit in
theorem Tryz.Builder_String_any_k(B b:Nat)(l:List UInt8)(w:World)(h:Lib.IsBuilderF 56 5 B b (Lib.byteCells l) w)(hBw:B≤w.heap.size) :
  Calls Tryz.prog 22 #[.pointer (some ⟨b,0,none⟩)] w fun e w'=>e=.returned (.string ⟨l.toArray⟩)∧(Lib.IsBuilderF 56 5 B b (Lib.byteCells l) w'∧Below B w w'∧Lib.OthersKept 5 (some b) w w'):=Any.Builder_String_any_k Tryz.lays169 Tryz.Builder_Extra_169 B b l w h hBw
end Go.Proofs

import Derived.Test.YtlfbdjeojgbniaaGreatDoorRan45
namespace Go.Proofs.YtlfbdjeojgbniaaGreatDoor
section
open Go.RowKit Go.Deep
structure DMem (N M n:Nat) (w wr:World) (L:Nat→Int) (T:Nat→Bool) (bv:Value) (bs:List (Nat×Nat×Nat)):Prop where
 g:GMem N n w wr L bv bs
 dn:wr.rowIs M 4 n (fun k=>.bool (T k))
 lt:N<M
theorem DMem.later{N M n:Nat}{w wr w':World}{L:Nat→Int}{T:Nat→Bool}{bv:Value}{bs:List (Nat×Nat×Nat)}(h:DMem N M n w wr L T bv bs)(hb:Below wr.heap.size wr w'):DMem N M n w w' L T bv bs:=
 ⟨h.g.later hb,h.dn.of_block (hb.block _ h.dn.lt),h.lt⟩
theorem DMem.app{N M n:Nat}{w wr w':World}{L:Nat→Int}{T:Nat→Bool}{bv bv':Value}{bs:List (Nat×Nat×Nat)}{b:Nat×Nat×Nat}(h:DMem N M n w wr L T bv bs)
  (ho:w'.ownsRow N 102 3 bv' (bs.length+1) (flat bs++[.int .i64 b.1,.int .i64 b.2.1,.int .i64 b.2.2])) (hg:wr.grownBy w' bv.ownBlock):DMem N M n w w' L T bv' (bs++[b]):=
 ⟨h.g.app ho hg,h.dn.of_block (hg.block _ h.dn.lt (fun e=>absurd (h.g.bits.not_row e.symm h.dn) (by decide))),h.lt⟩
theorem DMem.set{N M n:Nat}{w wr:World}{L:Nat→Int}{T:Nat→Bool}{bv:Value}{bs:List (Nat×Nat×Nat)}(h:DMem N M n w wr L T bv bs)(x:Nat)(u:Int):DMem N M n w (wr.setCell ⟨N,x,none⟩ (.int .i64 u)) (upd L x u) T bv bs:=
 ⟨h.g.set x u,h.dn.of_block (qq5 wr ⟨N,x,none⟩ _ M (by show M≠N;have:=h.lt;omega)),h.lt⟩
theorem DMem.mark{N M n:Nat}{w wr:World}{L:Nat→Int}{T:Nat→Bool}{bv:Value}{bs:List (Nat×Nat×Nat)}(h:DMem N M n w wr L T bv bs)(x:Nat)(b:Bool):DMem N M n w (wr.setCell ⟨M,x,none⟩ (.bool b)) L (fun k=>if k=x then b else T k) bv bs:=
 ⟨⟨h.g.row.of_block (qq5 wr ⟨M,x,none⟩ _ N (by show N≠M;have:=h.lt;omega)),
  h.g.bits.of_blocks (fun k hk=>qq5 wr ⟨M,x,none⟩ _ k (fun e=>by
   have e:k=M:=e
   subst e
   exact absurd (h.g.bits.not_row hk h.dn) (by decide))),
  h.g.below.setCell (p:=⟨M,x,none⟩) (Nat.le_of_lt h.lt) _⟩,
  (h.dn.set x _).congr (fun k _=>by split <;> simp_all),h.lt⟩
theorem DMem.bools{N M n:Nat}{w wr:World}{L:Nat→Int}{T:Nat→Bool}{bv:Value}{bs:List (Nat×Nat×Nat)}(h:DMem N M n w wr L T bv bs):Yl wr (.slice (some ⟨M,0,none⟩) n n) n T:=
 ⟨M,0,n,rfl,h.dn.lt,fun k hk=>by rw[Nat.zero_add];exact h.dn.cell hk⟩
set_option maxRecDepth 100000 in
set_option maxHeartbeats 8000000 in
theorem zdo(v:Value)(ts:Zl)(hd:Nat)(w:World)(hp:Zf w v ts)(hc:Zc ts 0 0)(h1:1≤hd)(h6:hd≤6) :
  Calls Tryz.prog 32 #[v,.int .i64 hd] w fun e w'=>(∃bv,e=.returned bv∧RowB w.heap.size w' bv (Zm ts hd 601))∧Below w.heap.size w w':=by
 obtain⟨i45,hi45,hz0,hz1,hz2⟩:=info_parts Tryz.info102
 have HP:Hid (Zf w v ts):=hp
 obtain⟨hw,hr,_⟩:=hc.works
 have HW:Hid (Xr ts):=hw
 have h30:=hw.1
 obtain⟨hl,a,c,rfl,hpc⟩:=hp
 clear hc hw
 have hmk:=fun wx=>run_make_row' (P:=Tryz.prog) 73 3 (.int .i64 0) 8 Tryz.underlying73 Tryz.info3 rfl .i64 .i64 ts.length (by omega) (by omega) wx
 have hmk2:=fun wx=>run_make_row' (P:=Tryz.prog) 84 4 (.bool false) 1 Tryz.underlying84 Tryz.info4 rfl .i64 .i64 ts.length (by omega) (by omega) wx
 go_enter Tryz.func32,Tryz.ntmps32
 go_wp2
 clear hmk
 go_loopw [7] (fun s7 wr=>∃m:Nat,m≤ts.length∧s7=.int .i64 m∧Hid (wr.rowIs w.heap.size 3 ts.length (Zo (fun k=>if k<m then wkOf ts k else 0)))∧Below w.heap.size w wr) (fun s7 _=>ts.length-(intOf s7).toNat)
 case atStart=>exact⟨0,Nat.zero_le _,rfl,(World.rowIs_made w (.int .i64 0) ts.length 3).congr (fun k _=>rfl),(qq4 _ _).alloc (qq1 _) _⟩
 case round=>
  obtain⟨m,hm,rfl,hrow,hB⟩:=hrel
  by_cases hml:m<ts.length
  ·rcases hpc with rfl|⟨b,o,rfl,hbl,hc⟩
   ·simp at hml
   have hc1':=(hB.cell (p:=⟨b,o+m*2,none⟩) hbl).trans (hc m hml).1
   have HE:Hid (wkOf ts m=(ts.getD m (0,[])).1):=rfl
   clear hc
   generalize (ts.getD m (0,[])).1=wk at *
   have hr0:=hrow.out
   have hfr:=hr0.frozen m
   have hce:=hr0.cell hml
   have HN:Hid ((wr.setCell ⟨w.heap.size,m,none⟩ (.int .i64 wk)).rowIs w.heap.size 3 ts.length (Zo (fun k=>if k<m+1 then wkOf ts k else 0))):=by
    refine(yd hr0).congr (fun k hk=>?_)
    unfold Zo upd
    dsimp only
    by_cases e:k=m
    ·subst e;rw[if_pos rfl,if_pos (by omega),HE.out]
    ·rw[if_neg e]
     by_cases e2:k<m
     ·rw[if_pos e2,if_pos (by omega)]
     ·rw[if_neg e2,if_neg (by omega)]
   have hB2:Below w.heap.size w (wr.setCell ⟨w.heap.size,m,none⟩ (.int .i64 wk)):=hB.setCell (p:=⟨w.heap.size,m,none⟩) (qq1 _) _
   unfold Zo at hce
   have hlt:=hr0.lt
   clear hrow hr0
   go_wp2
   go_roundw
   case rel=>exact⟨m+1,by omega,by go_num,HN,hB2⟩
   case measure=>simp[intOf];omega
  ·have hke:m=ts.length:=by omega
   have HR:Hid (wr.rowIs w.heap.size 3 ts.length (Zo (Zh ts hd 0))):=hrow.out.congr (fun k hk=>by unfold Zo;dsimp only;rw[if_pos (by omega)];rfl)
   clear hrow hpc
   subst hke
   obtain⟨w1,rfl⟩:∃w1,w1=wr:=⟨_,rfl⟩
   have HD:Hid (DMem w.heap.size w1.heap.size ts.length w (w1.alloc (.cells (madeCells #[.bool false] ts.length) 4)) (Zh ts hd 0) (fun _=>false) (.slice none 0 0) (Zm ts hd 0)):=
    ⟨⟨HR.out.alloc _,RowB.nil _ _,hB.alloc (Nat.le_of_lt HR.out.lt) _⟩,(World.rowIs_made w1 (.bool false) ts.length 4).congr (fun k _=>rfl),HR.out.lt⟩
   have HT:Hid (XS (fun _=>false) (Zh ts hd 0) ts.length):=fun k hk=>by
    have:=HW.out.2 k hk
    show false=decide (wkOf ts k=0)
    have e:¬wkOf ts k=0:=by omega
    simp[e]
   clear HR hB
   go_wp2
   clear hmk2
   obtain⟨M,hM⟩:∃M,M=w1.heap.size:=⟨_,rfl⟩
   obtain⟨W2,hW2⟩:∃W2,W2=w1.alloc (.cells (madeCells #[.bool false] ts.length) 4):=⟨_,rfl⟩
   rw[←hM]at HD ⊢
   rw[←hW2]at HD ⊢
   clear hM hW2
   go_loopw [5,9] (fun s5 s9 wr=>∃s:Nat,s≤601∧s9=.int .i64 s∧∃T,Hid (XS T (Zh ts hd s) ts.length)∧Hid (DMem w.heap.size M ts.length w wr (Zh ts hd s) T s5 (Zm ts hd s))) (fun _ s9 _=>601-(intOf s9).toNat)
   case atStart=>exact⟨0,by omega,rfl,_,HT,HD⟩
   case round=>
    clear HD HT
    obtain⟨s,hs,rfl,T,hT,hD⟩:=hrel
    obtain⟨ba,bc,rfl⟩:=hD.out.g.bits.shape
    by_cases hs6:s≤600
    ·have hrd:=zfj _ _ ts T (Zh ts hd s) wr (HP.out.later hD.out.g.below) hr h30 hD.out.bools (fun x=>(yu HW.out hd s x).1) hT.out
     have HL:Hid (Zh ts hd (s+1)=decs (Zh ts hd s) ((Zx ts (Zh ts hd s) ts.length).take hd)):=rfl
     have HBT:Hid (Zm ts hd (s+1)=Zm ts hd s++ZM s ((Zx ts (Zh ts hd s) ts.length).take hd)):=rfl
     have HLB:Hid (∀x,0≤Zh ts hd s x∧Zh ts hd s x≤20):=fun x=>yu HW.out hd s x
     have HBL:Hid ((Zm ts hd (s+1)).length≤600):=qn HW.out hd (s+1)
     have HND:Hid ((Zx ts (Zh ts hd s) ts.length).Nodup):=qB _ _ _
     have HLT:Hid (∀x,x∈Zx ts (Zh ts hd s) ts.length→x<ts.length):=fun x hx=>(j7.1 hx).1
     have hln:=qS ts (Zh ts hd s) ts.length
     rw[HBT.out]at HBL
     have HBT2:=HBT
     clear HBT hT
     generalize Zh ts hd s=L at *
     generalize Zx ts L ts.length=l at *
     generalize Zm ts hd s=bs at *
     go_wp2_with fail
     refine hrd.mono ?_
     clear hrd
     rintro e w3 ⟨⟨rv,rfl,hR⟩,hb3⟩
     have HIL:Hid ((Zb l).length=l.length):=zd l
     obtain⟨ra,rc,rfl⟩:=hR.shape
     have hrlow:=fun k (hk:(Value.slice ra (Zb l).length rc).ownBlock=some k)=>(hR.low hk).1
     rw[HIL.out]at hR hrlow ⊢
     have HD3:Hid (DMem w.heap.size M ts.length w w3 L T (.slice ba bs.length bc) bs):=hD.out.later hb3
     have hNw:w.heap.size<wr.heap.size:=hD.out.g.row.lt
     have HR:Hid (RowI (w.heap.size+1) w3 (.slice ra l.length rc) (Zb l)):=by
      have:=hR.mono (b':=w.heap.size+1) (by omega)
      exact this
     clear hD hR hb3 hrlow hNw
     obtain⟨m,hm1,hm2,HM,HMA⟩:∃m:Nat,m≤l.length∧m≤hd∧Hid (l.take m=l.take hd)∧Hid (m=l.length∨m=hd):=by
      by_cases e:l.length<hd
      ·exact⟨l.length,by omega,by omega,by show _=_;rw[List.take_of_length_le (qq1 _),List.take_of_length_le (by omega)],Or.inl rfl⟩
      ·exact⟨hd,by omega,by omega,rfl,Or.inr rfl⟩
     have hEL:Hid (Zh ts hd (s+1)=decs L (l.take m)):=by show _=_;rw[HL.out,HM.out]
     have hET:Hid (Zm ts hd (s+1)=bs++ZM s (l.take m)):=by show _=_;rw[HBT2.out,HM.out]
     have hBL:Hid (bs.length+m≤600):=by
      have:=HBL.out
      rw[←HM.out,qb,zG,List.length_take,Nat.min_eq_left hm1]at this
      exact this
     clear HM HL HBT2 HBL
     go_wp2
     go_loopw [5,11] (fun s5 s11 wr=>∃k:Nat,k≤m∧s11=.int .i64 k∧Hid (DMem w.heap.size M ts.length w wr (decs L (l.take k)) T s5 (bs++ZM s (l.take k)))∧Hid (RowI (w.heap.size+1) wr (.slice ra l.length rc) (Zb l))) (fun _ s11 _=>m-(intOf s11).toNat)
     case atStart=>exact⟨0,Nat.zero_le _,rfl,by show DMem _ _ _ _ _ _ _ _ _;simpa[decs,ZM]using HD3.out,HR⟩
     case round=>
      clear HD3 HR
      obtain⟨k,hk,rfl,hD,hR⟩:=hrel
      by_cases hkm:k<m
      ·have hkl:k<l.length:=by omega
       have hkd:k<hd:=by omega
       obtain⟨g,c2,hv2,hg1,hg2,hgc,_⟩:=hR.out.full (by rw[HIL.out];omega)
       rw[HIL.out]at hv2
       simp only[Value.slice.injEq,true_and]at hv2
       obtain⟨rfl,rfl⟩:=hv2
       have hcell:=RowI.cell hR.out (k:=k) (by rw[HIL.out];exact hkl)
       rw[zL]at hcell
       have hx:=HLT.out _ (zdl hkl)
       have HDD:Hid (decs L (l.take (k+1))=upd (decs L (l.take k)) (l.getD k 0) (decs L (l.take k) (l.getD k 0)-1)):=by show _=_;rw[yw hkl,zbR]
       have HBT:Hid (bs++ZM s (l.take (k+1))=bs++ZM s (l.take k)++[(s,k,l.getD k 0)]):=by
        show _=_
        rw[yw hkl,zal,List.length_take,Nat.min_eq_left (by omega),List.append_assoc]
       have hbd:=zaR (l:=l.take k) (HND.out.sublist (List.take_sublist _ _)) HLB.out (l.getD k 0)
       have hlb:(bs++ZM s (l.take k)).length≤599:=by
        rw[qb,zG,List.length_take,Nat.min_eq_left (by omega)]
        have:=hBL.out
        omega
       have HXE:Hid ((Zb l).getD k 0=((l.getD k 0:Nat):Int)):=zL l k
       generalize l.getD k 0=x at *
       generalize bs++ZM s (l.take k)=cs at *
       generalize decs L (l.take k)=F at *
       obtain⟨ca,cc,rfl⟩:=hD.out.g.bits.shape
       have hDa:=hD.out.later (w':=wr.alloc (.cells #[.int .i64 s,.int .i64 k,.int .i64 x] 102)) ((qq4 _ _).alloc (qq1 _) _)
       have hRa:=hR.out.alloc (.cells #[.int .i64 s,.int .i64 k,.int .i64 x] 102)
       have ho:=hDa.g.bits
       have hsz:w.heap.size≤wr.heap.size:=Nat.le_of_lt hD.out.g.row.lt
       unfold RowB at ho
       have HDA:Hid (DMem w.heap.size M ts.length w (wr.alloc (.cells #[.int .i64 s,.int .i64 k,.int .i64 x] 102)) F T (.slice ca cs.length cc) cs):=hDa
       have HRA:Hid (RowI (w.heap.size+1) (wr.alloc (.cells #[.int .i64 s,.int .i64 k,.int .i64 x] 102)) (.slice (some ⟨g,0,none⟩) l.length rc) (Zb l)):=hRa
       obtain⟨y,hy⟩:∃y,F x=y:=⟨_,rfl⟩
       have HY:Hid (F x=y):=hy
       rw[hy]at hbd HDD
       clear hy
       have h1c:∀u∈[Value.int .i64 (s:Int),.int .i64 (k:Int),.int .i64 (x:Int)],u.oneCell'=true:=by intro u hu;simp at hu;rcases hu with rfl|rfl|rfl <;> rfl
       clear hDa hRa hD hR
       go_wp2_with (at_builtin;refine wpList_append_own _ rfl (.tmp 51) (.tmp 59) 77 rfl w.heap.size 102 i45 (.agg #[.int .i64 0,.int .i64 0,.int .i64 0]) 3 24 Tryz.underlying77 hi45 hz0 hz1 hz2 rfl (by decide) _ cs.length (flat cs) rfl ho ⟨wr.heap.size,0,none⟩ 1 1 [.int .i64 s,.int .i64 k,.int .i64 x] rfl rfl (qo wr _ _ _ _) h1c (by unfold maxLen;omega) (by omega) (by simp;omega) ?_;intro v2 w4 hown hgr _;have hD4:DMem w.heap.size M ts.length w w4 F T v2 (cs++[(s,k,x)]):=HDA.out.app hown hgr;have hR4:RowI (w.heap.size+1) w4 (.slice (some ⟨g,0,none⟩) l.length rc) (Zb l):=HRA.out.past HDA.out.g.bits hgr;have hcell4:w4.cell? ⟨g,k,none⟩=some (.int .i64 x):=(RowI.cell hR4 (k:=k) (by rw[HIL.out];exact hkl)).trans (congrArg (fun z=>some (Value.int .i64 z)) HXE.out);have hc4:w4.cell? ⟨w.heap.size,x,none⟩=some (.int .i64 y):=(hD4.g.row.cell hx).trans (congrArg (fun z=>some (Value.int .i64 z)) HY.out);have hf4:=hD4.g.row.frozen x;have hl4:=hD4.g.row.lt;have HD4:Hid (DMem w.heap.size M ts.length w w4 F T v2 (cs++[(s,k,x)])):=hD4;have HR4:Hid (RowI (w.heap.size+1) w4 (.slice (some ⟨g,0,none⟩) l.length rc) (Zb l)):=hR4;clear hD4 hR4 hown hgr ho)
       have HN:Hid (DMem w.heap.size M ts.length w (w4.setCell ⟨w.heap.size,x,none⟩ (.int .i64 (y-1))) (decs L (l.take (k+1))) T v2 (bs++ZM s (l.take (k+1)))):=by
        show DMem _ _ _ _ _ _ _ _ _
        rw[HDD.out,HBT.out]
        exact HD4.out.set x _
       have HRN:Hid (RowI (w.heap.size+1) (w4.setCell ⟨w.heap.size,x,none⟩ (.int .i64 (y-1))) (.slice (some ⟨g,0,none⟩) l.length rc) (Zb l)):=
        HR4.out.of_blocks (fun j hj=>qq5 w4 ⟨w.heap.size,x,none⟩ _ j (by show j≠w.heap.size;have:=(HR4.out.low hj).1;omega))
       go_roundw
       case rel=>exact⟨k+1,by omega,by go_num,HN,HRN⟩
       case measure=>simp[intOf];omega
      ·have hke:k=m:=by omega
       have HN0:=hD.out
       rw[hke,←hEL.out,←hET.out]at HN0
       have HN:Hid _:=HN0
       have hsp:¬k<l.length∨(k<l.length∧¬k<hd):=by have:=HMA.out;omega
       clear HN0 hD hR hke hEL hET HLB
       have HL1:Hid (∀x,0≤Zh ts hd (s+1) x∧Zh ts hd (s+1) x≤20):=fun x=>yu HW.out hd (s+1) x
       obtain⟨F,hF⟩:∃F,Zh ts hd (s+1)=F:=⟨_,rfl⟩
       obtain⟨cs,hcs⟩:∃cs,Zm ts hd (s+1)=cs:=⟨_,rfl⟩
       rw[hF]at HN HL1
       rw[hcs]at HN
       have HF:Hid (Zh ts hd (s+1)=F):=hF
       have HCS:Hid (Zm ts hd (s+1)=cs):=hcs
       clear hF hcs
       obtain⟨ca,cc,rfl⟩:=HN.out.g.bits.shape
       obtain⟨w5,rfl⟩:∃w5,w5=wr:=⟨_,rfl⟩
       rcases hsp with hsp|⟨hsp0,hsp⟩
       all_goals
        go_wp2
        go_loopw [12] (fun s12 wr=>∃j:Nat,j≤ts.length∧s12=.int .i64 j∧∃T',Hid (∀k,k<j→T' k=decide (F k=0))∧Hid (DMem w.heap.size M ts.length w wr F T' (.slice ca cs.length cc) cs)) (fun s12 _=>ts.length-(intOf s12).toNat)
        case atStart=>exact⟨0,Nat.zero_le _,rfl,T,fun k hk=>by omega,HN⟩
        case round=>
         clear HN
         obtain⟨j,hj,rfl,T',hT',hD⟩:=hrel
         by_cases hjl:j<ts.length
         ·have hcj:=hD.out.g.row.cell hjl
          have hfj:=hD.out.dn.frozen j
          have hcd:=hD.out.dn.cell hjl
          have hlj:=hD.out.g.row.lt
          have hlm:=hD.out.dn.lt
          unfold Zo at hcj
          have HD2:=fun b=>hD.out.mark j b
          have HT2:Hid (∀b,b=decide (F j=0)→∀k,k<j+1→(if k=j then b else T' k)=decide (F k=0)):=fun b hb k hk=>by
           by_cases e:k=j
           ·subst e;rw[if_pos rfl];exact hb
           ·rw[if_neg e];exact hT'.out k (by omega)
          have HD3:Hid (∀b,DMem w.heap.size M ts.length w (wr.setCell ⟨M,j,none⟩ (.bool b)) F (fun k=>if k=j then b else T' k) (.slice ca cs.length cc) cs):=HD2
          clear HD2 hD hT'
          by_cases hy:F j=0
          ·have HT3:Hid (∀k,k<j+1→(if k=j then true else T' k)=decide (F k=0)):=HT2.out true (by simp[hy])
           rw[hy]at hcj
           clear HT2 hy
           go_wp2
           go_roundw
           case rel=>exact⟨j+1,by omega,by go_num,_,HT3,HD3.out true⟩
           case measure=>simp[intOf];omega
          ·have HT3:Hid (∀k,k<j+1→(if k=j then false else T' k)=decide (F k=0)):=HT2.out false (by simp[hy])
           have hyb:(F j==0)=false:=by simp[hy]
           clear HT2
           generalize F j=y at *
           go_wp2
           go_roundw
           case rel=>exact⟨j+1,by omega,by go_num,_,HT3,HD3.out false⟩
           case measure=>simp[intOf];omega
         ·have hjl':¬(j:Int)<(ts.length:Int):=by omega
          have HT4:Hid (XS T' (Zh ts hd (s+1)) ts.length):=fun k hk=>by rw[HF.out];exact hT'.out k (by omega)
          have HD4:Hid (DMem w.heap.size M ts.length w wr (Zh ts hd (s+1)) T' (.slice ca cs.length cc) (Zm ts hd (s+1))):=by
           show DMem _ _ _ _ _ _ _ _ _
           rw[HF.out,HCS.out];exact hD.out
          clear hT' hD
          go_wp2
          go_roundw
          case rel=>exact⟨s+1,by omega,by go_num,T',HT4,HD4⟩
          case measure=>simp[intOf];omega
    ·have hse:s=601:=by omega
     subst hse
     have HF:Hid (RowB w.heap.size wr (.slice ba (Zm ts hd 601).length bc) (Zm ts hd 601)):=hD.out.g.bits
     have HB:Hid (Below w.heap.size w wr):=hD.out.g.below
     clear hD hT
     generalize (Zm ts hd 601).length=bl at *
     go_wp2
     go_ret
     exact⟨⟨_,rfl,HF.out⟩,HB.out⟩
theorem zbZ(c:UInt8)(a b:List UInt8):Z8 c [a,b]=a++c::b:=rfl
theorem qt(c:UInt8)(a b d:List UInt8):Z8 c [a,b,d]=a++c::(b++c::d):=rfl
theorem zeM(c:UInt8)(a b d e:List UInt8):Z8 c [a,b,d,e]=a++c::(b++c::(d++c::e)):=rfl
set_option maxRecDepth 100000 in
set_option maxHeartbeats 2000000 in
theorem ziw(h t:Nat)(hh:h<100)(ht:t<100)(w:World):Calls Tryz.prog 37 #[.agg #[.int .i64 1,.int .i64 (h:Int),.int .i64 (t:Int),.int .i64 0]] w fun e w'=>e=.returned (.string ⟨(Zn (1,(h:Int),(t:Int),0)).toArray⟩)∧Below w.heap.size w w':=by
 have hdh:=fun wx=>zw h wx hh
 have hl2:=zQ (z:=(h:Int)) (by omega)
 have hdt:=fun wx=>zw t wx ht
 have hl3:=zQ (z:=(t:Int)) (by omega)
 have HB:Hid (Below w.heap.size w ((w.alloc (.cells #[.int .i64 1,.int .i64 (h:Int),.int .i64 (t:Int),.int .i64 0] 91)).alloc (.cells #[.string ⟨#[]⟩,.string ⟨#[116,111,111,107]⟩,.string ⟨#[115,116,111,108,101]⟩,.string ⟨#[102,101,116,99,104,101,100]⟩,.string ⟨#[102,105,110,105,115,104,101,100]⟩,.string ⟨#[115,108,101,112,116]⟩,.string ⟨#[119,111,107,101]⟩] 9))):=((qq4 _ _).alloc (qq1 _) _).alloc (by simp) _
 have HT:Hid (Zn (1,(h:Int),(t:Int),0)=Z8 32 [Yk 1,digs (h:Int),digs (t:Int)]):=rfl
 generalize digs (h:Int)=lh at *
 generalize digs (t:Int)=lt at *
 go_enter Tryz.func37,Tryz.ntmps37
 go_wp2_with fail
 refine(hdh _).mono ?_
 clear hdh
 rintro e wx ⟨rfl,rfl⟩
 go_wp2_with fail
 refine(hdt _).mono ?_
 clear hdt
 rintro e wx ⟨rfl,rfl⟩
 go_wp2
 go_ret
 refine⟨zU ?_,HB.out⟩
 rw[HT.out,qt]
 apply ByteArray.ext
 simp[Yk]
set_option maxRecDepth 100000 in
set_option maxHeartbeats 2000000 in
theorem zix(h t o:Nat)(hh:h<100)(ht:t<100)(ho:o<100)(w:World):Calls Tryz.prog 37 #[.agg #[.int .i64 2,.int .i64 (h:Int),.int .i64 (t:Int),.int .i64 (o:Int)]] w fun e w'=>e=.returned (.string ⟨(Zn (2,(h:Int),(t:Int),(o:Int))).toArray⟩)∧Below w.heap.size w w':=by
 have hdh:=fun wx=>zw h wx hh
 have hl2:=zQ (z:=(h:Int)) (by omega)
 have hdt:=fun wx=>zw t wx ht
 have hl3:=zQ (z:=(t:Int)) (by omega)
 have hdo:=fun wx=>zw o wx ho
 have hl4:=zQ (z:=(o:Int)) (by omega)
 have HB:Hid (Below w.heap.size w ((w.alloc (.cells #[.int .i64 2,.int .i64 (h:Int),.int .i64 (t:Int),.int .i64 (o:Int)] 91)).alloc (.cells #[.string ⟨#[]⟩,.string ⟨#[116,111,111,107]⟩,.string ⟨#[115,116,111,108,101]⟩,.string ⟨#[102,101,116,99,104,101,100]⟩,.string ⟨#[102,105,110,105,115,104,101,100]⟩,.string ⟨#[115,108,101,112,116]⟩,.string ⟨#[119,111,107,101]⟩] 9))):=((qq4 _ _).alloc (qq1 _) _).alloc (by simp) _
 have HT:Hid (Zn (2,(h:Int),(t:Int),(o:Int))=Z8 32 [Yk 2,digs (h:Int),digs (t:Int),digs (o:Int)]):=rfl
 generalize digs (h:Int)=lh at *
 generalize digs (t:Int)=lt at *
 generalize digs (o:Int)=lo at *
 go_enter Tryz.func37,Tryz.ntmps37
 go_wp2_with fail
 refine(hdh _).mono ?_
 clear hdh
 rintro e wx ⟨rfl,rfl⟩
 go_wp2_with fail
 refine(hdt _).mono ?_
 clear hdt
 rintro e wx ⟨rfl,rfl⟩
 go_wp2_with fail
 refine(hdo _).mono ?_
 clear hdo
 rintro e wx ⟨rfl,rfl⟩
 go_wp2
 go_ret
 refine⟨zU ?_,HB.out⟩
 rw[HT.out,zeM]
 apply ByteArray.ext
 simp[Yk]
set_option maxRecDepth 100000 in
set_option maxHeartbeats 2000000 in
theorem ziy(h t:Nat)(hh:h<100)(ht:t<100)(w:World):Calls Tryz.prog 37 #[.agg #[.int .i64 3,.int .i64 (h:Int),.int .i64 (t:Int),.int .i64 0]] w fun e w'=>e=.returned (.string ⟨(Zn (3,(h:Int),(t:Int),0)).toArray⟩)∧Below w.heap.size w w':=by
 have hdh:=fun wx=>zw h wx hh
 have hl2:=zQ (z:=(h:Int)) (by omega)
 have hdt:=fun wx=>zw t wx ht
 have hl3:=zQ (z:=(t:Int)) (by omega)
 have HB:Hid (Below w.heap.size w ((w.alloc (.cells #[.int .i64 3,.int .i64 (h:Int),.int .i64 (t:Int),.int .i64 0] 91)).alloc (.cells #[.string ⟨#[]⟩,.string ⟨#[116,111,111,107]⟩,.string ⟨#[115,116,111,108,101]⟩,.string ⟨#[102,101,116,99,104,101,100]⟩,.string ⟨#[102,105,110,105,115,104,101,100]⟩,.string ⟨#[115,108,101,112,116]⟩,.string ⟨#[119,111,107,101]⟩] 9))):=((qq4 _ _).alloc (qq1 _) _).alloc (by simp) _
 have HT:Hid (Zn (3,(h:Int),(t:Int),0)=Z8 32 [Yk 3,digs (h:Int),digs (t:Int)]):=rfl
 generalize digs (h:Int)=lh at *
 generalize digs (t:Int)=lt at *
 go_enter Tryz.func37,Tryz.ntmps37
 go_wp2_with fail
 refine(hdh _).mono ?_
 clear hdh
 rintro e wx ⟨rfl,rfl⟩
 go_wp2_with fail
 refine(hdt _).mono ?_
 clear hdt
 rintro e wx ⟨rfl,rfl⟩
 go_wp2
 go_ret
 refine⟨zU ?_,HB.out⟩
 rw[HT.out,qt]
 apply ByteArray.ext
 simp[Yk]
set_option maxRecDepth 100000 in
set_option maxHeartbeats 2000000 in
theorem ziz(h t:Nat)(hh:h<100)(ht:t<100)(w:World):Calls Tryz.prog 37 #[.agg #[.int .i64 4,.int .i64 (h:Int),.int .i64 (t:Int),.int .i64 0]] w fun e w'=>e=.returned (.string ⟨(Zn (4,(h:Int),(t:Int),0)).toArray⟩)∧Below w.heap.size w w':=by
 have hdh:=fun wx=>zw h wx hh
 have hl2:=zQ (z:=(h:Int)) (by omega)
 have hdt:=fun wx=>zw t wx ht
 have hl3:=zQ (z:=(t:Int)) (by omega)
 have HB:Hid (Below w.heap.size w ((w.alloc (.cells #[.int .i64 4,.int .i64 (h:Int),.int .i64 (t:Int),.int .i64 0] 91)).alloc (.cells #[.string ⟨#[]⟩,.string ⟨#[116,111,111,107]⟩,.string ⟨#[115,116,111,108,101]⟩,.string ⟨#[102,101,116,99,104,101,100]⟩,.string ⟨#[102,105,110,105,115,104,101,100]⟩,.string ⟨#[115,108,101,112,116]⟩,.string ⟨#[119,111,107,101]⟩] 9))):=((qq4 _ _).alloc (qq1 _) _).alloc (by simp) _
 have HT:Hid (Zn (4,(h:Int),(t:Int),0)=Z8 32 [Yk 4,digs (h:Int),digs (t:Int)]):=rfl
 generalize digs (h:Int)=lh at *
 generalize digs (t:Int)=lt at *
 go_enter Tryz.func37,Tryz.ntmps37
 go_wp2_with fail
 refine(hdh _).mono ?_
 clear hdh
 rintro e wx ⟨rfl,rfl⟩
 go_wp2_with fail
 refine(hdt _).mono ?_
 clear hdt
 rintro e wx ⟨rfl,rfl⟩
 go_wp2
 go_ret
 refine⟨zU ?_,HB.out⟩
 rw[HT.out,qt]
 apply ByteArray.ext
 simp[Yk]
set_option maxRecDepth 100000 in
set_option maxHeartbeats 2000000 in
theorem ziA(h:Nat)(hh:h<100)(w:World):Calls Tryz.prog 37 #[.agg #[.int .i64 5,.int .i64 (h:Int),.int .i64 0,.int .i64 0]] w fun e w'=>e=.returned (.string ⟨(Zn (5,(h:Int),0,0)).toArray⟩)∧Below w.heap.size w w':=by
 have hdh:=fun wx=>zw h wx hh
 have hl2:=zQ (z:=(h:Int)) (by omega)
 have HB:Hid (Below w.heap.size w ((w.alloc (.cells #[.int .i64 5,.int .i64 (h:Int),.int .i64 0,.int .i64 0] 91)).alloc (.cells #[.string ⟨#[]⟩,.string ⟨#[116,111,111,107]⟩,.string ⟨#[115,116,111,108,101]⟩,.string ⟨#[102,101,116,99,104,101,100]⟩,.string ⟨#[102,105,110,105,115,104,101,100]⟩,.string ⟨#[115,108,101,112,116]⟩,.string ⟨#[119,111,107,101]⟩] 9))):=((qq4 _ _).alloc (qq1 _) _).alloc (by simp) _
 have HT:Hid (Zn (5,(h:Int),0,0)=Z8 32 [Yk 5,digs (h:Int)]):=rfl
 generalize digs (h:Int)=lh at *
 go_enter Tryz.func37,Tryz.ntmps37
 go_wp2_with fail
 refine(hdh _).mono ?_
 clear hdh
 rintro e wx ⟨rfl,rfl⟩
 go_wp2
 go_ret
 refine⟨zU ?_,HB.out⟩
 rw[HT.out,zbZ]
 apply ByteArray.ext
 simp[Yk]
set_option maxRecDepth 100000 in
set_option maxHeartbeats 2000000 in
theorem ziB(h:Nat)(hh:h<100)(w:World):Calls Tryz.prog 37 #[.agg #[.int .i64 6,.int .i64 (h:Int),.int .i64 0,.int .i64 0]] w fun e w'=>e=.returned (.string ⟨(Zn (6,(h:Int),0,0)).toArray⟩)∧Below w.heap.size w w':=by
 have hdh:=fun wx=>zw h wx hh
 have hl2:=zQ (z:=(h:Int)) (by omega)
 have HB:Hid (Below w.heap.size w ((w.alloc (.cells #[.int .i64 6,.int .i64 (h:Int),.int .i64 0,.int .i64 0] 91)).alloc (.cells #[.string ⟨#[]⟩,.string ⟨#[116,111,111,107]⟩,.string ⟨#[115,116,111,108,101]⟩,.string ⟨#[102,101,116,99,104,101,100]⟩,.string ⟨#[102,105,110,105,115,104,101,100]⟩,.string ⟨#[115,108,101,112,116]⟩,.string ⟨#[119,111,107,101]⟩] 9))):=((qq4 _ _).alloc (qq1 _) _).alloc (by simp) _
 have HT:Hid (Zn (6,(h:Int),0,0)=Z8 32 [Yk 6,digs (h:Int)]):=rfl
 generalize digs (h:Int)=lh at *
 go_enter Tryz.func37,Tryz.ntmps37
 go_wp2_with fail
 refine(hdh _).mono ?_
 clear hdh
 rintro e wx ⟨rfl,rfl⟩
 go_wp2
 go_ret
 refine⟨zU ?_,HB.out⟩
 rw[HT.out,zbZ]
 apply ByteArray.ext
 simp[Yk]
end
end Go.Proofs.YtlfbdjeojgbniaaGreatDoor

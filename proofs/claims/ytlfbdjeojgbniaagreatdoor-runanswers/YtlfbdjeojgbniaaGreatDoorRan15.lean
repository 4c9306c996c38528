import Derived.Test.YtlfbdjeojgbniaaGreatDoorRan14
import Derived.Deep.CutBlock
import Derived.Deep.DeepCutAuto
namespace Go.Proofs.YtlfbdjeojgbniaaGreatDoor
section
open Go.RowKit Go.Deep Go.Maps
theorem Tryz.info73:(Tryz.prog.info? 73).map (fun i=>(i.zero,i.size,i.bytes))=some (some (.slice none 0 0),1,24):=by kernel_rfl
structure NewM (J M A D C a i m:Nat) (ts:Zl) (w wr:World):Prop where
 row:wr.rowIs J 106 3 (Xj M A D ts.length)
 miss:wr.rowIs M 3 ts.length (fun k=>natV (if k<a then (Za ts k).length else 0))
 aft:∃av,XI C A ts.length (Yo ts i m) av wr∧∀k k',k<ts.length→k' < ts.length→k≠k'→∀b,(av k).ownBlock=some b→(av k').ownBlock≠some b
 done:Xb wr D ts.length (fun _=>false)
 lt:J<C∧M<C∧A<C∧D<C
 ne:J≠M∧J≠A∧J≠D∧M≠A∧M≠D∧A≠D
 low:w.heap.size≤J∧w.heap.size≤M∧w.heap.size≤A∧w.heap.size≤D
 size:C≤wr.heap.size
 below:Below w.heap.size w wr
theorem Xb.empty{w:World}{D n:Nat}(h:w.heap[D]?=some (.map #[] 0)):Xb w D n (fun _=>false):=by
 obtain⟨es,clock,hb,F,hs,hD⟩:=World.ownsMap_made w Tryz.prog 3 (unitElem (H:=Unit))
 rw[heap_alloc_new]at hb
 simp only[Option.some.injEq,Obj.map.injEq]at hb
 obtain⟨rfl,rfl⟩:=hb
 exact⟨0,.map [],⟨#[],0,h,F,hs,rfl⟩,rfl,by rw[zd6];omega,fun x _=>rfl⟩
theorem NewM.start{J M A D:Nat}{ts:Zl}{w wx:World}(hJ:wx.heap[J]?=some (.cells #[.slice (some ⟨M,0,none⟩) ts.length ts.length,.slice (some ⟨A,0,none⟩) ts.length ts.length,.map (some D)] 106 (0,0)))
  (hM:wx.heap[M]?=some (.cells (madeCells #[.int .i64 0] ts.length) 3 (0,0))) (hA:wx.heap[A]?=some (.cells (madeCells #[.slice none 0 0] ts.length) 73 (0,0))) (hD:wx.heap[D]?=some (.map #[] 0))
  (low:w.heap.size≤J∧w.heap.size≤M∧w.heap.size≤A∧w.heap.size≤D) (hb:Below w.heap.size w wx):NewM J M A D wx.heap.size 0 0 0 ts w wx:=by
 have lt:∀{k o},wx.heap[k]?=some o→k<wx.heap.size:=fun h=>(Array.getElem?_eq_some_iff.1 h).1
 refine⟨⟨_,hJ,rfl,fun i hi=>?_⟩,⟨_,hM,size_madeCells _ _,fun i hi=>by simp[madeCells,hi,Nat.mod_one,natV]⟩,⟨fun _=>.slice none 0 0,⟨⟨_,hA,size_madeCells _ _,fun i hi=>by simp[madeCells,hi,Nat.mod_one]⟩,fun k _=>?_⟩,fun k k' _ _ _ b hb=>by simp[Value.ownBlock]at hb⟩,
  Xb.empty hD,⟨lt hJ,lt hM,lt hA,lt hD⟩,⟨?_,?_,?_,?_,?_,?_⟩,low,qq1 _,hb⟩
 ·rcases(by omega:i=0∨i=1∨i=2)with rfl|rfl|rfl <;> rfl
 ·have:Yo ts 0 0 k=[]:=by simp[je,ZC]
  rw[this]
  exact RowI.nil _ _
 ·intro e;subst e;rw[hJ]at hM;simp at hM
 ·intro e;subst e;rw[hJ]at hA;simp at hA
 ·intro e;subst e;rw[hJ]at hD;simp at hD
 ·intro e;subst e;rw[hM]at hA;simp at hA
 ·intro e;subst e;rw[hM]at hD;simp at hD
 ·intro e;subst e;rw[hA]at hD;simp at hD
section
variable {J M A D C a i m:Nat} {ts:Zl} {w wr w':World}
theorem NewM.later(h:NewM J M A D C a i m ts w wr)(hb:Below wr.heap.size wr w'):NewM J M A D C a i m ts w w':=by
 obtain⟨av,ha,hap⟩:=h.aft
 exact⟨h.row.of_block (hb.block _ h.row.lt),h.miss.of_block (hb.block _ h.miss.lt),⟨av,ha.of_blocks (hb.block _ ha.row.lt) (fun k _ hk=>hb.block k hk),hap⟩,h.done.of_block (hb.block _ h.done.lt),h.lt,h.ne,h.low,qq2 h.size hb.size,h.below.trans (hb.mono h.below.size)⟩
theorem NewM.c0(h:NewM J M A D C a i m ts w wr):wr.cell? ⟨J,0,none⟩=some (.slice (some ⟨M,0,none⟩) ts.length ts.length):=by
 have:=h.row.cell (i:=0) (by omega)
 simpa[Xj]using this
theorem NewM.c1(h:NewM J M A D C a i m ts w wr):wr.cell? ⟨J,1,none⟩=some (.slice (some ⟨A,0,none⟩) ts.length ts.length):=by
 have:=h.row.cell (i:=1) (by omega)
 simpa[Xj]using this
theorem NewM.count(h:NewM J M A D C i i 0 ts w wr):NewM J M A D C (i+1) i 0 ts w (wr.setCell ⟨M,i,none⟩ (.int .i64 (Za ts i).length)):=by
 obtain⟨av,ha,hap⟩:=h.aft
 obtain⟨n1,n2,n3,n4,n5,n6⟩:=h.ne
 obtain⟨l1,l2,l3,l4⟩:=h.lt
 have keep:∀k,k≠M→(wr.setCell ⟨M,i,none⟩ (.int .i64 (Za ts i).length)).heap[k]?=wr.heap[k]?:=fun k hk=>qq5 _ _ _ _ (by show k≠M;exact hk)
 refine⟨h.row.of_block (keep J n1),(h.miss.set i _).congr (fun k _=>?_),⟨av,ha.of_blocks (keep A (by omega)) (fun k hk _=>keep k (by omega)),hap⟩,h.done.of_block (keep D (by omega)),h.lt,h.ne,h.low,by simpa using h.size,h.below.setCell h.low.2.1 _⟩
 by_cases e:k=i
 ·subst e;simp[natV]
 ·have:(k<i+1)↔k<i:=by omega
  simp[e,this]
theorem NewM.put{y q:Nat}{v v2:Value}{w2:World}{ob:Obj}{av:Nat→Value}(hg:Good ts)(hi:i<ts.length)(hm:m<(Za ts i).length)(hy:(Za ts i).getD m 0=(y:Int))(hyl:y<ts.length)
  (h:NewM J M A D C a i m ts w wr) (ha:XI C A ts.length (Yo ts i m) av wr) (hap:∀k k',k<ts.length→k' < ts.length→k≠k'→∀b,(av k).ownBlock=some b→(av k').ownBlock≠some b) (hv:av y=v)
  (hgr:((wr.drewN q).alloc ob).grownBy w2 v.ownBlock) (hat:v2.ownBlock=v.ownBlock∨v2.ownBlock=some ((wr.drewN q).alloc ob).heap.size) (hR:RowI C w2 v2 (Zb (Yo ts i m y)++[(i:Int)])) :
  NewM J M A D C a i (m+1) ts w (w2.setCell ⟨A,y,none⟩ v2):=by
 subst hv
 obtain⟨n1,n2,n3,n4,n5,n6⟩:=h.ne
 obtain⟨l1,l2,l3,l4⟩:=h.lt
 have hCs:=h.size
 have hb1:Below wr.heap.size wr ((wr.drewN q).alloc ob):=⟨rfl,rfl,rfl,by simp,fun k hk=>qa (wr.drewN q) ob k hk⟩
 have hs1:=hb1.size
 have hown:=ha.own y hyl
 have keep2:∀k,k<wr.heap.size→(av y).ownBlock≠some k→w2.heap[k]?=wr.heap[k]?:=fun k hk hne=>(hgr.block k (by omega) (fun e=>hne e.symm)).trans (hb1.block k hk)
 have keepC:∀k,k<C→w2.heap[k]?=wr.heap[k]?:=fun k hk=>keep2 k (by omega) (fun e=>by have:=(hown.low e).1;omega)
 have keep:∀k,k<C→k≠A→(w2.setCell ⟨A,y,none⟩ v2).heap[k]?=wr.heap[k]?:=fun k hk hne=>(qq5 _ _ _ _ (by show k≠A;exact hne)).trans (keepC k hk)
 have hA2:w2.rowIs A 73 ts.length av:=ha.row.of_block (keepC A l3)
 refine⟨h.row.of_block (keep J l1 n2),h.miss.of_block (keep M l2 n4),⟨fun k=>if k=y then v2 else av k,⟨hA2.set y v2,fun k hk=>?_⟩,fun k k' hk hk' hne b hb=>?_⟩,h.done.of_block (keep D l4 (by omega)),h.lt,h.ne,h.low,?_,?_⟩
 ·by_cases e:k=y
  ·subst e
   simp only[if_true]
   rw[zfU hg hi hm hy,qZ]
   exact hR.of_blocks (fun b hb=>qq5 _ _ _ _ (by show b≠A;have:=(hR.low hb).1;omega))
  ·simp only[if_neg e]
   rw[zef hm hy e]
   have hk2:=ha.own k hk
   refine hk2.of_blocks (fun b hb=>?_)
   have hlow:=hk2.low hb
   exact(qq5 _ _ _ _ (by show b≠A;omega)).trans (keep2 b hlow.2 (hap k y hk hyl e b hb))
 ·change (if k=y then v2 else av k).ownBlock=some b at hb
  show(if k'=y then v2 else av k').ownBlock≠some b
  by_cases e:k=y
  ·subst e
   rw[if_pos rfl]at hb
   rw[if_neg (fun e=>hne e.symm)]
   rcases hat with h1|h1
   ·exact hap k k' hk hk' hne b (h1.symm.trans hb)
   ·intro h2
    have:=((ha.own k' hk').low h2).2
    rw[h1]at hb
    simp only[Option.some.injEq]at hb
    omega
  ·rw[if_neg e]at hb
   by_cases e':k'=y
   ·subst e'
    rw[if_pos rfl]
    intro h2
    rcases hat with h1|h1
    ·exact hap k k' hk hk' hne b hb (h1.symm.trans h2)
    ·have:=((ha.own k hk).low hb).2
     rw[h1]at h2
     simp only[Option.some.injEq]at h2
     omega
   ·rw[if_neg e']
    exact hap k k' hk hk' hne b hb
 ·have:=hgr.size
  simp
  omega
 ·have hb2:Below w.heap.size w w2:=(h.below.trans (hb1.mono h.below.size)).grown hgr (by have:=h.below.size;omega) (fun k e=>by have:=(hown.low e).1;have:=h.low;omega)
  exact hb2.setCell h.low.2.2.1 _
theorem NewM.next(h:NewM J M A D C a i (Za ts i).length ts w wr):NewM J M A D C a (i+1) 0 ts w wr:=by
 obtain⟨av,ha,hap⟩:=h.aft
 refine⟨h.row,h.miss,⟨av,⟨ha.row,fun k hk=>?_⟩,hap⟩,h.done,h.lt,h.ne,h.low,h.size,h.below⟩
 have:=ha.own k hk
 rw[zfT]at this
 rw[je]
 exact this
theorem NewM.jnT(h30:ts.length≤30)(h:NewM J M A D C ts.length ts.length 0 ts w wr):JnT J M A D C ts (fun _=>false) wr:=by
 obtain⟨av,ha,hap⟩:=h.aft
 refine⟨h.row,h.miss.congr (fun k hk=>by rw[zeU,if_pos hk]),⟨av,ha.row,fun k hk=>?_⟩,h.done,h.lt,h.ne,h30⟩
 have:=ha.own k hk
 rw[je]at this
 exact this
end
theorem four(w:World)(a b c d:Obj):((((w.alloc a).alloc b).alloc c).alloc d).heap[w.heap.size]?=some a∧((((w.alloc a).alloc b).alloc c).alloc d).heap[w.heap.size+1]?=some b∧((((w.alloc a).alloc b).alloc c).alloc d).heap[w.heap.size+1+1]?=some c∧((((w.alloc a).alloc b).alloc c).alloc d).heap[w.heap.size+1+1+1]?=some d:=by
 have n1:(w.alloc a).heap.size=w.heap.size+1:=by simp
 have n2:((w.alloc a).alloc b).heap.size=w.heap.size+1+1:=by simp
 have n3:(((w.alloc a).alloc b).alloc c).heap.size=w.heap.size+1+1+1:=by simp
 refine⟨?_,?_,?_,?_⟩
 ·rw[blk_alloc_lt _ _ _ (by omega),blk_alloc_lt _ _ _ (by omega),blk_alloc_lt _ _ _ (by omega),blk_alloc_new]
 ·rw[blk_alloc_lt _ _ _ (by omega),blk_alloc_lt _ _ _ (by omega),←n1,blk_alloc_new]
 ·rw[blk_alloc_lt _ _ _ (by omega),←n2,blk_alloc_new]
 ·rw[←n3,blk_alloc_new]
theorem zel{w0 w:World}(h:Below w0.heap.size w0 w)(a b c d:Obj):Below w0.heap.size w0 ((((w.alloc a).alloc b).alloc c).alloc d).drew:=by
 have:=h.size
 have hb:=(((h.alloc (by omega) a).alloc (by simp;omega) b).alloc (by simp;omega) c).alloc (by simp;omega) d
 exact⟨hb.os,hb.tape,hb.output,hb.size,hb.block⟩
theorem make44(w:World):Sem.run Tryz.prog (Instr.makeMap 104 none) w=.ok (.map (some w.heap.size)) (w.alloc (.map #[] 0)):=by kernel_rfl
def Qv(ts:Zl)(w:World)(e:Ending)(w':World):Prop:=
 ∃J M A D C,e=.returned (.tuple #[.pointer (some ⟨J,0,none⟩),.nilIface])∧JnT J M A D C ts (fun _=>false) w'∧(w.heap.size≤J∧w.heap.size≤M∧w.heap.size≤A∧w.heap.size≤D)∧Below w.heap.size w w'
set_option maxRecDepth 100000 in
set_option maxHeartbeats 4000000 in
theorem zdE(v:Value)(ts:Zl)(w:World)(hp:Zf w v ts)(hc:Zc ts 0 0) :
  Calls Tryz.prog 12 #[v] w fun e w'=>Qv ts w e w':=by
 have hck:=yY v ts w hp
 have HP:Hid (Zf w v ts):=hp
 have HG:Hid (Good ts):=hc.good
 have h30:=HG.out.le
 obtain⟨hl,pa,pc,rfl,hp⟩:=hp
 have hmk:=fun wx=>run_make_row' (P:=Tryz.prog) 73 3 (.int .i64 0) 8 Tryz.underlying73 Tryz.info3 rfl .i64 .i64 ts.length (by omega) (by omega) wx
 have hmk2:=fun wx=>run_make_row' (P:=Tryz.prog) 103 73 (.slice none 0 0) 24 Tryz.underlying103 Tryz.info73 rfl .i64 .i64 ts.length (by omega) (by omega) wx
 have hmk3:=make44
 clear hp
 go_enter Tryz.func12,Tryz.ntmps12
 go_wp2_with fail
 refine hck.mono ?_
 rintro e w1 ⟨⟨p',q',rfl,hc'⟩,hb1⟩
 obtain⟨rfl,rfl⟩:=hc.det hc'
 rw[zI]
 clear hck hc hc'
 go_upto_region 4 with fail
 go_cut [6] (fun s6 wx=>∃J M A D C,s6=.pointer (some ⟨J,0,none⟩)∧Hid (NewM J M A D C 0 0 0 ts w wx))
 case first=>
  go_region
  all_goals
   go_wp2_with fail
   go_meet
   have hsz:=hb1.size
   refine⟨_,_,_,_,_,rfl,NewM.start (four w1 _ _ _ _).2.2.2 ?_ ?_ ?_ ⟨by omega,by omega,by omega,by omega⟩ (zel hb1 _ _ _ _)⟩
   all_goals first|exact(four w1 _ _ _ _).1|exact(four w1 _ _ _ _).2.1|exact(four w1 _ _ _ _).2.2.1
 case rest=>
  obtain⟨J,M,A,D,C,rfl,hN⟩:=hcut
  clear hmk hmk2 hmk3 hb1
  go_wp2
  go_loopw [30] (fun s30 wr=>∃k:Nat,k≤ts.length∧s30=.int .i64 k∧Hid (NewM J M A D C k k 0 ts w wr)) (fun s30 _=>ts.length-(intOf s30).toNat)
  case atStart=>exact⟨0,Nat.zero_le _,rfl,hN⟩
  case round=>
   clear hN
   obtain⟨k,hk,rfl,hN⟩:=hrel
   by_cases hkl:k<ts.length
   ·obtain⟨_,pa',pc',hve,hpc⟩:=HP.out
    simp only[Value.slice.injEq]at hve
    obtain⟨rfl,_,rfl⟩:=hve
    rcases hpc with hnil|⟨b,o,rfl,hbl,hc⟩
    ·rw[hnil]at hkl;simp at hkl
    obtain⟨hc1,nv,hc2,hin⟩:=hc k hkl
    have hc1':=(hN.out.below.cell (p:=⟨b,o+k*2,none⟩) hbl).trans hc1
    have hc2':=(hN.out.below.cell (p:=⟨b,o+k*2+1,none⟩) hbl).trans hc2
    clear hc hc1 hc2
    have HIN:Hid (Z0 w nv (Za ts k)):=hin
    obtain⟨_,na,nc,rfl,_⟩:=hin
    have hnl:=HG.out.len hkl
    have hNA:=hN.out.later ((qq4 _ _).alloc (qq1 _) (.cells #[.int .i64 (ts.getD k (0,[])).1,.slice na (Za ts k).length nc] 94))
    have hj0:=hNA.c0
    have hmc:=hNA.miss.cell hkl
    have hmf:=hNA.miss.frozen k
    have hMl:=hN.out.miss.lt
    have hMne:¬wr.heap.size=M:=by omega
    have hN2:Hid (NewM J M A D C (k+1) k 0 ts w ((wr.setCell ⟨M,k,none⟩ (.int .i64 (Za ts k).length)).alloc (.cells #[.int .i64 (ts.getD k (0,[])).1,.slice na (Za ts k).length nc] 94)).drew):=
     (hN.out.count.later ((qq4 _ _).alloc (qq1 _) _)).later ⟨rfl,rfl,rfl,qq1 _,fun _ _=>rfl⟩
    clear hNA hN
    generalize (ts.getD k (0,[])).1=wk at *
    go_wp2
    go_region
    go_wp2
    clear hj0 hmc hmf hMl hMne hc1' hc2'
    go_loopw [47] (fun s47 wr2=>∃m:Nat,m≤(Za ts k).length∧s47=.int .i64 m∧Hid (NewM J M A D C (k+1) k m ts w wr2)) (fun s47 _=>(Za ts k).length-(intOf s47).toNat)
    case atStart=>exact⟨0,Nat.zero_le _,rfl,hN2⟩
    case round=>
     clear hN2
     obtain⟨m,hm,rfl,hN⟩:=hrel
     by_cases hml:m<(Za ts k).length
     ·obtain⟨_,na',nc',hve2,hz⟩:=HIN.out
      simp only[Value.slice.injEq]at hve2
      obtain⟨rfl,_,rfl⟩:=hve2
      rcases hz with hz|⟨nb,no,rfl,hnb,hnc⟩
      ·rw[hz]at hml;simp at hml
      have hyc:=(hN.out.below.cell (p:=⟨nb,no+m,none⟩) hnb).trans (hnc m hml)
      obtain⟨hylt,_,hy0⟩:=xU HG.out.rng hkl hml
      obtain⟨y,hy⟩:=qc hy0
      rw[hy]at hyc hylt
      rw[Int.toNat_natCast]at hylt
      have HY:Hid ((Za ts k).getD m 0=(y:Int)):=hy
      clear hnc hy hy0
      obtain⟨av,ha,hap⟩:=hN.out.aft
      have HA:Hid (XI C A ts.length (Yo ts k m) av wr):=ha
      have HAP:Hid (∀k k',k<ts.length→k' < ts.length→k≠k'→∀b,(av k).ownBlock=some b→(av k').ownBlock≠some b):=hap
      have hcA:=ha.row.cell hylt
      have hfA:=ha.row.frozen y
      have hAl:=ha.row.lt
      obtain⟨la,lc,hav⟩:=(ha.own y hylt).shape
      have HV:Hid (av y=.slice la (Zb (Yo ts k m y)).length lc):=hav
      rw[hav]at hcA
      have hrow:=ha.own y hylt
      rw[hav]at hrow
      have hcA2:(wr.alloc (.cells #[.int .i64 k] 3)).cell? ⟨A,y,none⟩=some (.slice la (Zb (Yo ts k m y)).length lc):=(qq9 (a:=⟨A,y,none⟩) (qa _ _ _ hAl)).trans hcA
      have HR:Hid (RowI C (wr.alloc (.cells #[.int .i64 k] 3)) (.slice la (Zb (Yo ts k m y)).length lc) (Zb (Yo ts k m y))):=hrow.alloc _
      have HO:Hid (Rds (fun _=>True) (wr.alloc (.cells #[.int .i64 k] 3)) (.slice (some ⟨wr.heap.size,0,none⟩) 1 1) [(k:Int)]):=zK wr k
      have hj1:=hN.out.c1
      have hJl:=hN.out.row.lt
      have hj1A:(wr.alloc (.cells #[.int .i64 k] 3)).cell? ⟨J,1,none⟩=some (.slice (some ⟨A,0,none⟩) ts.length ts.length):=(qq9 (a:=⟨J,1,none⟩) (qa _ _ _ hJl)).trans hj1
      have hlen:(Zb (Yo ts k m y)).length≤31:=by rw[zd];have:=zfV ts k m y;omega
      have hCs:=hN.out.size
      have hlt:=hN.out.lt
      have hlow:∀j,(Value.slice la (Zb (Yo ts k m y)).length lc).ownBlock=some j→C≤j:=fun j e=>(hrow.low e).1
      clear ha hap hav hrow
      generalize hl:Zb (Yo ts k m y)=l at *
      have HL:Hid (Zb (Yo ts k m y)=l):=hl
      have hZS:(l++[(k:Int)]).length=l.length+1:=by simp
      clear hl
      go_wp2
      go_region_law (refine zS rfl (.tmp 62) (.tmp 64) rfl C (fun _=>True) (.slice la l.length lc) (.slice (some ⟨wr.heap.size,0,none⟩) 1 1) l [(k:Int)] (by simp[Act.eval]) (by simp[Act.eval]) HR.out HO.out (by simp;omega) (by simp;omega) ?_;intro v2 w2 hown2 hgr2 hat2;have HR2:Hid (RowI C w2 v2 (l++[(k:Int)])):=hown2;obtain⟨a2,k2,rfl⟩:=hown2.shape;rw[hZS]at HR2 hat2 ⊢;have hbk:w2.heap[A]?=wr.heap[A]?:=(hgr2.block A (by simp;omega) (fun e=>by have:=hlow A e.symm;omega)).trans (qa _ _ _ hAl);have hz2:=(World.frozen?_of_block (a:=⟨A,y,none⟩) hbk).trans hfA;have hcm:=(qq9 (a:=⟨A,y,none⟩) hbk).trans hcA;have hj1w:w2.cell? ⟨J,1,none⟩=some (.slice (some ⟨A,0,none⟩) ts.length ts.length):=(qq9 (a:=⟨J,1,none⟩) (hgr2.block J (by simp;omega) (fun e=>by have:=hlow J e.symm;omega))).trans hj1A;clear hown2)
      all_goals
       have hN3:Hid (NewM J M A D C (k+1) k (m+1) ts w (w2.setCell ⟨A,y,none⟩ (.slice a2 (l.length+1) k2))):=
        NewM.put (q:=1) HG.out hkl hml HY.out hylt hN.out HA.out HAP.out HV.out hgr2 hat2 (by rw[HL.out];exact HR2.out)
       clear hgr2 hat2 HR2 hbk hz2 hcm hj1w
       go_wp2
       go_roundw
       case rel=>exact⟨m+1,by omega,by go_num,hN3⟩
       case measure=>simp[intOf];omega
     ·have hke:m=(Za ts k).length:=by omega
      have hml':¬(m:Int)<((Za ts k).length:Int):=by omega
      have hN3:Hid (NewM J M A D C (k+1) (k+1) 0 ts w wr):=NewM.next (by rw[←hke];exact hN.out)
      clear hke hN
      go_wp2
      go_roundw
      case rel=>exact⟨k+1,by omega,by go_num,hN3⟩
      case measure=>simp[intOf];omega
   ·have hke:k=ts.length:=by omega
    have hkl':¬(k:Int)<(ts.length:Int):=by omega
    have hN3:Hid (NewM J M A D C ts.length ts.length 0 ts w wr):=by have:=hN.out;rw[hke]at this;exact this
    clear hke hN
    go_wp2
    go_ret2
    exact⟨J,M,A,D,C,rfl,hN3.out.jnT h30,hN3.out.low,hN3.out.below⟩
end
end Go.Proofs.YtlfbdjeojgbniaaGreatDoor
namespace Go.Proofs.YtlfbdjeojgbniaaGreatDoor.Hnd
open Go.RowKit Go.Deep
def upd(f:Nat→Int)(x:Nat)(v:Int):Nat→Int:=fun y=>if y=x then v else f y
theorem yE(f:Nat→Int)(x:Nat)(v:Int):upd f x v x=v:=by simp[upd]
theorem zq(f:Nat→Int){x y:Nat}(v:Int)(h:y≠x):upd f x v y=f y:=by simp[upd,h]
def Zo(f:Nat→Int):Nat→Value:=fun k=>.int .i64 (f k)
theorem yd{w:World}{b t n x:Nat}{f:Nat→Int}{v:Int}(h:w.rowIs b t n (Zo f)):(w.setCell ⟨b,x,none⟩ (.int .i64 v)).rowIs b t n (Zo (upd f x v)):=
 (h.set x _).congr (fun k _=>by unfold Zo upd;split <;> rfl)
structure Kr (R:Nat) (w w':World):Prop where
 os:w'.os=w.os
 tape:w'.tape=w.tape
 output:w'.output=w.output
 size:w.heap.size≤w'.heap.size
 block:∀k,k<w.heap.size→k≠R→w'.heap[k]?=w.heap[k]?
theorem Kr.refl(R:Nat)(w:World):Kr R w w:=⟨rfl,rfl,rfl,qq1 _,fun _ _ _=>rfl⟩
theorem Kr.trans{R:Nat}{a b c:World}(h:Kr R a b)(k:Kr R b c):Kr R a c:=
 ⟨k.os.trans h.os,k.tape.trans h.tape,k.output.trans h.output,qq2 h.size k.size,fun i hi hR=>(k.block i (qq3 hi h.size) hR).trans (h.block i hi hR)⟩
theorem Kr.setR{R:Nat}{w0 w:World}(h:Kr R w0 w)(j:Nat)(u:Value):Kr R w0 (w.setCell ⟨R,j,none⟩ u):=
 ⟨h.os,h.tape,h.output,by simpa using h.size,fun k hk hR=>(qq5 _ _ _ _ (by show k≠R;exact hR)).trans (h.block k hk hR)⟩
theorem Kr.setNew{R:Nat}{w0 w:World}(h:Kr R w0 w){b:Nat}(hb:w0.heap.size≤b)(j:Nat)(u:Value):Kr R w0 (w.setCell ⟨b,j,none⟩ u):=
 ⟨h.os,h.tape,h.output,by simpa using h.size,fun k hk hR=>(qq5 _ _ _ _ (by show k≠b;omega)).trans (h.block k hk hR)⟩
theorem Kr.alloc{R:Nat}{w0 w:World}(h:Kr R w0 w)(o:Obj):Kr R w0 (w.alloc o):=
 ⟨h.os,h.tape,h.output,by have:=h.size;simp;omega,fun k hk hR=>(qa _ _ _ (qq3 hk h.size)).trans (h.block k hk hR)⟩
theorem Kr.drewN{R:Nat}{w0 w:World}(h:Kr R w0 w)(n:Nat):Kr R w0 (w.drewN n):=⟨h.os,h.tape,h.output,h.size,h.block⟩
structure RgS (R:Nat) (g:Nat→Int) (f room:Nat) (xs:List Int) (w:World):Prop where
 row:w.rowIs R 232 19 (Zo g)
 rm:g 16=room
 first:g 17=f
 count:g 18=xs.length
 fl:f<16
 le:xs.length≤room
 r16:room≤16
 has:∀i,i<xs.length→g ((f+i) % 16)=xs.getD i 0
def Rg(R room:Nat)(xs:List Int)(w:World):Prop:=∃g f,RgS R g f room xs w
theorem RgS.of_block{R:Nat}{g:Nat→Int}{f room:Nat}{xs:List Int}{w w':World}(h:RgS R g f room xs w)(e:w'.heap[R]?=w.heap[R]?):RgS R g f room xs w':=
 ⟨h.row.of_block e,h.rm,h.first,h.count,h.fl,h.le,h.r16,h.has⟩
theorem Rg.of_block{R room:Nat}{xs:List Int}{w w':World}(h:Rg R room xs w)(e:w'.heap[R]?=w.heap[R]?):Rg R room xs w':=by
 obtain⟨g,f,h⟩:=h
 exact⟨g,f,h.of_block e⟩
theorem Rg.lt{R room:Nat}{xs:List Int}{w:World}(h:Rg R room xs w):R<w.heap.size:=by
 obtain⟨g,f,h⟩:=h
 exact h.row.lt
theorem Rg.alloc{R room:Nat}{xs:List Int}{w:World}(h:Rg R room xs w)(o:Obj):Rg R room xs (w.alloc o):=h.of_block (qa _ _ _ h.lt)
theorem Rg.setOther{R room:Nat}{xs:List Int}{w:World}(h:Rg R room xs w){b:Nat}(hb:R≠b)(j:Nat)(u:Value):Rg R room xs (w.setCell ⟨b,j,none⟩ u):=h.of_block (qq5 _ _ _ _ (by show R≠b;exact hb))
theorem Rg.drewN{R room:Nat}{xs:List Int}{w:World}(h:Rg R room xs w)(n:Nat):Rg R room xs (w.drewN n):=h.of_block rfl
theorem Rg.le{R room:Nat}{xs:List Int}{w:World}(h:Rg R room xs w):xs.length≤room∧room≤16:=by
 obtain⟨g,f,h⟩:=h
 exact⟨h.le,h.r16⟩
theorem zaa(R:Nat)(g:Nat→Int)(f i:Nat)(w:World)(hr:w.rowIs R 232 19 (Zo g))(hf:g 17=f)(hfl:f<16)(hi:i≤16) :
  Calls Tryz.prog 208 #[.pointer (some ⟨R,0,none⟩),.int .i64 i] w fun e w'=>e=.returned (.int .i64 ((f+i) % 16:Nat))∧w'=w:=by
 have h17:=hr.cell (i:=17) (by omega)
 unfold Zo at h17
 rw[hf]at h17
 clear hr hf
 go_enter Tryz.func208,Tryz.ntmps208
 go_wp2
 go_ret
 exact⟨rfl,rfl⟩
theorem zgc(R:Nat)(g:Nat→Int)(p:Nat)(w:World)(hr:w.rowIs R 232 19 (Zo g))(hp:p<16) :
  Calls Tryz.prog 207 #[.pointer (some ⟨R,0,none⟩),.int .i64 p] w fun e w'=>e=.returned (.int .i64 (g p))∧w'=w.setCell ⟨R,p,none⟩ (.int .i64 0):=by
 have hc:=hr.cell (i:=p) (by omega)
 have hf:=hr.frozen p
 unfold Zo at hc
 clear hr
 go_enter Tryz.func207,Tryz.ntmps207
 go_wp2
 go_ret
 exact⟨rfl,rfl⟩
end Go.Proofs.YtlfbdjeojgbniaaGreatDoor.Hnd
namespace Go.Proofs.YtlfbdjeojgbniaaGreatDoor.Hnd
open Go.RowKit Go.Deep
theorem zde(R:Nat)(g:Nat→Int)(p:Nat)(w:World)(hr:w.rowIs R 232 19 (Zo g))(hp:p<16) :
  Calls Tryz.prog 207 #[.pointer (some ⟨R,0,none⟩),.int .i64 p] w fun e w'=>e=.returned (.int .i64 (g p))∧w'.rowIs R 232 19 (Zo (upd g p 0))∧Kr R w w':=by
 refine(zgc R g p w hr hp).mono ?_
 rintro e w' ⟨rfl,rfl⟩
 exact⟨rfl,yd hr,(Kr.refl _ _).setR _ _⟩
set_option maxHeartbeats 1000000 in
theorem zbG(R:Nat)(room:Nat)(x:Int)(xs:List Int)(w:World)(h:Rg R room (x::xs) w) :
  Calls Tryz.prog 221 #[.pointer (some ⟨R,0,none⟩)] w fun e w'=>e=.returned (.int .i64 x)∧Rg R room xs w'∧Kr R w w':=by
 obtain⟨g,f,h⟩:=h
 have HS:Hid (RgS R g f room (x::xs) w):=h
 have h17:=h.row.cell (i:=17) (by omega)
 unfold Zo at h17
 rw[h.first]at h17
 have hfl:=h.fl
 have hx:g f=x:=by
  have:=h.has 0 (by simp)
  rw[Nat.add_zero,Nat.mod_eq_of_lt hfl]at this
  simpa using this
 have he:=zde R g f w h.row hfl
 rw[hx]at he
 have hle:=h.le
 have hr16:=h.r16
 simp only[List.length_cons]at hle
 clear h hx
 go_enter Tryz.func221,Tryz.ntmps221
 go_wp2_with fail
 refine he.mono ?_
 clear he h17
 rintro e w1 ⟨rfl,hr1,hk1⟩
 have hpl:=zaa R (upd g f 0) f 1 w1 hr1 (by rw[zq _ _ (by omega)];exact HS.out.first) hfl (by omega)
 obtain⟨q,hq⟩:∃q,q=(f+1) % 16:=⟨_,rfl⟩
 rw[←hq]at hpl
 have HQ:Hid (q=(f+1) % 16):=hq
 have f17:=hr1.frozen 17
 have f18:=hr1.frozen 18
 have h17:=hr1.cell (i:=17) (by omega)
 have h18:=hr1.cell (i:=18) (by omega)
 unfold Zo at h17 h18
 rw[zq _ _ (by omega),HS.out.count]at h18
 rw[zq _ _ (by omega),HS.out.first]at h17
 have HR1:Hid (w1.rowIs R 232 19 (Zo (upd g f 0))):=hr1
 simp only[List.length_cons]at h18
 clear hr1 hq
 go_wp2_with (first|(go_at_call 208;refine hpl.mono ?_;clear hpl;rintro e w' ⟨rfl,rfl⟩))
 go_ret
 refine⟨rfl,⟨_,q,yd (yd HR1.out),?_,?_,?_,?_,?_,?_,?_⟩,(hk1.setR _ _).setR _ _⟩
 ·rw[zq _ _ (by omega),zq _ _ (by omega),zq _ _ (by omega)];exact HS.out.rm
 ·rw[zq _ _ (by omega),yE]
 ·rw[yE]
 ·have:=HQ.out;omega
 ·omega
 ·omega
 ·intro i hi
  have h2:=HS.out.has (i+1) (by simp;omega)
  have:=HQ.out
  rw[zq _ _ (by omega),zq _ _ (by omega),zq _ _ (by omega),show(q+i) % 16=(f+(i+1)) % 16 by omega,h2]
  simp
theorem zfD(room:Int)(w:World)(h:room<1∨16<room):Calls Tryz.prog 116 #[.int .i64 room] w fun e w'=>e=.returned (.tuple #[.pointer none,.iface 97 (.int .i64 1)])∧w'=w:=by
 by_cases h1:room<1
 ·go_enter Tryz.func116,Tryz.ntmps116
  go_wp2
  go_ret2
  exact⟨rfl,rfl⟩
 ·have h2:16<room:=by omega
  go_enter Tryz.func116,Tryz.ntmps116
  go_wp2
  go_ret2
  exact⟨rfl,rfl⟩
theorem zaJ(room:Nat)(w:World)(h1:1≤room)(h2:room≤16):Calls Tryz.prog 116 #[.int .i64 room] w fun e w'=>e=.returned (.tuple #[.pointer (some ⟨w.heap.size,0,none⟩),.nilIface])∧Rg w.heap.size room [] w'∧Below w.heap.size w w'∧w'.heap.size=w.heap.size+1:=by
 have g1:¬(room:Int)<1:=by omega
 have g2:¬(16:Int)<(room:Int):=by omega
 go_enter Tryz.func116,Tryz.ntmps116
 go_wp2
 go_ret2
 refine⟨rfl,⟨fun i=>if i=16 then room else 0,0,World.rowIs_alloc _ _ _ _ ?_,rfl,rfl,rfl,by omega,Nat.zero_le _,h2,fun i hi=>by simp at hi⟩,(qq4 _ _).alloc (qq1 _) _,by simp⟩
 intro i hi
 change i<19 at hi
 rcases(by omega:i=0∨i=1∨i=2∨i=3∨i=4∨i=5∨i=6∨i=7∨i=8∨i=9∨i=10∨i=11∨i=12∨i=13∨i=14∨i=15∨i=16∨i=17∨i=18)with rfl|rfl|rfl|rfl|rfl|rfl|rfl|rfl|rfl|rfl|rfl|rfl|rfl|rfl|rfl|rfl|rfl|rfl|rfl <;> rfl
def errV(k:Int):Value:=.iface 97 (.int .i64 k)
theorem zhe(R room:Nat)(w:World)(h:Rg R room [] w):Calls Tryz.prog 186 #[.pointer (some ⟨R,0,none⟩)] w fun e w'=>e=.returned (.tuple #[.int .i64 0,errV 5])∧w'=w:=by
 obtain⟨g,f,h⟩:=h
 have h18:=h.row.cell (i:=18) (by omega)
 unfold Zo at h18
 rw[h.count]at h18
 simp only[List.length_nil]at h18
 clear h
 go_enter Tryz.func186,Tryz.ntmps186
 go_wp2
 go_ret2
 exact⟨rfl,rfl⟩
theorem ju(xs:List Int)(x:Int){i:Nat}(h:i<xs.length):(xs++[x]).getD i 0=xs.getD i 0:=by
 simp[List.getD_eq_getElem?_getD,List.getElem?_append_left h]
theorem yb(xs:List Int)(x:Int):(xs++[x]).getD xs.length 0=x:=by
 simp[List.getD_eq_getElem?_getD]
theorem zio(R room:Nat)(x:Int)(xs:List Int)(w:World)(h:Rg R room (xs++[x]) w):Calls Tryz.prog 186 #[.pointer (some ⟨R,0,none⟩)] w fun e w'=>e=.returned (.tuple #[.int .i64 x,.nilIface])∧Rg R room xs w'∧Kr R w w':=by
 obtain⟨g,f,h⟩:=h
 have HS:Hid (RgS R g f room (xs++[x]) w):=h
 have hle:=h.le
 have hr16:=h.r16
 simp only[List.length_append,List.length_singleton]at hle
 have h18:=h.row.cell (i:=18) (by omega)
 have f18:=h.row.frozen 18
 unfold Zo at h18
 rw[h.count]at h18
 simp only[List.length_append,List.length_singleton]at h18
 have hr1:=yd (x:=18) (v:=(xs.length:Int)) h.row
 have hpl:=zaa R _ f xs.length _ hr1 (by rw[zq _ _ (by omega)];exact h.first) h.fl (by omega)
 obtain⟨q,hq⟩:∃q,q=(f+xs.length) % 16:=⟨_,rfl⟩
 rw[←hq]at hpl
 have hem:=zde R _ q _ hr1 (by omega)
 have hx:upd g 18 xs.length q=x:=by
  rw[zq _ _ (by omega),hq,h.has xs.length (by simp)]
  exact yb xs x
 rw[hx]at hem
 have hne:(((xs.length+1:Nat):Int)==0)=false:=by simp;omega
 have HQ:Hid (q=(f+xs.length) % 16):=hq
 clear h hr1 hq hx
 go_enter Tryz.func186,Tryz.ntmps186
 go_wp2_with (first|(go_at_call 208;refine hpl.mono ?_;clear hpl;rintro e w' ⟨rfl,rfl⟩)|(go_at_call 207;refine hem.mono ?_;clear hem;rintro e w' ⟨rfl,hr,hk⟩))
 go_ret2
 refine⟨rfl,⟨_,f,hr,?_,?_,?_,HS.out.fl,by omega,hr16,?_⟩,((Kr.refl _ _).setR _ _).trans hk⟩
 ·rw[zq _ _ (by have:=HQ.out;omega),zq _ _ (by omega)];exact HS.out.rm
 ·rw[zq _ _ (by have:=HQ.out;omega),zq _ _ (by omega)];exact HS.out.first
 ·rw[zq _ _ (by have:=HQ.out;omega),yE]
 ·intro i hi
  have:=HQ.out
  have h2:=HS.out.has i (by simp;omega)
  rw[zq _ _ (by omega),zq _ _ (by omega),h2]
  exact ju xs x hi
end Go.Proofs.YtlfbdjeojgbniaaGreatDoor.Hnd
namespace Go.Proofs.YtlfbdjeojgbniaaGreatDoor.Hnd
open Go.RowKit Go.Deep
theorem zfS(R room:Nat)(xs:List Int)(n:Int)(w:World)(h:Rg R room xs w)(hl:xs.length=room):Calls Tryz.prog 220 #[.pointer (some ⟨R,0,none⟩),.int .i64 n] w fun e w'=>e=.returned (errV 4)∧Rg R room xs w'∧Kr R w w':=by
 have HR:Hid (Rg R room xs w):=h
 obtain⟨g,f,h⟩:=h
 have h18:=h.row.cell (i:=18) (by omega)
 have h16:=h.row.cell (i:=16) (by omega)
 unfold Zo at h18 h16
 rw[h.count,hl]at h18
 rw[h.rm]at h16
 have he:((room:Int)==(room:Int))=true:=by simp
 clear h
 go_enter Tryz.func220,Tryz.ntmps220
 go_wp2
 go_quiet (fail)
 go_wp2
 go_ret
 exact⟨rfl,HR.out.drewN _,(Kr.refl _ _).drewN _⟩
set_option maxHeartbeats 1000000 in
theorem zcW(R room:Nat)(xs:List Int)(n:Int)(w:World)(h:Rg R room xs w)(hl:xs.length<room):Calls Tryz.prog 220 #[.pointer (some ⟨R,0,none⟩),.int .i64 n] w fun e w'=>e=.returned .nilIface∧Rg R room (xs++[n]) w'∧Kr R w w':=by
 obtain⟨g,f,h⟩:=h
 have HS:Hid (RgS R g f room xs w):=h
 have hle:=h.le
 have hr16:=h.r16
 have h18:=h.row.cell (i:=18) (by omega)
 have h16:=h.row.cell (i:=16) (by omega)
 unfold Zo at h18 h16
 rw[h.count]at h18
 rw[h.rm]at h16
 have f18:=h.row.frozen 18
 have hne:((xs.length:Int)==(room:Int))=false:=by simp;omega
 obtain⟨q,hq⟩:∃q,q=(f+xs.length) % 16:=⟨_,rfl⟩
 have hq16:q<16:=by omega
 have hpl:∀k,Calls Tryz.prog 208 #[.pointer (some ⟨R,0,none⟩),.int .i64 xs.length] (w.drewN k) fun e w'=>e=.returned (.int .i64 (q:Nat))∧w'=w.drewN k:=fun k=>by
  rw[hq]
  exact zaa R g f xs.length (w.drewN k) (h.row.of_block rfl) h.first h.fl (by omega)
 have hcq:=h.row.cell (i:=q) (by omega)
 have fq:=h.row.frozen q
 unfold Zo at hcq
 have HQ:Hid (q=(f+xs.length) % 16):=hq
 have hq18:¬q=18:=by omega
 clear h hq
 go_enter Tryz.func220,Tryz.ntmps220
 go_wp2
 go_quiet (fail)
 go_wp2
 go_region_with (go_at_call 208;refine(hpl _).mono ?_;rintro e w' ⟨rfl,rfl⟩)
 go_wp2
 go_ret
 have hS:=HS.out
 have hQ:=HQ.out
 refine⟨rfl,⟨_,f,yd (yd (hS.row.of_block rfl)),?_,?_,?_,hS.fl,by simp;omega,hr16,?_⟩,(((Kr.refl _ _).drewN _).setR _ _).setR _ _⟩
 ·rw[zq _ _ (by omega),zq _ _ (by omega)];exact hS.rm
 ·rw[zq _ _ (by omega),zq _ _ (by omega)];exact hS.first
 ·rw[yE];simp
 ·intro i hi
  simp only[List.length_append,List.length_singleton]at hi
  rw[zq _ _ (by omega)]
  by_cases e:i=xs.length
  ·subst e
   rw[←hQ,yE,yb]
  ·rw[zq _ _ (by omega),hS.has i (by omega),ju _ _ (by omega)]
end Go.Proofs.YtlfbdjeojgbniaaGreatDoor.Hnd
namespace Go.Proofs.YtlfbdjeojgbniaaGreatDoor.Hnd
open Go.RowKit Go.Deep
def RowZ(B:Nat)(w:World)(v:Value)(zs:List Int):Prop:=
 ∃b c,v=.slice (some ⟨b,0,none⟩) zs.length c∧zs.length≤c∧B≤b∧b<w.heap.size∧∀k,k<zs.length→w.cell? ⟨b,k,none⟩=some (.int .i64 (zs.getD k 0))
theorem RowZ.kr{B R:Nat}{w w':World}{v:Value}{zs:List Int}(h:RowZ B w v zs)(hk:Kr R w w')(hR:R<B):RowZ B w' v zs:=by
 obtain⟨b,c,hv,hcap,hb,hl,hc⟩:=h
 exact⟨b,c,hv,hcap,hb,qq3 hl hk.size,fun k hk'=>(qq9 (hk.block b hl (by omega))).trans (hc k hk')⟩
theorem zh2{B b n c:Nat}{w:World}{f:Nat→Int}{zs:List Int}(h:w.rowIs b 3 n (Zo f))(hn:zs.length=n)(hf:∀k,k<n→f k=zs.getD k 0)(hB:B≤b)(hcap:n≤c):RowZ B w (.slice (some ⟨b,0,none⟩) n c) zs:=
 ⟨b,c,by rw[hn],by omega,hB,h.lt,fun k hk=>by rw[h.cell (by omega)];unfold Zo;rw[hf k (by omega)]⟩
theorem Tryz.info3:(Tryz.prog.info? 3).map (fun i=>(i.zero,i.size,i.bytes))=some (some (.int .i64 0),1,8):=by kernel_rfl
structure Qs (R room N n k:Nat) (xs:List Int) (w wr:World) (h:Nat→Int):Prop where
 row:wr.rowIs N 3 n (Zo h)
 has:∀j,j<k→h j=xs.getD j 0
 ring:Rg R room (xs.drop k) wr
 kept:Kr R w wr
set_option maxHeartbeats 1000000 in
theorem zcV(R room:Nat)(xs:List Int)(w:World)(h:Rg R room xs w) :
  Calls Tryz.prog 209 #[.pointer (some ⟨R,0,none⟩)] w fun e w'=>(∃v,e=.returned v∧RowZ w.heap.size w' v (xs.take ((xs.length+1) / 2)))∧Rg R room (xs.drop ((xs.length+1) / 2)) w'∧Kr R w w':=by
 have HR:Hid (Rg R room xs w):=h
 have hlt:=h.lt
 obtain⟨hle,hr16⟩:=h.le
 obtain⟨g,f,h⟩:=h
 have h18:=h.row.cell (i:=18) (by omega)
 unfold Zo at h18
 rw[h.count]at h18
 clear h
 obtain⟨n,hn⟩:∃n,n=(xs.length+1) / 2:=⟨_,rfl⟩
 have hq:((xs.length:Int)+1).tdiv 2=(n:Int):=by rw[Int.tdiv_eq_ediv_of_nonneg (by omega)];omega
 have hq2:((xs.length:Int)+1) / 2=(n:Int):=by omega
 have hn9:n≤8:=by omega
 have hnx:n≤xs.length:=by omega
 rw[←hn]
 clear hn
 have hmk:=fun wx=>run_make_row' (P:=Tryz.prog) 73 3 (.int .i64 0) 8 Tryz.underlying73 Tryz.info3 rfl .i64 .i64 n (by omega) (by omega) wx
 go_enter Tryz.func209,Tryz.ntmps209
 go_wp2
 have HM:Hid (Qs R room w.heap.size n 0 xs w (w.alloc (.cells (madeCells #[.int .i64 0] n) 3)) (fun _=>0)):=
  ⟨World.rowIs_made w (.int .i64 0) n 3,fun j hj=>by omega,HR.out.alloc _,(Kr.refl _ _).alloc _⟩
 clear hmk h18 hq hq2
 go_loopw [14] (fun s wr=>∃k:Nat,∃hh,k≤n∧s=.int .i64 k∧Hid (Qs R room w.heap.size n k xs w wr hh)) (fun s _=>n-(intOf s).toNat)
 case atStart=>exact⟨0,_,Nat.zero_le _,rfl,HM⟩
 case round=>
  clear HM
  obtain⟨k,hh,hk,rfl,hM⟩:=hrel
  by_cases hkn:k<n
  ·have hkx:k<xs.length:=by omega
   have hrg:=hM.out.ring
   rw[List.drop_eq_getElem_cons hkx]at hrg
   have htk:=zbG R room xs[k] (xs.drop (k+1)) wr hrg
   have HX:Hid (xs.getD k 0=xs[k]):=by show _=_;rw[qq6,qq7 hkx];rfl
   generalize xs[k]=x at *
   clear hrg
   go_wp2_with (first|(go_at_call 221;refine htk.mono ?_;clear htk;rintro e w1 ⟨rfl,hr1,hk1⟩;have hrow1:=hM.out.row.of_block (hk1.block w.heap.size hM.out.row.lt (by omega));have hc1:=hrow1.cell hkn;have hf1:=hrow1.frozen k;unfold Zo at hc1))
   go_roundw
   case measure=>simp[intOf];omega
   case rel=>
    refine⟨k+1,_,by omega,by go_num,⟨yd hrow1,fun j hj=>?_,hr1.setOther (by omega) _ _,(hM.out.kept.trans hk1).setNew (qq1 _) _ _⟩⟩
    by_cases e:j=k
    ·subst e;rw[yE,HX.out]
    ·rw[zq _ _ e];exact hM.out.has j (by omega)
  ·have hke:k=n:=by omega
   subst hke
   go_wp2
   go_ret
   refine⟨⟨_,rfl,zh2 hM.out.row (by simp;omega) (fun j hj=>?_) (qq1 _) (qq1 _)⟩,hM.out.ring,hM.out.kept⟩
   rw[hM.out.has j hj]
   simp[List.getD_eq_getElem?_getD,hj]
end Go.Proofs.YtlfbdjeojgbniaaGreatDoor.Hnd

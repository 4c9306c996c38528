import Derived.Test.YtlfbdjeojgbniaaGreatDoorRan05
import Derived.RangeFuncNested
import Derived.RangeFuncBound
import Derived.Shelf.RegionOpen
import Derived.OwnWalkIn
import Derived.LoopNIn
import Derived.LoopIn
namespace Go.Proofs.YtlfbdjeojgbniaaGreatDoor
section
open Go.RowKit Go.Deep Go.Shelf
attribute [local go_sem] Oper.semAt_some
abbrev Come (n:Nat):Type:={ x:Nat×Nat // x.2<n }
def backs(f:Nat→Nat)(len:Nat):Nat→List (Nat×Nat)
 | 0=>[]
 | k+1=>backs f len k++[(len-1-k,f (len-1-k))]
theorem zcf(f:Nat→Nat)(len k:Nat):(backs f len k).length=k:=by
 induction k with
 | zero=>rfl
 | succ k ih=>simp[backs,ih]
def Xw(Bs n₀:Nat)(W W':World):Prop:=Below n₀ W W'∧W'.heap[Bs]?=W.heap[Bs]?
theorem zfK{Bs n₀:Nat}{A B C:World}(h:Xw Bs n₀ A B)(k:Xw Bs n₀ B C):Xw Bs n₀ A C:=⟨h.1.trans k.1,k.2.trans h.2⟩
theorem ziH{Bs n₀:Nat}{w:World}(hn:n₀≤w.heap.size)(hB:Bs<w.heap.size)(W:World)(l:Nat)(o o':Obj)(hl:w.heap.size≤l)(h:W.heap[l]?=some o)(h1:o.isCells=false)(h2:o.isWalk=false):Xw Bs n₀ W (W.putObj l o'):=
 ⟨belowK_b hn W l o o' hl h h1 h2,World.putObj_heap_other (by omega)⟩
set_option maxRecDepth 100000 in
set_option maxHeartbeats 2000000 in
theorem zhi(F:Fence)(n:Nat)(h19:F.fn 203)(hro:F.round=none)(hn:1≤n)(l Bs n₀ len cap bound:Nat)(a:Option Addr)(f:Nat→Nat)(hreach:len*8≤140737488351232)(hf:∀q,q<len→f q<bound)
  (J Jx:List (Come bound)→World→Prop)
  (hY:∀pre x W,J pre W→pre.length<len→YieldAt F (n-1) Tryz.prog l #[.int .i64 (x.1.1:Nat),.int .i64 (x.1.2:Nat)] W fun e W'=>
   (e=.returned (.bool true)∧J (pre++[x]) W'∧Xw Bs n₀ W W')∨(e=.returned (.bool false)∧Jx (pre++[x]) W'))
  (W:World) (hBs:W.cell? ⟨Bs,0,none⟩=some (.slice a len cap)) (hc:∀q,q<len→∃b off,a=some ⟨b,off,none⟩∧b<n₀∧W.cell? ⟨b,off+q,none⟩=some (.int .i64 (f q:Nat))) (h0:J [] W) :
  CallsIn F n Tryz.prog 203 #[.func (.yield l) #[] #[],.pointer (some ⟨Bs,0,none⟩)] W fun e W'=>(∃v,e=.returned v)∧
   ((∃ys:List (Come bound),ys.map Subtype.val=backs f len len∧J ys W')∨(∃pre,Jx pre W')):=by
 have HY:Hid (∀pre x W,J pre W→pre.length<len→YieldAt F (n-1) Tryz.prog l #[.int .i64 (x.1.1:Nat),.int .i64 (x.1.2:Nat)] W fun e W'=>
   (e=.returned (.bool true)∧J (pre++[x]) W'∧Xw Bs n₀ W W')∨(e=.returned (.bool false)∧Jx (pre++[x]) W')):=hY
 have HC:Hid (∀q,q<len→∃b off,a=some ⟨b,off,none⟩∧b<n₀∧W.cell? ⟨b,off+q,none⟩=some (.int .i64 (f q:Nat))):=hc
 clear hY hc
 refine callsIn_of_wp Tryz.func203 rfl h19 ?_ hro
 simp only[Tryz.ntmps203,List.size_toArray,List.length_cons,List.length_nil,Nat.reduceAdd,Nat.reduceSub,Array.replicate_succ,Array.replicate_zero,List.push_toArray,List.append_toArray,List.nil_append,List.cons_append]
 gi_wp2
 gi_loopw [3] (fun i wr=>∃(k:Nat) (pre:List (Come bound)),k≤len∧i=.int .i64 ((len:Int)-1-(k:Int))∧pre.map Subtype.val=backs f len k∧J pre wr∧Xw Bs n₀ W wr)
  (fun i _=>(intOf i+1).toNat)
 case atStart=>exact⟨0,[],Nat.zero_le _,by simp,rfl,h0,qq4 _ _,rfl⟩
 case round=>
  obtain⟨k,pre,hk,rfl,hpre,hJs,hnx⟩:=hrel
  have hbox:wr.cell? ⟨Bs,0,none⟩=some (.slice a len cap):=(qq9 (w:=W) (a:=⟨Bs,0,none⟩) hnx.2).trans hBs
  by_cases hlt:k<len
  ·obtain⟨q,hq⟩:∃q:Nat,q=len-1-k:=⟨_,rfl⟩
   have hqi:(len:Int)-1-(k:Int)=(q:Int):=by omega
   have hql:q<len:=by omega
   obtain⟨b,off,rfl,hb,hcell⟩:=HC.out q hql
   have hcq:=(hnx.1.cell (p:=⟨b,off+q,none⟩) hb).trans hcell
   have hfq:=hf q hql
   have hlen:pre.length<len:=by
    have:=congrArg List.length hpre
    rw[List.length_map,zcf]at this
    omega
   obtain⟨fn,tmps,assign,body,hy,hR⟩:=HY.out pre ⟨(q,f q),hfq⟩ wr hJs hlen
   dsimp only at hy
   have HQ:Hid (backs f len (k+1)=backs f len k++[(q,f q)]):=by subst hq;rfl
   rw[hqi]
   generalize f q=fq at *
   clear hcell hq
   gi_wp2
   refine hR.mono ?_
   rintro e W3 (⟨rfl,hJ3,hk3⟩|⟨rfl,hJx3⟩)
   ·gi_wp2
    go_roundw
    case rel=>exact⟨k+1,_,by omega,by simp;omega,by rw[List.map_append,hpre,HQ.out];rfl,hJ3,zfK hnx hk3⟩
    case measure=>simp[intOf]
   ·gi_wp2
    refine bodyPost_ret (results_none rfl _ _ _) rfl ?_
    exact⟨⟨_,rfl⟩,.inr ⟨_,hJx3⟩⟩
  ·obtain rfl:k=len:=by omega
   have hneg:(k:Int)-1-(k:Int)=-1:=by omega
   rw[hneg]
   gi_wp2
   go_end0
   exact⟨⟨_,rfl⟩,.inl ⟨_,hpre,hJs⟩⟩
set_option maxHeartbeats 1000000 in
theorem ziu(F:Fence)(n:Nat)(h15:F.fn 181)(hro:F.round=none)(a:Option Addr)(len cap:Nat)(w:World) :
  CallsIn F n Tryz.prog 181 #[.slice a len cap] w fun e w'=>e=.returned (.func (.func 203) #[] #[.pointer (some ⟨w.heap.size,0,none⟩)])∧w'=w.alloc (.cells #[.slice a len cap] 73):=by
 refine callsIn_of_wp Tryz.func181 rfl h15 ?_ hro
 simp only[Tryz.ntmps181,List.size_toArray,List.length_cons,List.length_nil,Nat.reduceAdd,Nat.reduceSub,Array.replicate_succ,Array.replicate_zero,List.push_toArray,List.append_toArray,List.nil_append,List.cons_append]
 gi_wp2
 go_ret
 exact⟨rfl,rfl⟩
theorem zek(F:Fence)(n:Nat)(h19:F.fn 203)(hro:F.round=none)(hn:1≤n)(Bs n₀ len cap bound:Nat)(a:Option Addr)(f:Nat→Nat)(hreach:len*8≤140737488351232)(hf:∀q,q<len→f q<bound)
  (w:World) (hBs:Bs<w.heap.size) (hn₀:n₀≤w.heap.size) (hc:w.cell? ⟨Bs,0,none⟩=some (.slice a len cap))
  (hI:∀q,q<len→∃b off,a=some ⟨b,off,none⟩∧b<n₀∧w.cell? ⟨b,off+q,none⟩=some (.int .i64 (f q:Nat))) :
  SeqStopsK F n Tryz.prog 203 #[.pointer (some ⟨Bs,0,none⟩)] (fun x:Come bound=>#[Value.int .i64 (x.1.1:Nat),Value.int .i64 (x.1.2:Nat)]) (Xw Bs n₀) (fun ys=>ys.map Subtype.val=backs f len len) (fun _=>True) len w:=fun l J Jx W hW _ _ hY h0=>by
 have hc':=(hW.cell (p:=⟨Bs,0,none⟩) hBs).trans hc
 refine(zhi F n h19 hro hn l Bs n₀ len cap bound a f hreach hf J Jx hY W hc' (fun q hq=>?_) h0).mono ?_
 ·obtain⟨b,off,h1,h2,h3⟩:=hI q hq
  exact⟨b,off,h1,h2,(hW.cell (p:=⟨b,off+q,none⟩) (qq3 h2 hn₀)).trans h3⟩
 ·rintro e W' ⟨he,⟨ys,h1,h2⟩|⟨pre,h⟩⟩
  ·exact⟨he,.inl ⟨ys,h1,h2⟩⟩
  ·exact⟨he,.inr ⟨pre,trivial,h⟩⟩
end
section
open Go.RowKit Go.Deep Go.Shelf
def XH(ops:Array Oper):Bool:=ops.all fun o=>match o.op with
 | .defer _=>false
 | _=>true
theorem ze0{ops:Array Oper}(h:XH ops=true){i:Nat}{o:Oper}(ho:ops[i]?=some o):∀c,o.op≠.defer c:=by
 intro c hc
 unfold XH at h
 rw[Array.all_eq_true]at h
 obtain⟨hi,he⟩:=Array.getElem?_eq_some_iff.1 ho
 have:=h i hi
 rw[he,hc]at this
 cases this
theorem ze8{l n:Nat}{P:Program}{o:Oper}{a:Act}{w:World}{K K':Act→World→Prop}{Q:Exit→Act→World→Prop}(hd:∀c,o.op≠.defer c)(hK:∀a w,K a w→K' a w)(h:o.wp P a w K Q):o.wpIn (Fence.wide.inRound l) n P a w K' Q:=by
 refine⟨fun _ _=>trivial,?_⟩
 rw[Oper.semAt_eq _ _ _ hd]
 unfold Oper.wp at h
 generalize (execOp a.eval o).run P w=r at *
 match r,h with
 | .ok (.value v) w',h=>exact hK _ _ h
 | .ok .skip w',h=>exact hK _ _ h
 | .ok (.defer d) w',h=>exact hK _ _ h
 | .ok (.enter f args) w',h=>
  refine⟨fun hc=>(by cases hc),CallsIn.inRound l (callsIn_wide.2 (Calls.mono h ?_))⟩
  intro e w2 h2
  cases e with
  | returned v=>exact hK _ _ h2
  | panicked chain=>exact h2
  | outgrown=>exact h2
 | .ok (.row row args) w',h=>
  refine⟨fun hc=>(by cases hc),fun c cs _=>?_⟩
  obtain⟨v,w2,h1,h2⟩:=h c cs
  exact⟨v,w2,hK _ _ h1,stepsIn_wide.2 h2⟩
 | .halt (.panic v) w',h=>exact h
theorem xq{l n:Nat}{P:Program}{ops:Array Oper}{md:Region.Mode}{Q:Exit→Act→World→Prop}(hd:XH ops=true)(hL:LetsOut Q→False) :
  ∀(fuel:Nat) (listed:Array Bool) (a:Act) (w:World),wpAny P md ops Q fuel listed a w→wpAnyIn (Fence.wide.inRound l) n P md ops Q fuel listed a w
 | 0,_,_,_,h=>h
 | fuel+1,listed,a,w,h=>by
  refine⟨h.1,fun i hi=>?_⟩
  have h1:=h.2 i hi
  unfold wpOp at h1
  unfold wpOpIn
  cases ho:ops[i]? with
  | none=>
   rw[ho]at h1
   exact xq hd hL fuel _ a w h1
  | some o=>
   rw[ho]at h1
   dsimp only at h1 ⊢
   cases hw:Region.wanted o (yielded ops a.tmps) with
   | true=>
    rw[hw]at h1
    simp only[if_true]at h1 ⊢
    rcases h1 with h1|⟨_,h1⟩
    ·exact ze8 (ze0 hd ho) (fun a' w'=>xq hd hL fuel _ a' w') h1
    ·exact(hL h1).elim
   | false=>
    rw[hw]at h1
    simp only[Bool.false_eq_true,if_false]at h1 ⊢
    exact⟨fun _ _=>trivial,xq hd hL fuel _ _ w h1⟩
theorem xW{l n id:Nat}{P:Program}{ops:Array Oper}{Q:Exit→Act→World→Prop}{S:World→Prop}{a:Act}{w:World}(k:Nat)(hk:ops.size=k)(hm:P.follows .mixedOrders=true)(hd:XH ops=true)(hL:LetsOut Q→False)
  (h:wpAnyH P .any ops Q S k (Array.replicate k false) a w.drew):(Code.region id ops true).wpIn (Fence.wide.inRound l) n P Q a w:=by
 subst hk
 exact wpIn_region_any hm (xq hd hL _ _ _ _ (wpAny_of_held _ _ _ _ h))
theorem zbm{P:Program}{ops:Array Oper}{Q:Exit→Act→World→Prop}{i:Nat}{o:Oper}{K:Act→World→Prop}{a:Act}{w w':World}{v:Value}(hi:ops[i]?=some o)(hw:Region.wanted o (yielded ops a.tmps)=true)
  (hr:(execOp a.eval o).run P w=.ok (.value v) w') (h:K (a.put o.dst v) w'):wpOp P ops Q i K a w:=by
 unfold wpOp
 rw[hi]
 dsimp only
 rw[hw,if_pos rfl]
 refine Or.inl ?_
 unfold Oper.wp
 rw[hr]
 exact h
theorem zhd{P:Program}{ops:Array Oper}{Q:Exit→Act→World→Prop}{i:Nat}{o:Oper}{K:Act→World→Prop}{a:Act}{w w':World}(hi:ops[i]?=some o)(hw:Region.wanted o (yielded ops a.tmps)=true)
  (hr:(execOp a.eval o).run P w=.ok .skip w') (h:K (a.put o.dst undef) w'):wpOp P ops Q i K a w:=by
 unfold wpOp
 rw[hi]
 dsimp only
 rw[hw,if_pos rfl]
 refine Or.inl ?_
 unfold Oper.wp
 rw[hr]
 exact h
section
variable {P:Program} {ops:Array Oper} {md:Region.Mode} {Q:Exit→Act→World→Prop} {S:World→Prop} {fuel:Nat} {listed:Array Bool} {a:Act} {w w':World} {v:Value} {o:Oper} {i j:Nat}
theorem qh(hr:Region.ready md ops listed=[i])(hi:ops[i]?=some o)(hw:Region.wanted o (yielded ops a.tmps)=true)(hx:(execOp a.eval o).run P w=.ok (.value v) w')(hS:S w')
  (h:wpAnyH P md ops Q S fuel (listed.setIfInBounds i true) (a.put o.dst v) w'):wpAnyH P md ops Q S (fuel+1) listed a w:=
 wpAnyH_all hr (by simp) (fun k hk=>by obtain rfl:=List.mem_singleton.1 hk;exact zbm hi hw hx ⟨hS,h⟩)
theorem qi(hr:Region.ready md ops listed=[i])(hi:ops[i]?=some o)(hw:Region.wanted o (yielded ops a.tmps)=true)(hx:(execOp a.eval o).run P w=.ok .skip w')(hS:S w')
  (h:wpAnyH P md ops Q S fuel (listed.setIfInBounds i true) (a.put o.dst undef) w'):wpAnyH P md ops Q S (fuel+1) listed a w:=
 wpAnyH_all hr (by simp) (fun k hk=>by obtain rfl:=List.mem_singleton.1 hk;exact zhd hi hw hx ⟨hS,h⟩)
theorem zec{v2:Value}{o2:Oper}{d d2:Nat}(hr:Region.ready md ops listed=[i,j])(hr1:Region.ready md ops (listed.setIfInBounds i true)=[j])(hr2:Region.ready md ops (listed.setIfInBounds j true)=[i])
  (hi:ops[i]?=some o) (hj:ops[j]?=some o2) (hd:o.dst=some d) (hd2:o2.dst=some d2) (hne:d≠d2) (hij:i≠j)
  (hw:Region.wanted o (yielded ops a.tmps)=true) (hw':Region.wanted o (yielded ops (a.put o2.dst v2).tmps)=true) (hw2:Region.wanted o2 (yielded ops a.tmps)=true) (hw2':Region.wanted o2 (yielded ops (a.put o.dst v).tmps)=true)
  (hx:(execOp a.eval o).run P w=.ok (.value v) w) (hx':(execOp (a.put o2.dst v2).eval o).run P w=.ok (.value v) w)
  (hx2:(execOp a.eval o2).run P w=.ok (.value v2) w) (hx2':(execOp (a.put o.dst v).eval o2).run P w=.ok (.value v2) w) (hS:S w)
  (h:wpAnyH P md ops Q S fuel ((listed.setIfInBounds i true).setIfInBounds j true) ((a.put o.dst v).put o2.dst v2) w):wpAnyH P md ops Q S (fuel+1+1) listed a w:=by
 refine wpAnyH_all hr (by simp) (fun k hk=>?_)
 rcases List.mem_cons.1 hk with rfl|hk
 ·exact zbm hi hw hx ⟨hS,qh hr1 hj hw2' hx2' hS h⟩
 ·obtain rfl:=List.mem_singleton.1 hk
  refine zbm hj hw2 hx2 ⟨hS,qh hr2 hi hw' hx' hS ?_⟩
  have e1:(a.put o2.dst v2).put o.dst v=(a.put o.dst v).put o2.dst v2:=by
   rw[hd,hd2]
   simp only[Act.put]
   rw[Array.setIfInBounds_comm _ _ hne]
  rw[e1,Array.setIfInBounds_comm _ _ (Ne.symm hij)]
  exact h
end
end
end Go.Proofs.YtlfbdjeojgbniaaGreatDoor

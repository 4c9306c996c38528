import Derived.Test.YtlfbdjeojgbniaaGreatDoorRan11
namespace Go.Proofs.YtlfbdjeojgbniaaGreatDoor
section
open Go.RowKit Go.Deep Go.Maps
theorem keyed3:Keyed Tryz.prog 3:=int_keyed Tryz.underlying3
theorem zero48(w:World):(zeroValue 196).run Tryz.prog w=.ok (.agg #[]) w:=by kernel_rfl
theorem zim{y:Nat}(h:y<1000):(Lit.int .i64 (y:Int)).wf=true:=WalkArith.wf_i64 (by omega)
theorem qO{y:Nat}(h:y<1000):keyOf Tryz.prog 3 (.int .i64 (y:Int))=some (.int .i64 (y:Int)):=keyOf_int_mk Tryz.underlying3 (zim h)
def Xb(w:World)(B n:Nat)(S:Nat→Bool):Prop:=
 ∃m D,w.ownsMap Tryz.prog 3 (unitElem (H:=Unit)) B m D∧Maps.size D=m∧m+unseen S n=n∧∀x:Nat,x<n→Maps.has D (.int .i64 x)=S x
theorem Xb.of_block{w w':World}{B n:Nat}{S:Nat→Bool}(h:Xb w B n S)(e:w'.heap[B]?=w.heap[B]?):Xb w' B n S:=by
 obtain⟨m,D,⟨es,clock,hb,r⟩,h1⟩:=h
 exact⟨m,D,⟨es,clock,e.trans hb,r⟩,h1⟩
theorem Xb.lt{w:World}{B n:Nat}{S:Nat→Bool}(h:Xb w B n S):B<w.heap.size:=by
 obtain⟨m,D,h,_⟩:=h
 exact h.lt
def Xj(M A D n:Nat):Nat→Value:=fun k=>if k=0 then .slice (some ⟨M,0,none⟩) n n else if k=1 then .slice (some ⟨A,0,none⟩) n n else .map (some D)
structure XI (C A n:Nat) (aft:Nat→List Nat) (av:Nat→Value) (w:World):Prop where
 row:w.rowIs A 73 n av
 own:∀k,k<n→RowI C w (av k) (Zb (aft k))
theorem XI.of_blocks{C A n:Nat}{aft:Nat→List Nat}{av:Nat→Value}{w w':World}(h:XI C A n aft av w)(eA:w'.heap[A]?=w.heap[A]?)(eC:∀k,C≤k→k<w.heap.size→w'.heap[k]?=w.heap[k]?):XI C A n aft av w':=
 ⟨h.row.of_block eA,fun k hk=>(h.own k hk).of_blocks (fun b e=>eC b ((h.own k hk).low e).1 ((h.own k hk).low e).2)⟩
structure Jn (J M A D C n:Nat) (miss:Nat→Nat) (aft:Nat→List Nat) (S:Nat→Bool) (w:World):Prop where
 row:w.rowIs J 106 3 (Xj M A D n)
 miss:w.rowIs M 3 n (fun k=>natV (miss k))
 aft:∃av,XI C A n aft av w
 done:Xb w D n S
 lt:J<C∧M<C∧A<C∧D<C
 ne:J≠M∧J≠A∧J≠D∧M≠A∧M≠D∧A≠D
 le:n≤30
section
variable {J M A D C n:Nat} {miss:Nat→Nat} {aft:Nat→List Nat} {S:Nat→Bool} {w w':World}
theorem Jn.of_blocks(h:Jn J M A D C n miss aft S w)(eJ:w'.heap[J]?=w.heap[J]?)(eM:w'.heap[M]?=w.heap[M]?)(eA:w'.heap[A]?=w.heap[A]?)(eD:w'.heap[D]?=w.heap[D]?)
  (eC:∀k,C≤k→k<w.heap.size→w'.heap[k]?=w.heap[k]?):Jn J M A D C n miss aft S w':=by
 obtain⟨av,ha⟩:=h.aft
 exact⟨h.row.of_block eJ,h.miss.of_block eM,⟨av,ha.of_blocks eA eC⟩,h.done.of_block eD,h.lt,h.ne,h.le⟩
theorem Jn.ltA(h:Jn J M A D C n miss aft S w):A<w.heap.size:=by
 obtain⟨av,ha⟩:=h.aft
 exact ha.row.lt
theorem Jn.later(h:Jn J M A D C n miss aft S w)(hb:Below w.heap.size w w'):Jn J M A D C n miss aft S w':=
 h.of_blocks (hb.block _ h.row.lt) (hb.block _ h.miss.lt) (hb.block _ h.ltA) (hb.block _ h.done.lt) (fun k _ hk=>hb.block k hk)
theorem Jn.c0(h:Jn J M A D C n miss aft S w):w.cell? ⟨J,0,none⟩=some (.slice (some ⟨M,0,none⟩) n n):=by
 have:=h.row.cell (i:=0) (by omega)
 simpa[Xj]using this
theorem Jn.c1(h:Jn J M A D C n miss aft S w):w.cell? ⟨J,1,none⟩=some (.slice (some ⟨A,0,none⟩) n n):=by
 have:=h.row.cell (i:=1) (by omega)
 simpa[Xj]using this
theorem Jn.c2(h:Jn J M A D C n miss aft S w):w.cell? ⟨J,2,none⟩=some (.map (some D)):=by
 have:=h.row.cell (i:=2) (by omega)
 simpa[Xj]using this
theorem Jn.cM(h:Jn J M A D C n miss aft S w){k:Nat}(hk:k<n):w.cell? ⟨M,k,none⟩=some (.int .i64 (miss k)):=h.miss.cell hk
end
def JnT(J M A D C:Nat)(ts:Zl)(S:Nat→Bool)(w:World):Prop:=
 Jn J M A D C ts.length (ZD ts S) (fun k=>if S k then [] else ZC ts ts.length k) S w
set_option maxHeartbeats 800000 in
theorem zav(J M A D C:Nat)(ts:Zl)(S:Nat→Bool)(k:Nat)(w:World)(h:JnT J M A D C ts S w)(hk:k<ts.length) :
  Calls Tryz.prog 84 #[.pointer (some ⟨J,0,none⟩),.int .i64 k] w fun e w'=>e=.returned (.int .i64 (stN ts S k))∧Below w.heap.size w w':=by
 have h2:=Jn.later h ((qq4 _ _).alloc (qq1 _) (.cells #[] 196))
 have hc2:=Jn.c2 h
 have hc0:=Jn.c0 h2
 have hcM:=Jn.cM h2 hk
 obtain⟨m,D',hown,_,_,hD⟩:=Jn.done h
 have hDk:=hD k hk
 have hkey:=qO (y:=k) (by have:=Jn.le h;omega)
 clear hD h2
 cases hS:S k
 ·rw[hS]at hDk
  by_cases hz:ZD ts S k=0
  ·rw[hz]at hcM
   have HE:Hid (stN ts S k=1):=by unfold stN;rw[hS,hz];rfl
   clear hS hz h
   go_enter Tryz.func84,Tryz.ntmps84
   go_wp2_with (at_lookup;refine wpList_lookup_own_unit _ rfl _ _ 104 rfl 3 196 keyed3 Tryz.underlying104 (zero48 _) D m D' rfl hown _ _ rfl hkey ?_;rw[hDk])
   go_ret
   exact⟨by rw[HE.out];rfl,(qq4 _ _).alloc (qq1 _) _⟩
  ·have hz2:((ZD ts S k:Int)==0)=false:=by simp;omega
   have HE:Hid (stN ts S k=0):=by unfold stN;rw[hS,if_neg hz];rfl
   generalize ZD ts S k=mi at *
   clear hS hz h
   go_enter Tryz.func84,Tryz.ntmps84
   go_wp2_with (at_lookup;refine wpList_lookup_own_unit _ rfl _ _ 104 rfl 3 196 keyed3 Tryz.underlying104 (zero48 _) D m D' rfl hown _ _ rfl hkey ?_;rw[hDk])
   go_ret
   exact⟨by rw[HE.out];rfl,(qq4 _ _).alloc (qq1 _) _⟩
 ·rw[hS]at hDk
  have HE:Hid (stN ts S k=2):=by unfold stN;rw[hS];rfl
  clear hS h
  go_enter Tryz.func84,Tryz.ntmps84
  go_wp2_with (at_lookup;refine wpList_lookup_own_unit _ rfl _ _ 104 rfl 3 196 keyed3 Tryz.underlying104 (zero48 _) D m D' rfl hown _ _ rfl hkey ?_;rw[hDk])
  go_ret
  exact⟨by rw[HE.out];rfl,(qq4 _ _).alloc (qq1 _) _⟩
theorem zfp(J M A D C:Nat)(ts:Zl)(S:Nat→Bool)(k:Nat)(w:World)(h:JnT J M A D C ts S w)(hk:k<ts.length) :
  Calls Tryz.prog 204 #[.pointer (some ⟨J,0,none⟩),.int .i64 k] w fun e w'=>e=.returned (.tuple #[.int .i64 (stN ts S k),.nilIface])∧Below w.heap.size w w':=by
 have hc0:=Jn.c0 h
 have hst:=zav J M A D C ts S k w h hk
 have h1:¬(k:Int)<0:=by omega
 have h2:¬(ts.length:Int)≤(k:Int):=by omega
 clear h
 generalize stN ts S k=st at *
 go_enter Tryz.func204,Tryz.ntmps204
 go_wp2_with (go_at_call 84;refine hst.mono ?_;clear hst;rintro e w' ⟨rfl,hb⟩)
 go_ret2
 exact⟨rfl,hb⟩
theorem zbA{o:Oper}{a:Act}{w:World}{K:Act→Prop}{D clock:Nat}{es:Array MapEntry}(m:Operand)(ho:o.op=.call { callee:=.builtin .len,args:=#[m],argTypes:=#[104] })(hm:a.eval m=.map (some D))
  (hb:w.heap[D]?=some (.map es clock)) {E:Nat} (hE:Hid (es.size=E)) (h:K (a.put o.dst (.int .i64 E))):o.quiet Tryz.prog a (fun w'=>∃n,w'=w.drewN n) K:=by
 refine⟨_,fun w' hw=>?_,h⟩
 obtain⟨n,rfl⟩:=hw
 have hE:=hE.out
 subst hE
 have hb':(w.drewN n).heap[D]?=some (.map es clock):=hb
 unfold Oper.quietAt
 simp[execOp,ho,resolve,invoke,builtin,hm,Builtin.len_,run_underlying Tryz.underlying104,MapKept.run_getObj_map hb',goInt,Result.andThen,Oper.quietUpon]
theorem zhD(J M A D C:Nat)(ts:Zl)(S:Nat→Bool)(w:World)(h:JnT J M A D C ts S w) :
  Calls Tryz.prog 14 #[.pointer (some ⟨J,0,none⟩)] w fun e w'=>e=.returned (.int .i64 (unseen S ts.length))∧∃q,w'=w.drewN q:=by
 have hc0:=Jn.c0 h
 have hc2:=Jn.c2 h
 obtain⟨m,D',⟨es,clock,hb,hF,hle,hD'⟩,hs,hm,_⟩:=Jn.done h
 have hsz:es.size=m:=by
  rw[←hs,hD']
  exact(length_read es).symm
 have hn:=Jn.le h
 have hun:((unseen S ts.length:Nat):Int)=(ts.length:Int)-(es.size:Int):=by omega
 rw[hun]
 have hes:es.size≤30:=by omega
 clear h hF hD' hle hs hm hun hsz
 obtain⟨E,hE⟩:∃E,es.size=E:=⟨_,rfl⟩
 rw[hE]at hes ⊢
 have HE:Hid (es.size=E):=hE
 clear hE
 go_enter Tryz.func14,Tryz.ntmps14
 go_wp2
 refine wp_region_quiet_lit (by kernel_rfl) (by kernel_rfl) ?_
 repeat (go_big_quiet_step (fail))
 go_big_quiet_want
 refine zbA (.tmp 11) rfl rfl hb HE ?_
 go_big_quiet_on
 simp only[Act.put,List.setIfInBounds_toArray,List.set_cons_zero,List.set_cons_succ]
 repeat (go_big_quiet_step (fail))
 refine wpQuiet_nil ?_
 intro _ hw'
 obtain⟨nq,rfl⟩:=hw'
 go_wp2
 go_ret
 exact⟨rfl,_,rfl⟩
end
section
open Go.RowKit Go.Deep Go.Maps
theorem RowI.whole(w:World)(N n:Nat)(ys:List Int)(hn:ys.length=n)(h60:n≤60)(h:w.heap[N]?=some (.cells (ys.map (Value.int .i64)).toArray 3 (0,0))):RowI N w (.slice (some ⟨N,0,none⟩) n n) ys:=by
 subst hn
 exact⟨by simp,Or.inr ⟨N,_,_,rfl,qq1 _,h,qq1 _,by unfold maxLen;omega,by simp,by simp[List.take_of_length_le]⟩⟩
theorem zcc{ts:Zl}{S:Nat→Bool}{k:Nat}(h:ZE ts S k=true):stN ts S k=1:=by
 obtain⟨h1,h2⟩:=zE h
 unfold stN
 rw[h1,h2];rfl
theorem ziO{ts:Zl}{S:Nat→Bool}{k:Nat}(h:ZE ts S k=false):stN ts S k≠1:=by
 unfold stN
 unfold ZE at h
 cases hs:S k with
 | true=>simp
 | false=>
  rw[hs]at h
  simp at h
  simp[h]
set_option maxRecDepth 100000 in
set_option maxHeartbeats 2000000 in
theorem zeO(J M A D C:Nat)(ts:Zl)(S:Nat→Bool)(w:World)(h:JnT J M A D C ts S w) :
  Calls Tryz.prog 46 #[.pointer (some ⟨J,0,none⟩)] w fun e w'=>(∃v,e=.returned v∧RowI w.heap.size w' v (Zb (Zg ts S ts.length)))∧Below w.heap.size w w':=by
 have hc0:=Jn.c0 h
 have h30:=Jn.le h
 have HJ:Hid (JnT J M A D C ts S w):=h
 clear h
 go_enter Tryz.func46,Tryz.ntmps46
 go_wp2
 go_loopw [3,10] (fun s3 s10 wr=>∃k:Nat,k≤ts.length∧s10=.int .i64 k∧Hid (RowI w.heap.size wr s3 (Zb (Zg ts S k)))∧Below w.heap.size w wr) (fun _ s10 _=>ts.length-(intOf s10).toNat)
 case atStart=>exact⟨0,Nat.zero_le _,rfl,RowI.nil _ _,qq4 _ _⟩
 case round=>
  obtain⟨k,hk,rfl,hR,hb⟩:=hrel
  obtain⟨la,lc,rfl⟩:=hR.out.shape
  by_cases hkl:k<ts.length
  ·have hst:=zav J M A D C ts S k wr (Jn.later HJ.out hb) hkl
   have HT:Hid (Zg ts S (k+1)=Zg ts S k++if ZE ts S k then [k] else []):=jC ts S k
   cases hr:ZE ts S k
   ·have hne:(((stN ts S k:Nat):Int)==1)=false:=by have:=ziO hr;simp;omega
    rw[hr]at HT
    have HR2:Hid (∀wx,Below wr.heap.size wr wx→RowI w.heap.size wx (.slice la (Zb (Zg ts S k)).length lc) (Zb (Zg ts S (k+1)))):=fun wx hx=>by rw[HT.out];simpa using hR.out.later hx
    generalize stN ts S k=st at *
    clear hr hR HT hc0
    go_wp2_with (go_at_call 84;refine hst.mono ?_;clear hst;rintro e w' ⟨rfl,hb1⟩)
    go_roundw
    case rel=>exact⟨k+1,by omega,by go_num,HR2.out _ hb1,hb.trans (hb1.mono hb.size)⟩
    case measure=>simp[intOf];omega
   ·rw[zcc hr]at hst
    rw[hr]at HT
    have hlen:(Zb (Zg ts S k)).length≤30:=by rw[zd];have:=z6 ts S k;omega
    have HT2:Hid (Zb (Zg ts S (k+1))=Zb (Zg ts S k)++[(k:Int)]):=by show _=_;rw[HT.out];simp[Zb]
    have HR:Hid (∀wx,Below wr.heap.size wr wx→RowI w.heap.size wx (.slice la (Zb (Zg ts S k)).length lc) (Zb (Zg ts S k))):=fun wx hx=>hR.out.later hx
    clear hr hR HT hc0
    generalize Zb (Zg ts S k)=l at *
    go_wp2_with fail
    refine hst.mono ?_
    clear hst
    rintro e w1 ⟨rfl,hb1⟩
    have HO:Hid (Rds (fun _=>True) (w1.alloc (.cells #[.int .i64 k] 3)) (.slice (some ⟨w1.heap.size,0,none⟩) 1 1) [(k:Int)]):=zK w1 k
    have hoa:=(HR.out w1 hb1).alloc (.cells #[.int .i64 k] 3)
    have hs1:=hb.size
    have hs2:=hb1.size
    go_wp2_with (first|(at_builtin;refine ze rfl (.tmp 17) (.tmp 19) rfl w.heap.size (fun _=>True) (.slice la l.length lc) (.slice (some ⟨w1.heap.size,0,none⟩) 1 1) l [(k:Int)] rfl rfl hoa HO.out (by simp;omega) (by simp;omega) ?_;intro v2 w2 hown2 hgr2 hat2))
    have hb2:Below w.heap.size w w2:=((hb.trans (hb1.mono hs1)).alloc (by omega) _).grown hgr2 (by simp;omega) (fun j e=>((HR.out w1 hb1).low e).1)
    have HN:Hid (RowI w.heap.size w2 v2 (Zb (Zg ts S (k+1)))):=by rw[HT2.out];exact hown2
    clear hown2 hgr2 hat2 hoa HO HR
    go_wp2
    go_roundw
    case rel=>exact⟨k+1,by omega,by go_num,HN,hb2⟩
    case measure=>simp[intOf];omega
  ·have hke:k=ts.length:=by omega
   have hkl':¬(k:Int)<(ts.length:Int):=by omega
   have HE:Hid (RowI w.heap.size wr (.slice la (Zb (Zg ts S k)).length lc) (Zb (Zg ts S ts.length))):=by have:=hR.out;rw[hke]at this ⊢;exact this
   clear hR hke
   go_wp2
   go_ret
   exact⟨⟨_,rfl,HE.out⟩,hb⟩
end
section
open Go.RowKit Go.Deep Go.Maps
def YW(ts:Zl)(S:Nat→Bool)(i m k:Nat):Nat:=if k∈(ZC ts ts.length i).take m then ZD ts (mark S i) k else ZD ts S k
theorem zdz(ts:Zl)(S:Nat→Bool)(i k:Nat):YW ts S i 0 k=ZD ts S k:=by simp[YW]
theorem zeV{ts:Zl}(hg:Good ts){S:Nat→Bool}{i k:Nat}(hS:S i=false)(hk:k<ts.length):YW ts S i (ZC ts ts.length i).length k=ZD ts (mark S i) k:=by
 unfold YW
 rw[List.take_length]
 split
 ·rfl
 ·rename_i h
  rw[j6]at h
  have:=jh hg (i:=i) hS hk
  rw[if_neg (fun e=>h ⟨hk,e⟩)]at this
  omega
theorem xu{l:List Nat}{m:Nat}(h:m<l.length):l.take (m+1)=l.take m++[l.getD m 0]:=by
 rw[qq8 h,qq6,qq7 h];rfl
theorem zbW{l:List Nat}{m:Nat}(h:m<l.length):l.getD m 0∈l:=by
 rw[qq6,qq7 h];exact List.getElem_mem h
theorem za4{l:List Nat}(hd:l.Nodup){m:Nat}(h:m<l.length):¬l.getD m 0∈l.take m:=by
 rw[←List.take_append_drop (m+1) l,xu h]at hd
 intro hm
 exact(List.nodup_append.1 (List.nodup_append.1 hd).1).2.2 _ hm _ (by simp) rfl
theorem zgs{ts:Zl}(hg:Good ts){S:Nat→Bool}{i m:Nat}(hS:S i=false)(hm:m<(ZC ts ts.length i).length) :
  YW ts S i m ((ZC ts ts.length i).getD m 0)=ZD ts (mark S i) ((ZC ts ts.length i).getD m 0)+1:=by
 have hmem:=j6.1 (zbW hm)
 unfold YW
 rw[if_neg (za4 (zaj ts _ i) hm),jh hg hS hmem.1,if_pos hmem.2]
theorem zdy{ts:Zl}{S:Nat→Bool}{i m j:Nat}(hm:m<(ZC ts ts.length i).length) :
  YW ts S i (m+1) j=if j=(ZC ts ts.length i).getD m 0 then ZD ts (mark S i) j else YW ts S i m j:=by
 unfold YW
 rw[xu hm]
 by_cases e:j=(ZC ts ts.length i).getD m 0
 ·rw[if_pos e,if_pos (by rw[e];simp)]
 ·rw[if_neg e]
  by_cases h:j∈(ZC ts ts.length i).take m
  ·rw[if_pos h,if_pos (by simp[h])]
  ·rw[if_neg h,if_neg (by simp only[List.mem_append,List.mem_singleton,not_or];exact⟨h,e⟩)]
theorem zcG:∀(l:List Int) (a b:Int),a≤b→l.Pairwise (· < ·)→(∀x,x∈l→a≤x∧x<b)→(l.length:Int)≤b-a:=by
 intro l
 induction l with
 | nil=>intro a b h _ _;simp;omega
 | cons x r ih=>
  intro a b _ hp hx
  have h1:=hx x (List.mem_cons_self ..)
  have hp:=List.pairwise_cons.1 hp
  have:=ih (x+1) b (by omega) hp.2 (fun y hy=>⟨by have:=hp.1 y hy;omega,(hx y (List.mem_cons_of_mem _ hy)).2⟩)
  simp only[List.length_cons]
  omega
theorem Good.len{ts:Zl}(hg:Good ts){k:Nat}(hk:k<ts.length):(Za ts k).length≤ts.length:=by
 have:=zcG (Za ts k) 0 ts.length (by omega) (hg.up k hk) (fun x hx=>hg.rng k hk x hx)
 omega
structure RelM (M m i:Nat) (ts:Zl) (S:Nat→Bool) (w wr:World):Prop where
 row:wr.rowIs M 3 ts.length (fun k=>natV (YW ts S i m k))
 kx:Kx (fun k=>k=M) w wr
def SubA(A:Nat)(w w':World):Prop:=∀k v,w'.cell? ⟨A,k,none⟩=some v→v=.slice none 0 0∨w.cell? ⟨A,k,none⟩=some v
theorem SubA.set{A i:Nat}{w wr:World}{x:Value}(h:wr.heap[A]?=w.heap[A]?)(hx:wr.cell? ⟨A,i,none⟩=some x):SubA A w (wr.setCell ⟨A,i,none⟩ (.slice none 0 0)):=by
 intro k v hv
 by_cases e:k=i
 ·subst e
  left
  rw[World.cell?_setCell_same _ _ _ hx]at hv
  exact(Option.some.inj hv).symm
 ·right
  rw[World.cell?_setCell_other _ _ _ _ (by intro h;simp only[Addr.mk.injEq]at h;omega)]at hv
  exact(qq9 (a:=⟨A,k,none⟩) h).symm.trans hv
theorem RelM.jnT{J M A D C i:Nat}{ts:Zl}{S:Nat→Bool}{w wr:World}(hg:Good ts)(hi:i<ts.length)(hS:S i=false)
  (h:Jn J M A D C ts.length (ZD ts S) (fun k=>if S k then [] else ZC ts ts.length k) (mark S i) w) (hM:RelM M (ZC ts ts.length i).length i ts S w wr) :
  JnT J M A D C ts (mark S i) (wr.setCell ⟨A,i,none⟩ (.slice none 0 0)):=by
 obtain⟨av,ha⟩:=h.aft
 obtain⟨n1,n2,n3,n4,n5,n6⟩:=h.ne
 obtain⟨l1,l2,l3,l4⟩:=h.lt
 have keep:∀k,k<w.heap.size→k≠M→k≠A→(wr.setCell ⟨A,i,none⟩ (.slice none 0 0)).heap[k]?=w.heap[k]?:=fun k hk h1 h2=>
  (qq5 _ _ _ _ (by show k≠A;exact h2)).trans (hM.kx.block k hk h1)
 have harow:wr.rowIs A 73 ts.length av:=ha.row.of_block (hM.kx.block A h.ltA (by omega))
 refine⟨h.row.of_block (keep J h.row.lt n1 n2),?_,⟨fun k=>if k=i then .slice none 0 0 else av k,?_,fun k hk=>?_⟩,h.done.of_block (keep D h.done.lt (by omega) (by omega)),h.lt,h.ne,h.le⟩
 ·exact(hM.row.setOther (a:=⟨A,i,none⟩) (by show M≠A;exact n4) _).congr (fun k hk=>by rw[zeV hg hS hk])
 ·exact harow.set i _
 ·by_cases e:k=i
  ·subst e
   simp only[qR,if_true]
   exact RowI.nil _ _
  ·simp only[xQ e,if_neg e]
   exact(ha.own k hk).of_blocks (fun b hb=>by
    have:=(ha.own k hk).low hb
    exact keep b this.2 (by omega) (by omega))
set_option maxRecDepth 100000 in
set_option maxHeartbeats 4000000 in
theorem zdU(J M A D C:Nat)(ts:Zl)(hg:Good ts)(S:Nat→Bool)(i:Nat)(w:World)(hi:i<ts.length)(hS:S i=false)
  (h:Jn J M A D C ts.length (ZD ts S) (fun k=>if S k then [] else ZC ts ts.length k) (mark S i) w) :
  Calls Tryz.prog 205 #[.pointer (some ⟨J,0,none⟩),.int .i64 i] w fun e w'=>(∃v,e=.returned v∧RowI w.heap.size w' v (Zb (newL ts S i)))∧JnT J M A D C ts (mark S i) w'∧Kx (fun k=>k=M∨k=A) w w'∧SubA A w w':=by
 have HJ:Hid (Jn J M A D C ts.length (ZD ts S) (fun k=>if S k then [] else ZC ts ts.length k) (mark S i) w):=h
 have HG:Hid (Good ts):=hg
 have h30:=hg.le
 obtain⟨av,ha⟩:=h.aft
 have hc1:=h.c1
 have hcA:w.cell? ⟨A,i,none⟩=some (av i):=ha.row.cell hi
 have hrow:=ha.own i hi
 simp only[hS,Bool.false_eq_true,if_false]at hrow
 obtain⟨la,lc,hav⟩:=hrow.shape
 rw[zd]at hav
 rw[hav]at hcA hrow
 have HL:Hid (RowI C w (.slice la (ZC ts ts.length i).length lc) (Zb (ZC ts ts.length i))):=hrow
 have hLl:=jQ ts ts.length i
 obtain⟨n1,n2,n3,n4,n5,n6⟩:=h.ne
 obtain⟨l1,l2,l3,l4⟩:=h.lt
 have HM0:Hid (RelM M 0 i ts S w w):=⟨h.miss.congr (fun k _=>by rw[zdz]),Kx.refl _ _⟩
 have HSI:Hid (S i=false):=hS
 clear h ha hrow hav hg hS n3 n5 n6 l4
 go_enter Tryz.func205,Tryz.ntmps205
 go_wp2
 go_loopw [5,16] (fun s5 s16 wr=>∃m:Nat,m≤(ZC ts ts.length i).length∧s16=.int .i64 m∧Hid (RowI w.heap.size wr s5 (Zb (((ZC ts ts.length i).take m).filter (fun k=>decide (ZD ts (mark S i) k=0)))))∧Hid (RelM M m i ts S w wr)) (fun _ s16 _=>(ZC ts ts.length i).length-(intOf s16).toNat)
 case atStart=>exact⟨0,Nat.zero_le _,rfl,RowI.nil _ _,HM0⟩
 case round=>
  clear HM0
  obtain⟨m,hm,rfl,hR,hM⟩:=hrel
  obtain⟨ra,rc,rfl⟩:=hR.out.shape
  have hc0:wr.cell? ⟨J,0,none⟩=some (.slice (some ⟨M,0,none⟩) ts.length ts.length):=(qq9 (a:=⟨J,0,none⟩) (hM.out.kx.block J HJ.out.row.lt n1)).trans HJ.out.c0
  have hc1':wr.cell? ⟨J,1,none⟩=some (.slice (some ⟨A,0,none⟩) ts.length ts.length):=(qq9 (a:=⟨J,1,none⟩) (hM.out.kx.block J HJ.out.row.lt n1)).trans hc1
  by_cases hml:m<(ZC ts ts.length i).length
  ·obtain⟨g,c',hv,hCg,hgl,_⟩:=HL.out.full (by rw[zd];omega)
   simp only[Value.slice.injEq]at hv
   obtain⟨rfl,hdum,rfl⟩:=hv
   clear hdum
   have hgM:¬g=M:=by omega
   have hcell:=(qq9 (a:=⟨g,m,none⟩) (hM.out.kx.block g hgl hgM)).trans (HL.out.cell (k:=m) (by rw[zd];exact hml))
   rw[zL]at hcell
   have hmem:=j6.1 (zbW hml)
   have hat:=zgs HG.out HSI.out hml
   have hsucc:Hid (∀j,YW ts S i (m+1) j=if j=(ZC ts ts.length i).getD m 0 then ZD ts (mark S i) j else YW ts S i m j):=fun j=>zdy hml
   have htake:Hid ((ZC ts ts.length i).take (m+1)=(ZC ts ts.length i).take m++[(ZC ts ts.length i).getD m 0]):=xu hml
   have hlen:(Zb (((ZC ts ts.length i).take m).filter (fun k=>decide (ZD ts (mark S i) k=0)))).length≤30:=by
    rw[zd]
    have:=List.length_filter_le (fun k=>decide (ZD ts (mark S i) k=0)) ((ZC ts ts.length i).take m)
    simp only[List.length_take]at this
    omega
   generalize (ZC ts ts.length i).getD m 0=y at *
   have hyl:=hmem.1
   have hmy:=hM.out.row.cell hyl
   have hfy:=hM.out.row.frozen y
   simp only[hat,natV]at hmy
   have hb30:ZD ts (mark S i) y≤30:=by have:=zhK ts (mark S i) y;have:=HG.out.len hyl;omega
   have hsub:((ZD ts (mark S i) y+1:Nat):Int)-1=(ZD ts (mark S i) y:Int):=by omega
   have hM2:Hid (RelM M (m+1) i ts S w (wr.setCell ⟨M,y,none⟩ (.int .i64 (ZD ts (mark S i) y)))):=
    ⟨(hM.out.row.set y _).congr (fun k _=>by rw[hsucc.out k];by_cases e:k=y;{ subst e;simp[natV] };{ simp[e] }),hM.out.kx.set (Or.inl rfl) _ _⟩
   have hR1:Hid (RowI w.heap.size (wr.setCell ⟨M,y,none⟩ (.int .i64 (ZD ts (mark S i) y))) (.slice ra (Zb (((ZC ts ts.length i).take m).filter (fun k=>decide (ZD ts (mark S i) k=0)))).length rc) (Zb (((ZC ts ts.length i).take m).filter (fun k=>decide (ZD ts (mark S i) k=0))))):=
    hR.out.of_blocks (fun b hb=>qq5 _ _ _ _ (by show b≠M;have:=(hR.out.low hb).1;have:=HJ.out.miss.lt;omega))
   clear hR hM hmem hat hsucc hc1
   by_cases hz:ZD ts (mark S i) y=0
   ·have HT:Hid (Zb (((ZC ts ts.length i).take (m+1)).filter (fun k=>decide (ZD ts (mark S i) k=0)))=Zb (((ZC ts ts.length i).take m).filter (fun k=>decide (ZD ts (mark S i) k=0)))++[(y:Int)]):=by
     show _=_
     rw[htake.out,List.filter_append];simp[hz,Zb]
    have HZ:Hid (ZD ts (mark S i) y=0):=hz
    rw[hz]at hmy hM2 hR1 hsub
    clear htake hz hb30 hsub
    generalize Zb (((ZC ts ts.length i).take m).filter (fun k=>decide (ZD ts (mark S i) k=0)))=l at *
    have HO:Hid (Rds (fun _=>True) ((wr.setCell ⟨M,y,none⟩ (.int .i64 0)).alloc (.cells #[.int .i64 y] 3)) (.slice (some ⟨wr.heap.size,0,none⟩) 1 1) [(y:Int)]):=by
     show Rds _ _ _ _
     have:=zK (wr.setCell ⟨M,y,none⟩ (.int .i64 0)) y
     simpa using this
    have hoa:=hR1.out.alloc (.cells #[.int .i64 y] 3)
    have hsz:=hM2.out.kx.size
    simp only[Int.natCast_zero]at hM2 hR1 hoa
    go_wp2_with (first|(at_builtin;refine ze rfl (.tmp 37) (.tmp 39) rfl w.heap.size (fun _=>True) (.slice ra l.length rc) (.slice (some ⟨wr.heap.size,0,none⟩) 1 1) l [(y:Int)] rfl rfl hoa HO.out (by simp;omega) (by simp at hsz ⊢;omega) ?_;intro v2 w2 hown2 hgr2 hat2))
    have hlow:∀b,(Value.slice ra l.length rc).ownBlock=some b→w.heap.size≤b:=fun b hb=>(hR1.out.low hb).1
    have hM3:Hid (RelM M (m+1) i ts S w w2):=by
     have hMl:=HJ.out.miss.lt
     refine⟨(hM2.out.row.alloc _).of_block (hgr2.block M (by simp at hsz ⊢;omega) (fun e=>by have:=hlow M e.symm;omega)),?_⟩
     exact(hM2.out.kx.later ((qq4 _ _).alloc (qq1 _) _)).trans (Y:=fun k=>(Value.slice ra l.length rc).ownBlock=some k) ⟨hgr2.os,hgr2.tape,hgr2.output,hgr2.size,fun k hk hne=>hgr2.block k hk (fun e=>hne e.symm)⟩ (fun b hb=>Or.inr (hlow b hb))
    have HN:Hid (RowI w.heap.size w2 v2 (Zb (((ZC ts ts.length i).take (m+1)).filter (fun k=>decide (ZD ts (mark S i) k=0))))):=by rw[HT.out];exact hown2
    clear hown2 hgr2 hat2 hoa HO hM2 hR1
    go_wp2
    go_roundw
    case rel=>exact⟨m+1,by omega,by go_num,HN,hM3⟩
    case measure=>simp[intOf];omega
   ·have HT:Hid (Zb (((ZC ts ts.length i).take (m+1)).filter (fun k=>decide (ZD ts (mark S i) k=0)))=Zb (((ZC ts ts.length i).take m).filter (fun k=>decide (ZD ts (mark S i) k=0)))):=by
     show _=_
     rw[htake.out,List.filter_append];simp[hz]
    have hz2:(((ZD ts (mark S i) y:Nat):Int)==0)=false:=by simp;omega
    clear htake hz
    generalize ZD ts (mark S i) y=my at *
    generalize Zb (((ZC ts ts.length i).take m).filter (fun k=>decide (ZD ts (mark S i) k=0)))=l at *
    go_wp2
    go_roundw
    case rel=>exact⟨m+1,by omega,by go_num,by rw[HT.out];exact hR1,hM2⟩
    case measure=>simp[intOf];omega
  ·have hke:m=(ZC ts ts.length i).length:=by omega
   have hml':¬(m:Int)<((ZC ts ts.length i).length:Int):=by omega
   have HE:Hid (RowI w.heap.size wr (.slice ra (Zb (((ZC ts ts.length i).take m).filter (fun k=>decide (ZD ts (mark S i) k=0)))).length rc) (Zb (newL ts S i))):=by
    have:=hR.out
    rw[hke,List.take_length]at this ⊢
    exact this
   have HJ2:Hid (JnT J M A D C ts (mark S i) (wr.setCell ⟨A,i,none⟩ (.slice none 0 0))):=RelM.jnT HG.out hi HSI.out HJ.out (by rw[←hke];exact hM.out)
   have hfA:wr.frozen? ⟨A,i,none⟩=false:=(World.frozen?_of_block (a:=⟨A,i,none⟩) (hM.out.kx.block A HJ.out.ltA (by show A≠M;omega))).trans (by obtain⟨av2,ha2⟩:=HJ.out.aft;exact ha2.row.frozen i)
   have hcA2:wr.cell? ⟨A,i,none⟩=some (.slice la (ZC ts ts.length i).length lc):=(qq9 (a:=⟨A,i,none⟩) (hM.out.kx.block A HJ.out.ltA (by show A≠M;omega))).trans hcA
   have HK:Hid (Kx (fun k=>k=M∨k=A) w (wr.setCell ⟨A,i,none⟩ (.slice none 0 0))):=by
    show Kx (fun k=>k=M∨k=A) w _
    exact Kx.set (X:=fun k=>k=M∨k=A) (M:=A) ⟨hM.out.kx.os,hM.out.kx.tape,hM.out.kx.output,hM.out.kx.size,fun k hk hX=>hM.out.kx.block k hk (fun e=>hX (Or.inl e))⟩ (Or.inl (Or.inr rfl)) _ _
   have HE2:Hid (RowI w.heap.size (wr.setCell ⟨A,i,none⟩ (.slice none 0 0)) (.slice ra (Zb (((ZC ts ts.length i).take m).filter (fun k=>decide (ZD ts (mark S i) k=0)))).length rc) (Zb (newL ts S i))):=
    HE.out.of_blocks (fun b hb=>qq5 _ _ _ _ (by show b≠A;have:=(HE.out.low hb).1;have:=HJ.out.ltA;omega))
   have HSA:Hid (SubA A w (wr.setCell ⟨A,i,none⟩ (.slice none 0 0))):=SubA.set (hM.out.kx.block A HJ.out.ltA (by show A≠M;omega)) hcA2
   clear hR hke hM HE hc0 hcA hc1 HL
   generalize Zb (((ZC ts ts.length i).take m).filter (fun k=>decide (ZD ts (mark S i) k=0)))=l at *
   go_wp2
   go_ret
   exact⟨⟨_,rfl,HE2.out⟩,HJ2.out,HK.out,HSA.out⟩
theorem Jn.put{J M A D C:Nat}{ts:Zl}{S:Nat→Bool}{i m:Nat}{w w1:World}{D':DataW Unit}(h:JnT J M A D C ts S w)(hi:i<ts.length)(hS:S i=false)
  (hown:w.ownsMap Tryz.prog 3 (unitElem (H:=Unit)) D m D') (hs:Maps.size D'=m) (hm:m+unseen S ts.length=ts.length) (hD:∀x:Nat,x<ts.length→Maps.has D' (.int .i64 x)=S x)
  (hown1:w1.ownsMap Tryz.prog 3 (unitElem (H:=Unit)) D (m+1) (D'.put (.int .i64 i) (.agg []))) (hg:w.grownBy w1 (some D)) :
  Jn J M A D C ts.length (ZD ts S) (fun k=>if S k then [] else ZC ts ts.length k) (mark S i) w1:=by
 obtain⟨av,ha⟩:=Jn.aft h
 obtain⟨n1,n2,n3,n4,n5,n6⟩:=Jn.ne h
 obtain⟨l1,l2,l3,l4⟩:=Jn.lt h
 have keep:∀k,k<w.heap.size→k≠D→w1.heap[k]?=w.heap[k]?:=fun k hk hne=>hg.block k hk (fun e=>hne (Option.some.inj e))
 have hu:=yo S ts.length i hi hS
 refine⟨(Jn.row h).of_block (keep J (Jn.row h).lt n3),(Jn.miss h).of_block (keep M (Jn.miss h).lt n5),⟨av,ha.of_blocks (keep A ha.row.lt n6) (fun k hk hl=>keep k hl (by omega))⟩,⟨m+1,_,hown1,?_,by omega,fun x hx=>?_⟩,Jn.lt h,Jn.ne h,Jn.le h⟩
 ·rw[Maps.size_put (hown.tidy keyed3),hD i hi,hS,hs];rfl
 ·by_cases e:x=i
  ·subst e
   rw[Maps.has_put_same hown.isMap (by trivial)];simp[mark]
  ·rw[Maps.has_put_other (by intro h;injection h with _ h;omega),hD x hx];simp[mark,e]
set_option maxRecDepth 100000 in
set_option maxHeartbeats 2000000 in
theorem zga(J M A D C:Nat)(ts:Zl)(hg:Good ts)(S:Nat→Bool)(i:Nat)(w:World)(h:JnT J M A D C ts S w)(hi:i<ts.length)(hr:ZE ts S i=true) :
  Calls Tryz.prog 183 #[.pointer (some ⟨J,0,none⟩),.int .i64 i] w fun e w'=>(∃v,e=.returned (.tuple #[v,.nilIface])∧RowI w.heap.size w' v (Zb (newL ts S i)))∧JnT J M A D C ts (mark S i) w'∧Kx (fun k=>k=M∨k=A∨k=D) w w'∧SubA A w w':=by
 have hs:=zfp J M A D C ts S i w h hi
 rw[zcc hr]at hs
 have HJ:Hid (JnT J M A D C ts S w):=h
 have HS:Hid (S i=false):=(zE hr).1
 have h30:=hg.le
 have hkey:=qO (y:=i) (by omega)
 clear h hr
 go_enter Tryz.func183,Tryz.ntmps183
 go_wp2_with fail
 refine hs.mono ?_
 clear hs
 rintro e w1 ⟨rfl,hb1⟩
 have hJ1:=Jn.later HJ.out hb1
 have HJ1:Hid (JnT J M A D C ts S w1):=hJ1
 have hc2:=hJ1.c2
 obtain⟨m,D',hown,hsz,hm,hD⟩:=hJ1.done
 have HD:Hid (Maps.size D'=m∧m+unseen S ts.length=ts.length∧∀x:Nat,x<ts.length→Maps.has D' (.int .i64 x)=S x):=⟨hsz,hm,hD⟩
 have hml:m<maxLen:=by unfold maxLen;omega
 clear hJ1 hsz hm hD
 go_wp2_with (at_mapUpdate;refine wpList_mapUpdate_own _ rfl _ _ _ 104 rfl 3 196 keyed3 Tryz.underlying104 (unitElem (H:=Unit)) D m D' rfl hown hml _ _ _ rfl rfl hkey (.agg []) [] unitElem_mk ?_;intro w2 hown2 hgrow2)
 have hJ2:=Jn.put HJ1.out hi HS.out hown HD.out.1 HD.out.2.1 HD.out.2.2 hown2 hgrow2
 have hrel:=zdU J M A D C ts hg S i w2 hi HS.out hJ2
 have hs2:=hgrow2.size
 have hs1:=hb1.size
 have hk2:Kx (fun k=>k=M∨k=A∨k=D) w w2:=(Below.kx hb1).trans (Y:=fun k=>k=D) ⟨hgrow2.os,hgrow2.tape,hgrow2.output,hgrow2.size,fun k hk hX=>hgrow2.block k hk (fun e=>hX (Option.some.inj e))⟩ (fun j e=>Or.inl (Or.inr (Or.inr e)))
 have HK2:Hid (Kx (fun k=>k=M∨k=A∨k=D) w w2):=hk2
 have HA2:Hid (w2.heap[A]?=w.heap[A]?):=(hgrow2.block A HJ1.out.ltA (fun e=>HJ1.out.ne.2.2.2.2.2 (Option.some.inj e))).trans (hb1.block A (Jn.ltA HJ.out))
 clear hJ2 hown hown2 hgrow2 hc2 hk2 hkey hb1
 go_wp2_with fail
 refine hrel.mono ?_
 clear hrel
 rintro e w3 ⟨⟨v,rfl,hv⟩,hJ3,hk3,hsa⟩
 have HSA:Hid (SubA A w w3):=fun k v hv=>(hsa k v hv).imp id (fun h=>(qq9 (a:=⟨A,k,none⟩) HA2.out).symm.trans h)
 clear hsa
 obtain⟨va,vc,rfl⟩:=hv.shape
 have HV:Hid (RowI w.heap.size w3 (.slice va (Zb (newL ts S i)).length vc) (Zb (newL ts S i))):=hv.mono (by omega)
 have HK3:Hid (Kx (fun k=>k=M∨k=A∨k=D) w w3):=HK2.out.trans hk3 (fun j e=>Or.inl (by rcases e with e|e;{ exact Or.inl e };{ exact Or.inr (Or.inl e) }))
 clear hv hk3
 generalize (Zb (newL ts S i)).length=n at *
 go_wp2
 go_ret2
 exact⟨⟨.slice va n vc,rfl,HV.out⟩,hJ3,HK3.out,HSA.out⟩
end
end Go.Proofs.YtlfbdjeojgbniaaGreatDoor

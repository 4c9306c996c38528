import Derived.Test.YtlfbdjeojgbniaaGreatDoorRan04
namespace Go.Proofs.YtlfbdjeojgbniaaGreatDoor
section
open Go.RowKit
def has(l:List Nat)(x:Nat):Bool:=l.contains x
theorem za0(l:List Nat)(y:Nat):mark (has l) y=has (l++[y]):=by
 funext x
 unfold mark has
 by_cases e:x=y
 ·subst e;simp
 ·simp[e]
def Ords(ts:Zl)(ord:List Nat):Prop:=∀m,m<ord.length→ZP ts (has (ord.take m)) (ord.getD m 0:Nat)
def Z9(ts:Zl)(ord:List Nat):Prop:=Ords ts ord∧ZP ts (has ord) (-1)
theorem Ords.nil(ts:Zl):Ords ts []:=fun m hm=>by simp at hm
theorem Ords.snoc{ts:Zl}{ord:List Nat}{y:Nat}(h:Ords ts ord)(hn:ZP ts (has ord) (y:Nat)):Ords ts (ord++[y]):=by
 intro m hm
 simp at hm
 by_cases e:m=ord.length
 ·subst e;simpa using hn
 ·have hlt:m<ord.length:=by omega
  have:=h m hlt
  rw[List.take_append_of_le_length (by omega),show(ord++[y]).getD m 0=ord.getD m 0 by simp[List.getElem?_append_left hlt]]
  exact this
theorem ZP.pos{ts:Zl}{T:Nat→Bool}{r:Int}(h:ZP ts T r)(hr:0≤r):∃k:Nat,r=k∧k<ts.length∧T k=false:=by
 cases h using ZP.elim with
 | some k hk _ hf=>exact⟨k,rfl,hk,by unfold Yy at hf;simp at hf;exact hf.1⟩
 | none=>omega
theorem ZP.neg{ts:Zl}{T:Nat→Bool}{r:Int}(h:ZP ts T r)(hr:¬0≤r):r=-1:=by
 cases h using ZP.elim with
 | some k=>omega
 | none=>rfl
def Zb(l:List Nat):List Int:=l.map (fun (k:Nat)=>(k:Int))
theorem zd(l:List Nat):(Zb l).length=l.length:=by simp[Zb]
theorem zL(l:List Nat)(k:Nat):(Zb l).getD k 0=((l.getD k 0:Nat):Int):=by
 unfold Zb
 by_cases h:k<l.length
 ·simp[h]
 ·simp[List.getElem?_eq_none (Nat.le_of_not_lt h)]
theorem Zc.ok{ts:Zl}{p q:Int}(h:Zc ts p q)(hq:q=0):p=0∧ts.length≤30∧(∀j,j<ts.length→ZJ ts j=0)∧∀j,j<ts.length→¬Zs ts j j:=by
 cases h using Zc.elim with
 | full=>omega
 | task k _ _ _ h=>exact absurd hq h
 | ring=>omega
 | none h1 h2 h3=>exact⟨rfl,h1,h2,h3⟩
theorem jx{w:World}{base:Nat}{v:Value}{ord:List Nat}(h:w.ownsRow base 3 1 v ord.length (ord.map natV))(hl:ord.length*8≤140737488351232):Z0 w v (Zb ord):=by
 refine⟨by rw[zd];exact hl,?_⟩
 rw[zd]
 rcases h.2 with⟨hv,h0⟩|⟨g,cap,cur,hv,hg,hh,hn,hcap,hsz,htake⟩
 ·exact⟨none,0,by rw[hv,h0],Or.inl (by rw[List.eq_nil_of_length_eq_zero h0];rfl)⟩
 ·refine⟨some ⟨g,0,none⟩,cap,hv,?_⟩
  right
  refine⟨g,0,rfl,lt_of_block hh,fun k hk=>?_⟩
  subst hv
  have:=World.ownsRow.cellAt h k (by omega)
  rw[Nat.zero_add,this,zL]
  simp[natV,hk]
theorem ZU.later{N n:Nat}{w wr w':World}{s6:Value}{S:Nat→Bool}{st:List Nat}(h:ZU N n w wr s6 S st)(hb:Below wr.heap.size wr w'):ZU N n w w' s6 S st:={
 own:=h.own.kept (row:=none) ⟨hb.os,hb.tape,hb.output,hb.size,fun k hk _=>hb.block k hk⟩ (by cases s6.ownBlock <;> simp)
 shape:=h.shape
 row:=h.row.of_block (hb.block N h.row.lt)
 below:=h.below.trans (hb.mono (Nat.le_of_lt h.row.lt))
 }
theorem ZU.bools{N n:Nat}{w wr:World}{s6:Value}{S:Nat→Bool}{st:List Nat}(h:ZU N n w wr s6 S st):Yl wr (.slice (some ⟨N,0,none⟩) n n) n S:=
 ⟨N,0,n,rfl,h.row.lt,fun k hk=>by rw[Nat.zero_add];exact h.row.cell hk⟩
theorem ZU.startOrder(w:World)(n:Nat)(hn:n≤1000000000):ZU w.heap.size n w ((w.alloc (.cells (madeCells #[.bool false] n) 4)).alloc (.cells (madeCells #[.int .i64 0] n) 3)) (.slice (some ⟨w.heap.size+1,0,none⟩) 0 n) (has []) []:={
 own:=by
  have h:=World.ownsRow_made (base:=w.heap.size+1) (e:=3) (size:=1) (w.alloc (.cells (madeCells #[.bool false] n) 4)) (madeCells #[.int .i64 0] n) n (by simp) (by unfold maxLen;omega) (by rw[size_madeCells];omega)
  simpa using h
 shape:=⟨_,_,rfl⟩
 row:=((World.rowIs_made w (.bool false) n 4).congr (fun k _=>by simp[has])).alloc _
 below:=((qq4 _ _).alloc (qq1 _) _).alloc (by simp) _
 }
set_option maxRecDepth 100000 in
set_option maxHeartbeats 4000000 in
theorem zgz(v:Value)(ts:Zl)(w:World)(hp:Zf w v ts) :
  Calls Tryz.prog 180 #[v] w fun e w'=>(∃p q,Zc ts p q∧((q≠0∧e=.returned (.tuple #[.slice none 0 0,errV q]))∨(q=0∧∃ord ov,e=.returned (.tuple #[ov,.nilIface])∧Z9 ts ord∧Z0 w' ov (Zb ord))))∧Below w.heap.size w w':=by
 have HP:Hid (Zf w v ts):=hp
 have hck:=yY v ts w hp
 obtain⟨hl,a,c,rfl,hp⟩:=hp
 clear hp
 have hmk:=fun wx=>run_make_row' (P:=Tryz.prog) 84 4 (.bool false) 1 Tryz.underlying84 Tryz.info4 rfl .i64 .i64 ts.length (by omega) (by omega) wx
 obtain⟨i3,hi3,hz0,hz1,hz2⟩:=info_parts Tryz.info3
 have hmo:∀wx:World,(Instr.makeSlice 73 (.int .i64 0) (.int .i64 (ts.length:Int))).run Tryz.prog wx=.ok (.slice (some ⟨wx.heap.size,0,none⟩) 0 ts.length) (wx.alloc (.cells (madeCells #[.int .i64 0] ts.length) 3)):=by
  intro wx
  have hr:=run_make (P:=Tryz.prog) wx 73 3 i3 (.int .i64 0) Tryz.underlying73 hi3 hz0 .i64 .i64 0 ts.length (by omega) (by omega) (by rw[hz2];omega) (by omega)
  simp only[hz1,Int.toNat_zero,Int.toNat_natCast,Nat.mul_one]at hr
  exact hr
 go_enter Tryz.func180,Tryz.ntmps180
 go_wp2_with fail
 refine hck.mono ?_
 rintro e w1 ⟨⟨p,q,rfl,hc⟩,hb1⟩
 clear hck
 by_cases hq:q=0
 ·subst hq
  rw[zI]
  have hrng:Hid (ZA ts):=yh (hc.ok rfl).2.2.1
  have HC:Hid (Zc ts p 0):=hc
  have hc':=hc
  clear hc
  have h30:ts.length≤30:=(hc'.ok rfl).2.1
  clear hc'
  have hm0:=ZU.startOrder w1 ts.length (by omega)
  have hb2:Below w.heap.size w ((w1.alloc (.cells (madeCells #[.bool false] ts.length) 4)).alloc (.cells (madeCells #[.int .i64 0] ts.length) 3)):=hb1.trans (hm0.below.mono hb1.size)
  have hnx:=zdF _ _ ts (has []) _ (HP.out.later hb2) hrng.out hm0.bools
  go_wp2_with (go_at_call 202;refine hnx.mono ?_;rintro e w3 ⟨⟨r,rfl,hr⟩,hb3⟩)
  have HM:Hid (ZU w1.heap.size ts.length w1 w3 (.slice (some ⟨w1.heap.size+1,0,none⟩) 0 ts.length) (has []) []):=hm0.later hb3
  clear hm0 hnx hb2 hb3
  have HX:Hid (ZP ts (has []) r):=hr
  clear hr
  go_loopg [7,8] (ts.length) (fun gg s7 s8 wr=>∃ord r,Hid (ZU w1.heap.size ts.length w1 wr s7 (has ord) ord)∧s8=.int .i64 r∧Hid (Ords ts ord)∧Hid (ZP ts (has ord) r)∧unseen (has ord) ts.length≤gg∧ord.length+unseen (has ord) ts.length≤ts.length)
  case atStart=>exact⟨[],r,HM,rfl,Ords.nil ts,HX,ye _ _,by have:=ye (has []) ts.length;simpa using this⟩
  case round=>
   clear HM HX
   obtain⟨ord,r,hm,rfl,ho,hn,hg,hlen⟩:=hrel
   obtain⟨g,cap,rfl⟩:=hm.out.shape
   by_cases hr:0≤r
   ·obtain⟨k,rfl,hk,hTk⟩:=hn.out.pos hr
    have hck:=hm.out.row.cell hk
    have hfk:=hm.out.row.frozen k
    have hmem:=(hm.out.seenSet k).alloc (.cells #[.int .i64 k] 3)
    have hu:=yo (has ord) ts.length k hk hTk
    go_wp2_with (first|(go_at_call 202;fail)|(at_builtin;refine wpList_append_own _ rfl (.tmp 34) (.tmp 36) 73 rfl (w1.heap.size+1) 3 i3 (.int .i64 0) 1 8 Tryz.underlying73 hi3 hz0 hz1 hz2 rfl (by decide) _ ord.length (ord.map natV) rfl hmem.own ⟨wr.heap.size,0,none⟩ 1 1 [.int .i64 k] rfl rfl ?c1 ?c2 ?c3 ?c4 ?c5 ?_))
    case c1=>
     have hone:=cell_one_new (wr.setCell ⟨w1.heap.size,k,none⟩ (.bool true)) (.int .i64 k) 3
     simpa using hone
    case c2=>intro u hu;simp at hu;subst hu;rfl
    case c3=>unfold maxLen;omega
    case c4=>omega
    case c5=>have:=hm.out.row.lt;simp;omega
    intro v' w4 hown' hgrow _
    have hmem':=hmem.pushed hown' hgrow
    rw[za0]at hmem' hu
    have hb4:Below w.heap.size w w4:=hb1.trans (hmem'.below.mono hb1.size)
    have hnx:=zdF _ _ ts (has (ord++[k])) w4 (HP.out.later hb4) hrng.out hmem'.bools
    have HM4:Hid (ZU w1.heap.size ts.length w1 w4 v' (has (ord++[k])) (ord++[k])):=hmem'
    clear hown' hgrow hmem hck hfk hmem' hb4 hm
    go_wp2_with (go_at_call 202;refine hnx.mono ?_;rintro e w5 ⟨⟨r,rfl,hr5⟩,hb5⟩)
    go_roundg (unseen (has (ord++[k])) ts.length)
    case measure=>omega
    case rel=>exact⟨ord++[k],r,HM4.out.later hb5,rfl,ho.out.snoc hn.out,hr5,qq1 _,by simp;omega⟩
   ·have hrn:=hn.out.neg hr
    subst hrn
    go_wp2
    go_ret2
    exact⟨⟨p,0,HC.out,Or.inr ⟨rfl,ord,_,rfl,⟨ho.out,hn.out⟩,jx hm.out.own (by omega)⟩⟩,hb1.trans (hm.out.below.mono hb1.size)⟩
 ·have hev:=zu hq
  rw[hev]
  have HV:Hid (errV q=.iface 97 (.int .i64 q)):=hev
  clear hev
  go_wp2
  go_ret2
  exact⟨⟨p,q,hc,Or.inl ⟨hq,by rw[HV.out];rfl⟩⟩,hb1⟩
end
section
theorem Zs.trans{ts:Zl}{x y z:Nat}(h:Zs ts x y)(k:Zs ts y z):Zs ts x z:=by
 induction k using Zs.ind with
 | one hn=>exact Zs.more h hn
 | more _ hn ih=>exact Zs.more ih hn
theorem zfz(S T:Nat→Bool)(n:Nat)(h:∀x,T x=true→S x=true):unseen S n≤unseen T n:=by
 induction n with
 | zero=>exact qq1 _
 | succ n ih=>
  unfold unseen
  cases hT:T n with
  | true=>simp[h n hT];exact ih
  | false=>cases S n <;> simp <;> omega
theorem zg8(S T:Nat→Bool)(n y:Nat)(h:∀x,T x=true→S x=true)(hy:y<n)(hS:S y=true)(hT:T y=false):unseen S n<unseen T n:=by
 induction n with
 | zero=>omega
 | succ n ih=>
  unfold unseen
  by_cases e:n=y
  ·subst e
   have:=zfz S T n h
   rw[hS,hT];simp;omega
  ·have:=ih (by omega)
   cases hT:T n with
   | true=>simp[h n hT];exact this
   | false=>cases S n <;> simp <;> omega
theorem zbx(ts:Zl)(hno:∀j,j<ts.length→¬Zs ts j j)(U:Nat→Prop)(hU:∀x,U x→x<ts.length∧∃y,Need ts x y∧U y):∀x,¬U x:=by
 classical
 have key:∀c x,U x→ts.length-unseen (fun y=>decide (Zs ts x y)) ts.length=c→False:=by
  intro c
  induction c using Nat.strongRecOn with
  | _ c ih=>
   intro x hx hc
   obtain⟨hxl,y,hn,hy⟩:=hU x hx
   have hyl:=(hU y hy).1
   have hlt:unseen (fun z=>decide (Zs ts x z)) ts.length<unseen (fun z=>decide (Zs ts y z)) ts.length:=by
    refine zg8 _ _ ts.length y (fun z hz=>?_) hyl (by simpa using Zs.one hn) (by simpa using hno y hyl)
    simp at hz ⊢
    exact(Zs.one hn).trans hz
   have h1:=ye (fun z=>decide (Zs ts x z)) ts.length
   have h2:=ye (fun z=>decide (Zs ts y z)) ts.length
   exact ih (ts.length-unseen (fun z=>decide (Zs ts y z)) ts.length) (by omega) y hy rfl
 exact fun x hx=>key _ x hx rfl
theorem Ords.init{ts:Zl}{ord:List Nat}{y:Nat}(h:Ords ts (ord++[y])):Ords ts ord∧ZP ts (has ord) (y:Nat):=by
 constructor
 ·intro m hm
  have:=h m (by simp;omega)
  rw[List.take_append_of_le_length (by omega),jY _ _ _ _ hm]at this
  exact this
 ·have:=h ord.length (by simp)
  simpa using this
theorem Ords.count{ts:Zl}:∀{ord:List Nat},Ords ts ord→ord.length+unseen (has ord) ts.length=ts.length:=by
 have key:∀n (ord:List Nat),ord.length=n→Ords ts ord→ord.length+unseen (has ord) ts.length=ts.length:=by
  intro n
  induction n with
  | zero=>
   intro ord hl _
   have:=List.eq_nil_of_length_eq_zero hl
   subst this
   have:∀m,unseen (has []) m=m:=fun m=>by
    induction m with
    | zero=>rfl
    | succ m ih=>unfold unseen;rw[ih];simp[has]
   simp[this]
  | succ n ih=>
   intro ord hl ho
   rcases List.eq_nil_or_concat ord with rfl|⟨o,y,rfl⟩
   ·simp at hl
   rw[List.concat_eq_append]at *
   obtain⟨h1,h2⟩:=ho.init
   obtain⟨k,hk,hkl,hT⟩:=h2.pos (by omega)
   have hky:y=k:=by omega
   subst hky
   have hu:=yo (has o) ts.length y hkl hT
   rw[za0]at hu
   have:=ih o (by simpa using hl) h1
   simp
   omega
 exact fun {ord} h=>key _ ord rfl h
theorem zaw(S:Nat→Bool)(n:Nat)(h:∀k,k<n→S k=true):unseen S n=0:=by
 induction n with
 | zero=>rfl
 | succ n ih=>unfold unseen;rw[ih (fun k hk=>h k (by omega)),h n (by omega)];rfl
theorem Z9.all{ts:Zl}{ord:List Nat}(h:Z9 ts ord)(hr:ZA ts)(hno:∀j,j<ts.length→¬Zs ts j j):∀k,k<ts.length→has ord k=true:=by
 intro k hk
 have hnone:∀j,j<ts.length→Yy ts (has ord) j=false:=by
  generalize hm:(-1:Int)=m at *
  have h2:=h.2
  rw[hm]at h2
  cases h2 using ZP.elim with
  | some k=>omega
  | none hn=>exact hn
 have:=zbx ts hno (fun x=>x<ts.length∧has ord x=false) (fun x ⟨hx,hh⟩=>by
  refine⟨hx,?_⟩
  have hf:=hnone x hx
  unfold Yy at hf
  rw[hh]at hf
  simp only[Bool.not_false,Bool.true_and,Bool.not_eq_false']at hf
  obtain⟨y,hy,hT⟩:=List.any_eq_true.1 hf
  have hb:=hr x hx y hy
  refine⟨y.toNat,by unfold Need;rw[Int.toNat_of_nonneg hb.1];exact hy,by omega,by simpa using hT⟩) k
 cases hh:has ord k with
 | true=>rfl
 | false=>exact absurd ⟨hk,hh⟩ this
theorem Z9.length{ts:Zl}{ord:List Nat}(h:Z9 ts ord)(hr:ZA ts)(hno:∀j,j<ts.length→¬Zs ts j j):ord.length=ts.length:=by
 have:=h.1.count
 rw[zaw _ _ (h.all hr hno)]at this
 omega
end
section
def wkOf(ts:Zl)(x:Nat):Int:=(ts.getD x (0,[])).1
def nd(ts:Zl)(x k:Nat):Nat:=((Za ts x).getD k 0).toNat
def upd(f:Nat→Int)(x:Nat)(v:Int):Nat→Int:=fun y=>if y=x then v else f y
theorem yE(f:Nat→Int)(x:Nat)(v:Int):upd f x v x=v:=by simp[upd]
theorem zq(f:Nat→Int){x y:Nat}(v:Int)(h:y≠x):upd f x v y=f y:=by simp[upd,h]
theorem zik(f:Nat→Int)(x:Nat):upd f x (f x)=f:=by
 funext y
 by_cases h:y=x
 ·subst h;simp[upd]
 ·simp[upd,h]
def workTo(ts:Zl):Nat→Int
 | 0=>0
 | k+1=>workTo ts k+wkOf ts k
def Ya(T:Nat→Int):Nat→Int
 | 0=>0
 | k+1=>max (Ya T k) (T k)
theorem zcB(T:Nat→Int)(n:Nat):0≤Ya T n:=by
 induction n with
 | zero=>exact Int.le_refl _
 | succ n ih=>unfold Ya;omega
theorem zhG(T:Nat→Int)(n:Nat)(b:Int)(h0:0≤b)(h:∀x,x<n→T x≤b):Ya T n≤b:=by
 induction n with
 | zero=>exact h0
 | succ n ih=>
  unfold Ya
  have:=ih (fun x hx=>h x (by omega))
  have:=h n (by omega)
  omega
def YS(ts:Zl)(x:Nat)(R:Nat→Int):Nat→Nat→Int
 | 0=>R
 | k+1=>upd (YS ts x R k) x (max (YS ts x R k x) (YS ts x R k (nd ts x k)+wkOf ts (nd ts x k)))
def Yn(ts:Zl)(ord:List Nat):Nat→Nat→Int
 | 0=>fun _=>0
 | m+1=>YS ts (ord.getD m 0) (Yn ts ord m) (Za ts (ord.getD m 0)).length
def ZF(ts:Zl)(x:Nat)(T:Nat→Int):Nat→Nat→Int
 | 0=>upd T x (T x+wkOf ts x)
 | k+1=>upd (ZF ts x T k) (nd ts x k) (max (ZF ts x T k (nd ts x k)) (ZF ts x T k x))
def ZK(ts:Zl)(ord:List Nat):Nat→Nat→Int
 | 0=>fun _=>0
 | m+1=>ZF ts (ord.getD (ord.length-1-m) 0) (ZK ts ord m) (Za ts (ord.getD (ord.length-1-m) 0)).length
structure YE (ts:Zl) (ord:List Nat):Prop where
 len:ord.length=ts.length
 small:ts.length≤30
 wk:∀x,x<ts.length→1≤wkOf ts x∧wkOf ts x≤20
 rng:ZA ts
 lt:∀m,m<ord.length→ord.getD m 0<ts.length
 new:∀m,m<ord.length→ord.getD m 0∉ord.take m
 nds:∀m,m<ord.length→∀y,Need ts (ord.getD m 0) y→y∈ord.take m
 all:∀x,x<ts.length→x∈ord
theorem zaH{ts:Zl}(hr:ZA ts){x y:Nat}(hx:x<ts.length)(h:Need ts x y):y<ts.length:=by
 have:=hr x hx _ h;omega
theorem xe{ts:Zl}(hr:ZA ts){x k:Nat}(hx:x<ts.length)(hk:k<(Za ts x).length):Need ts x (nd ts x k):=(xU hr hx hk).2.1
theorem za2{ts:Zl}{x y:Nat}(h:Need ts x y):∃k,k<(Za ts x).length∧nd ts x k=y:=by
 obtain⟨j,hj,he⟩:=List.getElem_of_mem h
 refine⟨j,hj,?_⟩
 unfold nd
 rw[qq6,qq7 hj]
 simp[he]
theorem zbH{ord:List Nat}{m x:Nat}(hm:m<ord.length):x∈ord.take (m+1)↔x∈ord.take m∨x=ord.getD m 0:=by
 rw[qq8 hm,qq6,qq7 hm,List.mem_append,List.mem_singleton]
 rfl
structure XW (ts:Zl) (ord:List Nat) (m:Nat) (R:Nat→Int):Prop where
 zero:∀x,x∉ord.take m→R x=0
 low:∀x,0≤R x∧R x≤20*m
 up:∀x,x∈ord.take m→∀y,Need ts x y→R y+wkOf ts y≤R x
 eq:∀x,x∈ord.take m→R x=0∨∃y,Need ts x y∧R x=R y+wkOf ts y
structure Qm (ts:Zl) (x m k:Nat) (R R':Nat→Int):Prop where
 other:∀y,y≠x→R' y=R y
 low:0≤R' x∧R' x≤20*(m+1)
 up:∀j,j<k→R (nd ts x j)+wkOf ts (nd ts x j)≤R' x
 eq:R' x=0∨∃j,j<k∧R' x=R (nd ts x j)+wkOf ts (nd ts x j)
theorem zhW{ts:Zl}{ord:List Nat}{m:Nat}(hd:YE ts ord)(hm:m<ord.length)(h:XW ts ord m (Yn ts ord m)) :
  ∀k,k≤(Za ts (ord.getD m 0)).length→Qm ts (ord.getD m 0) m k (Yn ts ord m) (YS ts (ord.getD m 0) (Yn ts ord m) k):=by
 intro k
 have hx:=hd.lt m hm
 have hnew:=hd.new m hm
 have hnds:=hd.nds m hm
 generalize ord.getD m 0=x at *
 induction k with
 | zero=>
  intro _
  have h0:=h.zero x hnew
  exact⟨fun y _=>rfl,by unfold YS;rw[h0];omega,fun j hj=>by omega,Or.inl h0⟩
 | succ k ih=>
  intro hk
  have hi:=ih (by omega)
  have hn:=xe hd.rng hx (show k<(Za ts x).length by omega)
  have hne:nd ts x k≠x:=fun e=>hnew (by have:=hnds _ hn;rwa [e]at this)
  have hw:=hd.wk _ (zaH hd.rng hx hn)
  have hl:=h.low (nd ts x k)
  have ho:=hi.other _ hne
  have hxl:=hi.low
  have e:YS ts x (Yn ts ord m) (k+1) x=max (YS ts x (Yn ts ord m) k x) (Yn ts ord m (nd ts x k)+wkOf ts (nd ts x k)):=by
   rw[YS,yE,ho]
  refine⟨fun y hy=>?_,?_,fun j hj=>?_,?_⟩
  ·rw[YS,zq _ _ hy];exact hi.other y hy
  ·rw[e];omega
  ·rw[e]
   by_cases ej:j=k
   ·subst ej;omega
   ·have:=hi.up j (by omega);omega
  ·rw[e]
   by_cases hc:YS ts x (Yn ts ord m) k x≤Yn ts ord m (nd ts x k)+wkOf ts (nd ts x k)
   ·exact Or.inr ⟨k,by omega,by omega⟩
   ·rcases hi.eq with h1|⟨j,hj,h1⟩
    ·exact Or.inl (by omega)
    ·exact Or.inr ⟨j,by omega,by omega⟩
theorem zhV{ts:Zl}{ord:List Nat}(hd:YE ts ord):∀m,m≤ord.length→XW ts ord m (Yn ts ord m):=by
 intro m
 induction m with
 | zero=>exact fun _=>⟨fun x _=>rfl,fun x=>⟨Int.le_refl _,by unfold Yn;omega⟩,fun x hx=>by simp at hx,fun x hx=>by simp at hx⟩
 | succ m ih=>
  intro hm
  have hI:=ih (by omega)
  have hM:=zhW hd (by omega) hI _ (qq1 _)
  have hx:=hd.lt m (by omega)
  have hnew:=hd.new m (by omega)
  have hnds:=hd.nds m (by omega)
  have hmem:∀z,z∈ord.take (m+1)↔z∈ord.take m∨z=ord.getD m 0:=fun z=>zbH (by omega)
  show XW ts ord (m+1) (YS ts (ord.getD m 0) (Yn ts ord m) (Za ts (ord.getD m 0)).length)
  generalize YS ts (ord.getD m 0) (Yn ts ord m) (Za ts (ord.getD m 0)).length=R' at *
  generalize Yn ts ord m=R at *
  generalize ord.getD m 0=x at *
  have old:∀z,z∈ord.take m→R' z=R z:=fun z hz=>hM.other z (fun e=>hnew (e▸hz))
  refine⟨fun z hz=>?_,fun z=>?_,fun z hz y hy=>?_,fun z hz=>?_⟩
  ·have hz':¬(z∈ord.take m∨z=x):=fun h=>hz ((hmem z).2 h)
   have h1:z≠x:=fun e=>hz' (Or.inr e)
   rw[hM.other z h1];exact hI.zero z (fun h=>hz' (Or.inl h))
  ·by_cases e:z=x
   ·subst e;have:=hM.low;omega
   ·rw[hM.other z e];have:=hI.low z;omega
  ·rcases(hmem z).1 hz with hz|rfl
   ·have hym:y∈ord.take m:=by
     obtain⟨j,hj,he⟩:=List.getElem_of_mem hz
     have hjl:j<ord.length:=by rw[List.length_take]at hj;omega
     have hjm:j<m:=by rw[List.length_take]at hj;omega
     have he2:ord.getD j 0=z:=by
      rw[qq6,qq7 hjl]
      simpa using he
     have:=hd.nds j hjl y (by rw[he2];exact hy)
     exact(List.take_subset_take_left ord (by omega)) this
    rw[old z hz,old y hym];exact hI.up z hz y hy
   ·have hym:=hnds y hy
    rw[old y hym]
    obtain⟨k,hk,rfl⟩:=za2 hy
    exact hM.up k hk
  ·rcases(hmem z).1 hz with hz|rfl
   ·rcases hI.eq z hz with h1|⟨y,hy,h1⟩
    ·exact Or.inl (by rw[old z hz];exact h1)
    ·refine Or.inr ⟨y,hy,?_⟩
     have hym:y∈ord.take m:=by
      obtain⟨j,hj,he⟩:=List.getElem_of_mem hz
      have hjl:j<ord.length:=by rw[List.length_take]at hj;omega
      have hjm:j<m:=by rw[List.length_take]at hj;omega
      have he2:ord.getD j 0=z:=by
       rw[qq6,qq7 hjl]
       simpa using he
      have:=hd.nds j hjl y (by rw[he2];exact hy)
      exact(List.take_subset_take_left ord (by omega)) this
     rw[old z hz,old y hym];exact h1
   ·rcases hM.eq with h1|⟨j,hj,h1⟩
    ·exact Or.inl h1
    ·have hn:=xe hd.rng hx hj
     exact Or.inr ⟨_,hn,by rw[old _ (hnds _ hn)];exact h1⟩
def Yj(ts:Zl)(S:List Nat)(x:Nat):Int:=if x∈S then wkOf ts x else 0
structure Qb (ts:Zl) (S:List Nat) (m:Nat) (T:Nat→Int):Prop where
 low:∀x,0≤T x∧T x≤20*m
 base:∀x,Yj ts S x≤T x
 up:∀k,k∈S→∀y,Need ts k y→Yj ts S y+T k≤T y
 eq:∀x,T x=Yj ts S x∨∃k,k∈S∧Need ts k x∧T x=Yj ts S x+T k
structure Qo (ts:Zl) (x k:Nat) (T T':Nat→Int):Prop where
 own:T' x=T x+wkOf ts x
 other:∀y,y≠x→(∀j,j<k→nd ts x j≠y)→T' y=T y
 at_:∀y,y≠x→(∃j,j<k∧nd ts x j=y)→T' y=max (T y) (T x+wkOf ts x)
theorem zic{ts:Zl}{x:Nat}{T:Nat→Int}(hself:∀j,j<(Za ts x).length→nd ts x j≠x) :
  ∀k,k≤(Za ts x).length→Qo ts x k T (ZF ts x T k):=by
 intro k
 induction k with
 | zero=>exact fun _=>⟨yE _ _ _,fun y hy _=>zq _ _ hy,fun y _ ⟨j,hj,_⟩=>by omega⟩
 | succ k ih=>
  intro hk
  have hi:=ih (by omega)
  have hne:=hself k (by omega)
  refine⟨?_,fun y hy hno=>?_,fun y hy ⟨j,hj,he⟩=>?_⟩
  ·rw[ZF,zq _ _ (Ne.symm hne)];exact hi.own
  ·rw[ZF,zq _ _ (fun e=>hno k (by omega) e.symm)];exact hi.other y hy (fun j hj=>hno j (by omega))
  ·by_cases e:nd ts x k=y
   ·subst e
    rw[ZF,yE,hi.own]
    by_cases hs:∃j,j<k∧nd ts x j=nd ts x k
    ·rw[hi.at_ _ hy hs];omega
    ·rw[hi.other _ hy (fun j hj he=>hs ⟨j,hj,he⟩)]
   ·have hjk:j<k:=by
     rcases Nat.lt_or_eq_of_le (Nat.le_of_lt_succ hj)with h|h
     ·exact h
     ·subst h;exact absurd he e
    rw[ZF,zq _ _ (fun h=>e h.symm)]
    exact hi.at_ y hy ⟨j,hjk,he⟩
theorem xm{ord:List Nat}{m:Nat}(h:m<ord.length):ord.getD m 0=ord[m]:=by
 rw[qq6,qq7 h];rfl
theorem YE.apart{ts:Zl}{ord:List Nat}(hd:YE ts ord){i j:Nat}(hi:i<j)(hj:j<ord.length):ord.getD i 0≠ord.getD j 0:=by
 intro e
 refine hd.new j hj ?_
 rw[←e,xm (by omega),List.mem_take_iff_getElem]
 exact⟨i,by omega,rfl⟩
theorem YE.not_later{ts:Zl}{ord:List Nat}(hd:YE ts ord){m y:Nat}(hy:y∈ord.take m):y∉ord.drop m:=by
 intro h
 obtain⟨i,hi,he⟩:=List.getElem_of_mem hy
 obtain⟨j,hj,he2⟩:=List.getElem_of_mem h
 rw[List.length_take]at hi
 rw[List.length_drop]at hj
 have h1:ord.getD i 0=y:=by rw[xm (by omega)];simpa using he
 have h2:ord.getD (m+j) 0=y:=by rw[xm (by omega)];simpa using he2
 exact hd.apart (i:=i) (j:=m+j) (by omega) (by omega) (h1.trans h2.symm)
theorem zib{ts:Zl}{ord:List Nat}(hd:YE ts ord):∀m,m≤ord.length→Qb ts (ord.drop (ord.length-m)) m (ZK ts ord m):=by
 intro m
 induction m with
 | zero=>
  intro _
  rw[Nat.sub_zero,List.drop_length]
  exact⟨fun x=>⟨Int.le_refl _,by unfold ZK;omega⟩,fun x=>by simp[Yj,ZK],fun k hk=>by simp at hk,fun x=>Or.inl (by simp[Yj,ZK])⟩
 | succ m ih=>
  intro hm
  have hI:=ih (by omega)
  have hp:ord.length-1-m<ord.length:=by omega
  have hx:=hd.lt _ hp
  have hnds:=hd.nds _ hp
  have hnew:=hd.new _ hp
  have hdrop:ord.drop (ord.length-(m+1))=ord.getD (ord.length-1-m) 0::ord.drop (ord.length-m):=by
   rw[xm hp,show ord.length-(m+1)=ord.length-1-m by omega,List.drop_eq_getElem_cons hp,show ord.length-1-m+1=ord.length-m by omega]
  have hnl:∀y,y∈ord.take (ord.length-1-m)→y∉ord.drop (ord.length-m):=fun y hy=>hd.not_later ((List.take_subset_take_left ord (by omega)) hy)
  have hxs:ord.getD (ord.length-1-m) 0∉ord.drop (ord.length-m):=by
   refine hd.not_later ?_
   rw[xm hp,List.mem_take_iff_getElem]
   exact⟨ord.length-1-m,by omega,rfl⟩
  have hself:∀j,j<(Za ts (ord.getD (ord.length-1-m) 0)).length→nd ts (ord.getD (ord.length-1-m) 0) j≠ord.getD (ord.length-1-m) 0:=fun j hj e=>by
   have:=hnds _ (xe hd.rng hx hj)
   rw[e]at this
   exact hnew this
  have hM:=zic (T:=ZK ts ord m) hself _ (qq1 _)
  have hw:=hd.wk _ hx
  rw[hdrop]
  show Qb ts _ (m+1) (ZF ts (ord.getD (ord.length-1-m) 0) (ZK ts ord m) (Za ts (ord.getD (ord.length-1-m) 0)).length)
  generalize ZF ts (ord.getD (ord.length-1-m) 0) (ZK ts ord m) (Za ts (ord.getD (ord.length-1-m) 0)).length=T' at *
  generalize ZK ts ord m=T at *
  generalize ord.drop (ord.length-m)=S at *
  generalize ord.getD (ord.length-1-m) 0=x at *
  have hnx:∀y,Need ts x y→y≠x∧y∉S:=fun y hy=>⟨fun e=>hnew (e▸hnds y hy),hnl y (hnds y hy)⟩
  have isNd:∀y,Need ts x y→∃j,j<(Za ts x).length∧nd ts x j=y:=fun y hy=>za2 hy
  have notNd:∀y,¬Need ts x y→∀j,j<(Za ts x).length→nd ts x j≠y:=fun y hy j hj e=>hy (e▸xe hd.rng hx hj)
  have hb0:Yj ts S x=0:=by simp[Yj,hxs]
  have hb1:Yj ts (x::S) x=wkOf ts x:=by simp[Yj]
  have hb2:∀y,y≠x→Yj ts (x::S) y=Yj ts S y:=fun y hy=>by simp[Yj,hy]
  have ge:∀y,y≠x→T y≤T' y:=fun y hy=>by
   by_cases h:Need ts x y
   ·rw[hM.at_ y hy (isNd y h)];omega
   ·rw[hM.other y hy (notNd y h)];exact Int.le_refl _
  have inS:∀k,k∈S→T' k=T k:=fun k hk=>hM.other k (fun e=>hxs (e▸hk)) (fun j hj e=>(hnx _ (xe hd.rng hx hj)).2 (by rw[e];exact hk))
  refine⟨fun y=>?_,fun y=>?_,fun k hk y hy=>?_,fun y=>?_⟩
  ·by_cases e:y=x
   ·subst e;rw[hM.own];have:=hI.low y;omega
   ·have h1:=hI.low y
    have h2:=hI.low x
    by_cases h:Need ts x y
    ·rw[hM.at_ y e (isNd y h)];omega
    ·rw[hM.other y e (notNd y h)];omega
  ·by_cases e:y=x
   ·subst e;rw[hM.own,hb1];have:=hI.low y;omega
   ·rw[hb2 y e];have:=hI.base y;have:=ge y e;omega
  ·rcases List.mem_cons.1 hk with rfl|hk
   ·obtain⟨h1,h2⟩:=hnx y hy
    rw[hb2 y h1,show Yj ts S y=0 by simp[Yj,h2],hM.own,hM.at_ y h1 (isNd y hy)];omega
   ·rw[inS k hk]
    have:=hI.up k hk y hy
    by_cases e:y=x
    ·subst e;rw[hM.own,hb1];omega
    ·rw[hb2 y e];have:=ge y e;omega
  ·by_cases e:y=x
   ·subst e
    rw[hM.own,hb1]
    rcases hI.eq y with h1|⟨k,hk,hn,h1⟩
    ·exact Or.inl (by omega)
    ·exact Or.inr ⟨k,by simp[hk],hn,by rw[inS k hk];omega⟩
   ·rw[hb2 y e]
    have keep:T' y=T y→T' y=Yj ts S y∨∃k,k∈x::S∧Need ts k y∧T' y=Yj ts S y+T' k:=fun h=>by
     rcases hI.eq y with h1|⟨k,hk,hn,h1⟩
     ·exact Or.inl (by omega)
     ·exact Or.inr ⟨k,by simp[hk],hn,by rw[inS k hk];omega⟩
    by_cases h:Need ts x y
    ·have hat:=hM.at_ y e (isNd y h)
     by_cases hc:T x+wkOf ts x≤T y
     ·exact keep (by omega)
     ·refine Or.inr ⟨x,by simp,h,?_⟩
      rw[show Yj ts S y=0 by simp[Yj,(hnx y h).2],hM.own];omega
    ·exact keep (hM.other y e (notNd y h))
structure Deep (ts:Zl) (R T:Nat→Int):Prop where
 wk:∀x,x<ts.length→1≤wkOf ts x∧wkOf ts x≤20
 rng:ZA ts
 rlow:∀x,0≤R x∧R x≤600
 rup:∀x,x<ts.length→∀y,Need ts x y→R y+wkOf ts y≤R x
 req:∀x,x<ts.length→R x=0∨∃y,Need ts x y∧R x=R y+wkOf ts y
 tlow:∀x,0≤T x∧T x≤600
 twk:∀x,x<ts.length→wkOf ts x≤T x
 tup:∀k,k<ts.length→∀y,Need ts k y→wkOf ts y+T k≤T y
 teq:∀x,x<ts.length→T x=wkOf ts x∨∃k,k<ts.length∧Need ts k x∧T x=wkOf ts x+T k
def Qd(ts:Zl)(ord:List Nat):Nat→Int:=Yn ts ord ord.length
def ZO(ts:Zl)(ord:List Nat):Nat→Int:=ZK ts ord ord.length
theorem YE.mem_lt{ts:Zl}{ord:List Nat}(hd:YE ts ord){x:Nat}(h:x∈ord):x<ts.length:=by
 obtain⟨i,hi,he⟩:=List.getElem_of_mem h
 have:=hd.lt i hi
 rwa [xm hi,he]at this
theorem YE.deep{ts:Zl}{ord:List Nat}(hd:YE ts ord):Deep ts (Qd ts ord) (ZO ts ord):=by
 have hR:=zhV hd _ (qq1 _)
 have hT:=zib hd _ (qq1 _)
 rw[Nat.sub_self,List.drop_zero]at hT
 have hl:=hd.len
 have hs:=hd.small
 have hb:∀x,x<ts.length→Yj ts ord x=wkOf ts x:=fun x hx=>by simp[Yj,hd.all x hx]
 refine⟨hd.wk,hd.rng,fun x=>?_,fun x hx y hy=>?_,fun x hx=>?_,fun x=>?_,fun x hx=>?_,fun k hk y hy=>?_,fun x hx=>?_⟩
 ·have:=hR.low x;unfold Qd;omega
 ·exact hR.up x (by rw[List.take_length];exact hd.all x hx) y hy
 ·exact hR.eq x (by rw[List.take_length];exact hd.all x hx)
 ·have:=hT.low x;unfold ZO;omega
 ·have:=hT.base x;rw[hb x hx]at this;exact this
 ·have:=hT.up k (hd.all k hk) y hy
  rw[hb y (zaH hd.rng hk hy)]at this
  exact this
 ·rcases hT.eq x with h|⟨k,hk,hn,h⟩
  ·exact Or.inl (by rw[hb x hx]at h;exact h)
  ·exact Or.inr ⟨k,hd.mem_lt hk,hn,by rw[hb x hx]at h;exact h⟩
theorem qg{ts:Zl}(h:∀x,x<ts.length→1≤wkOf ts x∧wkOf ts x≤20):∀k,k≤ts.length→0≤workTo ts k∧workTo ts k≤20*k:=by
 intro k
 induction k with
 | zero=>intro _;simp[workTo]
 | succ k ih=>
  intro hk
  have:=ih (by omega)
  have:=h k (by omega)
  unfold workTo
  omega
end
section
open Go.RowKit
theorem Zc.det{ts:Zl}{p q p' q':Int}(h:Zc ts p q)(h':Zc ts p' q'):p=p'∧q=q':=by
 cases h using Zc.elim with
 | full hf=>
  cases h' using Zc.elim with
  | full=>exact⟨rfl,rfl⟩
  | task k hk=>omega
  | ring k hk=>omega
  | none hk=>omega
 | task k h30 hk hz hne=>
  cases h' using Zc.elim with
  | full=>omega
  | task k2 _ hk2 hz2 hne2=>
   have:k=k2:=by
    rcases Nat.lt_trichotomy k k2 with h|h|h
    ·exact absurd (hz2 k h) hne
    ·exact h
    ·exact absurd (hz k2 h) hne2
   subst this;exact⟨rfl,rfl⟩
  | ring k2 _ hall=>exact absurd (hall k hk) hne
  | none _ hall=>exact absurd (hall k hk) hne
 | ring k h30 hall hk hf hr=>
  cases h' using Zc.elim with
  | full=>omega
  | task k2 _ hk2 _ hne2=>exact absurd (hall k2 hk2) hne2
  | ring k2 _ _ hk2 hf2 hr2=>
   have:k=k2:=by
    rcases Nat.lt_trichotomy k k2 with h|h|h
    ·exact absurd hr (hf2 k h)
    ·exact h
    ·exact absurd hr2 (hf k2 h)
   subst this;exact⟨rfl,rfl⟩
  | none _ _ hno=>exact absurd hr (hno k hk)
 | none h30 hall hno=>
  cases h' using Zc.elim with
  | full=>omega
  | task k2 _ hk2 _ hne2=>exact absurd (hall k2 hk2) hne2
  | ring k2 _ _ hk2 _ hr2=>exact absurd hr2 (hno k2 hk2)
  | none=>exact⟨rfl,rfl⟩
theorem ZP.free{ts:Zl}{T:Nat→Bool}{k:Nat}(h:ZP ts T (k:Nat)):k<ts.length∧T k=false∧∀y,y∈Za ts k→T y.toNat=true:=by
 generalize hr:((k:Nat):Int)=r at h
 cases h using ZP.elim with
 | some j hj _ hf=>
  have:k=j:=by omega
  subst this
  unfold Yy at hf
  simp only[Bool.and_eq_true,Bool.not_eq_true']at hf
  refine⟨hj,hf.1,fun y hy=>?_⟩
  have:=List.any_eq_false.1 hf.2 y hy
  simpa using this
 | none=>omega
theorem qe{ts:Zl}{x:Nat}(h:ZJ ts x=0):1≤wkOf ts x∧wkOf ts x≤20:=by
 unfold ZJ ZT at h
 unfold wkOf
 split at h
 ·simp at h
 ·omega
theorem zcx(l:List Nat)(x:Nat):has l x=true↔x∈l:=by simp[has]
theorem YE.of{ts:Zl}{ord:List Nat}(hc:Zc ts 0 0)(ho:Z9 ts ord):YE ts ord:=by
 obtain⟨_,h30,herr,hno⟩:=hc.ok rfl
 have hr:=yh herr
 refine⟨ho.length hr hno,h30,fun x hx=>qe (herr x hx),hr,fun m hm=>?_,fun m hm h=>?_,fun m hm y hy=>?_,fun x hx=>(zcx _ _).1 (ho.all hr hno x hx)⟩
 ·exact(ho.1 m hm).free.1
 ·have h1:=(ho.1 m hm).free.2.1
  have h2:=(zcx _ _).2 h
  rw[h1]at h2;cases h2
 ·have:=(ho.1 m hm).free.2.2 _ hy
  rw[Int.toNat_natCast]at this
  exact(zcx _ _).1 this
theorem zfa(v:Value)(ts:Zl)(w:World)(hp:Zf w v ts) :
  Calls Tryz.prog 180 #[v] w fun e w'=>((∃p q,q≠0∧Zc ts p q∧e=.returned (.tuple #[.slice none 0 0,errV q]))∨(Zc ts 0 0∧∃ord ov,e=.returned (.tuple #[ov,.nilIface])∧Z9 ts ord∧Z0 w' ov (Zb ord)))∧Below w.heap.size w w':=by
 refine(zgz v ts w hp).mono ?_
 rintro e w' ⟨⟨p,q,hc,h⟩,hb⟩
 refine⟨?_,hb⟩
 rcases h with⟨hq,rfl⟩|⟨rfl,h⟩
 ·exact Or.inl ⟨p,q,hq,hc,rfl⟩
 ·obtain⟨rfl,_⟩:=hc.ok rfl
  exact Or.inr ⟨hc,h⟩
end
section
open Go.RowKit Go.Deep
theorem xk(x:Int)(zs:List Int)(k:Nat)(hlt:k<zs.length)(hno:x∉zs.take k)(h:zs.getD k 0≠x):x∉zs.take (k+1):=by
 intro hx
 rw[qq8 hlt]at hx
 have he:zs.getD k 0=zs[k]:=by rw[qq6,qq7 hlt];rfl
 rcases List.mem_append.1 hx with hx|hx
 ·exact hno hx
 ·exact h (by rw[he];exact(List.mem_singleton.1 hx).symm)
theorem zeT{x:Int}{zs:List Int}{k:Nat}(hlt:k<zs.length)(h:zs.getD k 0=x):x∈zs:=by
 rw[qq6,qq7 hlt]at h
 rw[←h];exact List.getElem_mem hlt
def memB(zs:List Int)(x:Int):Bool:=decide (x∈zs)
theorem zhH(m t:Int):(if m<t then t else m)=max m t:=by
 split <;> omega
def Xl(T:Nat→Int)(n:Nat):List Int:=(List.range n).map T
theorem zN(T:Nat→Int)(n:Nat):(Xl T n).length=n:=by simp[Xl]
theorem qw(T:Nat→Int){n k:Nat}(h:k<n):(Xl T n).getD k 0=T k:=by simp[Xl,h]
set_option maxHeartbeats 800000 in
theorem zcw(v:Value)(T:Nat→Int)(n:Nat)(w:World)(hz:Z0 w v (Xl T n)) :
  Calls Tryz.prog 154 #[v] w fun e w'=>e=.returned (.int .i64 (Ya T n))∧w'=w:=by
 obtain⟨hl,a,c,rfl,hz⟩:=hz
 rw[zN]at hl hz ⊢
 go_enter Tryz.func154,Tryz.ntmps154
 go_wp2
 go_loop [3,8] (fun m i=>∃k:Nat,k≤n∧i=.int .i64 k∧m=.int .i64 (Ya T k)) (fun _ i=>n-(intOf i).toNat)
 case atStart=>exact⟨0,Nat.zero_le _,rfl,rfl⟩
 case round=>
  obtain⟨k,hk,rfl,rfl⟩:=hrel
  by_cases hkl:k<n
  ·rcases hz with hz|⟨b,o,rfl,hbl,hc⟩
   ·have:=congrArg List.length hz
    rw[zN]at this
    simp at this;omega
   have hck:=hc k hkl
   rw[qw T hkl]at hck
   clear hc
   have HE:Hid (Ya T (k+1)=max (Ya T k) (T k)):=rfl
   generalize Ya T k=m at *
   generalize T k=t at *
   go_wp2
   go_round
   case rel=>exact⟨k+1,by omega,by go_num,by rw[HE.out,zhH]⟩
   case measure=>simp[intOf];omega
  ·clear hz
   go_wp2
   go_ret
   have:k=n:=by omega
   subst this
   exact⟨rfl,rfl⟩
def Zo(f:Nat→Int):Nat→Value:=fun k=>.int .i64 (f k)
theorem yd{w:World}{b n x:Nat}{f:Nat→Int}{v:Int}(h:w.rowIs b 3 n (Zo f)):(w.setCell ⟨b,x,none⟩ (.int .i64 v)).rowIs b 3 n (Zo (upd f x v)):=
 (h.set x _).congr (fun k _=>by unfold Zo upd;split <;> rfl)
theorem zdV{w:World}{b n c:Nat}{f:Nat→Int}(h:w.rowIs b 3 n (Zo f))(hn:n*8≤140737488351232):Z0 w (.slice (some ⟨b,0,none⟩) n c) (Xl f n):=by
 refine⟨by rw[zN];exact hn,_,_,by rw[zN],Or.inr ⟨b,0,rfl,h.lt,fun k hk=>?_⟩⟩
 rw[zN]at hk
 rw[Nat.zero_add,h.cell hk,qw f hk];rfl
end
end Go.Proofs.YtlfbdjeojgbniaaGreatDoor

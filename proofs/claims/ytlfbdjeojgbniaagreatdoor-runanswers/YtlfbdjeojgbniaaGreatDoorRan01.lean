import Derived.Test.YtlfbdjeojgbniaaGreatDoorProg
import Derived.WalkSpells
import Derived.Deep.Light
import Derived.Shelf.Abstract
import Derived.BigQuiet
import Derived.Deep.OwnRows
import Derived.WalkSmall
namespace Go.Proofs.YtlfbdjeojgbniaaGreatDoor
section
open Go.RowKit
abbrev Zl:=List (Int×List Int)
theorem qq1(n:Nat):n≤n:=Nat.le_refl n
theorem qq2{n m k:Nat}(h:n≤m)(i:m≤k):n≤k:=Nat.le_trans h i
theorem qq3{n m k:Nat}(h:n<m)(i:m≤k):n<k:=Nat.lt_of_lt_of_le h i
theorem qq4(B:Nat)(w:World):Below B w w:=Below.refl B w
theorem qq5(w:World)(a:Addr)(u:Value)(k:Nat)(h:k≠a.block):(w.setCell a u).heap[k]?=w.heap[k]?:=Below.heap_setCell w a u k h
theorem qq6{α:Type _}{l:List α}{i:Nat}{a:α}:l.getD i a=l[i]?.getD a:=List.getD_eq_getElem?_getD
theorem qq7{α:Type _}{l:List α}{i:Nat}(h:i<l.length):l[i]?=some l[i]:=List.getElem?_eq_getElem h
theorem qq8{α:Type _}{i:Nat}{l:List α}(h:i<l.length):List.take (i+1) l=List.take i l++[l[i]]:=List.take_succ_eq_append_getElem h
theorem qq9{w w':World}{a:Addr}(h:w'.heap[a.block]?=w.heap[a.block]?):w'.cell? a=w.cell? a:=World.cell?_of_block h
theorem qa(w:World)(o:Obj)(k:Nat)(h:k<w.heap.size):(w.alloc o).heap[k]?=w.heap[k]?:=Below.heap_alloc w o k h
theorem qb{α:Type _}{a b:List α}:(a++b).length=a.length+b.length:=List.length_append
theorem qc{a:Int}(h:0≤a):∃n:Nat,a=↑n:=Int.eq_ofNat_of_zero_le h
end
section
open Go.RowKit
def Z0(w:World)(v:Value)(zs:List Int):Prop:=
 zs.length*8≤140737488351232∧∃a c,v=.slice a zs.length c∧(zs=[]∨∃b o,a=some ⟨b,o,none⟩∧b<w.heap.size∧∀k,k<zs.length→w.cell? ⟨b,o+k,none⟩=some (.int .i64 (zs.getD k 0)))
theorem Z0.later{w w':World}{v:Value}{zs:List Int}(h:Z0 w v zs)(hb:Below w.heap.size w w'):Z0 w' v zs:=by
 obtain⟨hl,a,c,hv,h⟩:=h
 refine⟨hl,a,c,hv,?_⟩
 rcases h with h|⟨b,o,ha,hlt,hc⟩
 ·exact Or.inl h
 ·exact Or.inr ⟨b,o,ha,qq3 hlt hb.size,fun k hk=>(hb.cell (p:=⟨b,o+k,none⟩) hlt).trans (hc k hk)⟩
def Zr(n count:Int):Bool:=decide (0≤n)&&decide (n<count)
theorem zeL(n count:Int)(w:World):Calls Tryz.prog 113 #[.int .i64 n,.int .i64 count] w fun e w'=>e=.returned (.bool (Zr n count))∧w'=w:=by
 by_cases h1:0≤n
 ·by_cases h2:n<count
  ·go_enter Tryz.func113,Tryz.ntmps113
   go_wp2
   go_ret
   exact⟨by simp[Zr,h1,h2],rfl⟩
  ·go_enter Tryz.func113,Tryz.ntmps113
   go_wp2
   go_ret
   exact⟨by simp[Zr,h1,h2],rfl⟩
 ·go_enter Tryz.func113,Tryz.ntmps113
  go_wp2
  go_ret
  exact⟨by rw[show Zr n count=false by simp[Zr];omega];rfl,rfl⟩
theorem zbr(n count:Int)(a:Addr)(w:World)(hc:w.cell? a=some (.int .i64 count)) :
  Calls Tryz.prog 112 (#[.int .i64 n]++#[.pointer (some a)]) w fun e w'=>e=.returned (.bool (!Zr n count))∧w'=w:=by
 show Calls Tryz.prog 112 #[.int .i64 n,.pointer (some a)] w _
 cases hr:Zr n count
 all_goals
  have HR:Hid (Zr n count=_):=hr
  clear hr
  go_enter Tryz.func112,Tryz.ntmps112
  go_wp2_with (go_at_call 113;refine(zeL _ _ _).mono ?_;rw[HR.out];rintro e w' ⟨rfl,rfl⟩)
  go_ret
  exact⟨rfl,rfl⟩
def XV(g:Nat)(lb:Array Value)(p:Int→Bool)(zs:List Int)(w:World):Prop:=
 (∀args w,(callFunc g args).run Tryz.prog w=.ok (.enter g args) w)∧∀x,x∈zs→Calls Tryz.prog g (#[.int .i64 x]++lb) w fun e w'=>e=.returned (.bool (p x))∧w'=w
def idx(p:Int→Bool)(zs:List Int):Int:=if zs.any p then (zs.findIdx p:Int) else -1
theorem ziG(p:Int→Bool)(zs:List Int)(k:Nat)(hlt:k<zs.length)(hno:∀x,x∈zs.take k→p x=false)(h:p (zs.getD k 0)=true):idx p zs=k:=by
 have he:zs.getD k 0=zs[k]:=by rw[qq6,qq7 hlt];rfl
 rw[he]at h
 have ha:zs.any p=true:=List.any_eq_true.2 ⟨_,List.getElem_mem hlt,h⟩
 have hf:zs.findIdx p=k:=by
  rw[List.findIdx_eq hlt]
  refine⟨h,fun j hj=>?_⟩
  have:=hno zs[j] (by rw[List.mem_take_iff_getElem];exact⟨j,by omega,rfl⟩)
  simp[this]
 simp[idx,ha,hf]
theorem zhy(p:Int→Bool)(zs:List Int)(hno:∀x,x∈zs→p x=false):idx p zs=-1:=by
 have ha:zs.any p=false:=List.any_eq_false.2 fun x hx=>by simp[hno x hx]
 simp[idx,ha]
theorem zhz(p:Int→Bool)(zs:List Int):decide (0≤idx p zs)=zs.any p:=by
 unfold idx
 cases zs.any p <;> simp
theorem zfP{k:IntKind}{a b:Int}(h:a=b):Ending.returned (.int k a)=.returned (.int k b):=by rw[h]
theorem zM{a b:Bool}(h:a=b):Ending.returned (.bool a)=.returned (.bool b):=by rw[h]
theorem xB(p:Int→Bool)(zs:List Int)(k:Nat)(hlt:k<zs.length)(hno:∀x,x∈zs.take k→p x=false)(h:p (zs.getD k 0)=false):∀x,x∈zs.take (k+1)→p x=false:=by
 intro x hx
 rw[qq8 hlt]at hx
 rcases List.mem_append.1 hx with hx|hx
 ·exact hno x hx
 ·have he:zs.getD k 0=zs[k]:=by rw[qq6,qq7 hlt];rfl
  rw[List.mem_singleton.1 hx,←he];exact h
set_option maxHeartbeats 800000 in
theorem zbv(v:Value)(zs:List Int)(g:Nat)(lb:Array Value)(p:Int→Bool)(w:World)(hz:Z0 w v zs)(hp:XV g lb p zs w) :
  Calls Tryz.prog 147 #[v,.func (.func g) #[] lb] w fun e w'=>e=.returned (.int .i64 (idx p zs))∧w'=w:=by
 obtain⟨hl,a,c,rfl,hz⟩:=hz
 obtain⟨eg,hp⟩:=hp
 have HP:Hid (∀x,x∈zs→Calls Tryz.prog g (#[.int .i64 x]++lb) w fun e w'=>e=.returned (.bool (p x))∧w'=w):=hp
 clear hp
 rcases hz with rfl|⟨b,o,rfl,hbl,hc⟩
 ·go_enter Tryz.func147,Tryz.ntmps147
  go_wp2
  refine wp_loop_rounds 1 ?_
  rw[rounds_succ]
  go_wp2
  go_ret
  exact⟨by simp[idx],rfl⟩
 ·go_enter Tryz.func147,Tryz.ntmps147
  go_wp2
  go_loop [8] (fun i=>∃k:Nat,k≤zs.length∧i=.int .i64 k∧Hid (∀x,x∈zs.take k→p x=false)) (fun i=>zs.length-(intOf i).toNat)
  case atStart=>exact⟨0,Nat.zero_le _,rfl,fun x hx=>by simp at hx⟩
  case round=>
   obtain⟨k,hk,rfl,hno⟩:=hrel
   by_cases hlt:k<zs.length
   ·have hck:=hc k hlt
    clear hc
    have hm:zs.getD k 0∈zs:=by rw[qq6,qq7 hlt];exact List.getElem_mem hlt
    generalize hy:zs.getD k 0=y at hck hm
    have HY:Hid (zs.getD k 0=y):=hy
    clear hy
    have hcall:=HP.out y hm
    cases hq:p y
    ·rw[hq]at hcall
     go_wp2_with (go_at_fn g;refine hcall.mono ?_;rintro e w' ⟨rfl,rfl⟩)
     go_round
     case rel=>exact⟨k+1,by omega,by go_num,xB p zs k hlt hno.out (by rw[HY.out];exact hq)⟩
     case measure=>simp[intOf];omega
    ·rw[hq]at hcall
     go_wp2_with (go_at_fn g;refine hcall.mono ?_;rintro e w' ⟨rfl,rfl⟩)
     go_ret
     exact⟨zfP (ziG p zs k hlt hno.out (by rw[HY.out];exact hq)).symm,rfl⟩
   ·go_wp2
    go_ret
    exact⟨zfP (zhy p zs (fun x hx=>hno.out x (by rw[List.take_of_length_le (by omega)];exact hx))).symm,rfl⟩
theorem yA(v:Value)(zs:List Int)(g:Nat)(lb:Array Value)(p:Int→Bool)(w:World)(hz:Z0 w v zs)(hp:XV g lb p zs w) :
  Calls Tryz.prog 111 #[v,.func (.func g) #[] lb] w fun e w'=>e=.returned (.bool (zs.any p))∧w'=w:=by
 have hcall:=zbv v zs g lb p w hz hp
 rw[←zhz p zs]
 generalize idx p zs=r at hcall ⊢
 by_cases hr:0≤r
 all_goals
  go_enter Tryz.func111,Tryz.ntmps111
  go_wp2_with (go_at_call 147;refine hcall.mono ?_;rintro e w' ⟨rfl,rfl⟩)
  go_ret
  exact⟨zM (by simp;try omega),rfl⟩
end
section
open Go.RowKit
def rising:List Int→Bool
 | a::b::r=>decide (a<b)&&rising (b::r)
 | _=>true
theorem xX(zs:List Int):rising zs=true↔∀k,k+1<zs.length→zs.getD k 0<zs.getD (k+1) 0:=by
 induction zs with
 | nil=>simp[rising]
 | cons a r ih=>
  cases r with
  | nil=>simp[rising]
  | cons b r=>
   simp only[rising,Bool.and_eq_true,decide_eq_true_eq,ih]
   constructor
   ·rintro⟨h1,h2⟩ k hk
    cases k with
    | zero=>simpa using h1
    | succ k=>have:=h2 k (by simp at hk ⊢;omega);simpa using this
   ·intro h
    refine⟨by have:=h 0 (by simp);simpa using this,fun k hk=>?_⟩
    have:=h (k+1) (by simp at hk ⊢;omega)
    simpa using this
theorem jE(zs:List Int)(k:Nat)(h1:1≤k)(hk:k<zs.length)(h:zs.getD k 0≤zs.getD (k-1) 0):rising zs=false:=by
 cases hr:rising zs with
 | false=>rfl
 | true=>
  have:=(xX zs).1 hr (k-1) (by omega)
  rw[show k-1+1=k by omega]at this
  omega
set_option maxHeartbeats 800000 in
theorem zgO(v:Value)(zs:List Int)(w:World)(hz:Z0 w v zs) :
  Calls Tryz.prog 114 #[v] w fun e w'=>e=.returned (.bool (rising zs))∧∃n,w'=w.drewN n:=by
 obtain⟨hl,a,c,rfl,hz⟩:=hz
 rcases hz with rfl|⟨b,o,rfl,hbl,hc⟩
 ·go_enter Tryz.func114,Tryz.ntmps114
  go_wp2
  refine wp_loop_rounds 1 ?_
  rw[rounds_succ]
  go_wp2
  go_ret
  exact⟨rfl,0,rfl⟩
 ·go_enter Tryz.func114,Tryz.ntmps114
  go_wp2
  go_loopw [3] (fun i wr=>∃k n:Nat,1≤k∧(k≤zs.length∨k=1)∧i=.int .i64 k∧wr=w.drewN n∧Hid (∀j,j+1<k→zs.getD j 0<zs.getD (j+1) 0)) (fun i _=>zs.length-(intOf i).toNat)
  case atStart=>exact⟨1,0,qq1 _,Or.inr rfl,rfl,rfl,fun j hj=>by omega⟩
  case round=>
   obtain⟨k,n,h1,hk,rfl,rfl,hno⟩:=hrel
   by_cases hkl:k<zs.length
   ·have hc1:=hc k hkl
    have hc2:=hc (k-1) (by omega)
    clear hc
    generalize hy:zs.getD k 0=y at hc1
    generalize hx:zs.getD (k-1) 0=x at hc2
    have HY:Hid (zs.getD k 0=y):=hy
    have HX:Hid (zs.getD (k-1) 0=x):=hx
    clear hy hx hk
    go_wp2
    go_quiet (fail)
    go_wp2
    ·go_ret
     exact⟨zM (jE zs k h1 hkl (by rw[HY.out,HX.out];assumption)).symm,_,World.drewN_drewN _ _ _⟩
    ·go_roundw
     case rel=>
      have hxy:x<y:=by assumption
      refine⟨k+1,_,by omega,Or.inl (by omega),by go_num,rfl,fun j hj=>?_⟩
      by_cases e:j+1=k
      ·subst e;rw[HY.out,show zs.getD j 0=x from HX.out];exact hxy
      ·exact hno.out j (by omega)
     case measure=>simp[intOf];omega
   ·go_wp2
    go_ret
    exact⟨zM ((xX zs).2 (fun j hj=>hno.out j (by omega))).symm,_,rfl⟩
def errV(n:Int):Value:=if n=0 then .nilIface else .iface 97 (.int .i64 n)
def ZT(wk:Int)(needs:List Int)(count:Int):Int:=
 if wk<1∨20<wk then 1 else if needs.any (fun n=>!Zr n count) then 1 else if rising needs then 0 else 7
theorem enters34:∀args w,(callFunc 112 args).run Tryz.prog w=.ok (.enter 112 args) w:=enters_of Tryz.func112 (by kernel_rfl) rfl
set_option maxHeartbeats 1600000 in
theorem zbq(wk:Int)(nv:Value)(needs:List Int)(count:Int)(w:World)(hz:Z0 w nv needs) :
  Calls Tryz.prog 78 #[.agg #[.int .i64 wk,nv],.int .i64 count] w fun e w'=>e=.returned (errV (ZT wk needs count))∧Below w.heap.size w w':=by
 by_cases h1:wk<1
 ·go_enter Tryz.func78,Tryz.ntmps78
  go_wp2
  go_ret
  exact⟨by simp[ZT,h1,errV],((qq4 _ _).alloc (qq1 _) _).alloc (by simp) _⟩
 by_cases h2:20<wk
 ·go_enter Tryz.func78,Tryz.ntmps78
  go_wp2
  go_ret
  exact⟨by simp[ZT,h2,errV],((qq4 _ _).alloc (qq1 _) _).alloc (by simp) _⟩
 have hB:Below w.heap.size w ((w.alloc (.cells #[.int .i64 wk,nv] 94)).alloc (.cells #[.int .i64 count] 3)):=((qq4 _ _).alloc (qq1 _) _).alloc (by simp) _
 have hp:XV 112 #[.pointer (some ⟨w.heap.size+1,0,none⟩)] (fun n=>!Zr n count) needs ((w.alloc (.cells #[.int .i64 wk,nv] 94)).alloc (.cells #[.int .i64 count] 3)):=
  ⟨enters34,fun x _=>zbr x count _ _ (by simp)⟩
 have hz':=hz.later hB
 have hcon:=yA nv needs 112 _ _ _ hz' hp
 cases ha:needs.any (fun n=>!Zr n count)
 ·rw[ha]at hcon
  have hr:=zgO nv needs _ hz'
  cases hri:rising needs
  all_goals
   rw[hri]at hr
   have HT:Hid (ZT wk needs count=if rising needs then 0 else 7):=by unfold ZT;rw[if_neg (by omega),ha];rfl
   rw[hri]at HT
   clear ha hri hp hz hz'
   go_enter Tryz.func78,Tryz.ntmps78
   go_wp2_with (first|(go_at_call 111;refine hcon.mono ?_;rintro e w' ⟨rfl,rfl⟩)|(go_at_call 114;refine hr.mono ?_;rintro e w' ⟨rfl,n,rfl⟩))
   go_ret
   exact⟨by rw[HT.out];rfl,⟨hB.os,hB.tape,hB.output,hB.size,hB.block⟩⟩
 ·rw[ha]at hcon
  have HT:Hid (ZT wk needs count=1):=by unfold ZT;rw[if_neg (by omega),ha];rfl
  clear ha hp hz hz'
  go_enter Tryz.func78,Tryz.ntmps78
  go_wp2_with (go_at_call 111;refine hcon.mono ?_;rintro e w' ⟨rfl,rfl⟩)
  go_ret
  exact⟨by rw[HT.out];rfl,hB⟩
end
section
def Za(ts:Zl)(x:Nat):List Int:=(ts.getD x (0,[])).2
def Need(ts:Zl)(x y:Nat):Prop:=(y:Int)∈Za ts x
def Qg(ts:Zl):Nat→Nat→Nat→Prop
 | 0,x,y=>Need ts x y
 | n+1,x,z=>∃y,Qg ts n x y∧Need ts y z
def Zs(ts:Zl)(x y:Nat):Prop:=∃n,Qg ts n x y
theorem Zs.one{ts:Zl}{x y:Nat}(h:Need ts x y):Zs ts x y:=⟨0,h⟩
theorem Zs.more{ts:Zl}{x y z:Nat}(h:Zs ts x y)(hn:Need ts y z):Zs ts x z:=by
 obtain⟨n,hr⟩:=h
 exact⟨n+1,y,hr,hn⟩
theorem Zs.ind{ts:Zl}{x:Nat}{motive:∀y,Zs ts x y→Prop}(one:∀{y:Nat} (h:Need ts x y),motive y (Zs.one h))
  (more:∀{y z:Nat} (h:Zs ts x y) (hn:Need ts y z),motive y h→motive z (Zs.more h hn)) {y:Nat} (h:Zs ts x y):motive y h:=by
 obtain⟨n,hr⟩:=h
 induction n generalizing y with
 | zero=>exact one hr
 | succ n ih=>
  obtain⟨u,hu,hn⟩:=hr
  exact more ⟨n,hu⟩ hn (ih hu)
def ZA(ts:Zl):Prop:=∀x,x<ts.length→∀y,y∈Za ts x→0≤y∧y<ts.length
def mark(S:Nat→Bool)(y:Nat):Nat→Bool:=fun x=>if x=y then true else S x
def unseen(S:Nat→Bool):Nat→Nat
 | 0=>0
 | n+1=>unseen S n+if S n then 0 else 1
theorem ye(S:Nat→Bool)(n:Nat):unseen S n≤n:=by
 induction n with
 | zero=>exact qq1 _
 | succ n ih=>unfold unseen;split <;> omega
theorem zd7(S:Nat→Bool)(n y:Nat)(h:n≤y):unseen (mark S y) n=unseen S n:=by
 induction n with
 | zero=>rfl
 | succ n ih=>
  unfold unseen
  rw[ih (by omega),show mark S y n=S n by unfold mark;rw[if_neg (by omega)]]
theorem yo(S:Nat→Bool)(n y:Nat)(hy:y<n)(h:S y=false):unseen (mark S y) n+1=unseen S n:=by
 induction n with
 | zero=>omega
 | succ n ih=>
  unfold unseen
  by_cases e:n=y
  ·subst e
   rw[zd7 S n n (qq1 _),show mark S n n=true by simp[mark],h]
   simp
  ·have:=ih (by omega)
   rw[show mark S y n=S n by unfold mark;rw[if_neg e]]
   omega
structure Dfs (ts:Zl) (i:Nat) (S:Nat→Bool) (st:List Nat):Prop where
 lt:∀x,x∈st→x<ts.length
 seen:∀x,S x=true→x<ts.length∧Zs ts i x
 stk:∀x,x∈st→x=i∨S x=true
 closed:∀x,(x=i∨S x=true)→x∉st→∀y,Need ts x y→S y=true
structure Xm (ts:Zl) (i x k:Nat) (S:Nat→Bool) (st:List Nat):Prop where
 xlt:x<ts.length
 own:x=i∨S x=true
 lt:∀x,x∈st→x<ts.length
 seen:∀x,S x=true→x<ts.length∧Zs ts i x
 stk:∀x,x∈st→x=i∨S x=true
 closed:∀z,z≠x→(z=i∨S z=true)→z∉st→∀y,Need ts z y→S y=true
 done:∀j,j<k→S ((Za ts x).getD j 0).toNat=true
theorem Dfs.start(ts:Zl)(i:Nat)(h:i<ts.length):Dfs ts i (fun _=>false) [i]:={
 lt:=fun x hx=>by rw[List.mem_singleton.1 hx];exact h
 seen:=fun x hx=>by simp at hx
 stk:=fun x hx=>Or.inl (List.mem_singleton.1 hx)
 closed:=fun x hx hn=>by rcases hx with rfl|hx <;> simp_all
 }
theorem Dfs.pop{ts:Zl}{i:Nat}{S:Nat→Bool}{st:List Nat}{x:Nat}(h:Dfs ts i S (st++[x])):Xm ts i x 0 S st:={
 xlt:=h.lt x (by simp)
 own:=h.stk x (by simp)
 lt:=fun y hy=>h.lt y (by simp[hy])
 seen:=h.seen
 stk:=fun y hy=>h.stk y (by simp[hy])
 closed:=fun z hz ho hn=>h.closed z ho (by simp[hn,hz])
 done:=fun j hj=>by omega
 }
theorem xU{ts:Zl}{x k:Nat}(hr:ZA ts)(hx:x<ts.length)(hk:k<(Za ts x).length) :
  ((Za ts x).getD k 0).toNat<ts.length∧Need ts x ((Za ts x).getD k 0).toNat∧0≤(Za ts x).getD k 0:=by
 have he:(Za ts x).getD k 0=(Za ts x)[k]:=by rw[qq6,qq7 hk];rfl
 have hm:(Za ts x)[k]∈Za ts x:=List.getElem_mem hk
 have hb:=hr x hx _ hm
 rw[he]
 exact⟨by omega,by unfold Need;rw[Int.toNat_of_nonneg hb.1];exact hm,hb.1⟩
theorem Xm.skip{ts:Zl}{i x k:Nat}{S:Nat→Bool}{st:List Nat}(h:Xm ts i x k S st)(hy:S ((Za ts x).getD k 0).toNat=true):Xm ts i x (k+1) S st:=
 ⟨h.xlt,h.own,h.lt,h.seen,h.stk,h.closed,fun j hj=>by
  by_cases e:j=k
  ·subst e;exact hy
  ·exact h.done j (by omega)⟩
theorem Xm.push{ts:Zl}{i x k:Nat}{S:Nat→Bool}{st:List Nat}(hr:ZA ts)(h:Xm ts i x k S st)(hk:k<(Za ts x).length) :
  Xm ts i x (k+1) (mark S ((Za ts x).getD k 0).toNat) (st++[((Za ts x).getD k 0).toNat]):=by
 obtain⟨hlt,hneed,_⟩:=xU hr h.xlt hk
 generalize hyy:((Za ts x).getD k 0).toNat=y at *
 have mono:∀z,S z=true→mark S y z=true:=fun z hz=>by unfold mark;split <;> simp[hz]
 have hself:mark S y y=true:=by simp[mark]
 refine⟨h.xlt,h.own.imp id (mono _),?_,?_,?_,?_,?_⟩
 ·intro z hz
  rcases List.mem_append.1 hz with hz|hz
  ·exact h.lt z hz
  ·rw[List.mem_singleton.1 hz];exact hlt
 ·intro z hz
  by_cases e:z=y
  ·subst e
   refine⟨hlt,?_⟩
   rcases h.own with ho|ho
   ·subst ho;exact Zs.one hneed
   ·exact Zs.more (h.seen _ ho).2 hneed
  ·refine h.seen z ?_
   unfold mark at hz
   rwa [if_neg e]at hz
 ·intro z hz
  rcases List.mem_append.1 hz with hz|hz
  ·exact(h.stk z hz).imp id (mono _)
  ·rw[List.mem_singleton.1 hz];exact Or.inr hself
 ·intro z hzx ho hn y' hy'
  simp only[List.mem_append,List.mem_singleton,not_or]at hn
  refine mono _ (h.closed z hzx (ho.imp id fun hz=>?_) hn.1 y' hy')
  unfold mark at hz
  rwa [if_neg hn.2]at hz
 ·intro j hj
  by_cases e:j=k
  ·subst e;rw[hyy];exact hself
  ·exact mono _ (h.done j (by omega))
theorem Xm.finish{ts:Zl}{i x:Nat}{S:Nat→Bool}{st:List Nat}(h:Xm ts i x (Za ts x).length S st):Dfs ts i S st:={
 lt:=h.lt
 seen:=h.seen
 stk:=h.stk
 closed:=fun z ho hn y hy=>by
  by_cases e:z=x
  ·subst e
   obtain⟨j,hj,he⟩:=List.getElem_of_mem hy
   have hd:=h.done j hj
   rw[qq6,qq7 hj]at hd
   simp only[Option.getD_some,he,Int.toNat_natCast]at hd
   exact hd
  ·exact h.closed z e ho hn y hy
 }
theorem Dfs.ends{ts:Zl}{i:Nat}{S:Nat→Bool}(h:Dfs ts i S [])(x:Nat):S x=true↔Zs ts i x:=by
 constructor
 ·exact fun hx=>(h.seen x hx).2
 ·intro hx
  induction hx using Zs.ind with
  | one hn=>exact h.closed _ (Or.inl rfl) (by simp) _ hn
  | more _ hn ih=>exact h.closed _ (Or.inr ih) (by simp) _ hn
end
section
open Go.RowKit
def Zf(w:World)(v:Value)(ts:Zl):Prop:=
 ts.length*32≤140737488351232∧∃a c,v=.slice a ts.length c∧(ts=[]∨∃b o,a=some ⟨b,o,none⟩∧b<w.heap.size∧
  ∀k,k<ts.length→w.cell? ⟨b,o+k*2,none⟩=some (.int .i64 (ts.getD k (0,[])).1)∧∃nv,w.cell? ⟨b,o+k*2+1,none⟩=some nv∧Z0 w nv (Za ts k))
theorem Zf.later{w w':World}{v:Value}{ts:Zl}(h:Zf w v ts)(hb:Below w.heap.size w w'):Zf w' v ts:=by
 obtain⟨hl,a,c,hv,h⟩:=h
 refine⟨hl,a,c,hv,?_⟩
 rcases h with h|⟨b,o,ha,hlt,hc⟩
 ·exact Or.inl h
 ·refine Or.inr ⟨b,o,ha,qq3 hlt hb.size,fun k hk=>?_⟩
  obtain⟨h1,nv,h2,h3⟩:=hc k hk
  exact⟨(hb.cell (p:=⟨b,o+k*2,none⟩) hlt).trans h1,nv,(hb.cell (p:=⟨b,o+k*2+1,none⟩) hlt).trans h2,h3.later hb⟩
theorem Tryz.info3:(Tryz.prog.info? 3).map (fun i=>(i.zero,i.size,i.bytes))=some (some (.int .i64 0),1,8):=by kernel_rfl
theorem Tryz.info4:(Tryz.prog.info? 4).map (fun i=>(i.zero,i.size,i.bytes))=some (some (.bool false),1,1):=by kernel_rfl
def natV(x:Nat):Value:=.int .i64 x
structure ZU (N n:Nat) (w wr:World) (s6:Value) (S:Nat→Bool) (st:List Nat):Prop where
 own:wr.ownsRow (N+1) 3 1 s6 st.length (st.map natV)
 shape:∃g cap,s6=.slice (some ⟨g,0,none⟩) st.length cap
 row:wr.rowIs N 4 n (fun k=>.bool (S k))
 below:Below N w wr
theorem ZU.start(w:World)(n i:Nat):ZU w.heap.size n w ((w.alloc (.cells (madeCells #[.bool false] n) 4)).alloc (.cells #[.int .i64 i] 3)) (.slice (some ⟨w.heap.size+1,0,none⟩) 1 1) (fun _=>false) [i]:={
 own:=by
  have h:=World.ownsRow_lit (base:=w.heap.size+1) (e:=3) (size:=1) (w.alloc (.cells (madeCells #[.bool false] n) 4)) #[.int .i64 i] 1 (by simp) (by unfold maxLen;omega) rfl
  simpa[natV]using h
 shape:=⟨_,_,rfl⟩
 row:=(World.rowIs_made w (.bool false) n 4).alloc _
 below:=((qq4 _ _).alloc (qq1 _) _).alloc (by simp) _
 }
theorem ZU.top{N n:Nat}{w wr:World}{g cap:Nat}{S:Nat→Bool}{st:List Nat}{x:Nat}(h:ZU N n w wr (.slice (some ⟨g,0,none⟩) (st++[x]).length cap) S (st++[x])) :
  wr.cell? ⟨g,st.length,none⟩=some (.int .i64 x):=by
 have:=h.own.cellAt st.length (by simp)
 rw[this]
 simp[natV]
theorem ZU.pop{N n:Nat}{w wr:World}{g cap:Nat}{S:Nat→Bool}{st:List Nat}{x:Nat}(h:ZU N n w wr (.slice (some ⟨g,0,none⟩) (st++[x]).length cap) S (st++[x])) :
  ZU N n w wr (.slice (some ⟨g,0,none⟩) st.length cap) S st:={
 own:=by
  have:=h.own
  rw[qb,List.map_append]at this
  exact ownsRow_pop (n:=st.length) (by simp) this
 shape:=⟨_,_,rfl⟩
 row:=h.row
 below:=h.below
 }
theorem zbF{w:World}{base:Nat}{v:Value}{n:Nat}{xs:List Value}(h:w.ownsRow base 3 1 v n xs)(hn:0<n):∃g cap,v=.slice (some ⟨g,0,none⟩) n cap:=by
 rcases h.2 with⟨_,h0⟩|⟨g,cap,_,hv,_⟩
 ·omega
 ·exact⟨g,cap,hv⟩
theorem ZU.seenSet{N n:Nat}{w wr:World}{s6:Value}{S:Nat→Bool}{st:List Nat}(h:ZU N n w wr s6 S st)(y:Nat) :
  ZU N n w (wr.setCell ⟨N,y,none⟩ (.bool true)) s6 (mark S y) st:={
 own:=ownsRow_setCell_below h.own (by show N<N+1;omega) _
 shape:=h.shape
 row:=(h.row.set y (.bool true)).congr (fun k _=>by unfold mark;split <;> simp_all)
 below:=h.below.setCell (qq1 _) _
 }
theorem ZU.alloc{N n:Nat}{w wr:World}{s6:Value}{S:Nat→Bool}{st:List Nat}(h:ZU N n w wr s6 S st)(o:Obj):ZU N n w (wr.alloc o) s6 S st:={
 own:=h.own.alloc o
 shape:=h.shape
 row:=h.row.alloc o
 below:=h.below.alloc (Nat.le_of_lt h.row.lt) o
 }
theorem ZU.pushed{N n:Nat}{w wr w1:World}{s6 v':Value}{S:Nat→Bool}{st:List Nat}{y:Nat}(h:ZU N n w wr s6 S st)
  (ho:w1.ownsRow (N+1) 3 1 v' (st.length+1) (st.map natV++[natV y])) (hg:wr.grownBy w1 s6.ownBlock):ZU N n w w1 v' S (st++[y]):={
 own:=by simpa using ho
 shape:=by have:=zbF ho (by omega);simpa using this
 row:=h.row.of_block (hg.block N h.row.lt (fun e=>by have:=h.own.lt N e.symm;omega))
 below:=h.below.grown hg (Nat.le_of_lt h.row.lt) (fun k e=>by have:=h.own.lt k e;omega)
 }
set_option maxRecDepth 100000 in
set_option maxHeartbeats 4000000 in
theorem zeK(v:Value)(ts:Zl)(i:Nat)(w:World)(hp:Zf w v ts)(hi:i<ts.length)(hr:ZA ts) :
  Calls Tryz.prog 79 #[v,.int .i64 i] w fun e w'=>(∃b,e=.returned (.bool b)∧(b=true↔Zs ts i i))∧Below w.heap.size w w':=by
 obtain⟨hl,a,c,rfl,hp⟩:=hp
 rcases hp with rfl|⟨b,o,rfl,hbl,hc⟩
 ·simp at hi
 have hmk:=fun wx=>run_make_row' (P:=Tryz.prog) 84 4 (.bool false) 1 Tryz.underlying84 Tryz.info4 rfl .i64 .i64 ts.length (by omega) (by omega) wx
 obtain⟨i3,hi3,hz0,hz1,hz2⟩:=info_parts Tryz.info3
 have HC:Hid (∀k,k<ts.length→w.cell? ⟨b,o+k*2,none⟩=some (.int .i64 (ts.getD k (0,[])).1)∧∃nv,w.cell? ⟨b,o+k*2+1,none⟩=some nv∧Z0 w nv (Za ts k)):=hc
 clear hc
 have HR:Hid (ZA ts):=hr
 clear hr
 go_enter Tryz.func79,Tryz.ntmps79
 go_wp2
 go_loopg [6] (ts.length+1) (fun gg s6 wr=>∃S st,Hid (ZU w.heap.size ts.length w wr s6 S st)∧Hid (Dfs ts i S st)∧unseen S ts.length+st.length≤gg∧gg≤ts.length+1)
 case atStart=>exact⟨_,_,ZU.start w ts.length i,Dfs.start ts i hi,by have:=ye (fun _=>false) ts.length;simp;omega,qq1 _⟩
 case round=>
  obtain⟨S,st,hm,hd,hg,hG⟩:=hrel
  obtain⟨G,rfl⟩:∃G,G=gk:=⟨_,rfl⟩
  obtain⟨g,cap,rfl⟩:=hm.out.shape
  rcases List.eq_nil_or_concat st with rfl|⟨st',x,rfl⟩
  ·have hci:=hm.out.row.cell hi
   go_wp2
   go_ret
   refine⟨⟨_,rfl,hd.out.ends i⟩,hm.out.below⟩
  ·rw[List.concat_eq_append]at *
   have htop:=hm.out.top
   have hpop:=hm.out.pop
   have hin:=hd.out.pop
   have hx:=hin.xlt
   obtain⟨_,nv,hnv,hln,a2,c2,rfl,hz⟩:=HC.out x hx
   have hnv':=(hm.out.below.cell (p:=⟨b,o+x*2+1,none⟩) hbl).trans hnv
   have HM:Hid (ZU w.heap.size ts.length w wr (.slice (some ⟨g,0,none⟩) st'.length cap) S st'):=hpop
   have HI:Hid (Xm ts i x 0 S st'):=hin
   have hlen:(st'++[x]).length=st'.length+1:=by simp
   have hcap:st'.length+1≤cap:=by
    have:=hm.out.own
    rcases this.2 with⟨e,_⟩|⟨g1,cap1,cur,e,_,_,h3,_⟩
    ·simp at e
    ·simp at e;simp at h3;omega
   rw[hlen]at hm hg ⊢
   clear hpop hin hm hd hnv hlen
   go_wp2
   clear htop hnv' hcap
   go_loopg [6,35] ((Za ts x).length) (fun gg s6 s35 wr=>∃k S st,k≤(Za ts x).length∧s35=.int .i64 (k:Nat)∧Hid (ZU w.heap.size ts.length w wr s6 S st)∧Hid (Xm ts i x k S st)∧unseen S ts.length+st.length+1≤G∧(Za ts x).length-k≤gg)
   case atStart=>exact⟨0,S,st',Nat.zero_le _,rfl,HM,HI,by omega,by omega⟩
   case round=>
    clear HM HI hg
    obtain⟨k,S2,st2,hk,rfl,hm,hd,hg,hgk⟩:=hrel
    obtain⟨g2,cap2,rfl⟩:=hm.out.shape
    by_cases hkl:k<(Za ts x).length
    ·rcases hz with hz|⟨b2,o2,rfl,hb2,hc2⟩
     ·rw[hz]at hkl;simp at hkl
     have hcell:=(hm.out.below.cell (p:=⟨b2,o2+k,none⟩) hb2).trans (hc2 k hkl)
     have HC2:Hid (∀k,k<(Za ts x).length→w.cell? ⟨b2,o2+k,none⟩=some (.int .i64 ((Za ts x).getD k 0))):=hc2
     clear hc2
     obtain⟨hylt,_,hy0⟩:=xU HR.out hx hkl
     obtain⟨y,hy⟩:=qc hy0
     rw[hy]at hcell hylt
     rw[Int.toNat_natCast]at hylt
     have HY:Hid ((Za ts x).getD k 0=(y:Int)):=hy
     clear hy hy0
     have hsy:=hm.out.row.cell hylt
     have hfy:=hm.out.row.frozen y
     cases hs:S2 y
     ·rw[hs]at hsy
      have HS:Hid (S2 y=false):=hs
      clear hs
      have hmem:=(hm.out.seenSet y).alloc (.cells #[.int .i64 y] 3)
      go_wp2_with (at_builtin;refine wpList_append_own _ rfl (.tmp 47) (.tmp 49) 73 rfl (w.heap.size+1) 3 i3 (.int .i64 0) 1 8 Tryz.underlying73 hi3 hz0 hz1 hz2 rfl (by decide) _ st2.length (st2.map natV) rfl hmem.own ⟨wr.heap.size,0,none⟩ 1 1 [.int .i64 y] rfl rfl ?c1 ?c2 ?c3 ?c4 ?c5 ?_)
      case c1=>
       have hone:=cell_one_new (wr.setCell ⟨w.heap.size,y,none⟩ (.bool true)) (.int .i64 y) 3
       simpa using hone
      case c2=>intro u hu;simp at hu;subst hu;rfl
      case c3=>unfold maxLen;omega
      case c4=>omega
      case c5=>have:=hm.out.row.lt;simp;omega
      intro v' w1 hown' hgrow _
      have hmem':Hid (ZU w.heap.size ts.length w w1 v' (mark S2 y) (st2++[y])):=hmem.pushed hown' hgrow
      have hu:=yo S2 ts.length y hylt HS.out
      clear hown' hgrow hmem hsy hfy hcell
      go_wp2
      go_roundg ((Za ts x).length-(k+1))
      case measure=>omega
      case rel=>
       have hpush:=hd.out.push HR.out hkl
       rw[HY.out,Int.toNat_natCast]at hpush
       exact⟨k+1,mark S2 y,st2++[y],by omega,by go_num,hmem',hpush,by simp;omega,qq1 _⟩
     ·rw[hs]at hsy
      have HS:Hid (S2 y=true):=hs
      clear hs
      go_wp2
      go_roundg ((Za ts x).length-(k+1))
      case measure=>omega
      case rel=>exact⟨k+1,S2,st2,by omega,by go_num,hm,hd.out.skip (by rw[HY.out,Int.toNat_natCast];exact HS.out),hg,qq1 _⟩
    ·have hke:k=(Za ts x).length:=by omega
     have HK:Hid (k=(Za ts x).length):=hke
     clear hke
     go_wp2
     go_roundg (G-1)
     case measure=>omega
     case rel=>exact⟨S2,st2,hm,Xm.finish (by rw[←HK.out];exact hd.out),by omega,by omega⟩
end
section
open Go.RowKit Go.Deep
theorem jY{α:Type}(l:List α)(x d:α)(j:Nat)(hj:j<l.length):(l++[x]).getD j d=l.getD j d:=by simp[List.getElem?_append_left hj]
theorem yb{α:Type}(l:List α)(x d:α):(l++[x]).getD l.length d=x:=by simp
theorem Tryz.info94:(Tryz.prog.info? 94).map (fun i=>(i.zero,i.size,i.bytes))=some (some (.agg #[.int .i64 0,.slice none 0 0]),2,32):=by kernel_rfl
end
end Go.Proofs.YtlfbdjeojgbniaaGreatDoor

import Derived.Test.YtlfbdjeojgbniaaGreatDoorRan09
import Derived.Lib.Atoi
import Derived.Lib.ItoaNum
import Derived.Lib.IndexMore
namespace Go.Proofs.YtlfbdjeojgbniaaGreatDoor
section
variable {ts:Zl} {room hands:Nat} {g:Gs}
theorem Inv.nodup(hI:Inv ts room hands g):(Yd g hands).Nodup:=hI.held.symm.nodup (zcz (xA _ _ _))
theorem zar{n:Nat}(hd:(Yp g n).Nodup):∀{h k:Nat},h<n→k<n→h≠k→∀{x:Int},x∈ofH g h→x∈ofH g k→False:=by
 induction n with
 | zero=>intro h k hh;omega
 | succ n ih=>
  intro h k hh hk hne x hx hy
  rw[Yp]at hd
  have hd':=List.nodup_append.1 hd
  by_cases e:h=n
  ·subst e
   exact hd'.2.2 x (yC.2 ⟨k,by omega,hy⟩) x hx rfl
  ·by_cases e2:k=n
   ·subst e2
    exact hd'.2.2 x (yC.2 ⟨h,by omega,hx⟩) x hy rfl
   ·exact ih hd'.1 (by omega) (by omega) hne hx hy
theorem ze6{n:Nat}(hd:(Yp g n).Nodup):∀{h:Nat},h<n→(ofH g h).Nodup:=by
 induction n with
 | zero=>intro h hh;omega
 | succ n ih=>
  intro h hh
  rw[Yp]at hd
  have hd':=List.nodup_append.1 hd
  by_cases e:h=n
  ·subst e;exact hd'.2.1
  ·exact ih hd'.1 (by omega)
theorem Inv.oneHas(hI:Inv ts room hands g){h k:Nat}(hh:h<hands)(hk:k<hands)(ht:0≤g.task h)(e:g.task k=g.task h):k=h:=by
 rcases Nat.decEq k h with hne|e2
 ·exact absurd (zar (List.nodup_append.1 hI.nodup).1 hk hh hne (x:=g.task h) (by simp[ofH,←e,zX (show 0≤g.task k by omega)]) (by simp[ofH,zX ht])) id
 ·exact e2
theorem Inv.free_hand(hI:Inv ts room hands g){o:Nat}(ho:o<hands){x:Int}(hx:x∈allH (g.near o) (g.ring o)):∀k,k<hands→g.task k≠x:=by
 intro k hk e
 have hmem:x∈Yd g hands:=List.mem_append.2 (Or.inl (yC.2 ⟨o,ho,by simp[ofH,hx]⟩))
 obtain⟨j,hj,-⟩:=hI.rdy hmem
 have ht:0≤g.task k:=by omega
 have hk1:x∈oneT (g.task k):=by rw[zX ht,e];simp
 have hd:=(List.nodup_append.1 hI.nodup).1
 by_cases e2:k=o
 ·subst e2
  exact(List.nodup_append.1 (ze6 hd hk)).2.2 x hk1 x hx rfl
 ·exact zar hd hk ho e2 (x:=x) (by simp[ofH,hk1]) (by simp[ofH,hx])
theorem Inv.free_sp(hI:Inv ts room hands g){x:Int}(hx:x∈g.sp):∀k,k<hands→g.task k≠x:=by
 intro k hk e
 obtain⟨j,hj,-⟩:=hI.rdy (jw (hands:=hands) hx)
 have ht:0≤g.task k:=by omega
 have hd:=List.nodup_append.1 hI.nodup
 exact hd.2.2 x (yC.2 ⟨k,hk,by rw[ofH,zX ht,e];simp⟩) x hx rfl
end
section
def WkOk(ts:Zl)(hands:Nat)(g:Gs)(wk:Nat→Int):Prop:=
 (∀h,h<hands→0≤g.task h→wk (g.task h).toNat=g.work h)∧(∀t,t<ts.length→g.S t=false→(∀h,h<hands→g.task h≠((t:Nat):Int))→wk t=Zv ts t)
variable {ts:Zl} {room hands:Nat} {g:Gs} {wk:Nat→Int}
theorem WkOk.new(ts:Zl)(hands:Nat):WkOk ts hands (gnew ts) (Zv ts):=
 ⟨fun h _ ht=>by simp[gnew]at ht,fun t _ _ _=>rfl⟩
theorem WkOk.takes(hK:WkOk ts hands g wk){g1:Gs}(hS:g1.S=g.S)(ht1:g1.task=g.task)(hw1:g1.work=g.work){h i:Nat}(hh:h<hands)(ht:g.task h<0)(hi:i<ts.length)(hSi:g.S i=false)(hno:∀k,k<hands→g.task k≠((i:Nat):Int)):WkOk ts hands (YtlfbdjeojgbniaaGreatDoor.takes ts g1 h (i:Int)) wk:=by
 refine⟨fun k hk h0=>?_,fun t htl hSt hnt=>?_⟩
 ·show wk (updG g1.task h (i:Int) k).toNat=updG g1.work h (Zv ts (i:Int).toNat) k
  have h0':0≤updG g1.task h (i:Int) k:=h0
  by_cases e:k=h
  ·subst e
   rw[zg,zg,Int.toNat_natCast]
   exact hK.2 i hi hSi hno
  ·rw[zh _ _ e]at h0' ⊢
   rw[zh _ _ e,ht1,hw1]
   rw[ht1]at h0'
   exact hK.1 k hk h0'
 ·have hSt':g.S t=false:=by rw[←hS];exact hSt
  refine hK.2 t htl hSt' fun k hk=>?_
  have h1:updG g1.task h (i:Int) k≠((t:Nat):Int):=hnt k hk
  by_cases e:k=h
  ·subst e;omega
  ·rw[zh _ _ e,ht1]at h1
   exact h1
theorem WkOk.works(hK:WkOk ts hands g wk)(hI:Inv ts room hands g){h i:Nat}(hh:h<hands)(ht:g.task h=(i:Int)):WkOk ts hands { g with work:=updG g.work h (g.work h-1) } (updG wk i (wk i-1)):=by
 have hi:(g.task h).toNat=i:=by omega
 refine⟨fun k hk h0=>?_,fun t htl hSt hnt=>?_⟩
 ·show updG wk i (wk i-1) (g.task k).toNat=updG g.work h (g.work h-1) k
  have h0':0≤g.task k:=h0
  by_cases e:k=h
  ·subst e
   rw[zg,hi,zg,←hK.1 k hk h0',hi]
  ·have:g.task k≠g.task h:=fun e2=>e (hI.oneHas hh hk (by omega) e2)
   rw[zh _ _ e,zh _ _ (by omega)]
   exact hK.1 k hk h0'
 ·have hne:t≠i:=fun e=>hnt h hh (by rw[e];exact ht)
  rw[zh _ _ hne]
  exact hK.2 t htl hSt hnt
theorem WkOk.ends(hK:WkOk ts hands g wk)(hI:Inv ts room hands g){h i:Nat}(hh:h<hands)(ht:g.task h=(i:Int))(x:Int):WkOk ts hands (YtlfbdjeojgbniaaGreatDoor.ends ts room g h) (updG wk i x):=by
 have hi:(g.task h).toNat=i:=by omega
 refine⟨fun k hk h0=>?_,fun t htl hSt hnt=>?_⟩
 ·have h0':0≤updG g.task h (-1) k:=h0
  show updG wk i x (updG g.task h (-1) k).toNat=updG g.work h (g.work h-1) k
  by_cases e:k=h
  ·subst e;rw[zg]at h0';omega
  ·rw[zh _ _ e]at h0' ⊢
   have:g.task k≠g.task h:=fun e2=>e (hI.oneHas hh hk (by omega) e2)
   rw[zh _ _ (by omega),zh _ _ e]
   exact hK.1 k hk h0'
 ·have hSt':mark g.S (g.task h).toNat t=false:=hSt
  rw[hi]at hSt'
  have hne:t≠i:=fun e=>by subst e;simp[mark]at hSt'
  rw[xQ hne]at hSt'
  rw[zh _ _ hne]
  refine hK.2 t htl hSt' fun k hk=>?_
  have h1:updG g.task h (-1) k≠((t:Nat):Int):=hnt k hk
  by_cases e:k=h
  ·subst e;rw[ht];omega
  ·rw[zh _ _ e]at h1;exact h1
end
section
def ZI(d:Deed):Int:=
 if d.1<1∨6<d.1∨d.2.1<0∨5<d.2.1∨d.2.2.1<0∨29<d.2.2.1∨(d.1=2∧(d.2.2.2<0∨5<d.2.2.2)) then 1
 else if (d.1≠2∧d.2.2.2≠0)∨(4<d.1∧d.2.2.1≠0) then 3 else 0
variable {ts:Zl} {room hands:Nat} {g:Gs}
end
section
open Go
def cutB(c:UInt8):List UInt8→List UInt8×List UInt8×Bool
 | []=>([],[],false)
 | b::r=>if b=c then ([],r,true) else (b::(cutB c r).1,(cutB c r).2.1,(cutB c r).2.2)
theorem jT(c:UInt8)(l:List UInt8)(h:(cutB c l).2.2=false):(cutB c l).1=l∧(cutB c l).2.1=[]:=by
 induction l with
 | nil=>exact⟨rfl,rfl⟩
 | cons b r ih=>
  unfold cutB at h ⊢
  split at h
  ·simp at h
  ·rename_i hb
   rw[if_neg hb]
   have:=ih h
   exact⟨by rw[this.1],this.2⟩
theorem zcl(c:UInt8)(l:List UInt8)(h:(cutB c l).2.2=true):(cutB c l).2.1.length<l.length:=by
 induction l with
 | nil=>simp[cutB]at h
 | cons b r ih=>
  unfold cutB at h ⊢
  split at h
  ·rename_i hb;rw[if_pos hb];simp
  ·rename_i hb;rw[if_neg hb];have:=ih h;simp;omega
theorem zhn(c:UInt8)(l:List UInt8):Lib.cut l [c]=cutB c l:=by
 unfold Lib.cut
 rw[Lib.index_one]
 induction l with
 | nil=>simp[Lib.indexByte,cutB]
 | cons b r ih=>
  unfold Lib.indexByte cutB
  by_cases hb:b=c
  ·simp[hb]
  ·have hbc:(b==c)=false:=by simp[hb]
   rw[hbc,if_neg hb]
   simp only[Bool.false_eq_true,↓reduceIte]
   rw[←ih]
   by_cases h1:Lib.indexByte r c=-1
   ·simp[h1]
   ·have h1':(Lib.indexByte r c==-1)=false:=by simp[h1]
    simp only[h1',Bool.false_eq_true,↓reduceIte]
    by_cases h2:0≤Lib.indexByte r c
    ·obtain⟨k,hk⟩:=qc h2
     rw[hk]
     have e1:((k:Int)+1).toNat=k+1:=by omega
     have e2:(0:Int)≤(k:Int)+1:=by omega
     have e3:(0:Int)≤(k:Int):=by omega
     simp[e1,e2,e3]
    ·have h3:¬0≤Lib.indexByte r c+1:=by omega
     simp[h2,h3]
def Zd(c:UInt8):List UInt8→List (List UInt8)
 | []=>[[]]
 | b::r=>if b=c then []::Zd c r else match Zd c r with|x::xs=>(b::x)::xs | []=>[[b]]
theorem yn(c b:UInt8)(r:List UInt8):Zd c (b::r)=if b=c then []::Zd c r else match Zd c r with|x::xs=>(b::x)::xs | []=>[[b]]:=rfl
theorem yZ(c b:UInt8)(r:List UInt8):cutB c (b::r)=if b=c then ([],r,true) else (b::(cutB c r).1,(cutB c r).2.1,(cutB c r).2.2):=rfl
theorem zy(c:UInt8)(l:List UInt8):Zd c l≠[]:=by
 cases l with
 | nil=>simp[Zd]
 | cons b r=>unfold Zd;split;simp;split <;> simp
theorem yj(c:UInt8)(l:List UInt8):Zd c l=(cutB c l).1::if (cutB c l).2.2 then Zd c (cutB c l).2.1 else []:=by
 induction l with
 | nil=>rfl
 | cons b r ih=>
  rw[yn,yZ]
  by_cases hb:b=c
  ·rw[if_pos hb,if_pos hb];rfl
  ·rw[if_neg hb,if_neg hb,ih]
def Z8(c:UInt8):List (List UInt8)→List UInt8
 | []=>[]
 | [x]=>x
 | x::y::r=>x++c::Z8 c (y::r)
theorem zeN(c:UInt8)(l:List UInt8):Z8 c (Zd c l)=l:=by
 induction l with
 | nil=>rfl
 | cons b r ih=>
  unfold Zd
  by_cases hb:b=c
  ·rw[if_pos hb]
   cases hs:Zd c r with
   | nil=>exact absurd hs (zy c r)
   | cons x xs=>rw[hs]at ih;simp[Z8,ih,hb]
  ·rw[if_neg hb]
   cases hs:Zd c r with
   | nil=>exact absurd hs (zy c r)
   | cons x xs=>
    rw[hs]at ih
    cases xs with
    | nil=>simp[Z8]at ih ⊢;exact ih
    | cons y ys=>simp[Z8]at ih ⊢;exact ih
theorem jH(c:UInt8)(x:List UInt8)(h:c∉x):Zd c x=[x]:=by
 induction x with
 | nil=>rfl
 | cons b r ih=>
  simp at h
  unfold Zd
  rw[if_neg (fun e=>h.1 e.symm),ih h.2]
theorem ja(c:UInt8)(x l:List UInt8)(h:c∉x):Zd c (x++c::l)=x::Zd c l:=by
 induction x with
 | nil=>simp[Zd]
 | cons b r ih=>
  simp at h
  rw[List.cons_append,yn,if_neg (fun e=>h.1 e.symm),ih h.2]
def Ze(l:List UInt8):Option Nat:=if 4<l.length∨(1<l.length∧l.head?=some 48) then none else Lib.decNat l
def Zq{α β:Type}(f:α→Option β):List α→Option (List β)
 | []=>some []
 | x::r=>match f x,Zq f r with|some y,some ys=>some (y::ys)|_,_=>none
theorem yy{α β:Type}(f:α→Option β)(l:List α)(x:α)(ys:List β)(y:β)(h:Zq f l=some ys)(hx:f x=some y):Zq f (l++[x])=some (ys++[y]):=by
 induction l generalizing ys with
 | nil=>simp[Zq]at h;subst h;simp[Zq,hx]
 | cons a r ih=>
  simp only[List.cons_append,Zq]at h ⊢
  cases ha:f a with
  | none=>simp[ha]at h
  | some b=>
   cases hr:Zq f r with
   | none=>simp[ha,hr]at h
   | some bs=>simp[ha,hr]at h;subst h;simp[ih bs hr]
theorem qH{α β:Type}(f:α→Option β)(l r:List α)(x:α)(hx:f x=none):Zq f (l++x::r)=none:=by
 induction l with
 | nil=>simp[Zq,hx]
 | cons a l ih=>simp only[List.cons_append,Zq,ih];cases f a <;> rfl
def Y8(l:List UInt8):Option (List Int):=(Zq Ze (Zd 44 l)).map (List.map Int.ofNat)
def ZN(l:List UInt8):Option (Int×List Int):=
 match Ze (cutB 60 l).1 with
 | none=>none
 | some w=>if (cutB 60 l).2.2 then (Y8 (cutB 60 l).2.1).map (fun ns=>((w:Int),ns)) else some ((w:Int),[])
def ZW(l:List UInt8):Option Zl:=if l=[] then some [] else Zq ZN (Zd 32 l)
def digs(n:Int):List UInt8:=Lib.decDigits n.toNat
def Z6(t:Int×List Int):List UInt8:=digs t.1++if t.2=[] then [] else 60::Z8 44 (t.2.map digs)
def Yq(ts:Zl):List UInt8:=Z8 32 (ts.map Z6)
theorem zA(n:Nat)(h:n<10):Lib.decDigits n=[UInt8.ofNat (48+n)]:=by unfold Lib.decDigits;rw[dif_pos h]
theorem xl(n:Nat)(h:10≤n)(h2:n<100):Lib.decDigits n=[UInt8.ofNat (48+n / 10),UInt8.ofNat (48+n % 10)]:=by
 rw[Lib.decDigits,dif_neg (by omega),zA (n / 10) (by omega)];rfl
theorem yq(n:Nat)(h:10≤n):Lib.decDigits n=Lib.decDigits (n / 10)++[UInt8.ofNat (48+n % 10)]:=by
 rw[Lib.decDigits,dif_neg (by omega)]
theorem zct(d:Nat)(h:d<10):Lib.digitVal (UInt8.ofNat (48+d))=some d:=by
 have:(UInt8.ofNat (48+d)).toNat=48+d:=by rw[UInt8.toNat_ofNat'];omega
 unfold Lib.digitVal
 rw[this,if_pos (by omega)]
 congr 1;omega
theorem xt{b:UInt8}{d:Nat}(h:Lib.digitVal b=some d):b=UInt8.ofNat (48+d)∧d<10:=by
 unfold Lib.digitVal at h
 split at h
 ·rename_i hb
  simp at h
  refine⟨UInt8.toNat_inj.1 ?_,by omega⟩
  rw[UInt8.toNat_ofNat'];omega
 ·simp at h
theorem zex{d:Nat}(h:d<10){c:UInt8}(hc:c=32∨c=44∨c=60):UInt8.ofNat (48+d)≠c:=by
 intro e
 have h1:(UInt8.ofNat (48+d)).toNat=48+d:=by rw[UInt8.toNat_ofNat'];omega
 rw[e]at h1
 rcases hc with rfl|rfl|rfl <;> simp at h1 <;> omega
theorem zhp{d:Nat}(h:d<10):UInt8.ofNat (48+d)=48↔d=0:=by
 constructor
 ·intro e
  have h1:(UInt8.ofNat (48+d)).toNat=48+d:=by rw[UInt8.toNat_ofNat'];omega
  rw[e]at h1
  simp at h1;omega
 ·rintro rfl;rfl
theorem zjl(n:Nat)(h:n<100):Ze (Lib.decDigits n)=some n:=by
 by_cases h1:n<10
 ·rw[zA n h1]
  have v1:=zct n h1
  simp only[Ze,List.length_cons,List.length_nil,Lib.decNat,Lib.decFrom,v1,List.isEmpty_cons]
  rw[if_neg (by omega)]
  simp
 ·rw[xl n (by omega) h]
  have hne:UInt8.ofNat (48+n / 10)≠48:=fun e=>by have:=(zhp (by omega)).1 e;omega
  have v1:=zct (n / 10) (by omega)
  have v2:=zct (n % 10) (by omega)
  simp only[Ze,List.length_cons,List.length_nil,List.head?_cons,Option.some.injEq,Lib.decNat,Lib.decFrom,v1,v2,List.isEmpty_cons]
  rw[if_neg (by rintro (h|⟨_,h⟩);omega;exact hne h)]
  simp;omega
theorem zf7(n:Nat)(h:n<100)(c:UInt8)(hc:c=32∨c=44∨c=60):c∉Lib.decDigits n:=by
 by_cases h1:n<10
 ·rw[zA n h1]
  simp only[List.mem_singleton]
  exact fun e=>zex h1 hc e.symm
 ·rw[xl n (by omega) h]
  simp only[List.mem_cons,List.not_mem_nil,or_false,not_or]
  exact⟨fun e=>zex (by omega) hc e.symm,fun e=>zex (by omega) hc e.symm⟩
theorem zfN(l:List UInt8)(n:Nat)(h:Ze l=some n):l=Lib.decDigits n:=by
 unfold Ze at h
 split at h
 ·simp at h
 ·rename_i hc
  simp only[not_or,Nat.not_lt,not_and]at hc
  obtain⟨h4,hz⟩:=hc
  unfold Lib.decNat at h
  match l,h4,hz,h with
  | [],_,_,h=>simp at h
  | [a],_,_,h=>
   simp only[Lib.decFrom,List.isEmpty_cons]at h
   cases ha:Lib.digitVal a with
   | none=>simp[ha]at h
   | some d=>
    simp[ha]at h
    obtain⟨e,hd⟩:=xt ha
    subst h;rw[zA d hd,e]
  | [a,b],_,hz,h=>
   simp only[Lib.decFrom,List.isEmpty_cons]at h
   cases ha:Lib.digitVal a with
   | none=>simp[ha]at h
   | some d=>
    cases hb:Lib.digitVal b with
    | none=>simp[ha,hb]at h
    | some f=>
     simp[ha,hb]at h
     obtain⟨e,hd⟩:=xt ha
     obtain⟨e2,hf⟩:=xt hb
     have hne:d≠0:=fun e0=>by have:=hz (by simp);simp at this;exact this (by rw[e,e0];rfl)
     subst h
     rw[xl _ (by omega) (by omega),e,e2,show(d*10+f) / 10=d by omega,show(d*10+f) % 10=f by omega]
  | [a,b,c],_,hz,h=>
   simp only[Lib.decFrom,List.isEmpty_cons]at h
   cases ha:Lib.digitVal a with
   | none=>simp[ha]at h
   | some d=>
    cases hb:Lib.digitVal b with
    | none=>simp[ha,hb]at h
    | some f=>
     cases hc:Lib.digitVal c with
     | none=>simp[ha,hb,hc]at h
     | some g=>
      simp[ha,hb,hc]at h
      obtain⟨e,hd⟩:=xt ha
      obtain⟨e2,hf⟩:=xt hb
      obtain⟨e3,hg⟩:=xt hc
      have hne:d≠0:=fun e0=>by have:=hz (by simp);simp at this;exact this (by rw[e,e0];rfl)
      subst h
      rw[yq _ (by omega),xl _ (by omega) (by omega),e,e2,e3,show((d*10+f)*10+g) / 10 / 10=d by omega,show((d*10+f)*10+g) / 10 % 10=f by omega,show((d*10+f)*10+g) % 10=g by omega]
      rfl
  | [a,b,c,x],_,hz,h=>
   simp only[Lib.decFrom,List.isEmpty_cons]at h
   cases ha:Lib.digitVal a with
   | none=>simp[ha]at h
   | some d=>
    cases hb:Lib.digitVal b with
    | none=>simp[ha,hb]at h
    | some f=>
     cases hc:Lib.digitVal c with
     | none=>simp[ha,hb,hc]at h
     | some g=>
      cases hx:Lib.digitVal x with
      | none=>simp[ha,hb,hc,hx]at h
      | some i=>
       simp[ha,hb,hc,hx]at h
       obtain⟨e,hd⟩:=xt ha
       obtain⟨e2,hf⟩:=xt hb
       obtain⟨e3,hg⟩:=xt hc
       obtain⟨e4,hi⟩:=xt hx
       have hne:d≠0:=fun e0=>by have:=hz (by simp);simp at this;exact this (by rw[e,e0];rfl)
       subst h
       rw[yq _ (by omega),yq _ (by omega),xl _ (by omega) (by omega),e,e2,e3,e4,show(((d*10+f)*10+g)*10+i) / 10 / 10 / 10=d by omega,show(((d*10+f)*10+g)*10+i) / 10 / 10 % 10=f by omega,show(((d*10+f)*10+g)*10+i) / 10 % 10=g by omega,show(((d*10+f)*10+g)*10+i) % 10=i by omega]
       rfl
  | a::b::c::x::y::r,h4,_,_=>simp at h4
end
section
open Go
theorem zfH(c:UInt8)(x r:List UInt8)(h:c∉x):cutB c (x++c::r)=(x,r,true):=by
 induction x with
 | nil=>simp[cutB]
 | cons b x ih=>
  simp at h
  rw[List.cons_append,yZ,if_neg (fun e=>h.1 e.symm),ih h.2]
theorem zaP(c:UInt8)(x:List UInt8)(h:c∉x):cutB c x=(x,[],false):=by
 induction x with
 | nil=>rfl
 | cons b x ih=>
  simp at h
  rw[yZ,if_neg (fun e=>h.1 e.symm),ih h.2]
theorem zf4(c:UInt8)(l:List UInt8)(h:(cutB c l).2.2=true):l=(cutB c l).1++c::(cutB c l).2.1:=by
 induction l with
 | nil=>simp[cutB]at h
 | cons b r ih=>
  rw[yZ]at h ⊢
  by_cases hb:b=c
  ·rw[if_pos hb];simp[hb]
  ·rw[if_neg hb]at h ⊢
   have:=ih h
   simp only[List.cons_append]
   rw[←this]
def Small(t:Int×List Int):Prop:=(0≤t.1∧t.1<100)∧∀z,z∈t.2→0≤z∧z<100
theorem zez(z:Int)(h:0≤z∧z<100)(c:UInt8)(hc:c=32∨c=44∨c=60):c∉digs z:=zf7 z.toNat (by omega) c hc
theorem zbY(c b:UInt8)(ws:List (List UInt8))(h:b∈Z8 c ws):b=c∨∃w,w∈ws∧b∈w:=by
 induction ws with
 | nil=>simp[Z8]at h
 | cons x r ih=>
  cases r with
  | nil=>exact Or.inr ⟨x,by simp,h⟩
  | cons y ys=>
   have h':b∈x++c::Z8 c (y::ys):=h
   rcases List.mem_append.1 h' with h1|h1
   ·exact Or.inr ⟨x,by simp,h1⟩
   ·rcases List.mem_cons.1 h1 with h2|h2
    ·exact Or.inl h2
    ·rcases ih h2 with h3|⟨w,hw,hb⟩
     ·exact Or.inl h3
     ·exact Or.inr ⟨w,by simp[hw],hb⟩
end
section
open Go
def Yk(a:Int):List UInt8:=
 if a=1 then [116,111,111,107] else if a=2 then [115,116,111,108,101] else if a=3 then [102,101,116,99,104,101,100]
 else if a=4 then [102,105,110,105,115,104,101,100] else if a=5 then [115,108,101,112,116] else [119,111,107,101]
theorem six{a:Int}(h:1≤a∧a≤6):a=1∨a=2∨a=3∨a=4∨a=5∨a=6:=by omega
theorem zfB{a:Int}(h:1≤a∧a≤6):(32:UInt8)∉Yk a∧(10:UInt8)∉Yk a:=by
 rcases six h with rfl|rfl|rfl|rfl|rfl|rfl <;> decide
theorem zQ{z:Int}(h:0≤z∧z<100):(digs z).length≤2:=by
 unfold digs
 by_cases h1:z.toNat<10
 ·rw[zA _ h1];simp
 ·rw[xl _ (by omega) (by omega)];simp
theorem zcs{d:Nat}(h:d<10):UInt8.ofNat (48+d)≠10:=by
 intro e
 have h1:(UInt8.ofNat (48+d)).toNat=48+d:=by rw[UInt8.toNat_ofNat'];omega
 rw[e]at h1
 simp at h1
 omega
theorem zhr{z:Int}(h:0≤z∧z<100):(10:UInt8)∉digs z:=by
 unfold digs
 by_cases h1:z.toNat<10
 ·rw[zA _ h1]
  simp only[List.mem_singleton]
  exact fun e=>zcs h1 e.symm
 ·rw[xl _ (by omega) (by omega)]
  simp only[List.mem_cons,List.not_mem_nil,or_false,not_or]
  exact⟨fun e=>zcs (by omega) e.symm,fun e=>zcs (by omega) e.symm⟩
def XX(d:Deed):List (List UInt8):=
 if 4<d.1 then [Yk d.1,digs d.2.1] else if d.1=2 then [Yk d.1,digs d.2.1,digs d.2.2.1,digs d.2.2.2] else [Yk d.1,digs d.2.1,digs d.2.2.1]
def Zn(d:Deed):List UInt8:=Z8 32 (XX d)
def ZG(l:List Deed):List UInt8:=l.flatMap (fun d=>Zn d++[10])
theorem xM{d:Deed}(h:ZI d=0):(1≤d.1∧d.1≤6)∧(0≤d.2.1∧d.2.1≤5)∧(0≤d.2.2.1∧d.2.2.1≤29)∧(d.1=2→0≤d.2.2.2∧d.2.2.2≤5)∧(d.1≠2→d.2.2.2=0)∧(4<d.1→d.2.2.1=0):=by
 unfold ZI at h
 split at h
 ·omega
 ·split at h
  ·omega
  ·omega
theorem zcr{d:Deed}(h:ZI d=0){c:UInt8}(hc:c=32∨c=10):∀w,w∈XX d→c∉w:=by
 obtain⟨h1,h2,h3,h4,-,-⟩:=xM h
 have hw:=zfB h1
 have hd:∀z:Int,0≤z∧z<100→c∉digs z:=fun z hz=>by
  rcases hc with rfl|rfl
  ·exact zez z hz 32 (Or.inl rfl)
  ·exact zhr hz
 have hw2:c∉Yk d.1:=by
  rcases hc with rfl|rfl
  ·exact hw.1
  ·exact hw.2
 intro w hm
 unfold XX at hm
 split at hm
 ·simp only[List.mem_cons,List.not_mem_nil,or_false]at hm
  rcases hm with rfl|rfl
  ·exact hw2
  ·exact hd _ (by omega)
 ·split at hm
  ·rename_i h2'
   have:=h4 h2'
   simp only[List.mem_cons,List.not_mem_nil,or_false]at hm
   rcases hm with rfl|rfl|rfl|rfl
   ·exact hw2
   ·exact hd _ (by omega)
   ·exact hd _ (by omega)
   ·exact hd _ (by omega)
  ·simp only[List.mem_cons,List.not_mem_nil,or_false]at hm
   rcases hm with rfl|rfl|rfl
   ·exact hw2
   ·exact hd _ (by omega)
   ·exact hd _ (by omega)
theorem zcq{d:Deed}(h:ZI d=0):(10:UInt8)∉Zn d:=by
 intro hm
 rcases zbY 32 10 _ hm with e|⟨w,hw,hb⟩
 ·exact absurd e (by decide)
 ·exact zcr h (Or.inr rfl) w hw hb
end
section
def undB(L:Nat→Int)(y:Int):Bool:=decide (0<L y.toNat)
def rdyB(ts:Zl)(L:Nat→Int)(k:Nat):Bool:=decide (0<L k)&&!(Za ts k).any (undB L)
def Zx(ts:Zl)(L:Nat→Int)(m:Nat):List Nat:=(List.range m).filter (rdyB ts L)
theorem zbb(ts:Zl)(L:Nat→Int)(m:Nat):Zx ts L (m+1)=Zx ts L m++if rdyB ts L m then [m] else []:=by
 unfold Zx
 rw[List.range_succ,List.filter_append]
 cases h:rdyB ts L m <;> simp[h]
theorem j7{ts:Zl}{L:Nat→Int}{m k:Nat}:k∈Zx ts L m↔k<m∧rdyB ts L k=true:=by simp[Zx]
theorem qS(ts:Zl)(L:Nat→Int)(m:Nat):(Zx ts L m).length≤m:=by
 have:=List.length_filter_le (rdyB ts L) (List.range m)
 simpa[Zx]using this
theorem qB(ts:Zl)(L:Nat→Int)(m:Nat):(Zx ts L m).Nodup:=List.Pairwise.filter _ List.nodup_range
def decs(L:Nat→Int)(l:List Nat):Nat→Int:=l.foldl (fun f x=>upd f x (f x-1)) L
theorem zbR(L:Nat→Int)(l:List Nat)(x:Nat):decs L (l++[x])=upd (decs L l) x (decs L l x-1):=by simp[decs]
theorem zfI{l:List Nat}(hd:l.Nodup)(L:Nat→Int)(x:Nat):decs L l x=if x∈l then L x-1 else L x:=by
 induction l generalizing L with
 | nil=>simp[decs]
 | cons a l ih=>
  have e:decs L (a::l)=decs (upd L a (L a-1)) l:=rfl
  rw[e,ih (List.nodup_cons.1 hd).2]
  by_cases h:x=a
  ·subst h;simp[(List.nodup_cons.1 hd).1,upd]
  ·simp[h,upd]
def YV(L:Nat→Int):Nat→Int
 | 0=>0
 | k+1=>YV L k+L k
theorem zfu(L:Nat→Int)(x:Nat)(v:Int)(n:Nat)(h:n≤x):YV (upd L x v) n=YV L n:=by
 induction n with
 | zero=>rfl
 | succ n ih=>unfold YV;rw[ih (by omega),zq _ _ (by omega)]
theorem zg1(L:Nat→Int)(x:Nat)(v:Int)(n:Nat)(h:x<n):YV (upd L x v) n=YV L n-L x+v:=by
 induction n with
 | zero=>omega
 | succ n ih=>
  unfold YV
  by_cases e:x=n
  ·subst e;rw[zfu _ _ _ _ (qq1 _),yE];omega
  ·rw[ih (by omega),zq _ _ (by omega)];omega
theorem zft(l:List Nat)(n:Nat)(h:∀x,x∈l→x<n):∀L,YV (decs L l) n=YV L n-l.length:=by
 induction l with
 | nil=>intro L;simp[decs]
 | cons a l ih=>
  intro L
  have e:decs L (a::l)=decs (upd L a (L a-1)) l:=rfl
  rw[e,ih (fun x hx=>h x (List.mem_cons_of_mem _ hx)),zg1 _ _ _ _ (h a (List.mem_cons_self ..))]
  simp only[List.length_cons];omega
theorem zcP(L:Nat→Int)(h:∀x,0≤L x)(n:Nat):0≤YV L n:=by
 induction n with
 | zero=>exact Int.le_refl _
 | succ n ih=>unfold YV;have:=h n;omega
theorem zi7(L:Nat→Int)(n:Nat)(h:∀x,x<n→L x=0):YV L n=0:=by
 induction n with
 | zero=>rfl
 | succ n ih=>unfold YV;rw[ih (fun x hx=>h x (by omega)),h n (by omega)];rfl
theorem zfC(ts:Zl)(n:Nat):workTo ts n=YV (wkOf ts) n:=by
 induction n with
 | zero=>rfl
 | succ n ih=>unfold workTo YV;rw[ih]
def nowL(ts:Zl)(h:Nat)(L:Nat→Int):List Nat:=(Zx ts L ts.length).take h
def Zh(ts:Zl)(h:Nat):Nat→Nat→Int
 | 0=>wkOf ts
 | s+1=>decs (Zh ts h s) (nowL ts h (Zh ts h s))
def ZM(s:Nat)(l:List Nat):List (Nat×Nat×Nat):=l.mapIdx (fun h i=>(s,h,i))
def Zm(ts:Zl)(h:Nat):Nat→List (Nat×Nat×Nat)
 | 0=>[]
 | s+1=>Zm ts h s++ZM s (nowL ts h (Zh ts h s))
theorem zG(s:Nat)(l:List Nat):(ZM s l).length=l.length:=by simp[ZM]
theorem zal(s:Nat)(l:List Nat)(x:Nat):ZM s (l++[x])=ZM s l++[(s,l.length,x)]:=by simp[ZM,List.mapIdx_concat]
theorem qm{s:Nat}{l:List Nat}{b:Nat×Nat×Nat}(h:b∈ZM s l):b.1=s:=by
 unfold ZM at h
 rw[List.mem_mapIdx]at h
 obtain⟨_,_,rfl⟩:=h
 rfl
theorem ze1(ts:Zl)(h:Nat)(L:Nat→Int):(nowL ts h L).Nodup:=(qB ts L ts.length).sublist (List.take_sublist _ _)
theorem zdH{ts:Zl}{h:Nat}{L:Nat→Int}{x:Nat}(hx:x∈nowL ts h L):x<ts.length∧rdyB ts L x=true:=j7.1 (List.mem_of_mem_take hx)
theorem zhX{ts:Zl}{L:Nat→Int}{x:Nat}(h:rdyB ts L x=true):0<L x:=by
 unfold rdyB at h
 simp only[Bool.and_eq_true,decide_eq_true_eq]at h
 exact h.1
theorem zhM{ts:Zl}{h:Nat}{L:Nat→Int}:(nowL ts h L).length=min h (Zx ts L ts.length).length:=by simp[nowL]
theorem zcE{ts:Zl}{h:Nat}{L:Nat→Int}(hh:1≤h)(hn:Zx ts L ts.length≠[]):0<(nowL ts h L).length:=by
 have:=List.length_pos_iff.2 hn
 rw[zhM];omega
def Xr(ts:Zl):Prop:=ts.length≤30∧∀x,x<ts.length→1≤wkOf ts x∧wkOf ts x≤20
theorem zha{ts:Zl}{x:Nat}(h:ts.length≤x):wkOf ts x=0:=by
 unfold wkOf
 rw[qq6,List.getElem?_eq_none h]
 rfl
theorem yu{ts:Zl}(hw:Xr ts)(h s x:Nat):0≤Zh ts h s x∧Zh ts h s x≤20:=by
 induction s generalizing x with
 | zero=>
  by_cases hx:x<ts.length
  ·have:=hw.2 x hx
   show 0≤wkOf ts x∧wkOf ts x≤20
   omega
  ·show 0≤wkOf ts x∧wkOf ts x≤20
   rw[zha (by omega)];omega
 | succ s ih=>
  have h1:=ih x
  show 0≤decs _ _ x∧decs _ _ x≤20
  rw[zfI (ze1 _ _ _)]
  split
  ·rename_i hm
   have:=zhX (zdH hm).2
   omega
  ·exact h1
theorem zia(ts:Zl)(h s:Nat):YV (Zh ts h s) ts.length+(Zm ts h s).length=workTo ts ts.length:=by
 induction s with
 | zero=>rw[zfC];simp[Zh,Zm]
 | succ s ih=>
  show YV (decs _ _) _+((Zm ts h s++ZM s _).length:Nat)=_
  rw[zft _ _ (fun x hx=>(zdH hx).1),qb,zG]
  omega
theorem Xr.all{ts:Zl}(hw:Xr ts):0≤workTo ts ts.length∧workTo ts ts.length≤600:=by
 have:=qg hw.2 ts.length (qq1 _)
 have:=hw.1
 omega
theorem qn{ts:Zl}(hw:Xr ts)(h s:Nat):(Zm ts h s).length≤600:=by
 have h1:=zia ts h s
 have h2:=zcP (Zh ts h s) (fun x=>(yu hw h s x).1) ts.length
 have h3:=hw.all
 omega
def Busy(ts:Zl)(h s:Nat):Prop:=∀k,k<s→Zx ts (Zh ts h k) ts.length≠[]
def YO(ts:Zl)(h s:Nat):Prop:=Busy ts h s∧Zx ts (Zh ts h s) ts.length=[]
theorem Busy.zero(ts:Zl)(h:Nat):Busy ts h 0:=fun k hk=>by omega
theorem Busy.succ{ts:Zl}{h s:Nat}(hb:Busy ts h s)(hn:Zx ts (Zh ts h s) ts.length≠[]):Busy ts h (s+1):=fun k hk=>by
 by_cases e:k=s
 ·subst e;exact hn
 ·exact hb k (by omega)
theorem Busy.init{ts:Zl}{h s:Nat}(hb:Busy ts h (s+1)):Busy ts h s:=fun k hk=>hb k (by omega)
theorem Busy.len{ts:Zl}{h s:Nat}(hh:1≤h)(hb:Busy ts h s):s≤(Zm ts h s).length:=by
 induction s with
 | zero=>omega
 | succ s ih=>
  have:=ih hb.init
  have:=zcE hh (hb s (by omega))
  show _≤(Zm ts h s++ZM s _).length
  rw[qb,zG]
  omega
theorem Busy.le{ts:Zl}{h s:Nat}(hw:Xr ts)(hh:1≤h)(hb:Busy ts h s):s≤600:=qq2 (hb.len hh) (qn hw h s)
theorem YO.le{ts:Zl}{h s:Nat}(hw:Xr ts)(hh:1≤h)(hs:YO ts h s):s≤600:=hs.1.le hw hh
theorem YO.det{ts:Zl}{h s s':Nat}(hs:YO ts h s)(hs':YO ts h s'):s=s':=by
 rcases Nat.lt_trichotomy s s' with h1|h1|h1
 ·exact absurd hs.2 (hs'.1 s h1)
 ·exact h1
 ·exact absurd hs'.2 (hs.1 s' h1)
theorem zcO{ts:Zl}{h:Nat}(hw:Xr ts)(hh:1≤h):∃s,YO ts h s:=by
 have key:∀c s,Busy ts h s→600-s=c→∃s,YO ts h s:=by
  intro c
  induction c with
  | zero=>
   intro s hb hc
   by_cases e:Zx ts (Zh ts h s) ts.length=[]
   ·exact⟨s,hb,e⟩
   ·have:=(hb.succ e).le hw hh;omega
  | succ c ih=>
   intro s hb hc
   by_cases e:Zx ts (Zh ts h s) ts.length=[]
   ·exact⟨s,hb,e⟩
   ·exact ih (s+1) (hb.succ e) (by omega)
 exact key _ 0 (Busy.zero ts h) rfl
theorem YO.later{ts:Zl}{h s:Nat}(hs:YO ts h s)(k:Nat):Zh ts h (s+k)=Zh ts h s∧Zm ts h (s+k)=Zm ts h s:=by
 induction k with
 | zero=>exact⟨rfl,rfl⟩
 | succ k ih=>
  have e:nowL ts h (Zh ts h (s+k))=[]:=by rw[ih.1];unfold nowL;rw[hs.2];simp
  constructor
  ·show decs (Zh ts h (s+k)) (nowL ts h (Zh ts h (s+k)))=_
   rw[e];exact ih.1
  ·show Zm ts h (s+k)++ZM (s+k) (nowL ts h (Zh ts h (s+k)))=_
   rw[e,ih.2];simp[ZM]
theorem YO.at_end{ts:Zl}{h s:Nat}(hs:YO ts h s){k:Nat}(hk:s≤k):Zm ts h k=Zm ts h s:=by
 have:=(hs.later (k-s)).2
 rwa [show s+(k-s)=k by omega]at this
theorem Busy.last{ts:Zl}{h s:Nat}(hh:1≤h)(hb:Busy ts h s)(hs:0<(Zm ts h s).length):((Zm ts h s).getD ((Zm ts h s).length-1) (0,0,0)).1+1=s:=by
 cases s with
 | zero=>simp[Zm]at hs
 | succ s=>
  have hp:=zcE hh (hb s (by omega))
  have e:Zm ts h (s+1)=Zm ts h s++ZM s (nowL ts h (Zh ts h s)):=rfl
  rw[e]at hs ⊢
  have hl:0<(ZM s (nowL ts h (Zh ts h s))).length:=by rw[zG];exact hp
  have hm:∀b,b∈ZM s (nowL ts h (Zh ts h s))→b.1=s:=fun b hb=>qm hb
  generalize ZM s (nowL ts h (Zh ts h s))=l at *
  have hk:(Zm ts h s++l).getD ((Zm ts h s++l).length-1) (0,0,0)∈l:=by
   rw[qq6,List.getElem?_append_right (by rw[qb];omega),qq7 (by rw[qb];omega)]
   exact List.getElem_mem _
  rw[hm _ hk]
theorem Busy.none{ts:Zl}{h s:Nat}(hh:1≤h)(hb:Busy ts h s)(hs:(Zm ts h s).length=0):s=0:=by
 have:=hb.len hh;omega
def Yu(l:List (Nat×Nat×Nat)):Nat:=l.foldl (fun n b=>max n (b.1+1)) 0
theorem zcN(l:List (Nat×Nat×Nat))(b:Nat×Nat×Nat):Yu (l++[b])=max (Yu l) (b.1+1):=by simp[Yu]
theorem zfs(s:Nat)(l:List (Nat×Nat×Nat))(h:∀b,b∈l→b.1=s)(n:Nat):l.foldl (fun n b=>max n (b.1+1)) n=if l=[] then n else max n (s+1):=by
 induction l generalizing n with
 | nil=>simp
 | cons b l ih=>
  rw[List.foldl_cons,ih (fun b hb=>h b (List.mem_cons_of_mem _ hb)),h b (List.mem_cons_self ..)]
  split
  ·simp
  ·simp
theorem Busy.steps{ts:Zl}{h s:Nat}(hh:1≤h)(hb:Busy ts h s):Yu (Zm ts h s)=s:=by
 induction s with
 | zero=>rfl
 | succ s ih=>
  have hp:=zcE hh (hb s (by omega))
  have e:Zm ts h (s+1)=Zm ts h s++ZM s (nowL ts h (Zh ts h s)):=rfl
  have ih:=ih hb.init
  unfold Yu at ih ⊢
  rw[e,List.foldl_append,ih,zfs s _ (fun b hb=>qm hb),if_neg (fun e=>by have:=zG s (nowL ts h (Zh ts h s));rw[e]at this;simp at this;omega)]
  omega
end
end Go.Proofs.YtlfbdjeojgbniaaGreatDoor

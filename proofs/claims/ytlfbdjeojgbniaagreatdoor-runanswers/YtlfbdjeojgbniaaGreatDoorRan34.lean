import Derived.Test.YtlfbdjeojgbniaaGreatDoorRan33
import Derived.Test.YtlfbdjeojgbniaaGreatDoorRan13
import Derived.Test.YtlfbdjeojgbniaaGreatDoorRan17
namespace Go.Proofs.YtlfbdjeojgbniaaGreatDoor
section
open Go.RowKit Go.Deep
theorem xE(l m:List UInt8):(⟨l.toArray⟩:ByteArray)++⟨m.toArray⟩=⟨(l++m).toArray⟩:=by
 apply ByteArray.ext
 simp
theorem zdb(n:Nat)(hn:n<10):(⟨#[48,49,50,51,52,53,54,55,56,57]⟩:ByteArray).extract n (n+1)=⟨[UInt8.ofNat (48+n)].toArray⟩:=by
 have h:∀k:Fin 10,(⟨#[48,49,50,51,52,53,54,55,56,57]⟩:ByteArray).extract k.val (k.val+1)=⟨[UInt8.ofNat (48+k.val)].toArray⟩:=by decide +kernel
 exact h ⟨n,hn⟩
theorem zU{a b:ByteArray}(h:a=b):Ending.returned (.string a)=.returned (.string b):=by rw[h]
theorem yF{a b:ByteArray}(h:a=b):Value.string a=.string b:=by rw[h]
set_option maxRecDepth 100000 in
theorem qX(n:Nat)(w:World)(hn:n<10):Calls Tryz.prog 9 #[.int .i64 n] w fun e w'=>e=.returned (.string ⟨(Lib.decDigits n).toArray⟩)∧w'=w:=by
 go_enter Tryz.func9,Tryz.ntmps9
 go_wp2
 go_ret
 exact⟨zU (by rw[zdb n hn,zA n hn]),rfl⟩
set_option maxRecDepth 100000 in
theorem zcu(n:Nat)(w:World)(hn:¬n<10)(h2:n<100):Calls Tryz.prog 9 #[.int .i64 n] w fun e w'=>e=.returned (.string ⟨(Lib.decDigits n).toArray⟩)∧w'=w:=by
 have hi:=qX (n / 10) w (by omega)
 have hm:n % 10<10:=Nat.mod_lt _ (by omega)
 have hdl:(Lib.decDigits (n / 10)).length≤2:=by rw[zA (n / 10) (by omega)];simp
 go_enter Tryz.func9,Tryz.ntmps9
 go_wp2_with fail
 rw[show((n:Int) / 10)=((n / 10:Nat):Int) by omega]
 refine hi.mono ?_
 rintro e w' ⟨rfl,rfl⟩
 rw[show((n:Int) % 10)=((n % 10:Nat):Int) by omega]
 go_wp2
 go_ret
 exact⟨zU (by rw[zdb _ hm,xE,yq n (by omega)]),rfl⟩
theorem zw(n:Nat)(w:World)(h2:n<100):Calls Tryz.prog 9 #[.int .i64 n] w fun e w'=>e=.returned (.string ⟨(digs (n:Int)).toArray⟩)∧w'=w:=by
 unfold digs
 rw[Int.toNat_natCast]
 by_cases h:n<10
 ·exact qX n w h
 ·exact zcu n w h h2
set_option maxRecDepth 100000 in
set_option maxHeartbeats 4000000 in
theorem zg6(v:Value)(ts:Zl)(w:World)(hp:Zf w v ts)(hck:Zc ts 0 0) :
  Calls Tryz.prog 24 #[v] w fun e w'=>e=.returned (.string ⟨(Yq ts).toArray⟩)∧Below w.heap.size w w':=by
 obtain⟨hl,a,c,rfl,hp⟩:=hp
 obtain⟨_,h30,herr,_⟩:=hck.ok rfl
 have HE:Hid (∀j,j<ts.length→ZJ ts j=0):=herr
 have HTL:Hid (∀k,k<ts.length→(Z6 (ts.getD k (0,[]))).length≤92):=fun k hk=>by
  obtain⟨hw,hnd,hrs⟩:=xa (herr k hk)
  have hnlen:=xY _ ts.length hrs hnd
  refine x9 _ ⟨by omega,fun z hz=>?_⟩ (by show(Za ts k).length≤30;omega)
  have:=hnd z hz
  omega
 clear herr hck
 go_enter Tryz.func24,Tryz.ntmps24
 go_wp2
 go_loopw [3,4] (fun s3 s4 wr=>∃k:Nat,k≤ts.length∧s3=.string ⟨(Zt ts k).toArray⟩∧s4=.int .i64 k∧Below w.heap.size w wr) (fun _ s4 _=>ts.length-(intOf s4).toNat)
 case atStart=>exact⟨0,Nat.zero_le _,rfl,rfl,qq4 _ _⟩
 case round=>
  obtain⟨k,hk,rfl,rfl,hb⟩:=hrel
  by_cases hkl:k<ts.length
  ·rcases hp with rfl|⟨b,o,rfl,hbl,hc⟩
   ·simp at hkl
   obtain⟨hc1,nv,hc2,hnl,na,nc,rfl,hns⟩:=hc k hkl
   have hc1':=(hb.cell (p:=⟨b,o+k*2,none⟩) hbl).trans hc1
   obtain⟨hw,hnd,hrs⟩:=xa (HE.out k hkl)
   have HN:Hid (∀z,z∈Za ts k→0≤z∧z<100):=fun z hz=>by have:=hnd z hz;omega
   have hnlen:=xY _ ts.length hrs hnd
   have HT:Hid (Zt ts (k+1)=((if k=0 then Zt ts k else Zt ts k++[UInt8.ofNat 32])++digs (ts.getD k (0,[])).1)++ZL (Za ts k) (Za ts k).length):=by
    show _=_
    rw[xi ts k hkl,List.append_assoc]
    congr 1
    unfold Z6
    rw[xw];rfl
   clear hc hrs hnd
   generalize (ts.getD k (0,[])).1=wk at *
   obtain⟨wn,rfl⟩:=qc (show 0≤wk by omega)
   have hdg:=zw wn wr (by omega)
   have hpl:=xz ts HTL.out k hk
   have hdl:=y2 (wn:Int) (by omega)
   clear hc1
   by_cases hk0:k=0
   case' pos=>
    rw[if_pos hk0]at HT
    obtain⟨A,HA,HV,hAl⟩:∃A,Hid (Zt ts (k+1)=A++ZL (Za ts k) (Za ts k).length)∧Hid ((⟨(Zt ts k).toArray⟩:ByteArray)++⟨(digs (wn:Int)).toArray⟩=⟨A.toArray⟩)∧A.length≤3000:=⟨_,HT.out,xE _ _,by simp;omega⟩
    have hk0':¬(0:Int)<(k:Int):=by omega
    clear hk0
    go_wp2_with fail
    refine hdg.mono ?_
    rintro e w1 ⟨rfl,rfl⟩
    go_wp2
   case' neg=>
    rw[if_neg hk0]at HT
    obtain⟨A,HA,HV,hAl⟩:∃A,Hid (Zt ts (k+1)=A++ZL (Za ts k) (Za ts k).length)∧Hid ((⟨(Zt ts k).toArray⟩:ByteArray)++⟨#[32]⟩++⟨(digs (wn:Int)).toArray⟩=⟨A.toArray⟩)∧A.length≤3000:=⟨_,HT.out,by rw[show(⟨#[32]⟩:ByteArray)=⟨[UInt8.ofNat 32].toArray⟩ from rfl];simp only[Hid,xE],by simp;omega⟩
    have hk0':(0:Int)<(k:Int):=by omega
    clear hk0
    go_wp2_with fail
    refine hdg.mono ?_
    rintro e w1 ⟨rfl,rfl⟩
    go_wp2
   all_goals
    clear hc1' hdg HT hpl hdl
    go_loopw [3,6] (fun s3 s6 wr=>∃j:Nat,j≤(Za ts k).length∧s3=.string ⟨(A++ZL (Za ts k) j).toArray⟩∧s6=.int .i64 j∧Below w.heap.size w wr) (fun _ s6 _=>(Za ts k).length-(intOf s6).toNat)
    case atStart=>exact⟨0,Nat.zero_le _,yF (by rw[HV.out,xh,List.append_nil]),rfl,hb⟩
    case round=>
     clear hb
     obtain⟨j,hj,rfl,rfl,hb⟩:=hrel
     have hc2':=(hb.cell (p:=⟨b,o+k*2+1,none⟩) hbl).trans hc2
     by_cases hjl:j<(Za ts k).length
     ·rcases hns with hns|⟨nb,no,rfl,hnb,hnc⟩
      ·rw[hns]at hjl;simp at hjl
      have hyc:=(hb.cell (p:=⟨nb,no+j,none⟩) hnb).trans (hnc j hjl)
      have hym:(Za ts k).getD j 0∈Za ts k:=by rw[qq6,qq7 hjl];exact List.getElem_mem hjl
      have hyr:=HN.out _ hym
      have HS:Hid (ZL (Za ts k) (j+1)=(ZL (Za ts k) j++[UInt8.ofNat (YR j)])++digs ((Za ts k).getD j 0)):=xg _ j hjl
      have htl:=xx _ HN.out j hj
      clear hnc hym
      generalize (Za ts k).getD j 0=yz at *
      obtain⟨y,rfl⟩:=qc hyr.1
      have hdg:=zw y wr (by omega)
      have hdl:=y2 (y:Int) (by omega)
      cases j with
      | zero=>
       have hyc0:wr.cell? ⟨nb,no,none⟩=some (.int .i64 y):=by simpa using hyc
       clear hyc
       go_wp2_with (go_at_call 9;refine hdg.mono ?_;rintro e w2 ⟨rfl,rfl⟩)
       go_roundw
       case rel=>exact⟨0+1,by omega,yF (by rw[HS.out,show(⟨#[60]⟩:ByteArray)=⟨[UInt8.ofNat (YR 0)].toArray⟩ from rfl];simp only[xE,List.append_assoc]),by go_num,hb⟩
       case measure=>simp[intOf];omega
      | succ j=>
       go_wp2_with (go_at_call 9;refine hdg.mono ?_;rintro e w2 ⟨rfl,rfl⟩)
       go_roundw
       case rel=>exact⟨j+1+1,by omega,yF (by rw[HS.out,show(⟨#[44]⟩:ByteArray)=⟨[UInt8.ofNat (YR (j+1))].toArray⟩ from rfl];simp only[xE,List.append_assoc]),by go_num,hb⟩
       case measure=>simp[intOf];omega
     ·have hje:j=(Za ts k).length:=by omega
      subst hje
      clear hns
      go_wp2
      go_roundw
      case rel=>exact⟨k+1,by omega,yF (by rw[HA.out]),by go_num,hb⟩
      case measure=>simp[intOf];omega
  ·have hke:k=ts.length:=by omega
   subst hke
   clear hp
   go_wp2
   go_ret
   exact⟨zU (by rw[xy]),hb⟩
end
section
open Go
theorem zc7:∀m,m<10000→Lib.atoiAll (Lib.decDigits m)=.ok (m:Int)∧Ze (Lib.decDigits m)=some m:=by
 intro m hm
 have key:∀a b:Fin 100,Lib.atoiAll (Lib.decDigits (a.val*100+b.val))=.ok ((a.val*100+b.val:Nat):Int)∧Ze (Lib.decDigits (a.val*100+b.val))=some (a.val*100+b.val):=by decide +kernel
 have h:=key ⟨m / 100,by omega⟩ ⟨m % 100,by omega⟩
 rw[show m / 100*100+m % 100=m by omega]at h
 exact h
end
section
open Go
theorem zgH:∀(l:List UInt8) (acc:Nat),(acc+1)*10 ^ l.length≤1000000→Lib.parseUint10 acc l=.syntax∨∃u,Lib.parseUint10 acc l=.ok u∧u<(acc+1)*10 ^ l.length:=by
 intro l
 induction l with
 | nil=>intro acc _;exact Or.inr ⟨acc,rfl,by simp⟩
 | cons c r ih=>
  intro acc h
  rw[List.length_cons,Nat.pow_succ,Nat.mul_comm _ 10,←Nat.mul_assoc]at h ⊢
  unfold Lib.parseUint10
  by_cases hd:48≤c.toNat∧c.toNat≤57
  ·have hp:1≤10 ^ r.length:=Nat.pow_pos (by omega)
   have hacc:(acc+1)*10≤1000000:=qq2 (Nat.le_mul_of_pos_right _ hp) h
   have hle:(acc*10+(c.toNat-48)+1)*10 ^ r.length≤(acc+1)*10*10 ^ r.length:=Nat.mul_le_mul_right _ (by omega)
   rw[if_pos hd,if_neg (by omega),if_neg (by omega)]
   rcases ih (acc*10+(c.toNat-48)) (qq2 hle h)with e|⟨u,e,hu⟩
   ·exact Or.inl e
   ·exact Or.inr ⟨u,e,qq3 hu hle⟩
  ·rw[if_neg hd];exact Or.inl rfl
theorem jL{n:Nat}(h:n≤4):10 ^ n≤10000:=by
 have:=Nat.pow_le_pow_right (n:=10) (by omega) h
 simpa using this
theorem zgF(l:List UInt8)(h:l.length≤4):Lib.parseMag l=.syntax∨∃u,Lib.parseMag l=.ok u∧u<10000:=by
 unfold Lib.parseMag
 split
 ·exact Or.inl rfl
 ·have h4:=jL h
  rcases zgH l 0 (by omega)with e|⟨u,e,hu⟩
  ·exact Or.inl e
  ·exact Or.inr ⟨u,e,by omega⟩
theorem zfW(l:List UInt8)(h:l.length≤4):Lib.atoiAll l=.syntax∨∃v:Int,Lib.atoiAll l=.ok v∧v<10000:=by
 cases l with
 | nil=>exact Or.inl rfl
 | cons c r=>
  have hs:(if c.toNat=43∨c.toNat=45 then r else c::r).length≤4:=by
   simp at h
   split
   ·omega
   ·simp;omega
  unfold Lib.atoiAll
  dsimp only
  rcases zgF _ hs with e|⟨u,e,hu⟩
  ·rw[e];exact Or.inl rfl
  ·rw[e]
   dsimp only
   right
   rw[if_neg (by omega),if_neg (by omega)]
   refine⟨_,rfl,?_⟩
   split <;> omega
theorem zc6:∀(l:List UInt8) (acc m:Nat),Lib.decFrom acc l=some m→m<(acc+1)*10 ^ l.length:=by
 intro l
 induction l with
 | nil=>intro acc m h;simp[Lib.decFrom]at h;simp;omega
 | cons c r ih=>
  intro acc m h
  unfold Lib.decFrom at h
  cases hc:Lib.digitVal c with
  | none=>rw[hc]at h;cases h
  | some d=>
   rw[hc]at h
   have hd:d≤9:=by
    unfold Lib.digitVal at hc
    split at hc
    ·simp at hc;omega
    ·cases hc
   have h1:=ih _ m h
   rw[List.length_cons,Nat.pow_succ,Nat.mul_comm _ 10,←Nat.mul_assoc]
   exact qq3 h1 (Nat.mul_le_mul_right _ (by omega))
theorem ji{l:List UInt8}{m:Nat}(h:Ze l=some m):m<10000:=by
 unfold Ze at h
 split at h
 ·cases h
 ·rename_i hc
  unfold Lib.decNat at h
  split at h
  ·cases h
  ·have h1:=zc6 _ _ _ h
   have h2:=jL (n:=l.length) (by omega)
   omega
theorem zb4{l:List UInt8}{m:Nat}(h:Ze l=some m):Lib.atoiAll l=.ok (m:Int):=by
 rw[zfN l m h]
 exact(zc7 m (ji h)).1
theorem zdI{l:List UInt8}(h:Lib.atoiAll l=.syntax):Ze l=none:=by
 cases e:Ze l with
 | none=>rfl
 | some m=>rw[zb4 e]at h;cases h
theorem zfM{l:List UInt8}{v:Int}(h:Lib.atoiAll l=.ok v)(hn:¬(0≤v∧digs v=l)):Ze l=none:=by
 cases e:Ze l with
 | none=>rfl
 | some m=>
  have h1:=zb4 e
  rw[h]at h1
  simp only[Lib.NumEnd.ok.injEq]at h1
  refine absurd ⟨by omega,?_⟩ hn
  rw[h1]
  unfold digs
  rw[Int.toNat_natCast]
  exact(zfN l m e).symm
theorem zhN{v:Int}(h0:0≤v)(h1:v<10000):Ze (digs v)=some v.toNat:=(zc7 v.toNat (by omega)).2
theorem zgu{l:List UInt8}(h:4<l.length):Ze l=none:=by unfold Ze;rw[if_pos (Or.inl h)]
theorem zap{c:UInt8}{l:List UInt8}(h:c∈l):∃x y,l=x++c::y∧c∉x∧Lib.index l [c]=(x.length:Int):=by
 obtain⟨x,y,e,hx⟩:=List.eq_append_cons_of_mem h
 refine⟨x,y,e,hx,?_⟩
 rw[Lib.index_one,e]
 clear e h
 induction x with
 | nil=>simp[Lib.indexByte]
 | cons b r ih=>
  have hb:b≠c:=fun e=>hx (by simp[e])
  have hr:=ih (fun e=>hx (by simp[e]))
  rw[List.cons_append]
  unfold Lib.indexByte
  rw[hr]
  simp[hb]
theorem zam{c:UInt8}{x y:List UInt8}{k:Nat}(hx:c∉x)(h:Lib.count (x++c::y) [c]=k+1):Lib.count y [c]=k:=by
 rw[Lib.count_one,List.count_append,List.count_cons_self,List.count_eq_zero.2 hx]at h
 rw[Lib.count_one];omega
theorem zfo(c:UInt8):∀(k:Nat) (l:List UInt8),Lib.count l [c]=k→Lib.splitK [c] 0 k l=Zd c l:=by
 intro k
 induction k with
 | zero=>
  intro l h
  rw[Lib.count_one,List.count_eq_zero]at h
  rw[jH c l h]
  rfl
 | succ k ih=>
  intro l h
  have hm:c∈l:=by
   rw[Lib.count_one]at h
   exact List.count_pos_iff.1 (by omega)
  obtain⟨x,y,rfl,hx,hi⟩:=zap hm
  unfold Lib.splitK
  rw[hi]
  have h1:((x.length:Int)==-1)=false:=by rw[beq_eq_false_iff_ne];omega
  rw[h1,if_neg (by decide),Int.toNat_natCast,Nat.add_zero,List.take_left',List.length_singleton]
  rw[ja c x y hx,show x++c::y=(x++[c])++y by simp,List.drop_left' (by simp),ih y (zam hx h)]
  rfl
theorem zcM(c:UInt8):∀(l x:List UInt8),x∈Zd c l→x.length≤l.length:=by
 intro l
 induction l with
 | nil=>intro x hx;simp[Zd]at hx;rw[hx];simp
 | cons b r ih=>
  intro x hx
  rw[yn]at hx
  by_cases hb:b=c
  ·rw[if_pos hb]at hx
   rcases List.mem_cons.1 hx with rfl|hx
   ·simp
   ·have:=ih x hx;simp;omega
  ·rw[if_neg hb]at hx
   obtain⟨a,s,hs⟩:=List.exists_cons_of_ne_nil (zy c r)
   rw[hs]at hx ih
   rcases List.mem_cons.1 hx with rfl|hx
   ·have:=ih a (by simp);simp;omega
   ·have:=ih x (by simp[hx]);simp;omega
theorem zcK(c d:UInt8):∀(k:Nat) (l:List UInt8),Lib.count l [c]=k→Lib.replaceK [c] [d] k l=l.map (fun b=>if b=c then d else b):=by
 have hcl:∀x:List UInt8,c∉x→x.map (fun b=>if b=c then d else b)=x:=fun x hx=>by
  conv=>rhs;rw[←List.map_id x]
  exact List.map_congr_left (fun b hb=>by rw[if_neg (fun e=>hx (by rw[←e];exact hb))];rfl)
 intro k
 induction k with
 | zero=>
  intro l h
  rw[Lib.count_one,List.count_eq_zero]at h
  rw[hcl l h]
  rfl
 | succ k ih=>
  intro l h
  have hm:c∈l:=by
   rw[Lib.count_one]at h
   exact List.count_pos_iff.1 (by omega)
  obtain⟨x,y,rfl,hx,hi⟩:=zap hm
  unfold Lib.replaceK
  rw[hi]
  have h1:((x.length:Int)==-1)=false:=by rw[beq_eq_false_iff_ne];omega
  rw[h1,if_neg (by decide),Int.toNat_natCast,List.take_left',List.length_singleton]
  ·rw[show x++c::y=(x++[c])++y by simp,List.drop_left' (by simp),ih y (zam hx h)]
   rw[List.map_append,List.map_append,hcl x hx]
   simp
  ·rfl
theorem zbf(c d:UInt8)(hcd:c≠d)(l:List UInt8):Lib.replaceAll l [c] [d]=l.map (fun b=>if b=c then d else b):=by
 unfold Lib.replaceAll Lib.replace
 rw[if_neg (by simp[hcd])]
 unfold Lib.replaceNum
 rw[if_pos (Or.inl (by decide))]
 exact zcK c d _ l rfl
theorem zda{ds:List Deed}(h:∀d,d∈ds→ZI d=0):(ZG ds).map (fun b=>if b=(10:UInt8) then 59 else b)=ds.flatMap (fun x=>Zn x++[59]):=by
 unfold ZG
 induction ds with
 | nil=>rfl
 | cons x r ih=>
  have hx:=zcq (h x (by simp))
  rw[List.flatMap_cons,List.flatMap_cons,List.map_append,List.map_append,ih (fun d hd=>h d (by simp[hd]))]
  congr 2
  ·conv=>rhs;rw[←List.map_id (Zn x)]
   exact List.map_congr_left (fun b hb=>by rw[if_neg (fun e=>hx (by rw[←e];exact hb))];rfl)
end
section
open Go.RowKit Go.Deep
theorem zdN(v:Value)(ts:Zl)(w:World)(hp:Zf w v ts)(hc:Zc ts 0 0) :
  Calls Tryz.prog 90 #[v] w fun e w'=>e=.returned (.tuple #[.string ⟨(Yq ts).toArray⟩,.nilIface])∧Below w.heap.size w w':=by
 refine(zfd v ts w hp).mono ?_
 rintro e w' ⟨⟨p,q,hc',h⟩,hb⟩
 obtain⟨_,rfl⟩:=hc.det hc'
 rcases h with⟨h,_⟩|⟨_,h⟩
 ·exact absurd rfl h
 ·exact⟨h,hb⟩
end
section
def Y7:List Deed→Int
 | []=>0
 | d::r=>if ZI d=0 then Y7 r else ZI d
def ZZ(ds:List Deed):Int:=if 1000<ds.length then 4 else Y7 ds
theorem zgd:∀(l:List Deed) (k:Nat),k<l.length→(∀j,j<k→ZI (l.getD j (0,0,0,0))=0)→ZI (l.getD k (0,0,0,0))≠0→Y7 l=ZI (l.getD k (0,0,0,0)):=by
 intro l
 induction l with
 | nil=>intro k hk;simp at hk
 | cons a r ih=>
  intro k hk hj hf
  rw[Y7]
  cases k with
  | zero=>exact if_neg hf
  | succ k=>
   have h0:ZI a=0:=hj 0 (by omega)
   rw[if_pos h0]
   exact ih k (by simpa using hk) (fun j h=>hj (j+1) (by omega)) hf
theorem zdg:∀(l:List Deed),(∀j,j<l.length→ZI (l.getD j (0,0,0,0))=0)→Y7 l=0:=by
 intro l
 induction l with
 | nil=>intro _;rfl
 | cons a r ih=>
  intro h
  have h0:ZI a=0:=h 0 (by simp)
  rw[Y7,if_pos h0]
  exact ih (fun j hj=>h (j+1) (by simpa using hj))
theorem zdh:∀{l:List Deed},Y7 l=0→∀d,d∈l→ZI d=0:=by
 intro l
 induction l with
 | nil=>intro _ d hd;simp at hd
 | cons a r ih=>
  intro h d hd
  rw[Y7]at h
  by_cases h0:ZI a=0
  ·rw[if_pos h0]at h
   rcases List.mem_cons.1 hd with rfl|hd
   ·exact h0
   ·exact ih h d hd
  ·rw[if_neg h0]at h;exact absurd h h0
theorem zbs{ds:List Deed}(h:ZZ ds=0):ds.length≤1000∧∀d,d∈ds→ZI d=0:=by
 unfold ZZ at h
 by_cases h1:1000<ds.length
 ·rw[if_pos h1]at h;omega
 ·rw[if_neg h1]at h;exact⟨by omega,zdh h⟩
theorem zf8{a h t o:Int}(hc:a<1∨6<a∨h<0∨5<h∨t<0∨29<t∨(a=2∧(o<0∨5<o))):ZI (a,h,t,o)=1:=if_pos hc
theorem zc8{a h t o:Int}(hn:¬(a<1∨6<a∨h<0∨5<h∨t<0∨29<t∨(a=2∧(o<0∨5<o))))(hc:(a≠2∧o≠0)∨(4<a∧t≠0)):ZI (a,h,t,o)=3:=by
 unfold ZI
 rw[if_neg hn,if_pos hc]
theorem zew{a h t o:Int}(hn:¬(a<1∨6<a∨h<0∨5<h∨t<0∨29<t∨(a=2∧(o<0∨5<o))))(hc:¬((a≠2∧o≠0)∨(4<a∧t≠0))):ZI (a,h,t,o)=0:=by
 unfold ZI
 rw[if_neg hn,if_neg hc]
end
section
open Go.RowKit Go.Deep
end
section
open Go.RowKit Go.Deep Go.Maps
section
variable {w w':World} {B q n:Nat} {S:Nat→Bool} {f:Nat→Int}
end
theorem z8(n b:Int)(w:World):Calls Tryz.prog 189 #[.int .i64 n,.int .i64 b] w fun e w'=>e=.returned (.bool (Zr n b))∧w'=w:=by
 by_cases h1:0≤n
 ·by_cases h2:n<b
  ·go_enter Tryz.func189,Tryz.ntmps189
   go_wp2
   go_ret
   exact⟨by simp[Zr,h1,h2],rfl⟩
  ·go_enter Tryz.func189,Tryz.ntmps189
   go_wp2
   go_ret
   exact⟨by simp[Zr,h1,h2],rfl⟩
 ·go_enter Tryz.func189,Tryz.ntmps189
  go_wp2
  go_ret
  exact⟨by rw[show Zr n b=false by simp[Zr];omega];rfl,rfl⟩
def hasT(x:Int):Bool:=decide (x≠5)&&decide (x≠6)
theorem zao(x1 x2 x3 x4:Int)(w:World):Calls Tryz.prog 190 #[.agg #[.int .i64 x1,.int .i64 x2,.int .i64 x3,.int .i64 x4]] w fun e w'=>e=.returned (.bool (hasT x1))∧Below w.heap.size w w':=by
 have HB:Hid (Below w.heap.size w (w.alloc (.cells #[.int .i64 x1,.int .i64 x2,.int .i64 x3,.int .i64 x4] 91))):=(qq4 _ _).alloc (qq1 _) _
 by_cases h5:x1=5
 ·subst h5
  go_enter Tryz.func190,Tryz.ntmps190
  go_wp2
  go_ret
  exact⟨rfl,HB.out⟩
 ·have e5:(x1 != 5)=true:=by simp[h5]
  by_cases h6:x1=6
  ·subst h6
   go_enter Tryz.func190,Tryz.ntmps190
   go_wp2
   go_ret
   exact⟨rfl,HB.out⟩
  ·have e6:(x1 != 6)=true:=by simp[h6]
   have HT:Hid (hasT x1=true):=(show hasT x1=true by simp[hasT,h5,h6])
   clear h5 h6
   go_enter Tryz.func190,Tryz.ntmps190
   go_wp2
   go_ret
   exact⟨by rw[HT.out];simp,HB.out⟩
theorem yt{n b:Int}(h:0≤n∧n<b):Zr n b=true:=by simp[Zr,h]
theorem yK{n b:Int}(h:n<0∨b≤n):Zr n b=false:=by simp[Zr];omega
set_option maxRecDepth 100000 in
set_option maxHeartbeats 4000000 in
theorem zbp(x1 x2 x3 x4:Int)(w:World):Calls Tryz.prog 162 #[.agg #[.int .i64 x1,.int .i64 x2,.int .i64 x3,.int .i64 x4]] w fun e w'=>e=.returned (errV (ZI (x1,x2,x3,x4)))∧Below w.heap.size w w':=by
 obtain⟨W,hW⟩:∃W,W=w.alloc (.cells #[.int .i64 x1,.int .i64 x2,.int .i64 x3,.int .i64 x4] 91):=⟨_,rfl⟩
 have HB:Hid (Below w.heap.size w (w.alloc (.cells #[.int .i64 x1,.int .i64 x2,.int .i64 x3,.int .i64 x4] 91))):=(qq4 _ _).alloc (qq1 _) _
 have HB2:Hid (∀w2,Below (w.alloc (.cells #[.int .i64 x1,.int .i64 x2,.int .i64 x3,.int .i64 x4] 91)).heap.size (w.alloc (.cells #[.int .i64 x1,.int .i64 x2,.int .i64 x3,.int .i64 x4] 91)) w2→Below w.heap.size w w2∧w2.cell? ⟨w.heap.size,2,none⟩=some (.int .i64 x3)):=fun w2 h=>⟨HB.out.trans (h.mono (by simp)),(h.cell (p:=⟨w.heap.size,2,none⟩) (by simp)).trans (zhL w x1 x2 x3 x4).2.2.1⟩
 clear hW W
 by_cases p1:x1<1∨6<x1∨x2<0∨5<x2∨x3<0∨29<x3∨(x1=2∧(x4<0∨5<x4))
 ·have HR:Hid (ZI (x1,x2,x3,x4)=1):=zf8 p1
  by_cases q1:x1<1
  ·clear p1
   go_enter Tryz.func162,Tryz.ntmps162
   go_wp2;go_ret;exact⟨by rw[HR.out];rfl,HB.out⟩
  by_cases q2:6<x1
  ·clear p1
   go_enter Tryz.func162,Tryz.ntmps162
   go_wp2;go_ret;exact⟨by rw[HR.out];rfl,HB.out⟩
  by_cases q3:x2<0∨6≤x2
  ·have b2:=yK (b:=6) q3
   clear p1
   go_enter Tryz.func162,Tryz.ntmps162
   go_wp2_with (first|(go_at_call 189;refine(z8 _ _ _).mono ?_;rintro e w ⟨rfl,rfl⟩))
   all_goals
    go_ret
    exact⟨by rw[HR.out];rfl,HB.out⟩
  have b2:=yt (n:=x2) (b:=6) (by omega)
  by_cases e2:x1=2
  ·subst e2
   by_cases q4:x4<0∨6≤x4
   ·have b4:=yK (b:=6) q4
    clear p1
    go_enter Tryz.func162,Tryz.ntmps162
    go_wp2_with (first|(go_at_call 189;refine(z8 _ _ _).mono ?_;rintro e w ⟨rfl,rfl⟩))
    go_ret
    exact⟨by rw[HR.out];rfl,HB.out⟩
   have b4:=yt (n:=x4) (b:=6) (by omega)
   have b3:=yK (n:=x3) (b:=30) (by omega)
   clear p1
   go_enter Tryz.func162,Tryz.ntmps162
   go_wp2_with (first|(go_at_call 189;refine(z8 _ _ _).mono ?_;rintro e w ⟨rfl,rfl⟩))
   go_ret
   exact⟨by rw[HR.out];rfl,HB.out⟩
  ·have e2b:(x1==2)=false:=beq_eq_false_iff_ne.2 e2
   have b3:=yK (n:=x3) (b:=30) (by omega)
   clear p1
   go_enter Tryz.func162,Tryz.ntmps162
   go_wp2_with (first|(go_at_call 189;refine(z8 _ _ _).mono ?_;rintro e w ⟨rfl,rfl⟩))
   go_ret
   exact⟨by rw[HR.out];rfl,HB.out⟩
 ·have q1:¬x1<1:=by omega
  have q2:¬6<x1:=by omega
  have b2:=yt (n:=x2) (b:=6) (by omega)
  have b3:=yt (n:=x3) (b:=30) (by omega)
  by_cases p2:(x1≠2∧x4≠0)∨(4<x1∧x3≠0)
  ·have HR:Hid (ZI (x1,x2,x3,x4)=3):=zc8 p1 p2
   have e2:x1≠2:=by omega
   have e2b:(x1==2)=false:=beq_eq_false_iff_ne.2 e2
   by_cases q7:x4=0
   ·subst q7
    have ht:hasT x1=false:=by simp[hasT];omega
    have q9:(x3 != 0)=true:=by simp;omega
    have hht:=zao x1 x2 x3 0 (w.alloc (.cells #[.int .i64 x1,.int .i64 x2,.int .i64 x3,.int .i64 0] 91))
    rw[ht]at hht
    clear p1 p2 ht
    go_enter Tryz.func162,Tryz.ntmps162
    go_wp2_with (first|(go_at_call 189;refine(z8 _ _ _).mono ?_;rintro e w ⟨rfl,rfl⟩)|(go_at_call 190;refine hht.mono ?_;clear hht;rintro e w2 ⟨rfl,hb2⟩;obtain⟨hb3,hc3⟩:=HB2.out w2 hb2;clear hb2))
    go_ret
    exact⟨by rw[HR.out];rfl,hb3⟩
   ·have q9:(x4 != 0)=true:=by simp[q7]
    clear p1 p2 q7
    go_enter Tryz.func162,Tryz.ntmps162
    go_wp2_with (first|(go_at_call 189;refine(z8 _ _ _).mono ?_;rintro e w ⟨rfl,rfl⟩))
    go_ret
    exact⟨by rw[HR.out];rfl,HB.out⟩
  ·have HR:Hid (ZI (x1,x2,x3,x4)=0):=zew p1 p2
   have hht:=zao x1 x2 x3 x4 (w.alloc (.cells #[.int .i64 x1,.int .i64 x2,.int .i64 x3,.int .i64 x4] 91))
   by_cases e2:x1=2
   ·subst e2
    have b4:=yt (n:=x4) (b:=6) (by omega)
    rw[show hasT 2=true from rfl]at hht
    clear p1 p2
    go_enter Tryz.func162,Tryz.ntmps162
    go_wp2_with (first|(go_at_call 189;refine(z8 _ _ _).mono ?_;rintro e w ⟨rfl,rfl⟩)|(go_at_call 190;refine hht.mono ?_;clear hht;rintro e w2 ⟨rfl,hb2⟩;obtain⟨hb3,hc3⟩:=HB2.out w2 hb2;clear hb2))
    go_ret
    exact⟨by rw[HR.out];rfl,hb3⟩
   ·have e4:x4=0:=by omega
    subst e4
    have e2b:(x1==2)=false:=beq_eq_false_iff_ne.2 e2
    by_cases q7:4<x1
    ·have e3:x3=0:=by omega
     subst e3
     have ht:hasT x1=false:=by simp[hasT];omega
     rw[ht]at hht
     clear p1 p2 e2 ht
     go_enter Tryz.func162,Tryz.ntmps162
     go_wp2_with (first|(go_at_call 189;refine(z8 _ _ _).mono ?_;rintro e w ⟨rfl,rfl⟩)|(go_at_call 190;refine hht.mono ?_;clear hht;rintro e w2 ⟨rfl,hb2⟩;obtain⟨hb3,hc3⟩:=HB2.out w2 hb2;clear hb2))
     go_ret
     exact⟨by rw[HR.out];rfl,hb3⟩
    ·have ht:hasT x1=true:=by simp[hasT];omega
     rw[ht]at hht
     clear p1 p2 e2 ht
     go_enter Tryz.func162,Tryz.ntmps162
     go_wp2_with (first|(go_at_call 189;refine(z8 _ _ _).mono ?_;rintro e w ⟨rfl,rfl⟩)|(go_at_call 190;refine hht.mono ?_;clear hht;rintro e w2 ⟨rfl,hb2⟩;obtain⟨hb3,hc3⟩:=HB2.out w2 hb2;clear hb2))
     go_ret
     exact⟨by rw[HR.out];rfl,hb3⟩
set_option maxRecDepth 100000 in
set_option maxHeartbeats 4000000 in
theorem zaN(v:Value)(ds:List Deed)(w:World)(hv:YL w v ds) :
  Calls Tryz.prog 127 #[v] w fun e w'=>e=.returned (errV (ZZ ds))∧Below w.heap.size w w':=by
 have HV:Hid (YL w v ds):=hv
 obtain⟨_,a,c,rfl,_⟩:=hv
 by_cases hful:1000<ds.length
 ·have hfi:(1000:Int)<(ds.length:Int):=by omega
  have HE:Hid (ZZ ds=4):=if_pos hful
  go_enter Tryz.func127,Tryz.ntmps127
  go_wp2
  go_ret
  exact⟨by rw[HE.out];rfl,qq4 _ _⟩
 have hfi:¬(1000:Int)<(ds.length:Int):=by omega
 have HE:Hid (ZZ ds=Y7 ds):=if_neg hful
 go_enter Tryz.func127,Tryz.ntmps127
 go_wp2
 go_loopw [12] (fun s12 wr=>∃k:Nat,k≤ds.length∧s12=.int .i64 k∧Hid (∀j,j<k→ZI (ds.getD j (0,0,0,0))=0)∧Hid (Below w.heap.size w wr)) (fun s12 _=>ds.length-(intOf s12).toNat)
 case atStart=>exact⟨0,Nat.zero_le _,rfl,fun j hj=>by omega,qq4 _ _⟩
 case round=>
  obtain⟨k,hk,rfl,hno,hb⟩:=hrel
  by_cases hkl:k<ds.length
  ·obtain⟨b,o,rfl,hbl,c0,c1,c2,c3⟩:=(HV.out.later hb.out).four hkl
   have HBAD:Hid (∀q,ZI (ds.getD k (0,0,0,0))=q→q≠0→ZZ ds=q):=fun q hq h0=>by rw[HE.out,zgd ds k hkl hno.out (by rw[hq];exact h0),hq]
   have HGOOD:Hid (ZI (ds.getD k (0,0,0,0))=0→∀j,j<k+1→ZI (ds.getD j (0,0,0,0))=0):=fun hq j hj=>by
    by_cases e:j=k
    ·rw[e];exact hq
    ·exact hno.out j (by omega)
   have HD:Hid (ds.getD k (0,0,0,0)=((ds.getD k (0,0,0,0)).1,(ds.getD k (0,0,0,0)).2.1,(ds.getD k (0,0,0,0)).2.2.1,(ds.getD k (0,0,0,0)).2.2.2)):=rfl
   have HB2:Hid (Below w.heap.size w (wr.alloc (.cells #[.int .i64 (ds.getD k (0,0,0,0)).1,.int .i64 (ds.getD k (0,0,0,0)).2.1,.int .i64 (ds.getD k (0,0,0,0)).2.2.1,.int .i64 (ds.getD k (0,0,0,0)).2.2.2] 91))):=hb.out.alloc hb.out.size _
   have hcd:=zbp (ds.getD k (0,0,0,0)).1 (ds.getD k (0,0,0,0)).2.1 (ds.getD k (0,0,0,0)).2.2.1 (ds.getD k (0,0,0,0)).2.2.2 (wr.alloc (.cells #[.int .i64 (ds.getD k (0,0,0,0)).1,.int .i64 (ds.getD k (0,0,0,0)).2.1,.int .i64 (ds.getD k (0,0,0,0)).2.2.1,.int .i64 (ds.getD k (0,0,0,0)).2.2.2] 91))
   rw[←HD.out]at hcd
   clear HD hno HV HE
   by_cases he:ZI (ds.getD k (0,0,0,0))=0
   ·rw[he,zI]at hcd
    have HG:Hid (∀j,j<k+1→ZI (ds.getD j (0,0,0,0))=0):=HGOOD.out he
    clear HBAD HGOOD he
    generalize (ds.getD k (0,0,0,0)).1=x1 at *
    generalize (ds.getD k (0,0,0,0)).2.1=x2 at *
    generalize (ds.getD k (0,0,0,0)).2.2.1=x3 at *
    generalize (ds.getD k (0,0,0,0)).2.2.2=x4 at *
    go_wp2_with (first|(go_at_call 162;refine hcd.mono ?_;clear hcd;rintro e w2 ⟨rfl,hb2⟩;have HB3:Hid (Below w.heap.size w w2):=HB2.out.trans (hb2.mono HB2.out.size);clear hb2))
    go_roundw
    case rel=>exact⟨k+1,by omega,by go_num,HG,HB3⟩
    case measure=>simp[intOf];omega
   ·have HR:Hid (ZZ ds=ZI (ds.getD k (0,0,0,0))):=HBAD.out _ rfl he
    rw[zu he]at hcd
    have HEV:Hid (errV (ZZ ds)=.iface 97 (.int .i64 (ZI (ds.getD k (0,0,0,0))))):=by rw[HR.out];exact zu he
    clear HBAD HGOOD he HR
    generalize ZI (ds.getD k (0,0,0,0))=de at *
    generalize (ds.getD k (0,0,0,0)).1=x1 at *
    generalize (ds.getD k (0,0,0,0)).2.1=x2 at *
    generalize (ds.getD k (0,0,0,0)).2.2.1=x3 at *
    generalize (ds.getD k (0,0,0,0)).2.2.2=x4 at *
    go_wp2_with (first|(go_at_call 162;refine hcd.mono ?_;clear hcd;rintro e w2 ⟨rfl,hb2⟩;have HB3:Hid (Below w.heap.size w w2):=HB2.out.trans (hb2.mono HB2.out.size);clear hb2))
    go_ret
    exact⟨by rw[HEV.out];rfl,HB3.out⟩
  ·have HR:Hid (ZZ ds=0):=by rw[HE.out];exact zdg ds (fun j hj=>hno.out j (by omega))
   go_wp2
   go_ret
   exact⟨by rw[HR.out];rfl,hb.out⟩
end
section
open Go
end
section
open Go
def Xq(a:Int):Nat:=if a=2 then 3 else if 4<a then 1 else 2
end
end Go.Proofs.YtlfbdjeojgbniaaGreatDoor

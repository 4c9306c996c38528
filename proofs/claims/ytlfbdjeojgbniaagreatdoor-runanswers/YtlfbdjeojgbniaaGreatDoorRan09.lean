import Derived.Test.YtlfbdjeojgbniaaGreatDoorRan05
namespace Go.Proofs.YtlfbdjeojgbniaaGreatDoor
section
theorem qZ(l m:List Nat):Zb (l++m)=Zb l++Zb m:=by simp[Zb]
theorem ql(zs:List Int)(h:rising zs=true):zs.Pairwise (· < ·):=by
 induction zs with
 | nil=>exact List.Pairwise.nil
 | cons a r ih=>
  cases r with
  | nil=>simp
  | cons b r=>
   simp only[rising,Bool.and_eq_true,decide_eq_true_eq]at h
   have hp:=ih h.2
   refine List.Pairwise.cons (fun x hx=>?_) hp
   rcases List.mem_cons.1 hx with rfl|hx
   ·exact h.1
   ·have:=(List.pairwise_cons.1 hp).1 x hx;omega
structure Good (ts:Zl):Prop where
 le:ts.length≤30
 rng:ZA ts
 nd:∀x,x<ts.length→(Za ts x).Nodup
 up:∀x,x<ts.length→(Za ts x).Pairwise (· < ·)
 no:∀j,j<ts.length→¬Zs ts j j
theorem jr{ts:Zl}{k:Nat}(h:ZJ ts k=0):rising (Za ts k)=true:=by
 unfold ZJ ZT at h
 split at h
 ·simp at h
 ·split at h
  ·simp at h
  ·split at h
   ·assumption
   ·simp at h
theorem Zc.good{ts:Zl}(h:Zc ts 0 0):Good ts:=by
 obtain⟨_,h1,h2,h3⟩:=h.ok rfl
 exact⟨h1,yh h2,fun x hx=>(ql _ (jr (h2 x hx))).imp (fun h=>by omega),fun x hx=>ql _ (jr (h2 x hx)),h3⟩
def ZD(ts:Zl)(S:Nat→Bool)(k:Nat):Nat:=((Za ts k).filter (fun y=>!S y.toNat)).length
def ZC(ts:Zl)(m k:Nat):List Nat:=(List.range m).filter (fun i=>decide ((k:Int)∈Za ts i))
def ZE(ts:Zl)(S:Nat→Bool)(k:Nat):Bool:=!S k&&decide (ZD ts S k=0)
def Zg(ts:Zl)(S:Nat→Bool)(m:Nat):List Nat:=(List.range m).filter (ZE ts S)
def newL(ts:Zl)(S:Nat→Bool)(i:Nat):List Nat:=(ZC ts ts.length i).filter (fun k=>decide (ZD ts (mark S i) k=0))
def stN(ts:Zl)(S:Nat→Bool)(k:Nat):Nat:=if S k then 2 else if ZD ts S k=0 then 1 else 0
def Down(ts:Zl)(S:Nat→Bool):Prop:=∀k,k<ts.length→S k=true→ZD ts S k=0
theorem xd{ts:Zl}{S:Nat→Bool}{k:Nat}:ZD ts S k=0↔∀y,y∈Za ts k→S y.toNat=true:=by
 unfold ZD
 rw[List.length_eq_zero_iff,List.filter_eq_nil_iff]
 constructor
 ·intro h y hy;have:=h y hy;simpa using this
 ·intro h y hy;simp[h y hy]
theorem zeU(ts:Zl)(k:Nat):ZD ts (fun _=>false) k=(Za ts k).length:=by
 unfold ZD
 congr 1
 exact List.filter_eq_self.2 (fun _ _=>rfl)
theorem zhK(ts:Zl)(S:Nat→Bool)(k:Nat):ZD ts S k≤(Za ts k).length:=List.length_filter_le _ _
theorem qR(S:Nat→Bool)(i:Nat):mark S i i=true:=by simp[mark]
theorem xQ{S:Nat→Bool}{i k:Nat}(h:k≠i):mark S i k=S k:=by simp[mark,h]
theorem zb1{S:Nat→Bool}{i k:Nat}(h:S k=true):mark S i k=true:=by unfold mark;split <;> simp[h]
theorem zer(S:Nat→Bool)(i:Nat)(hS:S i=false)(l:List Int)(hd:l.Nodup)(h0:∀y,y∈l→0≤y) :
  (l.filter (fun y=>!S y.toNat)).length=(l.filter (fun y=>!mark S i y.toNat)).length+if (i:Int)∈l then 1 else 0:=by
 induction l with
 | nil=>simp
 | cons y l ih=>
  have ih:=ih (List.nodup_cons.1 hd).2 (fun z hz=>h0 z (List.mem_cons_of_mem _ hz))
  have hy0:=h0 y (List.mem_cons_self ..)
  have hnd:=(List.nodup_cons.1 hd).1
  by_cases e:y=(i:Int)
  ·subst e
   rw[if_neg hnd]at ih
   simp only[List.filter_cons,Int.toNat_natCast,hS,qR,Bool.not_false,Bool.not_true,if_true,List.length_cons,List.mem_cons,true_or]
   simp[ih]
  ·have hne:y.toNat≠i:=by omega
   have hm:((i:Int)∈y::l)↔(i:Int)∈l:=by simp[List.mem_cons];intro h;exact absurd h.symm e
   simp only[List.filter_cons,xQ hne,hm]
   split <;> (try simp only[List.length_cons]) <;> omega
theorem jh{ts:Zl}(hg:Good ts){S:Nat→Bool}{i k:Nat}(hS:S i=false)(hk:k<ts.length) :
  ZD ts S k=ZD ts (mark S i) k+if (i:Int)∈Za ts k then 1 else 0:=
 zer S i hS _ (hg.nd k hk) (fun y hy=>(hg.rng k hk y hy).1)
theorem j6{ts:Zl}{m i k:Nat}:k∈ZC ts m i↔k<m∧(i:Int)∈Za ts k:=by simp[ZC]
theorem zaj(ts:Zl)(m i:Nat):(ZC ts m i).Nodup:=List.Pairwise.filter _ List.nodup_range
theorem jQ(ts:Zl)(m i:Nat):(ZC ts m i).length≤m:=by
 have:=List.length_filter_le (fun j=>decide ((i:Int)∈Za ts j)) (List.range m)
 simpa[ZC]using this
theorem zgt{ts:Zl}(hg:Good ts){i:Nat}(hi:i<ts.length):¬(i:Int)∈Za ts i:=fun h=>hg.no i hi (Zs.one h)
theorem jC(ts:Zl)(S:Nat→Bool)(m:Nat):Zg ts S (m+1)=Zg ts S m++if ZE ts S m then [m] else []:=by
 unfold Zg
 rw[List.range_succ,List.filter_append]
 cases h:ZE ts S m <;> simp[h]
theorem yR{ts:Zl}{S:Nat→Bool}{m k:Nat}:k∈Zg ts S m↔k<m∧ZE ts S k=true:=by simp[Zg]
theorem z6(ts:Zl)(S:Nat→Bool)(m:Nat):(Zg ts S m).length≤m:=by
 have:=List.length_filter_le (ZE ts S) (List.range m)
 simpa[Zg]using this
theorem xA(ts:Zl)(S:Nat→Bool)(m:Nat):(Zg ts S m).Nodup:=List.Pairwise.filter _ List.nodup_range
def Yo(ts:Zl)(i m k:Nat):List Nat:=ZC ts i k++if (k:Int)∈(Za ts i).take m then [i] else []
theorem je(ts:Zl)(i k:Nat):Yo ts i 0 k=ZC ts i k:=by simp[Yo]
theorem zfT(ts:Zl)(i k:Nat):Yo ts i (Za ts i).length k=ZC ts (i+1) k:=by
 unfold Yo ZC
 rw[List.range_succ,List.filter_append,List.take_length]
 by_cases h:(k:Int)∈Za ts i <;> simp[h]
theorem zfV(ts:Zl)(i m k:Nat):(Yo ts i m k).length≤i+1:=by
 have:=jQ ts i k
 unfold Yo
 split <;> simp <;> omega
theorem zaf{l:List Int}{m:Nat}(h:m<l.length):l.take (m+1)=l.take m++[l.getD m 0]:=by
 rw[qq8 h,qq6,qq7 h];rfl
theorem zfU{ts:Zl}(hg:Good ts){i m y:Nat}(hi:i<ts.length)(hm:m<(Za ts i).length)(hy:(Za ts i).getD m 0=(y:Int)):Yo ts i (m+1) y=Yo ts i m y++[i]:=by
 have hnd:=hg.nd i hi
 have hno:¬(y:Int)∈(Za ts i).take m:=by
  rw[←List.take_append_drop (m+1) (Za ts i),zaf hm,hy]at hnd
  have:=(List.nodup_append.1 (List.nodup_append.1 hnd).1).2.2
  intro h
  exact this _ h _ (by simp) rfl
 unfold Yo
 rw[zaf hm,hy]
 simp[hno]
theorem zef{ts:Zl}{i m y k:Nat}(hm:m<(Za ts i).length)(hy:(Za ts i).getD m 0=(y:Int))(hk:k≠y):Yo ts i (m+1) k=Yo ts i m k:=by
 unfold Yo
 rw[zaf hm,hy]
 have:¬(k:Int)=(y:Int):=by omega
 simp[this]
theorem zfL{ts:Zl}(hg:Good ts){S:Nat→Bool}(hd:Down ts S){i:Nat}(hi:i<ts.length)(hS:S i=false) :
  newL ts S i=(List.range ts.length).filter (fun k=>ZE ts (mark S i) k&&!ZE ts S k):=by
 unfold newL ZC
 rw[List.filter_filter]
 refine List.filter_congr fun k hk=>?_
 have hk:=List.mem_range.1 hk
 have hm:=jh hg (S:=S) (i:=i) hS hk
 unfold ZE
 by_cases h:(i:Int)∈Za ts k
 ·rw[if_pos h]at hm
  have hne:k≠i:=fun e=>zgt hg hi (e▸h)
  have hSk:S k=false:=by
   cases hs:S k with
   | false=>rfl
   | true=>have:=hd k hk hs;omega
  simp only[h,hm,xQ hne,hSk]
  simp
 ·rw[if_neg h,Nat.add_zero]at hm
  by_cases e:k=i
  ·subst e
   simp[h,qR]
  ·rw[xQ e,←hm]
   cases hs:S k <;> simp[h]
theorem zE{ts:Zl}{S:Nat→Bool}{k:Nat}(h:ZE ts S k=true):S k=false∧ZD ts S k=0:=by
 unfold ZE at h
 simpa using h
theorem Down.none(ts:Zl):Down ts (fun _=>false):=fun k _ h=>by simp at h
theorem Down.mark{ts:Zl}{S:Nat→Bool}(hd:Down ts S){i:Nat}(hr:ZE ts S i=true):Down ts (mark S i):=by
 intro k hk h
 have hz:ZD ts S k=0:=by
  by_cases e:k=i
  ·rw[e];exact(zE hr).2
  ·rw[xQ e]at h;exact hd k hk h
 exact xd.2 fun y hy=>zb1 (xd.1 hz y hy)
theorem zdx{ts:Zl}(hg:Good ts){S:Nat→Bool}(hd:Down ts S){i:Nat}(hi:i<ts.length)(hS:S i=false){k:Nat}:k∈newL ts S i↔k<ts.length∧ZE ts (mark S i) k=true∧ZE ts S k=false:=by
 rw[zfL hg hd hi hS]
 simp
theorem zeZ(ts:Zl)(S:Nat→Bool)(i:Nat):(newL ts S i).Nodup:=List.Pairwise.filter _ (zaj ts _ i)
theorem zdD(ts:Zl)(S:Nat→Bool)(i:Nat):(newL ts S i).length≤ts.length:=qq2 (List.length_filter_le _ _) (jQ ts _ i)
theorem zd6(n:Nat):unseen (fun _=>false) n=n:=by
 induction n with
 | zero=>rfl
 | succ n ih=>unfold unseen;rw[ih];rfl
end
section
def putO(room:Nat)(nr:Int)(xs:List Int):List Int:=if nr=-1∨xs.length<room then [] else xs.take ((xs.length+1) / 2)
def putR(room:Nat)(nr:Int)(xs:List Int):List Int:=if nr=-1 then xs else if xs.length<room then xs++[nr] else xs.drop ((xs.length+1) / 2)++[nr]
def allH(nr:Int)(xs:List Int):List Int:=if nr=-1 then xs else xs++[nr]
def updG{α:Type}(f:Nat→α)(h:Nat)(x:α):Nat→α:=fun k=>if k=h then x else f k
theorem zg{α:Type}(f:Nat→α)(h:Nat)(x:α):updG f h x h=x:=by simp[updG]
theorem zh{α:Type}(f:Nat→α){h k:Nat}(x:α)(e:k≠h):updG f h x k=f k:=by simp[updG,e]
structure Gs where
 S:Nat→Bool
 task:Nat→Int
 work:Nat→Int
 near:Nat→Int
 ring:Nat→List Int
 sp:List Int
 zz:List Int
abbrev Deed:=Int×Int×Int×Int
def wokeD(a:Int):Deed:=(6,a,0,0)
abbrev Hs:=Int×List Int×List Int
def XY(room:Nat)(s:Hs)(n:Int):Hs:=(n,putR room s.1 s.2.1,s.2.2++putO room s.1 s.2.1)
def Yb(room:Nat)(s:Hs)(l:List Int):Hs:=l.foldl (XY room) s
def Zv(ts:Zl)(x:Nat):Int:=(ts.getD x (0,[])).1
def takes(ts:Zl)(g:Gs)(h:Nat)(i:Int):Gs:={ g with task:=updG g.task h i,work:=updG g.work h (Zv ts i.toNat) }
def ends(ts:Zl)(room:Nat)(g:Gs)(h:Nat):Gs:=
 let l:=newL ts g.S (g.task h).toNat
 let r:=Yb room (g.near h,g.ring h,g.sp) (Zb l)
 {S:=mark g.S (g.task h).toNat,task:=updG g.task h (-1),work:=updG g.work h (g.work h-1),near:=updG g.near h r.1,ring:=updG g.ring h r.2.1,sp:=r.2.2,zz:=g.zz.drop l.length }
def Xn(ts:Zl)(g:Gs)(h:Nat):List Deed:=
 (4,(h:Int),g.task h,0)::(g.zz.take (newL ts g.S (g.task h).toNat).length).map (fun a=>(6,a,0,0))
def robs(ts:Zl)(room:Nat)(g:Gs)(h o:Nat):Gs:=
 let l:=(g.ring o).take (((g.ring o).length+1) / 2)
 let g1:Gs:={ g with ring:=updG g.ring o ((g.ring o).drop (((g.ring o).length+1) / 2)) }
 let r:=Yb room (g1.near h,g1.ring h,[]) l.tail
 takes ts { g1 with near:=updG g1.near h r.1,ring:=updG g1.ring h r.2.1 } h (l.headD 0)
def gstep(ts:Zl)(room hands:Nat)(g:Gs)(h pick:Nat):Gs:=
 if (h:Int)∈g.zz then g
 else if 0≤g.task h then
  if 1<g.work h then { g with work:=updG g.work h (g.work h-1) } else ends ts room g h
 else if g.near h≠-1 then takes ts { g with near:=updG g.near h (-1) } h (g.near h)
 else if g.ring h≠[] then takes ts { g with ring:=updG g.ring h (g.ring h).dropLast } h ((g.ring h).getLastD 0)
 else if g.sp≠[] then takes ts { g with sp:=g.sp.tail } h (g.sp.headD 0)
 else if pick % hands=h∨g.ring (pick % hands)=[] then { g with zz:=g.zz++[(h:Int)] }
 else robs ts room g h (pick % hands)
def gdeeds(ts:Zl)(hands:Nat)(g:Gs)(h pick:Nat):List Deed:=
 if (h:Int)∈g.zz then []
 else if 0≤g.task h then
  if 1<g.work h then [] else Xn ts g h
 else if g.near h≠-1 then [(1,(h:Int),g.near h,0)]
 else if g.ring h≠[] then [(1,(h:Int),(g.ring h).getLastD 0,0)]
 else if g.sp≠[] then [(3,(h:Int),g.sp.headD 0,0)]
 else if pick % hands=h∨g.ring (pick % hands)=[] then [(5,(h:Int),0,0)]
 else [(2,(h:Int),((g.ring (pick % hands)).take (((g.ring (pick % hands)).length+1) / 2)).headD 0,((pick % hands:Nat):Int))]
def gnew(ts:Zl):Gs:={ S:=fun _=>false,task:=fun _=>-1,work:=fun _=>0,near:=fun _=>-1,ring:=fun _=>[],sp:=Zb (Zg ts (fun _=>false) ts.length),zz:=[] }
def oneT(t:Int):List Int:=if 0≤t then [t] else []
def ofH(g:Gs)(h:Nat):List Int:=oneT (g.task h)++allH (g.near h) (g.ring h)
def Yp(g:Gs):Nat→List Int
 | 0=>[]
 | n+1=>Yp g n++ofH g n
def Yd(g:Gs)(hands:Nat):List Int:=Yp g hands++g.sp
theorem qy{g g':Gs}{n:Nat}(h:∀k,k<n→ofH g' k=ofH g k):Yp g' n=Yp g n:=by
 induction n with
 | zero=>rfl
 | succ n ih=>rw[Yp,Yp,ih (fun k hk=>h k (by omega)),h n (by omega)]
theorem xH{g g':Gs}{n h:Nat}(hh:h<n)(he:∀k,k≠h→ofH g' k=ofH g k)(l m:List Int)(hp:(l++ofH g' h).Perm (m++ofH g h)):(l++Yp g' n).Perm (m++Yp g n):=by
 induction n with
 | zero=>omega
 | succ n ih=>
  rw[Yp,Yp]
  by_cases e:n=h
  ·subst e
   rw[qy (fun k hk=>he k (by omega))]
   refine(List.perm_append_comm_assoc _ _ _).trans ?_
   refine List.Perm.trans ?_ (List.perm_append_comm_assoc _ _ _)
   exact List.Perm.append_left _ hp
  ·rw[he n e,←List.append_assoc,←List.append_assoc]
   exact(ih (by omega)).append_right _
end
section
theorem yx(xs:List Int):allH (-1) xs=xs:=by simp[allH]
theorem xD{n:Int}(h:n≠-1)(xs:List Int):allH n xs=xs++[n]:=by simp[allH,h]
theorem zgy:oneT (-1)=[]:=by simp[oneT]
theorem zX{t:Int}(h:0≤t):oneT t=[t]:=by simp[oneT,h]
theorem zhS(room:Nat)(nr:Int)(xs:List Int){n:Int}(hn:n≠-1):(putO room nr xs++allH n (putR room nr xs)).Perm (allH nr xs++[n]):=by
 rw[xD hn]
 unfold putO putR
 by_cases h:nr=-1
 ·subst h
  simp[yx]
 ·rw[xD h]
  by_cases hl:xs.length<room
  ·simp[h,hl]
  ·simp only[h,hl,or_self,if_false]
   rw[←List.append_assoc,←List.append_assoc,List.take_append_drop]
theorem ziJ{room:Nat}(hr:1≤room)(nr:Int){xs:List Int}(h:xs.length≤room):(putR room nr xs).length≤room:=by
 unfold putR
 split
 ·exact h
 ·split
  ·simp;omega
  ·simp;omega
theorem qz(room:Nat)(s:Hs)(n:Int)(l:List Int):Yb room s (n::l)=Yb room (XY room s n) l:=rfl
theorem qA(room:Nat)(l:List Int):∀(s:Hs),(∀n,n∈l→n≠-1)→((Yb room s l).2.2++allH (Yb room s l).1 (Yb room s l).2.1).Perm ((s.2.2++allH s.1 s.2.1)++l):=by
 induction l with
 | nil=>intro s _;simp[Yb]
 | cons n l ih=>
  intro s h
  rw[qz]
  refine(ih (XY room s n) (fun m hm=>h m (List.mem_cons_of_mem _ hm))).trans ?_
  have hp:=zhS room s.1 s.2.1 (h n (List.mem_cons_self ..))
  show((s.2.2++putO room s.1 s.2.1)++allH n (putR room s.1 s.2.1)++l).Perm _
  rw[List.append_assoc s.2.2]
  have:(s.2.2++(putO room s.1 s.2.1++allH n (putR room s.1 s.2.1))++l).Perm (s.2.2++(allH s.1 s.2.1++[n])++l):=(hp.append_left _).append_right _
  refine this.trans ?_
  simp
theorem za8{room:Nat}(hr:1≤room)(l:List Int):∀(s:Hs),s.2.1.length≤room→(Yb room s l).2.1.length≤room:=by
 induction l with
 | nil=>intro s h;exact h
 | cons n l ih=>intro s h;rw[qz];exact ih _ (ziJ hr _ h)
theorem zdO(room:Nat)(l:List Int):∀(s:Hs),s.2.1.length+l.length≤room→(Yb room s l).2.2=s.2.2:=by
 induction l with
 | nil=>intro s _;rfl
 | cons n l ih=>
  intro s h
  simp only[List.length_cons]at h
  have hl:s.2.1.length<room:=by omega
  rw[qz,ih]
  ·show s.2.2++putO room s.1 s.2.1=s.2.2
   simp[putO,hl]
  ·have:(putR room s.1 s.2.1).length≤s.2.1.length+1:=by
    unfold putR
    split
    ·omega
    ·simp
   show(putR room s.1 s.2.1).length+l.length≤room
   omega
structure Inv (ts:Zl) (room hands:Nat) (g:Gs):Prop where
 held:(Yd g hands).Perm (Zb (Zg ts g.S ts.length))
 down:Down ts g.S
 zr:∀x,x∈g.zz→∃h,h<hands∧x=((h:Nat):Int)∧g.task h=-1∧g.near h=-1∧g.ring h=[]
 znd:g.zz.Nodup
 awake:g.sp≠[]→∃h,h<hands∧((h:Nat):Int)∉g.zz
 ringLe:∀h,h<hands→(g.ring h).length≤room
 workOk:∀h,h<hands→0≤g.task h→1≤g.work h∧g.work h≤Zv ts (g.task h).toNat
 taskM:∀h,h<hands→-1≤g.task h
theorem yC{g:Gs}{n:Nat}{x:Int}:x∈Yp g n↔∃h,h<n∧x∈ofH g h:=by
 induction n with
 | zero=>simp[Yp]
 | succ n ih=>
  rw[Yp,List.mem_append,ih]
  constructor
  ·rintro (⟨h,hh,hx⟩|hx)
   ·exact⟨h,by omega,hx⟩
   ·exact⟨n,by omega,hx⟩
  ·rintro⟨h,hh,hx⟩
   by_cases e:h=n
   ·subst e;exact Or.inr hx
   ·exact Or.inl ⟨h,by omega,hx⟩
variable {ts:Zl} {room hands:Nat} {g:Gs}
theorem Inv.rdy(hI:Inv ts room hands g){x:Int}(hx:x∈Yd g hands):∃k,x=((k:Nat):Int)∧k<ts.length∧ZE ts g.S k=true:=by
 have:=(hI.held.mem_iff).1 hx
 obtain⟨k,hk,rfl⟩:=List.mem_map.1 this
 obtain⟨h1,h2⟩:=yR.1 hk
 exact⟨k,rfl,h1,h2⟩
theorem qM{h:Nat}(hh:h<hands)(ht:0≤g.task h):g.task h∈Yd g hands:=by
 refine List.mem_append.2 (Or.inl (yC.2 ⟨h,hh,?_⟩))
 simp[ofH,zX ht]
theorem xG{h:Nat}(hh:h<hands)(ht:g.near h≠-1):g.near h∈Yd g hands:=by
 refine List.mem_append.2 (Or.inl (yC.2 ⟨h,hh,?_⟩))
 simp[ofH,xD ht]
theorem zW{h:Nat}(hh:h<hands){x:Int}(hx:x∈g.ring h):x∈Yd g hands:=by
 refine List.mem_append.2 (Or.inl (yC.2 ⟨h,hh,?_⟩))
 unfold ofH allH
 split <;> simp[hx]
theorem jw{x:Int}(hx:x∈g.sp):x∈Yd g hands:=List.mem_append.2 (Or.inr hx)
theorem Inv.held_le(hI:Inv ts room hands g):(Yd g hands).length≤ts.length:=by
 rw[hI.held.length_eq,zd]
 exact z6 ts g.S ts.length
theorem Inv.new(hh:1≤hands):Inv ts room hands (gnew ts):=by
 have h0:∀n,Yp (gnew ts) n=[]:=by
  intro n
  induction n with
  | zero=>rfl
  | succ n ih=>rw[Yp,ih];simp[ofH,gnew,oneT,allH]
 refine⟨?_,Down.none ts,fun x hx=>by simp[gnew]at hx,by simp[gnew],fun _=>⟨0,by omega,by simp[gnew]⟩,fun h _=>by simp[gnew],fun h _ ht=>by simp[gnew]at ht,fun h _=>by simp[gnew]⟩
 unfold Yd
 rw[h0]
 exact List.Perm.refl _
end
section
variable {ts:Zl} {room hands:Nat} {g:Gs}
theorem zcz{l:List Nat}(h:l.Nodup):(Zb l).Nodup:=by
 unfold Zb
 exact List.Pairwise.map _ (fun a b hab e=>hab (by have e2:((a:Nat):Int)=((b:Nat):Int):=e;omega)) h
theorem xR{l:List Nat}{x:Int}:x∈Zb l↔∃k,k∈l∧x=((k:Nat):Int):=by
 unfold Zb
 rw[List.mem_map]
 constructor
 ·rintro⟨k,h,rfl⟩;exact⟨k,h,rfl⟩
 ·rintro⟨k,h,rfl⟩;exact⟨k,h,rfl⟩
theorem zdM{l m:List Nat}(hl:l.Nodup)(hm:m.Nodup)(h:∀k,k∈l↔k∈m):l.Perm m:=(List.perm_ext_iff_of_nodup hl hm).2 h
theorem zfk{S:Nat→Bool}{i k:Nat}(h:ZE ts S k=true)(hk:k≠i):ZE ts (mark S i) k=true:=by
 obtain⟨h1,h2⟩:=zE h
 unfold ZE
 rw[xQ hk,h1,xd.2 (fun y hy=>zb1 (xd.1 h2 y hy))]
 rfl
theorem zdQ(hg:Good ts){S:Nat→Bool}(hd:Down ts S){i:Nat}(hi:i<ts.length)(hr:ZE ts S i=true) :
  (i::Zg ts (mark S i) ts.length).Perm (newL ts S i++Zg ts S ts.length):=by
 have hS:=(zE hr).1
 have hni:ZE ts (mark S i) i=false:=by simp[ZE,qR]
 refine zdM (List.nodup_cons.2 ⟨fun h=>?_,xA _ _ _⟩) (List.nodup_append.2 ⟨zeZ _ _ _,xA _ _ _,fun a ha b hb e=>?_⟩) (fun k=>?_)
 ·have:=(yR.1 h).2
  rw[hni]at this
  cases this
 ·subst e
  have h1:=((zdx hg hd hi hS).1 ha).2.2
  have h2:=(yR.1 hb).2
  rw[h1]at h2
  cases h2
 ·rw[List.mem_cons,List.mem_append,zdx hg hd hi hS,yR,yR]
  constructor
  ·rintro (rfl|⟨h1,h2⟩)
   ·exact Or.inr ⟨hi,hr⟩
   ·cases h3:ZE ts S k with
    | false=>exact Or.inl ⟨h1,h2,rfl⟩
    | true=>exact Or.inr ⟨h1,rfl⟩
  ·rintro (⟨h1,h2,_⟩|⟨h1,h2⟩)
   ·exact Or.inr ⟨h1,h2⟩
   ·by_cases e:k=i
    ·exact Or.inl e
    ·exact Or.inr ⟨h1,zfk h2 e⟩
theorem Inv.other(hI:Inv ts room hands g){h:Nat}(hz:(h:Int)∉g.zz){x:Int}(hx:x∈g.zz):∃k,k<hands∧x=((k:Nat):Int)∧k≠h∧g.task k=-1∧g.near k=-1∧g.ring k=[]:=by
 obtain⟨k,h1,h2,h3⟩:=hI.zr x hx
 refine⟨k,h1,h2,fun e=>hz ?_,h3⟩
 rw[←e,←h2]
 exact hx
theorem zaV{g':Gs}(hp:(Yd g' hands).Perm (Yd g hands))(hS:g'.S=g.S)(hI:Inv ts room hands g):(Yd g' hands).Perm (Zb (Zg ts g'.S ts.length)):=by
 rw[hS]
 exact hp.trans hI.held
theorem Inv.takes(hI:Inv ts room hands g)(hw:∀i,i<ts.length→1≤Zv ts i){g1:Gs}{h:Nat}(hh:h<hands)(hz:(h:Int)∉g.zz)(i:Int)(hi:i∈Yd g hands)
  (hS:g1.S=g.S) (hzz:g1.zz=g.zz) (ht:g1.task=g.task) (hwk:g1.work=g.work) (hn:∀k,k≠h→g1.near k=g.near k∨False) (hr:∀k,k<hands→(g1.ring k).length≤room) (hrz:∀k,k≠h→g.ring k=[]→g1.ring k=[])
  (hp:(Yd (takes ts g1 h i) hands).Perm (Yd g hands)):Inv ts room hands (takes ts g1 h i):=by
 obtain⟨k,rfl,hk,hrd⟩:=hI.rdy hi
 have hn':∀k,k≠h→g1.near k=g.near k:=fun k e=>(hn k e).elim id False.elim
 refine⟨zaV hp (show g1.S=g.S from hS) hI,?_,fun x hx=>?_,?_,fun _=>⟨h,hh,?_⟩,hr,fun k2 hk2 ht2=>?_,fun k2 hk2=>?_⟩
 ·show Down ts g1.S
  rw[hS];exact hI.down
 ·have hx':x∈g.zz:=by rw[←hzz];exact hx
  obtain⟨a,h1,h2,h3,h4,h5,h6⟩:=hI.other hz hx'
  refine⟨a,h1,h2,?_,?_,?_⟩
  ·show updG g1.task h _ a=-1
   rw[zh _ _ h3,ht];exact h4
  ·show g1.near a=-1
   rw[hn' a h3];exact h5
  ·exact hrz a h3 h6
 ·show g1.zz.Nodup
  rw[hzz];exact hI.znd
 ·show(h:Int)∉g1.zz
  rw[hzz];exact hz
 ·have ht2':0≤updG g1.task h ((k:Nat):Int) k2:=ht2
  show 1≤updG g1.work h (Zv ts ((k:Nat):Int).toNat) k2∧updG g1.work h (Zv ts ((k:Nat):Int).toNat) k2≤Zv ts (updG g1.task h ((k:Nat):Int) k2).toNat
  by_cases e:k2=h
  ·subst e
   rw[zg,zg]
   exact⟨hw _ (by simpa using hk),Int.le_refl _⟩
  ·rw[zh _ _ e]at ht2'
   rw[zh _ _ e,zh _ _ e,hwk,ht]
   rw[ht]at ht2'
   exact hI.workOk k2 hk2 ht2'
 ·show -1≤updG g1.task h ((k:Nat):Int) k2
  by_cases e:k2=h
  ·subst e;rw[zg];omega
  ·rw[zh _ _ e,ht];exact hI.taskM k2 hk2
theorem zdq{g':Gs}{h:Nat}(hh:h<hands)(he:∀k,k≠h→ofH g' k=ofH g k)(hs:g'.sp=g.sp)(hp:(ofH g' h).Perm (ofH g h)):(Yd g' hands).Perm (Yd g hands):=by
 unfold Yd
 rw[hs]
 have:=xH (g:=g) (g':=g') hh he [] [] (by simpa using hp)
 simpa using this.append_right g.sp
theorem Inv.tookNear(hI:Inv ts room hands g)(hw:∀i,i<ts.length→1≤Zv ts i){h:Nat}(hh:h<hands)(hz:(h:Int)∉g.zz)(ht:¬0≤g.task h)(hn:g.near h≠-1) :
  Inv ts room hands (YtlfbdjeojgbniaaGreatDoor.takes ts { g with near:=updG g.near h (-1) } h (g.near h)):=by
 obtain⟨k,hk,-,-⟩:=hI.rdy (xG hh hn)
 refine hI.takes hw hh hz _ (xG hh hn) rfl rfl rfl rfl (fun k e=>Or.inl (zh _ _ e)) (fun k hk=>hI.ringLe k hk) (fun k e h=>h) (zdq hh (fun k e=>?_) rfl ?_)
 ·show oneT (updG g.task h _ k)++allH (updG g.near h _ k) (g.ring k)=_
  rw[zh _ _ e,zh _ _ e];rfl
 ·show(oneT (updG g.task h (g.near h) h)++allH (updG g.near h (-1) h) (g.ring h)).Perm (oneT (g.task h)++allH (g.near h) (g.ring h))
  have h0:oneT (g.task h)=[]:=by simp[oneT,ht]
  rw[zg,zg,yx,xD hn,h0,zX (by omega)]
  simpa using (List.perm_append_singleton (g.near h) (g.ring h)).symm
theorem yB{l:List Int}(h:l≠[]):l=l.dropLast++[l.getLastD 0]:=by
 rw[List.getLastD_eq_getLast?,List.getLast?_eq_some_getLast h]
 exact(List.dropLast_concat_getLast h).symm
theorem Inv.tookRing(hI:Inv ts room hands g)(hw:∀i,i<ts.length→1≤Zv ts i){h:Nat}(hh:h<hands)(hz:(h:Int)∉g.zz)(ht:¬0≤g.task h)(hn:g.near h=-1)(hr:g.ring h≠[]) :
  Inv ts room hands (YtlfbdjeojgbniaaGreatDoor.takes ts { g with ring:=updG g.ring h (g.ring h).dropLast } h ((g.ring h).getLastD 0)):=by
 have hs:=yB hr
 have hmem:(g.ring h).getLastD 0∈Yd g hands:=zW hh (by rw[hs];simp)
 obtain⟨k,hk,-,-⟩:=hI.rdy hmem
 refine hI.takes hw hh hz _ hmem rfl rfl rfl rfl (fun k e=>Or.inl rfl) (fun k hk2=>?_) (fun k e h=>by show updG g.ring _ _ k=[];rw[zh _ _ e];exact h) (zdq hh (fun k e=>?_) rfl ?_)
 ·show(updG g.ring h _ k).length≤room
  by_cases e:k=h
  ·subst e;rw[zg];have:=hI.ringLe k hk2;simp;omega
  ·rw[zh _ _ e];exact hI.ringLe k hk2
 ·show oneT (updG g.task h _ k)++allH (g.near k) (updG g.ring h _ k)=_
  rw[zh _ _ e,zh _ _ e];rfl
 ·show(oneT (updG g.task h _ h)++allH (g.near h) (updG g.ring h _ h)).Perm (oneT (g.task h)++allH (g.near h) (g.ring h))
  have h0:oneT (g.task h)=[]:=by simp[oneT,ht]
  rw[zg,zg,hn,yx,yx,h0,zX (by omega)]
  rw[List.nil_append]
  conv=>rhs;rw[hs]
  simpa using (List.perm_append_singleton ((g.ring h).getLastD 0) (g.ring h).dropLast).symm
theorem Inv.fetched(hI:Inv ts room hands g)(hw:∀i,i<ts.length→1≤Zv ts i){h:Nat}(hh:h<hands)(hz:(h:Int)∉g.zz)(ht:¬0≤g.task h)(hs:g.sp≠[]) :
  Inv ts room hands (YtlfbdjeojgbniaaGreatDoor.takes ts { g with sp:=g.sp.tail } h (g.sp.headD 0)):=by
 obtain⟨x,r,hx⟩:=List.exists_cons_of_ne_nil hs
 have hmem:g.sp.headD 0∈Yd g hands:=jw (by rw[hx];simp)
 obtain⟨k,hk,-,-⟩:=hI.rdy hmem
 refine hI.takes hw hh hz _ hmem rfl rfl rfl rfl (fun k e=>Or.inl rfl) (fun k hk=>hI.ringLe k hk) (fun k e h=>h) ?_
 have h0:oneT (g.task h)=[]:=by simp[oneT,ht]
 have hone:=xH (g:=g) (g':=YtlfbdjeojgbniaaGreatDoor.takes ts { g with sp:=g.sp.tail } h (g.sp.headD 0)) hh (fun k e=>?_) [] [g.sp.headD 0] ?_
 ·unfold Yd
  have hsp:(YtlfbdjeojgbniaaGreatDoor.takes ts { g with sp:=g.sp.tail } h (g.sp.headD 0)).sp=g.sp.tail:=rfl
  rw[hsp]
  refine(hone.append_right _).trans ?_
  rw[hx]
  simp only[List.headD_cons,List.tail_cons]
  show(x::Yp g hands++r).Perm (Yp g hands++x::r)
  exact List.perm_middle.symm
 ·show oneT (updG g.task h _ k)++allH (g.near k) (g.ring k)=_
  rw[zh _ _ e];rfl
 ·show([]++(oneT (updG g.task h _ h)++allH (g.near h) (g.ring h))).Perm ([g.sp.headD 0]++(oneT (g.task h)++allH (g.near h) (g.ring h)))
  rw[zg,h0,zX (by omega)]
  exact List.Perm.refl _
theorem Inv.works(hI:Inv ts room hands g){h:Nat}(hw:1<g.work h):Inv ts room hands { g with work:=updG g.work h (g.work h-1) }:=by
 refine⟨zaV (g:=g) ?_ rfl hI,hI.down,hI.zr,hI.znd,hI.awake,hI.ringLe,fun k hk ht=>?_,hI.taskM⟩
 ·exact(List.Perm.of_eq (qy (g:=g) (g':={ g with work:=updG g.work h (g.work h-1) }) (fun k _=>rfl))).append_right g.sp
 ·have h1:=hI.workOk k hk ht
  show 1≤updG g.work h (g.work h-1) k∧updG g.work h (g.work h-1) k≤Zv ts (g.task k).toNat
  by_cases e:k=h
  ·subst e;rw[zg];omega
  ·rw[zh _ _ e];exact h1
theorem Inv.slept(hI:Inv ts room hands g){h:Nat}(hh:h<hands)(hz:(h:Int)∉g.zz)(ht:¬0≤g.task h)(hn:g.near h=-1)(hr:g.ring h=[])(hs:g.sp=[]):Inv ts room hands { g with zz:=g.zz++[(h:Int)] }:=by
 refine⟨zaV (g:=g) ?_ rfl hI,hI.down,fun x hx=>?_,?_,fun e=>absurd hs e,hI.ringLe,hI.workOk,hI.taskM⟩
 ·exact(List.Perm.of_eq (qy (g:=g) (g':={ g with zz:=g.zz++[(h:Int)] }) (fun k _=>rfl))).append_right g.sp
 ·rcases List.mem_append.1 hx with hx|hx
  ·exact hI.zr x hx
  ·exact⟨h,hh,List.mem_singleton.1 hx,by have:=hI.taskM h hh;show g.task h=-1;omega,hn,hr⟩
 ·refine List.nodup_append.2 ⟨hI.znd,by simp,fun a ha b hb e=>hz ?_⟩
  rw[←List.mem_singleton.1 hb,←e]
  exact ha
theorem Inv.ends(hI:Inv ts room hands g)(hg:Good ts)(hr1:1≤room){h:Nat}(hh:h<hands)(hz:(h:Int)∉g.zz)(ht:0≤g.task h):Inv ts room hands (YtlfbdjeojgbniaaGreatDoor.ends ts room g h):=by
 obtain⟨i,hti,hil,hrd⟩:=hI.rdy (qM hh ht)
 have hi:(g.task h).toNat=i:=by omega
 have hS:=(zE hrd).1
 obtain⟨l,hl⟩:∃l,l=newL ts g.S i:=⟨_,rfl⟩
 obtain⟨r,hr⟩:∃r,r=Yb room (g.near h,g.ring h,g.sp) (Zb l):=⟨_,rfl⟩
 have he:YtlfbdjeojgbniaaGreatDoor.ends ts room g h={ S:=mark g.S i,task:=updG g.task h (-1),work:=updG g.work h (g.work h-1),near:=updG g.near h r.1,ring:=updG g.ring h r.2.1,sp:=r.2.2,zz:=g.zz.drop l.length }:=by
  unfold YtlfbdjeojgbniaaGreatDoor.ends
  rw[hi,hr,hl]
 have hpos:∀n,n∈Zb l→n≠-1:=fun n hn=>by
  obtain⟨k,-,rfl⟩:=xR.1 hn
  omega
 have hpp:=qA room (Zb l) (g.near h,g.ring h,g.sp) hpos
 rw[←hr]at hpp
 rw[he]
 have hone:=xH (g:=g) (g':={ S:=mark g.S i,task:=updG g.task h (-1),work:=updG g.work h (g.work h-1),near:=updG g.near h r.1,ring:=updG g.ring h r.2.1,sp:=r.2.2,zz:=g.zz.drop l.length }) hh (fun k e=>?_) ((i:Int)::r.2.2) (Zb l++g.sp) ?_
 ·have hall:((i:Int)::Yd { S:=mark g.S i,task:=updG g.task h (-1),work:=updG g.work h (g.work h-1),near:=updG g.near h r.1,ring:=updG g.ring h r.2.1,sp:=r.2.2,zz:=g.zz.drop l.length } hands).Perm (Zb l++Yd g hands):=by
   unfold Yd
   refine List.Perm.trans ?_ (hone.trans ?_)
   ·show((i:Int)::(Yp _ hands++r.2.2)).Perm ((i:Int)::(r.2.2++Yp _ hands))
    exact List.Perm.cons _ List.perm_append_comm
   ·rw[List.append_assoc]
    exact List.Perm.append_left _ List.perm_append_comm
  have hrd2:=zdQ hg hI.down hil hrd
  have hrd3:(Zb (i::Zg ts (mark g.S i) ts.length)).Perm (Zb (newL ts g.S i++Zg ts g.S ts.length)):=hrd2.map _
  rw[qZ,←hl]at hrd3
  have hrd4:((i:Int)::Zb (Zg ts (mark g.S i) ts.length)).Perm (Zb l++Zb (Zg ts g.S ts.length)):=hrd3
  refine⟨List.Perm.cons_inv (hall.trans ((List.Perm.append_left _ hI.held).trans hrd4.symm)),hI.down.mark hrd,fun x hx=>?_,hI.znd.sublist (List.drop_sublist _ _),fun _=>⟨h,hh,fun hx=>hz (List.mem_of_mem_drop hx)⟩,fun k hk=>?_,fun k hk ht2=>?_,fun k hk=>?_⟩
  ·obtain⟨k,h1,h2,h3,h4,h5,h6⟩:=hI.other hz (List.mem_of_mem_drop hx)
   refine⟨k,h1,h2,?_,?_,?_⟩
   ·show updG g.task h (-1) k=-1
    rw[zh _ _ h3];exact h4
   ·show updG g.near h r.1 k=-1
    rw[zh _ _ h3];exact h5
   ·show updG g.ring h r.2.1 k=[]
    rw[zh _ _ h3];exact h6
  ·show(updG g.ring h r.2.1 k).length≤room
   by_cases e:k=h
   ·subst e
    rw[zg,hr]
    exact za8 hr1 _ _ (hI.ringLe k hk)
   ·rw[zh _ _ e];exact hI.ringLe k hk
  ·have ht3:0≤updG g.task h (-1) k:=ht2
   show 1≤updG g.work h (g.work h-1) k∧updG g.work h (g.work h-1) k≤Zv ts (updG g.task h (-1) k).toNat
   by_cases e:k=h
   ·subst e;rw[zg]at ht3;omega
   ·rw[zh _ _ e]at ht3
    rw[zh _ _ e,zh _ _ e]
    exact hI.workOk k hk ht3
  ·show -1≤updG g.task h (-1) k
   by_cases e:k=h
   ·subst e;rw[zg];omega
   ·rw[zh _ _ e];exact hI.taskM k hk
 ·show oneT (updG g.task h _ k)++allH (updG g.near h _ k) (updG g.ring h _ k)=_
  rw[zh _ _ e,zh _ _ e,zh _ _ e];rfl
 ·show((i:Int)::r.2.2++(oneT (updG g.task h (-1) h)++allH (updG g.near h r.1 h) (updG g.ring h r.2.1 h))).Perm (Zb l++g.sp++(oneT (g.task h)++allH (g.near h) (g.ring h)))
  rw[zg,zg,zg,zgy,List.nil_append,zX ht,hti]
  have h1:((i:Int)::(r.2.2++allH r.1 r.2.1)).Perm ((i:Int)::(g.sp++allH (g.near h) (g.ring h)++Zb l)):=List.Perm.cons _ hpp
  refine h1.trans ?_
  have h2:((i:Int)::(g.sp++allH (g.near h) (g.ring h)++Zb l)).Perm ((i:Int)::(Zb l++(g.sp++allH (g.near h) (g.ring h)))):=List.Perm.cons _ List.perm_append_comm
  refine h2.trans ?_
  rw[←List.append_assoc]
  show((i:Int)::((Zb l++g.sp)++allH (g.near h) (g.ring h))).Perm ((Zb l++g.sp)++((i:Int)::allH (g.near h) (g.ring h)))
  exact List.perm_middle.symm
theorem zhw{n:Nat}(h:0<n):1≤(n+1) / 2∧(n+1) / 2≤n:=by omega
theorem Inv.robs(hI:Inv ts room hands g)(hw:∀i,i<ts.length→1≤Zv ts i){h o:Nat}(hh:h<hands)(ho:o<hands)(hz:(h:Int)∉g.zz)(ht:¬0≤g.task h)(hn:g.near h=-1)(hr:g.ring h=[])(hoh:o≠h)(hor:g.ring o≠[]) :
  Inv ts room hands (YtlfbdjeojgbniaaGreatDoor.robs ts room g h o):=by
 obtain⟨k,hk⟩:∃k,k=((g.ring o).length+1) / 2:=⟨_,rfl⟩
 have hpos:0<(g.ring o).length:=List.length_pos_iff.2 hor
 have hk1:1≤k∧k≤(g.ring o).length:=by rw[hk];exact zhw hpos
 obtain⟨x,l,hxl⟩:∃x l,(g.ring o).take k=x::l:=List.exists_cons_of_ne_nil (by intro e;rcases List.take_eq_nil_iff.1 e with e|e;{ omega };{ exact hor e })
 have hsub:∀y,y∈x::l→y∈Yd g hands:=fun y hy=>zW ho (List.mem_of_mem_take (by rw[hxl];exact hy))
 have hll:l.length+1=k:=by
  have:=congrArg List.length hxl
  simp at this
  omega
 obtain⟨r,hrr⟩:∃r,r=Yb room (-1,[],[]) l:=⟨_,rfl⟩
 have hole:=hI.ringLe o ho
 have hne:∀n,n∈l→n≠-1:=fun n hn=>by
  obtain⟨j,rfl,-⟩:=hI.rdy (hsub n (List.mem_cons_of_mem _ hn))
  omega
 have hp0:=qA room l (-1,[],[]) hne
 have hnone:=zdO room l (-1,[],[]) (by simp;omega)
 rw[←hrr]at hp0 hnone
 rw[hnone]at hp0
 simp only[yx,List.nil_append]at hp0
 have hrl:r.2.1.length≤room:=by
  rw[hrr]
  exact za8 (by omega) l _ (by simp)
 obtain⟨g1,hg1⟩:∃g1:Gs,g1={ g with near:=updG g.near h r.1,ring:=updG (updG g.ring o ((g.ring o).drop k)) h r.2.1 }:=⟨_,rfl⟩
 have he:YtlfbdjeojgbniaaGreatDoor.robs ts room g h o=YtlfbdjeojgbniaaGreatDoor.takes ts g1 h x:=by
  unfold YtlfbdjeojgbniaaGreatDoor.robs
  have h1:(updG g.ring o ((g.ring o).drop k)) h=[]:=by rw[zh _ _ (fun e=>hoh e.symm)];exact hr
  simp only[←hk,h1,hn,hxl,List.tail_cons,List.headD_cons,←hrr]
  rw[hg1]
 rw[he]
 have hringo:g1.ring o=(g.ring o).drop k:=by rw[hg1];show updG _ h _ o=_;rw[zh _ _ hoh,zg]
 have hringk:∀j,j≠h→j≠o→g1.ring j=g.ring j:=fun j e1 e2=>by rw[hg1];show updG _ h _ j=_;rw[zh _ _ e1,zh _ _ e2]
 have hringh:g1.ring h=r.2.1:=by rw[hg1];exact zg _ _ _
 have hnear:∀j,j≠h→g1.near j=g.near j:=fun j e=>by rw[hg1];exact zh _ _ e
 have hnearh:g1.near h=r.1:=by rw[hg1];exact zg _ _ _
 obtain⟨g2,hg2⟩:∃g2:Gs,g2={ g with ring:=updG g.ring o ((g.ring o).drop k) }:=⟨_,rfl⟩
 have hx:x∈Yd g hands:=hsub x (List.mem_cons_self ..)
 obtain⟨j,hxj,-⟩:=hI.rdy hx
 refine hI.takes hw hh hz x hx (by rw[hg1]) (by rw[hg1]) (by rw[hg1]) (by rw[hg1]) (fun j e=>Or.inl (hnear j e)) (fun j hj=>?_) (fun j e hj=>?_) ?_
 ·by_cases e:j=h
  ·subst e;rw[hringh];exact hrl
  ·by_cases e2:j=o
   ·subst e2;rw[hringo];simp;omega
   ·rw[hringk j e e2];exact hI.ringLe j hj
 ·by_cases e2:j=o
  ·subst e2;exact absurd hj hor
  ·rw[hringk j e e2];exact hj
 ·have s1:=xH (g:=g) (g':=g2) ho (fun j e=>by rw[hg2];show oneT (g.task j)++allH (g.near j) (updG g.ring o _ j)=_;rw[zh _ _ e];rfl) (x::l) [] (by
   rw[hg2]
   show((x::l)++(oneT (g.task o)++allH (g.near o) (updG g.ring o ((g.ring o).drop k) o))).Perm ([]++(oneT (g.task o)++allH (g.near o) (g.ring o)))
   rw[zg,List.nil_append,←hxl]
   refine(List.perm_append_comm_assoc _ _ _).trans (List.Perm.append_left _ ?_)
   unfold allH
   split
   ·rw[List.take_append_drop]
   ·rw[←List.append_assoc,List.take_append_drop])
  have s2:=xH (g:=g2) (g':=YtlfbdjeojgbniaaGreatDoor.takes ts g1 h x) hh (fun j e=>by
   show oneT (updG g1.task h x j)++allH (g1.near j) (g1.ring j)=oneT (g2.task j)++allH (g2.near j) (g2.ring j)
   rw[zh _ _ e,hnear j e,hg2]
   have ht1:g1.task j=g.task j:=by rw[hg1]
   rw[ht1]
   congr 2
   show g1.ring j=updG g.ring o ((g.ring o).drop k) j
   by_cases e2:j=o
   ·subst e2;rw[hringo,zg]
   ·rw[hringk j e e2,zh _ _ e2]) [] (x::l) (by
   show([]++(oneT (updG g1.task h x h)++allH (g1.near h) (g1.ring h))).Perm ((x::l)++(oneT (g2.task h)++allH (g2.near h) (g2.ring h)))
   have e1:g2.ring h=[]:=by rw[hg2];show updG g.ring o _ h=[];rw[zh _ _ (fun e=>hoh e.symm)];exact hr
   have e2:g2.near h=-1:=by rw[hg2];exact hn
   have e3:g2.task h=g.task h:=by rw[hg2]
   have h0:oneT (g.task h)=[]:=by simp[oneT,ht]
   rw[zg,e1,e2,e3,h0,hnearh,hringh,yx,zX (by omega)]
   simpa using hp0)
  have hsp:(YtlfbdjeojgbniaaGreatDoor.takes ts g1 h x).sp=g.sp:=by show g1.sp=g.sp;rw[hg1]
  unfold Yd
  rw[hsp]
  refine List.Perm.append_right _ ?_
  have:=s2.trans s1
  simpa using this
theorem Inv.step(hI:Inv ts room hands g)(hg:Good ts)(hw:∀i,i<ts.length→1≤Zv ts i)(hr1:1≤room){h:Nat}(hh:h<hands)(pick:Nat):Inv ts room hands (gstep ts room hands g h pick):=by
 unfold gstep
 by_cases hz:(h:Int)∈g.zz
 ·rw[if_pos hz];exact hI
 rw[if_neg hz]
 by_cases ht:0≤g.task h
 ·rw[if_pos ht]
  by_cases hk:1<g.work h
  ·rw[if_pos hk];exact hI.works hk
  ·rw[if_neg hk];exact hI.ends hg hr1 hh hz ht
 rw[if_neg ht]
 by_cases hn:g.near h=-1
 ·rw[if_neg (by simpa using hn)]
  by_cases hr:g.ring h=[]
  ·rw[if_neg (by simpa using hr)]
   by_cases hs:g.sp=[]
   ·rw[if_neg (by simpa using hs)]
    by_cases hp:pick % hands=h∨g.ring (pick % hands)=[]
    ·rw[if_pos hp];exact hI.slept hh hz ht hn hr hs
    ·rw[if_neg hp]
     exact hI.robs hw hh (Nat.mod_lt _ (by omega)) hz ht hn hr (fun e=>hp (Or.inl e)) (fun e=>hp (Or.inr e))
   ·rw[if_pos hs];exact hI.fetched hw hh hz ht hs
  ·rw[if_pos hr];exact hI.tookRing hw hh hz ht hn hr
 ·rw[if_pos hn];exact hI.tookNear hw hh hz ht hn
end
end Go.Proofs.YtlfbdjeojgbniaaGreatDoor

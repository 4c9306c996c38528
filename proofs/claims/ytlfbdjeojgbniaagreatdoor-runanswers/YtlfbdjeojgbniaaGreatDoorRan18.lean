import Derived.Test.YtlfbdjeojgbniaaGreatDoorRan17
namespace Go.Proofs.YtlfbdjeojgbniaaGreatDoor
section
open Go.RowKit Go.Deep
theorem RowI.setAt{b g n c k:Nat}{w:World}{zs:List Int}(h:RowI b w (.slice (some ⟨g,0,none⟩) n c) zs)(_hk:k<zs.length)(x:Int):RowI b (w.setCell ⟨g,k,none⟩ (.int .i64 x)) (.slice (some ⟨g,0,none⟩) n c) (zs.set k x):=by
 rcases h.2 with⟨hv,_⟩|⟨g',cap,cur,hv,hb,hh,hcp,hm,hsz,ht⟩
 ·simp at hv
 ·simp only[Value.slice.injEq,Option.some.injEq,Addr.mk.injEq,and_true]at hv
  obtain⟨rfl,rfl,rfl⟩:=hv
  refine⟨by simp,Or.inr ⟨g,c,cur.setIfInBounds k (.int .i64 x),by simp,hb,?_,by simpa using hcp,hm,by simpa using hsz,?_⟩⟩
  ·rw[setCell_eq_setRow w g k cur 3 (0,0) _ hh,setRow_heap w g cur _ 3 _ hh]
  ·rw[List.length_set]
   rw[Array.toList_setIfInBounds,List.take_set,ht,List.map_set]
def Lb(own:Nat→Nat)(c:Nat)(v:Value):Prop:=∀k,v.ownBlock=some k→own k=c
def relabel(own:Nat→Nat)(n c:Nat):Nat→Nat:=fun k=>if k<n then own k else c
theorem za{own:Nat→Nat}{n c k:Nat}(h:k<n):relabel own n c k=own k:=by simp[relabel,h]
theorem zj{own:Nat→Nat}{n c k:Nat}(h:n≤k):relabel own n c k=c:=by simp[relabel];omega
structure Kc (own:Nat→Nat) (C:Nat→Prop) (w w':World):Prop where
 os:w'.os=w.os
 tape:w'.tape=w.tape
 output:w'.output=w.output
 size:w.heap.size≤w'.heap.size
 block:∀k,k<w.heap.size→¬C (own k)→w'.heap[k]?=w.heap[k]?
theorem RowI.kc{own:Nat→Nat}{C:Nat→Prop}{b d:Nat}{w w':World}{v:Value}{xs:List Int}(h:RowI b w v xs)(hl:Lb own d v)(hd:¬C d)(hk:Kc own C w w'):RowI b w' v xs:=
 h.of_blocks (fun k e=>hk.block k (h.low e).2 (by rw[hl k e];exact hd))
theorem Lb.re{own:Nat→Nat}{b d c:Nat}{w:World}{v:Value}{xs:List Int}(hl:Lb own d v)(h:RowI b w v xs):Lb (relabel own w.heap.size c) d v:=
 fun k e=>by rw[za (h.low e).2];exact hl k e
theorem Lb.near{own:Nat→Nat}{d n:Nat}{v v':Value}(hl:Lb own d v)(hlt:∀k,v.ownBlock=some k→k<n)(hn:∀k,v'.ownBlock=some k→v.ownBlock=some k∨n≤k):Lb (relabel own n d) d v':=fun k e=>by
 rcases hn k e with h|h
 ·rw[za (hlt k h)];exact hl k h
 ·exact zj h
def upto(hands:Nat)(f:Nat→Int):List Int:=(List.range hands).map f
theorem zo(hands:Nat)(f:Nat→Int):(upto hands f).length=hands:=by simp[upto]
theorem zai{hands k:Nat}(f:Nat→Int)(h:k<hands):(upto hands f).getD k 0=f k:=by simp[upto,List.getD_eq_getElem?_getD,h]
theorem jP{hands h:Nat}(f:Nat→Int)(x:Int):(upto hands f).set h x=upto hands (updG f h x):=by
 apply List.ext_getElem?
 intro i
 rw[List.getElem?_set]
 unfold upto
 simp only[List.length_map,List.length_range,List.getElem?_map]
 by_cases hi:i<hands
 ·rw[List.getElem?_range hi]
  by_cases e:h=i
  ·subst e;simp[hi,zg]
  ·simp[e,zh f x (fun e2=>e e2.symm)]
 ·have:(List.range hands)[i]?=none:=List.getElem?_eq_none (by simpa using hi)
  rw[this]
  by_cases e:h=i
  ·subst e;simp[hi]
  ·simp[e]
theorem RowI.frozen{b g n c:Nat}{w:World}{zs:List Int}(h:RowI b w (.slice (some ⟨g,0,none⟩) n c) zs)(k:Nat):w.frozen? ⟨g,k,none⟩=false:=by
 rcases h.2 with⟨hv,_⟩|⟨g',cap,cur,hv,hb,hh,_⟩
 ·simp at hv
 ·simp only[Value.slice.injEq,Option.some.injEq,Addr.mk.injEq,and_true]at hv
  obtain⟨rfl,rfl,rfl⟩:=hv
  simp[World.frozen?,hh]
theorem Kc.store{own:Nat→Nat}{C:Nat→Prop}{w:World}{b:Nat}(hb:C (own b))(x:Nat)(u:Value):Kc own C w (w.setCell ⟨b,x,none⟩ u):=
 ⟨rfl,rfl,rfl,by simp,fun k _ hk=>qq5 _ _ _ _ (by show k≠b;intro e;subst e;exact hk hb)⟩
theorem Kc.of_below{own:Nat→Nat}{C:Nat→Prop}{w w':World}(hb:Below w.heap.size w w'):Kc own C w w':=⟨hb.os,hb.tape,hb.output,hb.size,fun k hk _=>hb.block k hk⟩
structure Bs where
 X:Nat→Prop
 w1:World
theorem xC{α:Type}(f:Nat→α)(h:Nat):updG f h (f h)=f:=by
 funext k
 unfold updG
 split
 ·rename_i e;rw[e]
 ·rfl
theorem RowD.kc{own:Nat→Nat}{C:Nat→Prop}{b d:Nat}{w w':World}{v:Value}{l:List Deed}(h:RowD b w v l)(hl:Lb own d v)(hd:¬C d)(hk:Kc own C w w'):RowD b w' v l:=
 h.of_blocks (fun k e=>hk.block k (h.low e).2 (by rw[hl k e];exact hd))
theorem Lb.reD{own:Nat→Nat}{b d c:Nat}{w:World}{v:Value}{l:List Deed}(hl:Lb own d v)(h:RowD b w v l):Lb (relabel own w.heap.size c) d v:=
 fun k e=>by rw[za (h.low e).2];exact hl k e
theorem zat(room:Nat)(s:Hs)(l:List Int)(n:Int):Yb room s (l++[n])=XY room (Yb room s l) n:=by simp[Yb]
theorem zfQ{α:Type}(f:Nat→α)(h:Nat)(x y:α):updG (updG f h x) h y=updG f h y:=by
 funext k
 unfold updG
 split <;> rfl
def puts(room:Nat)(g:Gs)(h:Nat)(l:List Int):Gs:={ g with near:=updG g.near h (Yb room (g.near h,g.ring h,[]) l).1,ring:=updG g.ring h (Yb room (g.near h,g.ring h,[]) l).2.1 }
theorem za9(room:Nat)(g:Gs)(h:Nat):puts room g h []=g:=by
 unfold puts Yb
 simp only[List.foldl_nil,xC]
theorem zb5(room:Nat)(g:Gs)(h:Nat)(l:List Int)(n:Int):puts room g h (l++[n])={ puts room g h l with near:=updG (puts room g h l).near h n,ring:=updG (puts room g h l).ring h (putR room ((puts room g h l).near h) ((puts room g h l).ring h)) }:=by
 unfold puts
 simp only[zat,zfQ,zg]
 rfl
def fresh(was now:List Int):List Int:=now.filter (fun x=>!decide (x∈was))
theorem xP(was l:List Int)(x:Int):fresh was (l++[x])=fresh was l++if x∈was then [] else [x]:=by
 unfold fresh
 rw[List.filter_append]
 by_cases h:x∈was <;> simp[h]
theorem zge{ts:Zl}(hg:Good ts){S:Nat→Bool}(hd:Down ts S){i:Nat}(hi:i<ts.length)(hr:ZE ts S i=true) :
  fresh (Zb (Zg ts S ts.length)) (Zb (Zg ts (mark S i) ts.length))=Zb (newL ts S i):=by
 rw[zfL hg hd hi (zE hr).1]
 unfold fresh Zb Zg
 rw[List.filter_map,List.filter_filter]
 congr 1
 apply List.filter_congr
 intro k hk
 have hk':k<ts.length:=List.mem_range.1 hk
 have:((k:Nat):Int)∈List.map (fun (k:Nat)=>(k:Int)) ((List.range ts.length).filter (ZE ts S))↔ZE ts S k=true:=by
  rw[List.mem_map]
  constructor
  ·rintro⟨j,hj,e⟩
   obtain rfl:j=k:=by omega
   exact(List.mem_filter.1 hj).2
  ·intro e
   exact⟨k,List.mem_filter.2 ⟨hk,e⟩,rfl⟩
 simp only[Function.comp,this]
 cases ZE ts S k <;> simp[Bool.and_comm]
def gput(room:Nat)(g:Gs)(h:Nat)(l:List Int):Gs:={ g with near:=updG g.near h (Yb room (g.near h,g.ring h,g.sp) l).1,ring:=updG g.ring h (Yb room (g.near h,g.ring h,g.sp) l).2.1,sp:=(Yb room (g.near h,g.ring h,g.sp) l).2.2 }
theorem zdn(room:Nat)(g:Gs)(h:Nat):gput room g h []=g:=by
 unfold gput Yb
 simp only[List.foldl_nil,xC]
theorem zbX(room:Nat)(g:Gs)(h:Nat)(l:List Int)(n:Int):gput room g h (l++[n])={ gput room g h l with near:=updG (gput room g h l).near h n,ring:=updG (gput room g h l).ring h (putR room ((gput room g h l).near h) ((gput room g h l).ring h)),sp:=(gput room g h l).sp++putO room ((gput room g h l).near h) ((gput room g h l).ring h) }:=by
 unfold gput
 simp only[zat,zfQ,zg]
 rfl
theorem zdm(room:Nat)(g:Gs)(h:Nat)(l:List Int)(hl:∀n,n∈l→n≠-1):(gput room g h l).sp.length≤g.sp.length+(allH (g.near h) (g.ring h)).length+l.length:=by
 have:=(qA room l (g.near h,g.ring h,g.sp) hl).length_eq
 simp only[List.length_append]at this
 show(Yb room (g.near h,g.ring h,g.sp) l).2.2.length≤_
 omega
end
section
open Go.RowKit Go.Deep Go.Maps
theorem JnT.of_lists{J M A D C:Nat}{ts:Zl}{S:Nat→Bool}{w w':World}(h:JnT J M A D C ts S w)(eJ:w'.heap[J]?=w.heap[J]?)(eM:w'.heap[M]?=w.heap[M]?)(eA:w'.heap[A]?=w.heap[A]?)(eD:w'.heap[D]?=w.heap[D]?)
  (hl:∀k v b,k<ts.length→w.cell? ⟨A,k,none⟩=some v→v.ownBlock=some b→b<w.heap.size→w'.heap[b]?=w.heap[b]?):JnT J M A D C ts S w':=by
 obtain⟨av,ha⟩:=Jn.aft h
 exact⟨(Jn.row h).of_block eJ,(Jn.miss h).of_block eM,⟨av,ha.row.of_block eA,fun k hk=>(ha.own k hk).of_blocks (fun b e=>hl k (av k) b hk (ha.row.cell hk) e ((ha.own k hk).low e).2)⟩,(Jn.done h).of_block eD,Jn.lt h,Jn.ne h,Jn.le h⟩
def LbA(own:Nat→Nat)(A n:Nat)(w:World):Prop:=∀k v b,k<n→w.cell? ⟨A,k,none⟩=some v→v.ownBlock=some b→b<w.heap.size∧own b=7
theorem LbA.kc{own:Nat→Nat}{C:Nat→Prop}{A n c:Nat}{w w':World}(h:LbA own A n w)(K:Kc own C w w')(hA:w'.heap[A]?=w.heap[A]?):LbA (relabel own w.heap.size c) A n w':=fun k v b hk hv hb=>by
 have:=h k v b hk ((qq9 (a:=⟨A,k,none⟩) hA).symm.trans hv) hb
 exact⟨qq3 this.1 K.size,by rw[za this.1];exact this.2⟩
theorem LbA.sub{own:Nat→Nat}{C:Nat→Prop}{A n c:Nat}{w w':World}(h:LbA own A n w)(K:Kc own C w w')(hs:SubA A w w'):LbA (relabel own w.heap.size c) A n w':=fun k v b hk hv hb=>by
 rcases hs k v hv with e|e
 ·subst e;simp[Value.ownBlock]at hb
 ·have:=h k v b hk e hb
  exact⟨qq3 this.1 K.size,by rw[za this.1];exact this.2⟩
def YD(w:World)(B hands:Nat)(task:Nat→Int):Prop:=
 ∃n D,w.ownsMap Tryz.prog 3 (plainElem (H:=Unit) Tryz.prog 3) B n D∧Maps.size D=unseen (fun h=>decide (task h<0)) hands∧∀x:Nat,x<hands→Maps.has D (.int .i64 x)=decide (0≤task x)∧(0≤task x→∀z,D.atKey (.int .i64 x) z=.lit (.int .i64 (task x)))
theorem YD.of_block{w w':World}{B hands:Nat}{task:Nat→Int}(h:YD w B hands task)(e:w'.heap[B]?=w.heap[B]?):YD w' B hands task:=by
 obtain⟨n,D,⟨es,clock,hb,r⟩,h1⟩:=h
 exact⟨n,D,⟨es,clock,e.trans hb,r⟩,h1⟩
theorem YD.lt{w:World}{B hands:Nat}{task:Nat→Int}(h:YD w B hands task):B<w.heap.size:=by
 obtain⟨n,D,h,_⟩:=h
 exact h.lt
theorem zbz{P:Program}{k:TypeId}{R:Value→Option (DataW Unit×List MemPlace)}{w:World}{b n:Nat}{D:DataW Unit}(h:w.ownsMap P k R b n D):w.ownsMap P k R b (Maps.size D) D:=by
 obtain⟨es,clock,hb,F,hs,rfl⟩:=h
 exact⟨es,clock,hb,F,by simp[Maps.size,length_sorted],rfl⟩
theorem YD.start(w:World)(hands:Nat):YD (w.alloc (.map #[] 0)) w.heap.size hands (fun _=>-1):=
 ⟨0,.map [],World.ownsMap_made _ _ _ _,by
  have:(fun _:Nat=>decide ((-1:Int)<0))=fun _=>true:=by funext;simp
  rw[this,zaw _ _ (fun _ _=>rfl)];rfl,fun x _=>⟨by simp[Maps.has],fun h=>by have h2:(0:Int)≤-1:=h;omega⟩⟩
structure Qp where
 J:Nat
 M:Nat
 A:Nat
 D:Nat
 C:Nat
 Sb:Nat
 vs:Value
 Kb:Nat
 vz:Value
 HB:Nat
 Hk:Nat→Nat
 Rk:Nat→Nat
 Mb:Nat
 WB:Nat
def Xi(Q:Qp)(hands n:Nat):Nat→Value:=fun k=>if k=0 then .pointer (some ⟨Q.J,0,none⟩) else if k=1 then .pointer (some ⟨Q.Sb,0,none⟩) else if k=2 then .pointer (some ⟨Q.Kb,0,none⟩) else if k=3 then .slice (some ⟨Q.HB,0,none⟩) hands hands else if k=4 then .map (some Q.Mb) else .slice (some ⟨Q.WB,0,none⟩) n n
structure Pg (B:Bs) (G room hands:Nat) (ts:Zl) (g:Gs) (wk:Nat→Int) (own:Nat→Nat) (Q:Qp) (w:World):Prop where
 row:w.rowIs G 121 6 (Xi Q hands ts.length)
 lG:own G=0
 jn:JnT Q.J Q.M Q.A Q.D Q.C ts g.S w
 lJ:own Q.J=7∧own Q.M=7∧own Q.A=7∧own Q.D=7
 lA:LbA own Q.A ts.length w
 sp:Spl.Sp Q.Sb room g.sp Q.vs w
 lS:own Q.Sb=6∧Lb own 6 Q.vs
 pk:Prk.Pk Q.Kb hands g.zz Q.vz w
 lK:own Q.Kb=4∧Lb own 4 Q.vz
 hrow:w.rowIs Q.HB 162 hands (fun k=>.pointer (some ⟨Q.Hk k,0,none⟩))
 lHB:own Q.HB=1
 hand:∀k,k<hands→Hnd.Hd (Q.Hk k) (Q.Rk k) room (g.near k) (g.ring k) w
 lH:∀k,k<hands→own (Q.Hk k)=10+k∧own (Q.Rk k)=10+k
 has:YD w Q.Mb hands g.task
 lM:own Q.Mb=3
 wrow:w.rowIs Q.WB 3 ts.length (fun k=>.int .i64 (wk k))
 lW:own Q.WB=2
 far:∀k,B.X k→k<B.w1.heap.size∧own k=9∧w.heap[k]?=B.w1.heap[k]?
 w1le:B.w1.heap.size≤w.heap.size
 io:w.os=B.w1.os∧w.tape=B.w1.tape∧w.output=B.w1.output
variable {B B':Bs} {G room hands:Nat} {ts:Zl} {g:Gs} {wk:Nat→Int} {own:Nat→Nat} {Q:Qp} {w w':World}
theorem Pg.later0(h:Pg B G room hands ts g wk own Q w)  (K:Kc own (fun _=>False) w w'):Pg B G room hands ts g wk (relabel own w.heap.size 9) Q w':=by
 exact {
  row:=h.row.of_block (K.block G h.row.lt (by have:=h.lG;first|omega|exact id))
  lG:=by rw[za h.row.lt];exact h.lG
  jn:=JnT.of_lists h.jn (K.block Q.J (Jn.row h.jn).lt (by have:=h.lJ.1;first|omega|exact id)) (K.block Q.M (Jn.miss h.jn).lt (by have:=h.lJ.2.1;first|omega|exact id)) (K.block Q.A (Jn.ltA h.jn) (by have:=h.lJ.2.2.1;first|omega|exact id)) (K.block Q.D (Jn.done h.jn).lt (by have:=h.lJ.2.2.2;first|omega|exact id)) (fun k v b hk hv hb hlt=>K.block b hlt (by have:=(h.lA k v b hk hv hb).2;first|omega|exact id))
  lJ:=⟨by rw[za (Jn.row h.jn).lt];exact h.lJ.1,by rw[za (Jn.miss h.jn).lt];exact h.lJ.2.1,by rw[za (Jn.ltA h.jn)];exact h.lJ.2.2.1,by rw[za (Jn.done h.jn).lt];exact h.lJ.2.2.2⟩
  lA:=h.lA.kc K (K.block Q.A (Jn.ltA h.jn) (by have:=h.lJ.2.2.1;first|omega|exact id))
  sp:=h.sp.of_blocks (K.block Q.Sb h.sp.lt (by have:=h.lS.1;first|omega|exact id)) (fun k e=>K.block k (h.sp.row.low e).2 (by have:=h.lS.2 k e;first|omega|exact id))
  lS:=⟨by rw[za h.sp.lt];exact h.lS.1,fun k e=>by rw[za (h.sp.row.low e).2];exact h.lS.2 k e⟩
  pk:=h.pk.of_blocks (K.block Q.Kb h.pk.lt (by have:=h.lK.1;first|omega|exact id)) (fun k e=>K.block k (h.pk.row.low e).2 (by have:=h.lK.2 k e;first|omega|exact id))
  lK:=⟨by rw[za h.pk.lt];exact h.lK.1,fun k e=>by rw[za (h.pk.row.low e).2];exact h.lK.2 k e⟩
  hrow:=h.hrow.of_block (K.block Q.HB h.hrow.lt (by have:=h.lHB;first|omega|exact id))
  lHB:=by rw[za h.hrow.lt];exact h.lHB
  hand:=fun k hk=>(h.hand k hk).of_blocks (K.block _ (h.hand k hk).row.lt (by have:=(h.lH k hk).1;first|omega|exact id)) (K.block _ (h.hand k hk).ring.lt (by have:=(h.lH k hk).2;first|omega|exact id))
  lH:=fun k hk=>⟨by rw[za (h.hand k hk).row.lt];exact(h.lH k hk).1,by rw[za (h.hand k hk).ring.lt];exact(h.lH k hk).2⟩
  has:=h.has.of_block (K.block Q.Mb h.has.lt (by have:=h.lM;first|omega|exact id))
  lM:=by rw[za h.has.lt];exact h.lM
  wrow:=h.wrow.of_block (K.block Q.WB h.wrow.lt (by have:=h.lW;first|omega|exact id))
  lW:=by rw[za h.wrow.lt];exact h.lW
  far:=fun k hk=>by
   have h1:=h.far k hk
   have h2:=h.w1le
   exact⟨h1.1,by rw[za (by omega)];exact h1.2.1,(K.block k (by omega) (by have:=h1.2.1;first|omega|exact id)).trans h1.2.2⟩
  w1le:=qq2 h.w1le K.size
  io:=⟨K.os.trans h.io.1,K.tape.trans h.io.2.1,K.output.trans h.io.2.2⟩ }
theorem Pg.later8(h:Pg B G room hands ts g wk own Q w)  (K:Kc own (fun c=>c=8) w w'):Pg B G room hands ts g wk (relabel own w.heap.size 8) Q w':=by
 exact {
  row:=h.row.of_block (K.block G h.row.lt (by have:=h.lG;first|omega|exact id))
  lG:=by rw[za h.row.lt];exact h.lG
  jn:=JnT.of_lists h.jn (K.block Q.J (Jn.row h.jn).lt (by have:=h.lJ.1;first|omega|exact id)) (K.block Q.M (Jn.miss h.jn).lt (by have:=h.lJ.2.1;first|omega|exact id)) (K.block Q.A (Jn.ltA h.jn) (by have:=h.lJ.2.2.1;first|omega|exact id)) (K.block Q.D (Jn.done h.jn).lt (by have:=h.lJ.2.2.2;first|omega|exact id)) (fun k v b hk hv hb hlt=>K.block b hlt (by have:=(h.lA k v b hk hv hb).2;first|omega|exact id))
  lJ:=⟨by rw[za (Jn.row h.jn).lt];exact h.lJ.1,by rw[za (Jn.miss h.jn).lt];exact h.lJ.2.1,by rw[za (Jn.ltA h.jn)];exact h.lJ.2.2.1,by rw[za (Jn.done h.jn).lt];exact h.lJ.2.2.2⟩
  lA:=h.lA.kc K (K.block Q.A (Jn.ltA h.jn) (by have:=h.lJ.2.2.1;first|omega|exact id))
  sp:=h.sp.of_blocks (K.block Q.Sb h.sp.lt (by have:=h.lS.1;first|omega|exact id)) (fun k e=>K.block k (h.sp.row.low e).2 (by have:=h.lS.2 k e;first|omega|exact id))
  lS:=⟨by rw[za h.sp.lt];exact h.lS.1,fun k e=>by rw[za (h.sp.row.low e).2];exact h.lS.2 k e⟩
  pk:=h.pk.of_blocks (K.block Q.Kb h.pk.lt (by have:=h.lK.1;first|omega|exact id)) (fun k e=>K.block k (h.pk.row.low e).2 (by have:=h.lK.2 k e;first|omega|exact id))
  lK:=⟨by rw[za h.pk.lt];exact h.lK.1,fun k e=>by rw[za (h.pk.row.low e).2];exact h.lK.2 k e⟩
  hrow:=h.hrow.of_block (K.block Q.HB h.hrow.lt (by have:=h.lHB;first|omega|exact id))
  lHB:=by rw[za h.hrow.lt];exact h.lHB
  hand:=fun k hk=>(h.hand k hk).of_blocks (K.block _ (h.hand k hk).row.lt (by have:=(h.lH k hk).1;first|omega|exact id)) (K.block _ (h.hand k hk).ring.lt (by have:=(h.lH k hk).2;first|omega|exact id))
  lH:=fun k hk=>⟨by rw[za (h.hand k hk).row.lt];exact(h.lH k hk).1,by rw[za (h.hand k hk).ring.lt];exact(h.lH k hk).2⟩
  has:=h.has.of_block (K.block Q.Mb h.has.lt (by have:=h.lM;first|omega|exact id))
  lM:=by rw[za h.has.lt];exact h.lM
  wrow:=h.wrow.of_block (K.block Q.WB h.wrow.lt (by have:=h.lW;first|omega|exact id))
  lW:=by rw[za h.wrow.lt];exact h.lW
  far:=fun k hk=>by
   have h1:=h.far k hk
   have h2:=h.w1le
   exact⟨h1.1,by rw[za (by omega)];exact h1.2.1,(K.block k (by omega) (by have:=h1.2.1;first|omega|exact id)).trans h1.2.2⟩
  w1le:=qq2 h.w1le K.size
  io:=⟨K.os.trans h.io.1,K.tape.trans h.io.2.1,K.output.trans h.io.2.2⟩ }
theorem Pg.setWk(h:Pg B G room hands ts g wk own Q w)(f:Nat→Int)(hf:w'.rowIs Q.WB 3 ts.length (fun k=>.int .i64 (f k)))(K:Kc own (fun c=>c=2) w w'):Pg B G room hands ts g f (relabel own w.heap.size 2) Q w':=by
 exact {
  row:=h.row.of_block (K.block G h.row.lt (by have:=h.lG;first|omega|exact id))
  lG:=by rw[za h.row.lt];exact h.lG
  jn:=JnT.of_lists h.jn (K.block Q.J (Jn.row h.jn).lt (by have:=h.lJ.1;first|omega|exact id)) (K.block Q.M (Jn.miss h.jn).lt (by have:=h.lJ.2.1;first|omega|exact id)) (K.block Q.A (Jn.ltA h.jn) (by have:=h.lJ.2.2.1;first|omega|exact id)) (K.block Q.D (Jn.done h.jn).lt (by have:=h.lJ.2.2.2;first|omega|exact id)) (fun k v b hk hv hb hlt=>K.block b hlt (by have:=(h.lA k v b hk hv hb).2;first|omega|exact id))
  lJ:=⟨by rw[za (Jn.row h.jn).lt];exact h.lJ.1,by rw[za (Jn.miss h.jn).lt];exact h.lJ.2.1,by rw[za (Jn.ltA h.jn)];exact h.lJ.2.2.1,by rw[za (Jn.done h.jn).lt];exact h.lJ.2.2.2⟩
  lA:=h.lA.kc K (K.block Q.A (Jn.ltA h.jn) (by have:=h.lJ.2.2.1;first|omega|exact id))
  sp:=h.sp.of_blocks (K.block Q.Sb h.sp.lt (by have:=h.lS.1;first|omega|exact id)) (fun k e=>K.block k (h.sp.row.low e).2 (by have:=h.lS.2 k e;first|omega|exact id))
  lS:=⟨by rw[za h.sp.lt];exact h.lS.1,fun k e=>by rw[za (h.sp.row.low e).2];exact h.lS.2 k e⟩
  pk:=h.pk.of_blocks (K.block Q.Kb h.pk.lt (by have:=h.lK.1;first|omega|exact id)) (fun k e=>K.block k (h.pk.row.low e).2 (by have:=h.lK.2 k e;first|omega|exact id))
  lK:=⟨by rw[za h.pk.lt];exact h.lK.1,fun k e=>by rw[za (h.pk.row.low e).2];exact h.lK.2 k e⟩
  hrow:=h.hrow.of_block (K.block Q.HB h.hrow.lt (by have:=h.lHB;first|omega|exact id))
  lHB:=by rw[za h.hrow.lt];exact h.lHB
  hand:=fun k hk=>(h.hand k hk).of_blocks (K.block _ (h.hand k hk).row.lt (by have:=(h.lH k hk).1;first|omega|exact id)) (K.block _ (h.hand k hk).ring.lt (by have:=(h.lH k hk).2;first|omega|exact id))
  lH:=fun k hk=>⟨by rw[za (h.hand k hk).row.lt];exact(h.lH k hk).1,by rw[za (h.hand k hk).ring.lt];exact(h.lH k hk).2⟩
  has:=h.has.of_block (K.block Q.Mb h.has.lt (by have:=h.lM;first|omega|exact id))
  lM:=by rw[za h.has.lt];exact h.lM
  wrow:=hf
  lW:=by rw[za h.wrow.lt];exact h.lW
  far:=fun k hk=>by
   have h1:=h.far k hk
   have h2:=h.w1le
   exact⟨h1.1,by rw[za (by omega)];exact h1.2.1,(K.block k (by omega) (by have:=h1.2.1;first|omega|exact id)).trans h1.2.2⟩
  w1le:=qq2 h.w1le K.size
  io:=⟨K.os.trans h.io.1,K.tape.trans h.io.2.1,K.output.trans h.io.2.2⟩ }
theorem Pg.setHas(h:Pg B G room hands ts g wk own Q w)(f:Nat→Int)(hf:YD w' Q.Mb hands f)(K:Kc own (fun c=>c=3) w w'):Pg B G room hands ts { g with task:=f } wk (relabel own w.heap.size 3) Q w':=by
 exact {
  row:=h.row.of_block (K.block G h.row.lt (by have:=h.lG;first|omega|exact id))
  lG:=by rw[za h.row.lt];exact h.lG
  jn:=JnT.of_lists h.jn (K.block Q.J (Jn.row h.jn).lt (by have:=h.lJ.1;first|omega|exact id)) (K.block Q.M (Jn.miss h.jn).lt (by have:=h.lJ.2.1;first|omega|exact id)) (K.block Q.A (Jn.ltA h.jn) (by have:=h.lJ.2.2.1;first|omega|exact id)) (K.block Q.D (Jn.done h.jn).lt (by have:=h.lJ.2.2.2;first|omega|exact id)) (fun k v b hk hv hb hlt=>K.block b hlt (by have:=(h.lA k v b hk hv hb).2;first|omega|exact id))
  lJ:=⟨by rw[za (Jn.row h.jn).lt];exact h.lJ.1,by rw[za (Jn.miss h.jn).lt];exact h.lJ.2.1,by rw[za (Jn.ltA h.jn)];exact h.lJ.2.2.1,by rw[za (Jn.done h.jn).lt];exact h.lJ.2.2.2⟩
  lA:=h.lA.kc K (K.block Q.A (Jn.ltA h.jn) (by have:=h.lJ.2.2.1;first|omega|exact id))
  sp:=h.sp.of_blocks (K.block Q.Sb h.sp.lt (by have:=h.lS.1;first|omega|exact id)) (fun k e=>K.block k (h.sp.row.low e).2 (by have:=h.lS.2 k e;first|omega|exact id))
  lS:=⟨by rw[za h.sp.lt];exact h.lS.1,fun k e=>by rw[za (h.sp.row.low e).2];exact h.lS.2 k e⟩
  pk:=h.pk.of_blocks (K.block Q.Kb h.pk.lt (by have:=h.lK.1;first|omega|exact id)) (fun k e=>K.block k (h.pk.row.low e).2 (by have:=h.lK.2 k e;first|omega|exact id))
  lK:=⟨by rw[za h.pk.lt];exact h.lK.1,fun k e=>by rw[za (h.pk.row.low e).2];exact h.lK.2 k e⟩
  hrow:=h.hrow.of_block (K.block Q.HB h.hrow.lt (by have:=h.lHB;first|omega|exact id))
  lHB:=by rw[za h.hrow.lt];exact h.lHB
  hand:=fun k hk=>(h.hand k hk).of_blocks (K.block _ (h.hand k hk).row.lt (by have:=(h.lH k hk).1;first|omega|exact id)) (K.block _ (h.hand k hk).ring.lt (by have:=(h.lH k hk).2;first|omega|exact id))
  lH:=fun k hk=>⟨by rw[za (h.hand k hk).row.lt];exact(h.lH k hk).1,by rw[za (h.hand k hk).ring.lt];exact(h.lH k hk).2⟩
  has:=hf
  lM:=by rw[za h.has.lt];exact h.lM
  wrow:=h.wrow.of_block (K.block Q.WB h.wrow.lt (by have:=h.lW;first|omega|exact id))
  lW:=by rw[za h.wrow.lt];exact h.lW
  far:=fun k hk=>by
   have h1:=h.far k hk
   have h2:=h.w1le
   exact⟨h1.1,by rw[za (by omega)];exact h1.2.1,(K.block k (by omega) (by have:=h1.2.1;first|omega|exact id)).trans h1.2.2⟩
  w1le:=qq2 h.w1le K.size
  io:=⟨K.os.trans h.io.1,K.tape.trans h.io.2.1,K.output.trans h.io.2.2⟩ }
theorem Pg.setPark(h:Pg B G room hands ts g wk own Q w)(z:List Int)(v:Value)(hz:Prk.Pk Q.Kb hands z v w')(hl:Lb (relabel own w.heap.size 4) 4 v)(K:Kc own (fun c=>c=4) w w'):Pg B G room hands ts { g with zz:=z } wk (relabel own w.heap.size 4) { Q with vz:=v } w':=by
 exact {
  row:=h.row.of_block (K.block G h.row.lt (by have:=h.lG;first|omega|exact id))
  lG:=by rw[za h.row.lt];exact h.lG
  jn:=JnT.of_lists h.jn (K.block Q.J (Jn.row h.jn).lt (by have:=h.lJ.1;first|omega|exact id)) (K.block Q.M (Jn.miss h.jn).lt (by have:=h.lJ.2.1;first|omega|exact id)) (K.block Q.A (Jn.ltA h.jn) (by have:=h.lJ.2.2.1;first|omega|exact id)) (K.block Q.D (Jn.done h.jn).lt (by have:=h.lJ.2.2.2;first|omega|exact id)) (fun k v b hk hv hb hlt=>K.block b hlt (by have:=(h.lA k v b hk hv hb).2;first|omega|exact id))
  lJ:=⟨by rw[za (Jn.row h.jn).lt];exact h.lJ.1,by rw[za (Jn.miss h.jn).lt];exact h.lJ.2.1,by rw[za (Jn.ltA h.jn)];exact h.lJ.2.2.1,by rw[za (Jn.done h.jn).lt];exact h.lJ.2.2.2⟩
  lA:=h.lA.kc K (K.block Q.A (Jn.ltA h.jn) (by have:=h.lJ.2.2.1;first|omega|exact id))
  sp:=h.sp.of_blocks (K.block Q.Sb h.sp.lt (by have:=h.lS.1;first|omega|exact id)) (fun k e=>K.block k (h.sp.row.low e).2 (by have:=h.lS.2 k e;first|omega|exact id))
  lS:=⟨by rw[za h.sp.lt];exact h.lS.1,fun k e=>by rw[za (h.sp.row.low e).2];exact h.lS.2 k e⟩
  pk:=hz
  lK:=⟨by rw[za h.pk.lt];exact h.lK.1,hl⟩
  hrow:=h.hrow.of_block (K.block Q.HB h.hrow.lt (by have:=h.lHB;first|omega|exact id))
  lHB:=by rw[za h.hrow.lt];exact h.lHB
  hand:=fun k hk=>(h.hand k hk).of_blocks (K.block _ (h.hand k hk).row.lt (by have:=(h.lH k hk).1;first|omega|exact id)) (K.block _ (h.hand k hk).ring.lt (by have:=(h.lH k hk).2;first|omega|exact id))
  lH:=fun k hk=>⟨by rw[za (h.hand k hk).row.lt];exact(h.lH k hk).1,by rw[za (h.hand k hk).ring.lt];exact(h.lH k hk).2⟩
  has:=h.has.of_block (K.block Q.Mb h.has.lt (by have:=h.lM;first|omega|exact id))
  lM:=by rw[za h.has.lt];exact h.lM
  wrow:=h.wrow.of_block (K.block Q.WB h.wrow.lt (by have:=h.lW;first|omega|exact id))
  lW:=by rw[za h.wrow.lt];exact h.lW
  far:=fun k hk=>by
   have h1:=h.far k hk
   have h2:=h.w1le
   exact⟨h1.1,by rw[za (by omega)];exact h1.2.1,(K.block k (by omega) (by have:=h1.2.1;first|omega|exact id)).trans h1.2.2⟩
  w1le:=qq2 h.w1le K.size
  io:=⟨K.os.trans h.io.1,K.tape.trans h.io.2.1,K.output.trans h.io.2.2⟩ }
theorem Pg.setSp(h:Pg B G room hands ts g wk own Q w)(z:List Int)(v:Value)(hz:Spl.Sp Q.Sb room z v w')(hl:Lb (relabel own w.heap.size 6) 6 v)(K:Kc own (fun c=>c=6) w w'):Pg B G room hands ts { g with sp:=z } wk (relabel own w.heap.size 6) { Q with vs:=v } w':=by
 exact {
  row:=h.row.of_block (K.block G h.row.lt (by have:=h.lG;first|omega|exact id))
  lG:=by rw[za h.row.lt];exact h.lG
  jn:=JnT.of_lists h.jn (K.block Q.J (Jn.row h.jn).lt (by have:=h.lJ.1;first|omega|exact id)) (K.block Q.M (Jn.miss h.jn).lt (by have:=h.lJ.2.1;first|omega|exact id)) (K.block Q.A (Jn.ltA h.jn) (by have:=h.lJ.2.2.1;first|omega|exact id)) (K.block Q.D (Jn.done h.jn).lt (by have:=h.lJ.2.2.2;first|omega|exact id)) (fun k v b hk hv hb hlt=>K.block b hlt (by have:=(h.lA k v b hk hv hb).2;first|omega|exact id))
  lJ:=⟨by rw[za (Jn.row h.jn).lt];exact h.lJ.1,by rw[za (Jn.miss h.jn).lt];exact h.lJ.2.1,by rw[za (Jn.ltA h.jn)];exact h.lJ.2.2.1,by rw[za (Jn.done h.jn).lt];exact h.lJ.2.2.2⟩
  lA:=h.lA.kc K (K.block Q.A (Jn.ltA h.jn) (by have:=h.lJ.2.2.1;first|omega|exact id))
  sp:=hz
  lS:=⟨by rw[za h.sp.lt];exact h.lS.1,hl⟩
  pk:=h.pk.of_blocks (K.block Q.Kb h.pk.lt (by have:=h.lK.1;first|omega|exact id)) (fun k e=>K.block k (h.pk.row.low e).2 (by have:=h.lK.2 k e;first|omega|exact id))
  lK:=⟨by rw[za h.pk.lt];exact h.lK.1,fun k e=>by rw[za (h.pk.row.low e).2];exact h.lK.2 k e⟩
  hrow:=h.hrow.of_block (K.block Q.HB h.hrow.lt (by have:=h.lHB;first|omega|exact id))
  lHB:=by rw[za h.hrow.lt];exact h.lHB
  hand:=fun k hk=>(h.hand k hk).of_blocks (K.block _ (h.hand k hk).row.lt (by have:=(h.lH k hk).1;first|omega|exact id)) (K.block _ (h.hand k hk).ring.lt (by have:=(h.lH k hk).2;first|omega|exact id))
  lH:=fun k hk=>⟨by rw[za (h.hand k hk).row.lt];exact(h.lH k hk).1,by rw[za (h.hand k hk).ring.lt];exact(h.lH k hk).2⟩
  has:=h.has.of_block (K.block Q.Mb h.has.lt (by have:=h.lM;first|omega|exact id))
  lM:=by rw[za h.has.lt];exact h.lM
  wrow:=h.wrow.of_block (K.block Q.WB h.wrow.lt (by have:=h.lW;first|omega|exact id))
  lW:=by rw[za h.wrow.lt];exact h.lW
  far:=fun k hk=>by
   have h1:=h.far k hk
   have h2:=h.w1le
   exact⟨h1.1,by rw[za (by omega)];exact h1.2.1,(K.block k (by omega) (by have:=h1.2.1;first|omega|exact id)).trans h1.2.2⟩
  w1le:=qq2 h.w1le K.size
  io:=⟨K.os.trans h.io.1,K.tape.trans h.io.2.1,K.output.trans h.io.2.2⟩ }
theorem Pg.setJoin(h:Pg B G room hands ts g wk own Q w)(S:Nat→Bool)(hj:JnT Q.J Q.M Q.A Q.D Q.C ts S w')(hs:SubA Q.A w w')(K:Kc own (fun c=>c=7) w w'):Pg B G room hands ts { g with S:=S } wk (relabel own w.heap.size 7) Q w':=by
 exact {
  row:=h.row.of_block (K.block G h.row.lt (by have:=h.lG;first|omega|exact id))
  lG:=by rw[za h.row.lt];exact h.lG
  jn:=hj
  lJ:=⟨by rw[za (Jn.row h.jn).lt];exact h.lJ.1,by rw[za (Jn.miss h.jn).lt];exact h.lJ.2.1,by rw[za (Jn.ltA h.jn)];exact h.lJ.2.2.1,by rw[za (Jn.done h.jn).lt];exact h.lJ.2.2.2⟩
  lA:=h.lA.sub K hs
  sp:=h.sp.of_blocks (K.block Q.Sb h.sp.lt (by have:=h.lS.1;first|omega|exact id)) (fun k e=>K.block k (h.sp.row.low e).2 (by have:=h.lS.2 k e;first|omega|exact id))
  lS:=⟨by rw[za h.sp.lt];exact h.lS.1,fun k e=>by rw[za (h.sp.row.low e).2];exact h.lS.2 k e⟩
  pk:=h.pk.of_blocks (K.block Q.Kb h.pk.lt (by have:=h.lK.1;first|omega|exact id)) (fun k e=>K.block k (h.pk.row.low e).2 (by have:=h.lK.2 k e;first|omega|exact id))
  lK:=⟨by rw[za h.pk.lt];exact h.lK.1,fun k e=>by rw[za (h.pk.row.low e).2];exact h.lK.2 k e⟩
  hrow:=h.hrow.of_block (K.block Q.HB h.hrow.lt (by have:=h.lHB;first|omega|exact id))
  lHB:=by rw[za h.hrow.lt];exact h.lHB
  hand:=fun k hk=>(h.hand k hk).of_blocks (K.block _ (h.hand k hk).row.lt (by have:=(h.lH k hk).1;first|omega|exact id)) (K.block _ (h.hand k hk).ring.lt (by have:=(h.lH k hk).2;first|omega|exact id))
  lH:=fun k hk=>⟨by rw[za (h.hand k hk).row.lt];exact(h.lH k hk).1,by rw[za (h.hand k hk).ring.lt];exact(h.lH k hk).2⟩
  has:=h.has.of_block (K.block Q.Mb h.has.lt (by have:=h.lM;first|omega|exact id))
  lM:=by rw[za h.has.lt];exact h.lM
  wrow:=h.wrow.of_block (K.block Q.WB h.wrow.lt (by have:=h.lW;first|omega|exact id))
  lW:=by rw[za h.wrow.lt];exact h.lW
  far:=fun k hk=>by
   have h1:=h.far k hk
   have h2:=h.w1le
   exact⟨h1.1,by rw[za (by omega)];exact h1.2.1,(K.block k (by omega) (by have:=h1.2.1;first|omega|exact id)).trans h1.2.2⟩
  w1le:=qq2 h.w1le K.size
  io:=⟨K.os.trans h.io.1,K.tape.trans h.io.2.1,K.output.trans h.io.2.2⟩ }
theorem Pg.setHand(h:Pg B G room hands ts g wk own Q w)(j:Nat)(nr:Int)(xs:List Int)(hm:Hnd.Hd (Q.Hk j) (Q.Rk j) room nr xs w')(K:Kc own (fun c=>c=10+j) w w'):Pg B G room hands ts { g with near:=updG g.near j nr,ring:=updG g.ring j xs } wk (relabel own w.heap.size (10+j)) Q w':=by
 exact {
  row:=h.row.of_block (K.block G h.row.lt (by have:=h.lG;first|omega|exact id))
  lG:=by rw[za h.row.lt];exact h.lG
  jn:=JnT.of_lists h.jn (K.block Q.J (Jn.row h.jn).lt (by have:=h.lJ.1;first|omega|exact id)) (K.block Q.M (Jn.miss h.jn).lt (by have:=h.lJ.2.1;first|omega|exact id)) (K.block Q.A (Jn.ltA h.jn) (by have:=h.lJ.2.2.1;first|omega|exact id)) (K.block Q.D (Jn.done h.jn).lt (by have:=h.lJ.2.2.2;first|omega|exact id)) (fun k v b hk hv hb hlt=>K.block b hlt (by have:=(h.lA k v b hk hv hb).2;first|omega|exact id))
  lJ:=⟨by rw[za (Jn.row h.jn).lt];exact h.lJ.1,by rw[za (Jn.miss h.jn).lt];exact h.lJ.2.1,by rw[za (Jn.ltA h.jn)];exact h.lJ.2.2.1,by rw[za (Jn.done h.jn).lt];exact h.lJ.2.2.2⟩
  lA:=h.lA.kc K (K.block Q.A (Jn.ltA h.jn) (by have:=h.lJ.2.2.1;first|omega|exact id))
  sp:=h.sp.of_blocks (K.block Q.Sb h.sp.lt (by have:=h.lS.1;first|omega|exact id)) (fun k e=>K.block k (h.sp.row.low e).2 (by have:=h.lS.2 k e;first|omega|exact id))
  lS:=⟨by rw[za h.sp.lt];exact h.lS.1,fun k e=>by rw[za (h.sp.row.low e).2];exact h.lS.2 k e⟩
  pk:=h.pk.of_blocks (K.block Q.Kb h.pk.lt (by have:=h.lK.1;first|omega|exact id)) (fun k e=>K.block k (h.pk.row.low e).2 (by have:=h.lK.2 k e;first|omega|exact id))
  lK:=⟨by rw[za h.pk.lt];exact h.lK.1,fun k e=>by rw[za (h.pk.row.low e).2];exact h.lK.2 k e⟩
  hrow:=h.hrow.of_block (K.block Q.HB h.hrow.lt (by have:=h.lHB;first|omega|exact id))
  lHB:=by rw[za h.hrow.lt];exact h.lHB
  hand:=fun k hk=>by
   by_cases e:k=j
   ·subst e;simp only[zg];exact hm
   ·simp only[zh _ _ e];exact(h.hand k hk).of_blocks (K.block _ (h.hand k hk).row.lt (by rw[(h.lH k hk).1];omega)) (K.block _ (h.hand k hk).ring.lt (by rw[(h.lH k hk).2];omega))
  lH:=fun k hk=>⟨by rw[za (h.hand k hk).row.lt];exact(h.lH k hk).1,by rw[za (h.hand k hk).ring.lt];exact(h.lH k hk).2⟩
  has:=h.has.of_block (K.block Q.Mb h.has.lt (by have:=h.lM;first|omega|exact id))
  lM:=by rw[za h.has.lt];exact h.lM
  wrow:=h.wrow.of_block (K.block Q.WB h.wrow.lt (by have:=h.lW;first|omega|exact id))
  lW:=by rw[za h.wrow.lt];exact h.lW
  far:=fun k hk=>by
   have h1:=h.far k hk
   have h2:=h.w1le
   exact⟨h1.1,by rw[za (by omega)];exact h1.2.1,(K.block k (by omega) (by have:=h1.2.1;first|omega|exact id)).trans h1.2.2⟩
  w1le:=qq2 h.w1le K.size
  io:=⟨K.os.trans h.io.1,K.tape.trans h.io.2.1,K.output.trans h.io.2.2⟩ }
theorem Pg.away(h:Pg B G room hands ts g wk own Q w)  (K:Kc own (fun c=>c=9) w w'):Pg ⟨fun _=>False,w'⟩ G room hands ts g wk (relabel own w.heap.size 9) Q w':=by
 exact {
  row:=h.row.of_block (K.block G h.row.lt (by have:=h.lG;first|omega|exact id))
  lG:=by rw[za h.row.lt];exact h.lG
  jn:=JnT.of_lists h.jn (K.block Q.J (Jn.row h.jn).lt (by have:=h.lJ.1;first|omega|exact id)) (K.block Q.M (Jn.miss h.jn).lt (by have:=h.lJ.2.1;first|omega|exact id)) (K.block Q.A (Jn.ltA h.jn) (by have:=h.lJ.2.2.1;first|omega|exact id)) (K.block Q.D (Jn.done h.jn).lt (by have:=h.lJ.2.2.2;first|omega|exact id)) (fun k v b hk hv hb hlt=>K.block b hlt (by have:=(h.lA k v b hk hv hb).2;first|omega|exact id))
  lJ:=⟨by rw[za (Jn.row h.jn).lt];exact h.lJ.1,by rw[za (Jn.miss h.jn).lt];exact h.lJ.2.1,by rw[za (Jn.ltA h.jn)];exact h.lJ.2.2.1,by rw[za (Jn.done h.jn).lt];exact h.lJ.2.2.2⟩
  lA:=h.lA.kc K (K.block Q.A (Jn.ltA h.jn) (by have:=h.lJ.2.2.1;first|omega|exact id))
  sp:=h.sp.of_blocks (K.block Q.Sb h.sp.lt (by have:=h.lS.1;first|omega|exact id)) (fun k e=>K.block k (h.sp.row.low e).2 (by have:=h.lS.2 k e;first|omega|exact id))
  lS:=⟨by rw[za h.sp.lt];exact h.lS.1,fun k e=>by rw[za (h.sp.row.low e).2];exact h.lS.2 k e⟩
  pk:=h.pk.of_blocks (K.block Q.Kb h.pk.lt (by have:=h.lK.1;first|omega|exact id)) (fun k e=>K.block k (h.pk.row.low e).2 (by have:=h.lK.2 k e;first|omega|exact id))
  lK:=⟨by rw[za h.pk.lt];exact h.lK.1,fun k e=>by rw[za (h.pk.row.low e).2];exact h.lK.2 k e⟩
  hrow:=h.hrow.of_block (K.block Q.HB h.hrow.lt (by have:=h.lHB;first|omega|exact id))
  lHB:=by rw[za h.hrow.lt];exact h.lHB
  hand:=fun k hk=>(h.hand k hk).of_blocks (K.block _ (h.hand k hk).row.lt (by have:=(h.lH k hk).1;first|omega|exact id)) (K.block _ (h.hand k hk).ring.lt (by have:=(h.lH k hk).2;first|omega|exact id))
  lH:=fun k hk=>⟨by rw[za (h.hand k hk).row.lt];exact(h.lH k hk).1,by rw[za (h.hand k hk).ring.lt];exact(h.lH k hk).2⟩
  has:=h.has.of_block (K.block Q.Mb h.has.lt (by have:=h.lM;first|omega|exact id))
  lM:=by rw[za h.has.lt];exact h.lM
  wrow:=h.wrow.of_block (K.block Q.WB h.wrow.lt (by have:=h.lW;first|omega|exact id))
  lW:=by rw[za h.wrow.lt];exact h.lW
  far:=fun _ hk=>hk.elim
  w1le:=qq1 _
  io:=⟨rfl,rfl,rfl⟩ }
theorem Pg.rebase(h:Pg B G room hands ts g wk own Q w):Pg ⟨fun k=>k<w.heap.size∧own k=9,w⟩ G room hands ts g wk own Q w:=
 {h with far:=fun _ hk=>⟨hk.1,hk.2,rfl⟩,w1le:=qq1 _,io:=⟨rfl,rfl,rfl⟩ }
structure Went (own own':Nat→Nat) (w w':World):Prop where
 os:w'.os=w.os
 tape:w'.tape=w.tape
 output:w'.output=w.output
 size:w.heap.size≤w'.heap.size
 block:∀k,k<w.heap.size→own k=9→w'.heap[k]?=w.heap[k]?∧own' k=9
theorem Pg.went{own':Nat→Nat}(h:Pg ⟨fun k=>k<w.heap.size∧own k=9,w⟩ G room hands ts g wk own' Q w'):Went own own' w w':=
 ⟨h.io.1,h.io.2.1,h.io.2.2,h.w1le,fun k hk ho=>⟨(h.far k ⟨hk,ho⟩).2.2,(h.far k ⟨hk,ho⟩).2.1⟩⟩
theorem Pg.c(h:Pg B G room hands ts g wk own Q w):w.cell? ⟨G,0,none⟩=some (.pointer (some ⟨Q.J,0,none⟩))∧w.cell? ⟨G,1,none⟩=some (.pointer (some ⟨Q.Sb,0,none⟩))∧w.cell? ⟨G,2,none⟩=some (.pointer (some ⟨Q.Kb,0,none⟩))∧w.cell? ⟨G,3,none⟩=some (.slice (some ⟨Q.HB,0,none⟩) hands hands)∧w.cell? ⟨G,4,none⟩=some (.map (some Q.Mb))∧w.cell? ⟨G,5,none⟩=some (.slice (some ⟨Q.WB,0,none⟩) ts.length ts.length):=by
 refine⟨?_,?_,?_,?_,?_,?_⟩
 ·have:=h.row.cell (i:=0) (by omega)
  simpa[Xi]using this
 ·have:=h.row.cell (i:=1) (by omega)
  simpa[Xi]using this
 ·have:=h.row.cell (i:=2) (by omega)
  simpa[Xi]using this
 ·have:=h.row.cell (i:=3) (by omega)
  simpa[Xi]using this
 ·have:=h.row.cell (i:=4) (by omega)
  simpa[Xi]using this
 ·have:=h.row.cell (i:=5) (by omega)
  simpa[Xi]using this
theorem Pg.hc(h:Pg B G room hands ts g wk own Q w){k:Nat}(hk:k<hands):w.cell? ⟨Q.HB,k,none⟩=some (.pointer (some ⟨Q.Hk k,0,none⟩)):=h.hrow.cell hk
theorem Pg.kh(h:Pg B G room hands ts g wk own Q w){j:Nat}(hj:j<hands)(hk:Hnd.Kh (Q.Hk j) (Q.Rk j) w w'):Kc own (fun c=>c=10+j) w w':=
 ⟨hk.os,hk.tape,hk.output,hk.size,fun k hlt hne=>hk.block k hlt (fun e=>hne (by rw[e];exact(h.lH j hj).1)) (fun e=>hne (by rw[e];exact(h.lH j hj).2))⟩
theorem Pg.ks(h:Pg B G room hands ts g wk own Q w)(hk:Spl.Ks Q.Sb Q.vs.ownBlock w w'):Kc own (fun c=>c=6) w w':=
 ⟨hk.os,hk.tape,hk.output,hk.size,fun k hlt hne=>hk.block k hlt (fun e=>hne (by rw[e];exact h.lS.1)) (fun e=>hne (h.lS.2 k e))⟩
theorem Pg.kp(h:Pg B G room hands ts g wk own Q w)(hk:Prk.Ks Q.Kb Q.vz.ownBlock w w'):Kc own (fun c=>c=4) w w':=
 ⟨hk.os,hk.tape,hk.output,hk.size,fun k hlt hne=>hk.block k hlt (fun e=>hne (by rw[e];exact h.lK.1)) (fun e=>hne (h.lK.2 k e))⟩
theorem Pg.kj(h:Pg B G room hands ts g wk own Q w)(hk:Kx (fun k=>k=Q.M∨k=Q.A∨k=Q.D) w w'):Kc own (fun c=>c=7) w w':=
 ⟨hk.os,hk.tape,hk.output,hk.size,fun k hlt hne=>hk.block k hlt (by
  rintro (e|e|e) <;> subst e
  ·exact hne h.lJ.2.1
  ·exact hne h.lJ.2.2.1
  ·exact hne h.lJ.2.2.2)⟩
theorem Pg.nearS(h:Pg B G room hands ts g wk own Q w){v:Value}(hn:Spl.Near w.heap.size Q.vs v):Lb (relabel own w.heap.size 6) 6 v:=Lb.near h.lS.2 (fun _ e=>(h.sp.row.low e).2) hn
theorem Pg.nearZ(h:Pg B G room hands ts g wk own Q w){v:Value}(hn:Prk.Near w.heap.size Q.vz v):Lb (relabel own w.heap.size 4) 4 v:=Lb.near h.lK.2 (fun _ e=>(h.pk.row.low e).2) hn
end
end Go.Proofs.YtlfbdjeojgbniaaGreatDoor

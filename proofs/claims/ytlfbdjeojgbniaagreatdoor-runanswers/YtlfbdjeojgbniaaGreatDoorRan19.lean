import Derived.Test.YtlfbdjeojgbniaaGreatDoorRan18
namespace Go.Proofs.YtlfbdjeojgbniaaGreatDoor
section
open Go.RowKit Go.Deep Go.Maps
theorem jO{S T:Nat→Bool}{n:Nat}(h:∀k,k<n→S k=T k):unseen S n=unseen T n:=by
 induction n with
 | zero=>rfl
 | succ n ih=>
  unfold unseen
  rw[ih (fun k hk=>h k (by omega)),h n (by omega)]
theorem YD.le{w:World}{B hands:Nat}{task:Nat→Int}(h:YD w B hands task):∃n D,w.ownsMap Tryz.prog 3 (plainElem (H:=Unit) Tryz.prog 3) B n D∧n≤hands∧Maps.size D=unseen (fun h=>decide (task h<0)) hands∧∀x:Nat,x<hands→Maps.has D (.int .i64 x)=decide (0≤task x)∧(0≤task x→∀z,D.atKey (.int .i64 x) z=.lit (.int .i64 (task x))):=by
 obtain⟨n,D,h1,h2,h3⟩:=h
 exact⟨_,D,zbz h1,by rw[h2];exact ye _ _,h2,h3⟩
theorem YD.put{w w':World}{B hands n m:Nat}{task:Nat→Int}{D:DataW Unit}{h:Nat}{i:Nat}(hown:w.ownsMap Tryz.prog 3 (plainElem (H:=Unit) Tryz.prog 3) B n D)(hs:Maps.size D=unseen (fun h=>decide (task h<0)) hands)(hD:∀x:Nat,x<hands→Maps.has D (.int .i64 x)=decide (0≤task x)∧(0≤task x→∀z,D.atKey (.int .i64 x) z=.lit (.int .i64 (task x))))
  (hh:h<hands) (ht:task h<0) (hown1:w'.ownsMap Tryz.prog 3 (plainElem (H:=Unit) Tryz.prog 3) B m (D.put (.int .i64 h) (.lit (.int .i64 i)))):YD w' B hands (updG task h (i:Int)):=by
 refine⟨m,_,hown1,?_,fun x hx=>?_⟩
 ·have hno:Maps.has D (.int .i64 h)=false:=by rw[(hD h hh).1];simp;omega
  rw[Maps.size_put (hown.tidy keyed3),hno,hs]
  have h1:=yo (fun k=>decide (updG task h (i:Int) k<0)) hands h hh (by simp[zg])
  have h2:unseen (mark (fun k=>decide (updG task h (i:Int) k<0)) h) hands=unseen (fun k=>decide (task k<0)) hands:=jO (fun k _=>by
   by_cases e:k=h
   ·subst e;simp[mark,ht]
   ·simp[mark,e,zh task _ e])
  simp only[Bool.false_eq_true,if_false]
  omega
 ·by_cases e:x=h
  ·subst e
   rw[Maps.has_put_same hown.isMap (by trivial),zg]
   exact⟨by simp,fun _ z=>Maps.atKey_put_same hown.isMap (by trivial) _ z⟩
  ·rw[Maps.has_put_other (by intro h;injection h with _ h;omega),zh task _ e]
   refine⟨(hD x hx).1,fun h0 z=>?_⟩
   rw[Maps.atKey_put_other (by intro h;injection h with _ h;omega)]
   exact(hD x hx).2 h0 z
theorem YD.del{w w':World}{B hands n m:Nat}{task:Nat→Int}{D:DataW Unit}{h:Nat}(hown:w.ownsMap Tryz.prog 3 (plainElem (H:=Unit) Tryz.prog 3) B n D)(hs:Maps.size D=unseen (fun h=>decide (task h<0)) hands)(hD:∀x:Nat,x<hands→Maps.has D (.int .i64 x)=decide (0≤task x)∧(0≤task x→∀z,D.atKey (.int .i64 x) z=.lit (.int .i64 (task x))))
  (hh:h<hands) (ht:0≤task h) (hown1:w'.ownsMap Tryz.prog 3 (plainElem (H:=Unit) Tryz.prog 3) B m (D.del (.int .i64 h))):YD w' B hands (updG task h (-1)):=by
 refine⟨m,_,hown1,?_,fun x hx=>?_⟩
 ·have hno:Maps.has D (.int .i64 h)=true:=by rw[(hD h hh).1];simp[ht]
  have h0:=Maps.size_del (k:=.int .i64 h) (hown.tidy keyed3)
  rw[hno,hs]at h0
  have h1:=yo (fun k=>decide (task k<0)) hands h hh (by simp;omega)
  have h2:unseen (mark (fun k=>decide (task k<0)) h) hands=unseen (fun k=>decide (updG task h (-1) k<0)) hands:=jO (fun k _=>by
   by_cases e:k=h
   ·subst e;simp[mark,zg]
   ·simp[mark,e,zh task _ e])
  simp only[if_true]at h0
  omega
 ·by_cases e:x=h
  ·subst e
   rw[Maps.has_del_same,zg]
   exact⟨by simp,fun h0=>by omega⟩
  ·rw[Maps.has_del_other (by intro h;injection h with _ h;omega),zh task _ e]
   refine⟨(hD x hx).1,fun h0 z=>?_⟩
   rw[Maps.atKey_del_other (by intro h;injection h with _ h;omega)]
   exact(hD x hx).2 h0 z
variable {B:Bs} {G room hands:Nat} {ts:Zl} {g:Gs} {wk:Nat→Int} {own:Nat→Nat} {Q:Qp} {w w':World}
structure Ok (own own':Nat→Nat) (C:Nat→Prop) (w w':World):Prop where
 kc:Kc own C w w'
 lab:∀k,k<w.heap.size→own' k=own k
theorem Ok.re{own:Nat→Nat}{C:Nat→Prop}{w w':World}(K:Kc own C w w')(c:Nat):Ok own (relabel own w.heap.size c) C w w':=⟨K,fun _ h=>za h⟩
theorem Ok.trans{own own1 own2:Nat→Nat}{C:Nat→Prop}{w w1 w2:World}(h:Ok own own1 C w w1)(k:Ok own1 own2 C w1 w2):Ok own own2 C w w2:=
 ⟨⟨k.kc.os.trans h.kc.os,k.kc.tape.trans h.kc.tape,k.kc.output.trans h.kc.output,qq2 h.kc.size k.kc.size,fun i hi hC=>(k.kc.block i (qq3 hi h.kc.size) (by rw[h.lab i hi];exact hC)).trans (h.kc.block i hi hC)⟩,
  fun i hi=>(k.lab i (qq3 hi h.kc.size)).trans (h.lab i hi)⟩
theorem Ok.mono{own own':Nat→Nat}{C C':Nat→Prop}{w w':World}(h:Ok own own' C w w')(hC:∀c,C c→C' c):Ok own own' C' w w':=
 ⟨⟨h.kc.os,h.kc.tape,h.kc.output,h.kc.size,fun i hi hn=>h.kc.block i hi (fun e=>hn (hC _ e))⟩,h.lab⟩
theorem Ok.drewN{own:Nat→Nat}{C:Nat→Prop}{w:World}(q:Nat):Ok own (relabel own w.heap.size 9) C w (w.drewN q):=⟨⟨rfl,rfl,rfl,qq1 _,fun _ _ _=>rfl⟩,fun _ h=>za h⟩
theorem ya(w:World)(g k:Nat)(cur:Array Value)(t:TypeId)(x:Value)(h:w.heap[g]?=some (.cells cur t (0,0))):(w.setCell ⟨g,k,none⟩ x).heap[g]?=some (.cells (cur.setIfInBounds k x) t (0,0)):=by
 rw[setCell_eq_setRow w g k cur t (0,0) x h,setRow_heap w g cur _ t _ h]
def gsetP(w:World)(b:Nat)(a1 a2 a3 a4:Value):World:=(((w.setCell ⟨b,0,none⟩ a1).setCell ⟨b,1,none⟩ a2).setCell ⟨b,2,none⟩ a3).setCell ⟨b,3,none⟩ a4
theorem yQ{w:World}{b:Nat}{t:TypeId}{o1 o2 o3 o4:Value}(h:w.heap[b]?=some (.cells #[o1,o2,o3,o4] t (0,0)))(a1 a2 a3 a4:Value):(gsetP w b a1 a2 a3 a4).heap[b]?=some (.cells #[a1,a2,a3,a4] t (0,0)):=by
 have h1:=ya w b 0 _ t a1 h
 have h2:=ya _ b 1 _ t a2 h1
 have h3:=ya _ b 2 _ t a3 h2
 have h4:=ya _ b 3 _ t a4 h3
 simpa[gsetP]using h4
theorem Kc.gsetP{own:Nat→Nat}{C:Nat→Prop}{w:World}{b:Nat}(hb:C (own b))(a1 a2 a3 a4:Value):Kc own C w (gsetP w b a1 a2 a3 a4):=
 ⟨rfl,rfl,rfl,by simp[YtlfbdjeojgbniaaGreatDoor.gsetP],fun k _ hk=>by
  have hne:k≠b:=fun e=>hk (by rw[e];exact hb)
  unfold YtlfbdjeojgbniaaGreatDoor.gsetP
  rw[qq5 _ _ _ _ (by exact hne),qq5 _ _ _ _ (by exact hne),qq5 _ _ _ _ (by exact hne),qq5 _ _ _ _ (by exact hne)]⟩
theorem yO{w:World}{b:Nat}{t:TypeId}{a1 a2 a3 a4:Value}(h:w.heap[b]?=some (.cells #[a1,a2,a3,a4] t (0,0))) :
  w.cell? ⟨b,0,none⟩=some a1∧w.cell? ⟨b,1,none⟩=some a2∧w.cell? ⟨b,2,none⟩=some a3∧w.cell? ⟨b,3,none⟩=some a4∧∀j,w.frozen? ⟨b,j,none⟩=false:=
 ⟨by simp[World.cell?,h],by simp[World.cell?,h],by simp[World.cell?,h],by simp[World.cell?,h],fun j=>by simp[World.frozen?,h]⟩
theorem xF{fn:Func}{Q:Ending→World→Prop}{a:Act}{w:World}{b s:Nat}{a1 a2 a3 a4:Value}(hr:fn.results=#[ResultVar.cell s 91])(h:w.heap[b]?=some (.cells #[a1,a2,a3,a4] 91 (0,0)))(ht:a.tmps[s]?=some (.pointer (some ⟨b,0,none⟩)))(hd:a.defers=[])(hq:Q (.returned (.agg #[a1,a2,a3,a4])) w) :
  bodyPost Tryz.prog fn Q Exit.ret a w:=by
 obtain⟨q0,q1,q2,q3,_⟩:=yO h
 refine bodyPost_ret (v:=.agg #[a1,a2,a3,a4]) ?_ hd hq
 simp[results,hr,go_sem,ht,q0,q1,q2,q3]
set_option maxRecDepth 100000 in
set_option maxHeartbeats 2000000 in
theorem jR(hP:Pg B G room hands ts g wk own Q w)(a o:Int)(h i:Nat)(hh:h<hands)(h6:hands≤6)(hi:i<1000)(ht:g.task h<0) :
  Calls Tryz.prog 158 #[.pointer (some ⟨G,0,none⟩),.agg #[.int .i64 a,.int .i64 h,.int .i64 i,.int .i64 o]] w fun e w'=>e=.returned (.agg #[.int .i64 a,.int .i64 h,.int .i64 i,.int .i64 o])∧∃own',Pg B G room hands ts { g with task:=updG g.task h (i:Int) } wk own' Q w'∧Ok own own' (fun c=>c=3) w w':=by
 obtain⟨W,hW⟩:∃W,W=(w.alloc (.cells #[.int .i64 a,.int .i64 h,.int .i64 i,.int .i64 o] 91)).alloc (.cells #[.int .i64 0,.int .i64 0,.int .i64 0,.int .i64 0] 91):=⟨_,rfl⟩
 have hbW:Below w.heap.size w W:=by rw[hW];exact((qq4 _ _).alloc (qq1 _) _).alloc (by simp) _
 have hPW:=hP.later8 (Kc.of_below hbW)
 have c4:=hPW.c.2.2.2.2.1
 obtain⟨n,D,hown,hn,hs,hD⟩:=hPW.has.le
 have hownD:W.drew.ownsMap Tryz.prog 3 (plainElem (H:=Unit) Tryz.prog 3) Q.Mb n D:=hown.drew
 have hkey:=qO (y:=h) (by omega)
 obtain⟨w2,hmu,hown2,hgr2⟩:=hownD.update keyed3 Tryz.underlying118 (by unfold maxLen;omega) hkey (plainElem_int Tryz.underlying3 (zim hi))
 have hh2:=YD.put hown hs hD hh ht hown2
 have hk2:Kc (relabel own w.heap.size 8) (fun c=>c=3) W w2:=⟨hgr2.os,hgr2.tape,hgr2.output,hgr2.size,fun k hk hC=>hgr2.block k hk (fun e=>hC (by rw[Option.some.inj e];exact hPW.lM))⟩
 have HP2:Hid (Pg B G room hands ts { g with task:=updG g.task h (i:Int) } wk _ Q w2):=hPW.setHas _ hh2 hk2
 have hMb:=hP.has.lt
 have hWs:w.heap.size+2=W.heap.size:=by rw[hW];simp
 have hx:∀j u,[Value.int .i64 a,.int .i64 h,.int .i64 i,.int .i64 o][j]?=some u→W.cell? ⟨w.heap.size,j,none⟩=some u:=fun j u hu=>by
  have h1:=xr w w.heap.size rfl (.int .i64 a) (.int .i64 h) (.int .i64 i) (.int .i64 o) 91 j u hu
  rw[Addr.add_lit,Nat.zero_add]at h1
  rw[hW]
  exact(qq9 (a:=⟨w.heap.size,j,none⟩) (qa _ _ _ (by simp))).trans h1
 have hbk:w2.heap[w.heap.size]?=W.heap[w.heap.size]?:=hgr2.block w.heap.size (by show w.heap.size<W.heap.size;rw[hW];simp;omega) (fun e=>by have:=Option.some.inj e;omega)
 have d1:=hx 1 _ rfl
 have d2:=hx 2 _ rfl
 have e0:=(qq9 (a:=⟨w.heap.size,0,none⟩) hbk).trans (hx 0 _ rfl)
 have e1:=(qq9 (a:=⟨w.heap.size,1,none⟩) hbk).trans (hx 1 _ rfl)
 have e2:=(qq9 (a:=⟨w.heap.size,2,none⟩) hbk).trans (hx 2 _ rfl)
 have e3:=(qq9 (a:=⟨w.heap.size,3,none⟩) hbk).trans (hx 3 _ rfl)
 have hrs:w2.heap[w.heap.size+1]?=some (.cells #[.int .i64 0,.int .i64 0,.int .i64 0,.int .i64 0] 91):=by
  refine(hgr2.block (w.heap.size+1) (by show w.heap.size+1<W.heap.size;rw[hW];simp) (fun e=>by have:=Option.some.inj e;omega)).trans ?_
  show W.heap[w.heap.size+1]?=_
  rw[hW]
  have:=heap_alloc_new (w.alloc (.cells #[.int .i64 a,.int .i64 h,.int .i64 i,.int .i64 o] 91)) (.cells #[.int .i64 0,.int .i64 0,.int .i64 0,.int .i64 0] 91)
  simpa using this
 have f0:w2.cell? ⟨w.heap.size+1,0,none⟩=some (.int .i64 0):=by simp[World.cell?,hrs]
 have f1:w2.cell? ⟨w.heap.size+1,1,none⟩=some (.int .i64 0):=by simp[World.cell?,hrs]
 have f2:w2.cell? ⟨w.heap.size+1,2,none⟩=some (.int .i64 0):=by simp[World.cell?,hrs]
 have f3:w2.cell? ⟨w.heap.size+1,3,none⟩=some (.int .i64 0):=by simp[World.cell?,hrs]
 have ff:∀j,w2.frozen? ⟨w.heap.size+1,j,none⟩=false:=fun j=>by simp[World.frozen?,hrs]
 have HOK:Hid (Ok own (relabel (relabel own w.heap.size 8) W.heap.size 3) (fun c=>c=3) w w2):=(Ok.re (Kc.of_below hbW) 8).trans (Ok.re hk2 3)
 have HW:Hid (W=(w.alloc (.cells #[.int .i64 a,.int .i64 h,.int .i64 i,.int .i64 o] 91)).alloc (.cells #[.int .i64 0,.int .i64 0,.int .i64 0,.int .i64 0] 91)):=hW
 clear hP hPW hown hD hs hownD hh2 hx hbk hW hown2 hgr2 hk2 hbW
 go_enter Tryz.func158,Tryz.ntmps158
 go_upto_region 1 with fail
 rw[←HW.out]
 clear HW
 have hl8:relabel (relabel own w.heap.size 8) W.heap.size 3 (w.heap.size+1)=8:=by rw[za (by rw[←hWs];omega),zj (by omega)]
 go_region
 all_goals
  go_wp2
  refine xF Tryz.results158 (yQ hrs _ _ _ _) rfl rfl ⟨rfl,_,HP2.out.later8 (Kc.gsetP (C:=fun c=>c=8) hl8 _ _ _ _),⟨⟨HOK.out.kc.os,HOK.out.kc.tape,HOK.out.kc.output,by simpa[YtlfbdjeojgbniaaGreatDoor.gsetP]using HOK.out.kc.size,fun k hk hC=>(Kc.gsetP (own:=fun b=>b) (C:=fun b=>b=w.heap.size+1) (w:=w2) (b:=w.heap.size+1) rfl _ _ _ _).block k (qq3 hk HOK.out.kc.size) (by show k≠w.heap.size+1;omega) |>.trans (HOK.out.kc.block k hk hC)⟩,fun k hk=>(za (qq3 hk HOK.out.kc.size)).trans (HOK.out.lab k hk)⟩⟩
end
section
open Go.RowKit Go.Deep
theorem Hnd.RowZ.rds{C:Nat}{w:World}{v:Value}{zs:List Int}(h:Hnd.RowZ C w v zs):Rds (fun b=>C≤b) w v zs:=by
 obtain⟨b,c,rfl,hcap,hb,hl,hc⟩:=h
 exact⟨_,c,rfl,hcap,fun k hk=>⟨b,0,rfl,hb,hl,by rw[Nat.zero_add];exact hc k hk⟩⟩
theorem Hnd.OutZ.rds{C:Nat}{w:World}{v:Value}{zs:List Int}(h:Hnd.OutZ C w v zs):Rds (fun b=>C≤b) w v zs:=by
 rcases h with⟨rfl,rfl⟩|h
 ·exact⟨none,0,rfl,by simp,fun k hk=>by simp at hk⟩
 ·exact h.rds
theorem Rds.kc{own:Nat→Nat}{C:Nat→Prop}{c c':Nat}{w w':World}{v:Value}{xs:List Int}(h:Rds (fun b=>own b=c) w v xs)(K:Kc own C w w')(hC:¬C c):Rds (fun b=>relabel own w.heap.size c' b=c) w' v xs:=by
 obtain⟨a,cc,hv,hl,h⟩:=h
 refine⟨a,cc,hv,hl,fun k hk=>?_⟩
 obtain⟨b,o,ha,hb,hw,hc⟩:=h k hk
 exact⟨b,o,ha,(za hw).trans hb,qq3 hw K.size,(qq9 (a:=⟨b,o+k,none⟩) (K.block b hw (by have h2:own b=c:=hb;rw[h2];exact hC))).trans hc⟩
theorem zaW{l:List Int}{k:Nat}(hk:k<l.length):l.take (k+1)=l.take k++[l.getD k 0]:=by
 rw[qq8 hk,qq6,qq7 hk];rfl
theorem jt{l:List Int}{k:Nat}(hk:k<l.length):l.getD k 0∈l:=by
 rw[qq6,qq7 hk];exact List.getElem_mem hk
variable {B:Bs} {G room hands:Nat} {ts:Zl} {g:Gs} {wk:Nat→Int} {own:Nat→Nat} {Q:Qp} {w w':World}
theorem Pg.drawn(h:Pg B G room hands ts g wk own Q w)(q:Nat):Pg B G room hands ts g wk (relabel own w.heap.size 9) Q (w.drewN q):=h.later0 (Kc.of_below ⟨rfl,rfl,rfl,qq1 _,fun _ _=>rfl⟩)
theorem Pg.put(h:Pg B G room hands ts g wk own Q w){j:Nat}(hj:j<hands)(n:Nat) :
  Calls Tryz.prog 184 #[.pointer (some ⟨Q.Hk j,0,none⟩),.int .i64 n] w fun e w'=>(∃ov,e=.returned ov∧Rds (fun k=>w.heap.size≤k) w' ov (putO room (g.near j) (g.ring j)))∧Pg B G room hands ts { g with near:=updG g.near j (n:Int),ring:=updG g.ring j (putR room (g.near j) (g.ring j)) } wk (relabel own w.heap.size (10+j)) Q w'∧Kc own (fun c=>c=10+j) w w':=by
 refine(Hnd.zjj _ _ room _ _ n w (h.hand j hj)).mono ?_
 rintro e w' ⟨⟨v,rfl,hv⟩,hd,hk⟩
 exact⟨⟨v,rfl,hv.rds⟩,h.setHand j (n:Int) _ hd (h.kh hj hk),h.kh hj hk⟩
theorem Pg.robbed(h:Pg B G room hands ts g wk own Q w){j:Nat}(hj:j<hands) :
  Calls Tryz.prog 188 #[.pointer (some ⟨Q.Hk j,0,none⟩)] w fun e w'=>(∃ov,e=.returned ov∧Rds (fun k=>w.heap.size≤k) w' ov ((g.ring j).take (((g.ring j).length+1) / 2)))∧Pg B G room hands ts { g with ring:=updG g.ring j ((g.ring j).drop (((g.ring j).length+1) / 2)) } wk (relabel own w.heap.size (10+j)) Q w'∧Kc own (fun c=>c=10+j) w w':=by
 refine(Hnd.zjk _ _ room _ _ w (h.hand j hj)).mono ?_
 rintro e w' ⟨⟨v,rfl,hv⟩,hd,hk⟩
 have:=h.setHand j (g.near j) _ hd (h.kh hj hk)
 rw[xC g.near j]at this
 exact⟨⟨v,rfl,hv.rds⟩,this,h.kh hj hk⟩
theorem zh0(G h:Nat)(w:World):Calls Tryz.prog 160 #[.pointer (some ⟨G,0,none⟩),.int .i64 h,.int .i64 h] w fun e w'=>e=.returned (.slice none 0 0)∧w'=w:=by
 go_enter Tryz.func160,Tryz.ntmps160
 go_wp2
 go_ret
 exact⟨rfl,rfl⟩
set_option maxRecDepth 100000 in
set_option maxHeartbeats 4000000 in
theorem zca(hP:Pg B G room hands ts g wk own Q w)(h o:Nat)(hh:h<hands)(ho:o<hands)(hne:o≠h)(_h6:hands≤6)(h16:(g.ring o).length≤16)(hpos:∀x,x∈g.ring o→0≤x) :
  Calls Tryz.prog 160 #[.pointer (some ⟨G,0,none⟩),.int .i64 h,.int .i64 o] w fun e w'=>∃v,e=.returned v∧∃own',Rds (fun b=>own' b=10+o) w' v ((g.ring o).take (((g.ring o).length+1) / 2))∧Pg B G room hands ts (puts room { g with ring:=updG g.ring o ((g.ring o).drop (((g.ring o).length+1) / 2)) } h ((g.ring o).take (((g.ring o).length+1) / 2)).tail) wk own' Q w'∧Ok own own' (fun c=>c=10+h∨c=10+o) w w':=by
 have hrob:=hP.robbed ho
 obtain⟨-,-,-,c3,-,-⟩:=hP.c
 have co:=hP.hc ho
 have hne2:((o:Int)==(h:Int))=false:=by simp;omega
 obtain⟨l,hl⟩:∃l,l=(g.ring o).take (((g.ring o).length+1) / 2):=⟨_,rfl⟩
 have hlp:∀x,x∈l→0≤x:=fun x hx=>hpos x (List.mem_of_mem_take (hl▸hx))
 have hl16:l.length≤16:=by rw[hl];simp;omega
 obtain⟨g1,hg1⟩:∃g1:Gs,g1={ g with ring:=updG g.ring o ((g.ring o).drop (((g.ring o).length+1) / 2)) }:=⟨_,rfl⟩
 rw[←hl,←hg1]at hrob ⊢
 have HLP:Hid (∀x,x∈l→0≤x):=hlp
 have HNE:Hid (o≠h):=hne
 clear hP hl hg1 hpos h16 hlp hne
 have hhi:(h:Int)<(hands:Int):=by omega
 have hoi:(o:Int)<(hands:Int):=by omega
 go_enter Tryz.func160,Tryz.ntmps160
 go_wp2_with (first|(go_at_call 188;refine hrob.mono ?_;clear hrob;rintro e w1 ⟨⟨v,rfl,hv⟩,hP1,hk1⟩;obtain⟨a,c,rfl⟩:=hv.shape))
 have HV:Hid (Rds (fun b=>relabel own w.heap.size (10+o) b=10+o) w1 (.slice a l.length c) l):=hv.mono (fun b hb=>zj hb)
 have HP1:Hid (Pg B G room hands ts (puts room g1 h ((l.drop 1).take 0)) wk (relabel own w.heap.size (10+o)) Q w1):=by rw[List.take_zero,za9];exact hP1
 have HO1:Hid (Ok own (relabel own w.heap.size (10+o)) (fun c=>c=10+h∨c=10+o) w w1):=(Ok.re hk1 _).mono (fun c e=>Or.inr e)
 clear hv hP1 c3 co hk1
 go_loopw [8] (fun s8 wr=>∃(k:Nat) (own':Nat→Nat),s8=.int .i64 (k+1:Nat)∧(k+1≤l.length∨k=0)∧Hid (Rds (fun b=>own' b=10+o) wr (.slice a l.length c) l)∧Hid (Pg B G room hands ts (puts room g1 h ((l.drop 1).take k)) wk own' Q wr)∧Hid (Ok own own' (fun c=>c=10+h∨c=10+o) w wr)) (fun s8 _=>20-(intOf s8).toNat)
 case atStart=>exact⟨0,_,rfl,Or.inr rfl,HV,HP1,HO1⟩
 case round=>
  clear HV HP1 HO1
  obtain⟨k,own',rfl,hk,hV,hPk,hO⟩:=hrel
  by_cases hkl:k+1<l.length
  ·obtain⟨b,ob,rfl,hbo,hbl,hcx⟩:∃b ob,a=some ⟨b,ob,none⟩∧own' b=10+o∧b<wr.heap.size∧wr.cell? ⟨b,ob+(k+1),none⟩=some (.int .i64 (l.getD (k+1) 0)):=by
    obtain⟨a',c',hv,hlc,hcl⟩:=hV.out
    simp only[Value.slice.injEq,true_and]at hv
    obtain⟨rfl,rfl⟩:=hv
    exact hcl (k+1) hkl
   obtain⟨j,hj⟩:∃j:Nat,l.getD (k+1) 0=(j:Int):=⟨(l.getD (k+1) 0).toNat,(Int.toNat_of_nonneg (HLP.out _ (jt hkl))).symm⟩
   rw[hj]at hcx
   have HSN:Hid ((l.drop 1).take (k+1)=(l.drop 1).take k++[((j:Nat):Int)]):=by
    show _=_
    rw[zaW (by simp;omega),←hj]
    simp[List.getD_eq_getElem?_getD]
   have hput:=(hPk.out.drawn 1).put hh j
   have d3:=hPk.out.c.2.2.2.1
   have dh:=hPk.out.hc hh
   have hkl':((k+1:Nat):Int)<(l.length:Int):=by omega
   have hlc:l.length≤c:=by obtain⟨a',c',hv,hlc,-⟩:=hV.out;simp only[Value.slice.injEq,true_and]at hv;obtain⟨-,rfl⟩:=hv;exact hlc
   clear hj hk
   obtain⟨k1,hk1⟩:∃k1,k1=k+1:=⟨_,rfl⟩
   have HK1:Hid (k1=k+1):=hk1
   rw[←hk1]at hcx hkl hkl' HSN ⊢
   obtain⟨gk,hgk⟩:∃gk,gk=puts room g1 h ((l.drop 1).take k):=⟨_,rfl⟩
   have HGK:Hid ({ gk with near:=updG gk.near h (j:Int),ring:=updG gk.ring h (putR room (gk.near h) (gk.ring h)) }=puts room g1 h ((l.drop 1).take k1)):=by
    show _=_
    rw[HSN.out,zb5,hgk]
   rw[←hgk]at hput
   have hl9:=hV.out.kc (c':=9) (Kc.of_below (C:=fun c=>c=10+h) (own:=own') (w:=wr) (w':=wr.drewN 1) ⟨rfl,rfl,rfl,qq1 _,fun _ _=>rfl⟩) (by have:=HNE.out;omega)
   have HV9:Hid (Rds (fun b=>relabel own' wr.heap.size 9 b=10+o) (wr.drewN 1) (.slice (some ⟨b,ob,none⟩) l.length c) l):=hl9
   clear hl9 hk1 hgk HSN hPk hV
   go_upto_region 7 with fail
   go_region_with (first|(go_at_call 184;refine hput.mono ?_;clear hput;rintro e w9 ⟨⟨ov,rfl,-⟩,hP9,hk9⟩;rw[HGK.out]at hP9;have HP9:Hid (Pg B G room hands ts (puts room g1 h ((l.drop 1).take k1)) wk (relabel (relabel own' wr.heap.size 9) (wr.drewN 1).heap.size (10+h)) Q w9):=hP9;have HR9:Hid (Rds (fun b=>relabel (relabel own' wr.heap.size 9) (wr.drewN 1).heap.size (10+h) b=10+o) w9 (.slice (some ⟨b,ob,none⟩) l.length c) l):=HV9.out.kc hk9 (by have:=HNE.out;omega);have HO9:Hid (Ok own (relabel (relabel own' wr.heap.size 9) (wr.drewN 1).heap.size (10+h)) (fun c=>c=10+h∨c=10+o) w w9):=(hO.out.trans (Ok.drewN 1)).trans ((Ok.re hk9 _).mono (fun c e=>Or.inl e));clear hP9 hk9))
   all_goals
    go_wp2
    go_roundw
    case rel=>exact⟨k1,_,by have:=HK1.out;go_num,Or.inl (by omega),HR9,HP9,HO9⟩
    case measure=>simp[intOf];omega
  ·have hkl':¬((k+1:Nat):Int)<(l.length:Int):=by omega
   have HE:Hid (Pg B G room hands ts (puts room g1 h l.tail) wk own' Q wr):=by
    have:=hPk.out
    rw[List.take_of_length_le (by simp;omega),List.drop_one]at this
    exact this
   go_wp2
   go_ret
   exact⟨_,rfl,own',hV.out,HE.out,hO.out⟩
end
end Go.Proofs.YtlfbdjeojgbniaaGreatDoor

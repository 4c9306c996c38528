import Derived.Test.YtlfbdjeojgbniaaGreatDoorRan47
namespace Go.Proofs.YtlfbdjeojgbniaaGreatDoor
section
open Go.RowKit Go.Deep
theorem zdu{d d':Desk}{l o:List UInt8}(hok:d.Ok)(h:Zz d l d' o):o.length≤20000:=by
 unfold Zz at h
 split at h
 ·rw[h.2];exact jz hok.pl
 split at h
 ·have h2:=h.2
  unfold YP at h2
  cases hg:d.gang with
  | none=>rw[hg]at h2;rw[h2];exact yc _
  | some x=>
   obtain⟨t,n,g⟩:=x
   rw[hg]at h2
   rw[h2]
   have h3:=ye g.S t.length
   have h4:=(hok.gg t n g hg).1.good.le
   have:=y3 (unseen g.S t.length) (by omega)
   omega
 split at h
 ·rw[h.2];decide
 unfold Xe at h
 split at h
 ·rcases h with⟨q,-,-,-,rfl⟩|⟨t,hw,-,rfl⟩
  ·exact yc _
  ·have hf:=qd t hw.facts.2
   have hcn:=hw.facts.1
   obtain⟨tw,htw⟩:=qc (show 0≤t.work V1 by omega)
   obtain⟨tp,htp⟩:=qc hf.1
   rw[htw,htp]
   exact qq2 (jN tw tp (by omega) (by omega)) (by omega)
 split at h
 ·rcases h with⟨-,-,rfl⟩|⟨ts,p,q,-,-,⟨-,-,rfl⟩|⟨-,-,rfl⟩⟩
  ·exact yc _
  ·exact yc _
  ·decide
 split at h
 ·rw[h.2];decide
 unfold ZV at h
 split at h
 ·rcases h with⟨-,⟨-,rfl⟩|⟨hn,s,ord,hs,ho,rfl⟩⟩
  ·exact yc _
  ·have hs6:=hs.le hok.pl.works.1 hn.1
   obtain⟨b,ord',hb4,ho',hbe,-⟩:=jS hok.pl hn (Or.inr ⟨hok.pl,by omega,by omega,ord,ho,rfl⟩)
   rw[Z9.det ho' ho hok.pl]at hbe
   rw[←hbe]
   exact qq2 (jN s b (by omega) hb4) (by omega)
 split at h
 ·unfold Yi at h
  split at h
  ·rw[h.2];decide
  ·rw[h.2];exact yc _
 split at h
 ·unfold Z5 at h
  cases hg:d.gang with
  | none=>rw[hg]at h;rw[h.2];exact yc _
  | some x=>
   obtain⟨t,n,g⟩:=x
   rw[hg]at h
   dsimp only at h
   split at h
   ·rw[h.2];exact yc _
   ·rename_i hmn
    obtain⟨hct,hn1,hn6,hI⟩:=hok.gg t n g hg
    rw[h.2]
    exact jF (qq hI hct.good hn6 (by omega) _) (jU hct.good n g _ _)
 ·rw[h.2];decide
variable {W0:World} {Q:Nat} {d:Desk} {w:World}
theorem zb0(h:ZH W0 Q d w)(l:List UInt8)(hl:l.length≤1048576):Calls Tryz.prog 8 #[.pointer (some ⟨Q,0,none⟩),.string ⟨l.toArray⟩] w (XJ W0 Q d l):=by
 by_cases e1:l=YU
 ·exact lineShow h l hl e1
 by_cases e2:l=YT
 ·exact lineLeft h l hl e2
 cases hm:(cutB 32 l).2.2 with
 | false=>exact lineNone h l hl e1 e2 hm
 | true=>
  by_cases e3:(cutB 32 l).1=YC
  ·exact lineWeave h l hl hm e3
  by_cases e4:(cutB 32 l).1=Y0
  ·exact linePlan h l hl hm e4
  exact lineNums h l hl hm e3 e4
theorem zbh{d d1 d2:Desk}{ls:List (List UInt8)}{l o out:List UInt8}(h:Yw d ls d1 out)(h1:Zz d1 l d2 o):Yw d (ls++[l]) d2 (out++(o++[10])):=
 h.both ⟨d2,o,[],h1,⟨rfl,rfl⟩,rfl⟩
theorem ZH.start(w:World):ZH w w.heap.size Desk.new (w.alloc (.cells #[.slice none 0 0,.bool false,.pointer none] 30)):=
 ⟨rfl,(qq4 _ _).alloc (qq1 _) _,⟨_,_,_,blk_alloc_new _ _,fun _=>False,fun k=>k≤w.heap.size,fun _ hk=>hk,fun k hk=>by simp;omega,fun _ hk=>hk.elim,Y6.nil _ _,rfl,rfl⟩,Desk.Ok.new⟩
theorem zeS{t:List UInt8}{n:Nat}(hn:(Zd 10 t).length=n+1):((Zd 10 t).getD n []=[]→Xk t=(Zd 10 t).take n)∧((Zd 10 t).getD n []≠[]→Xk t=Zd 10 t):=by
 have hl:(Zd 10 t).getLast?=some ((Zd 10 t).getD n []):=by
  rw[List.getLast?_eq_getElem?,hn,Nat.add_sub_cancel,qq6,qq7 (by omega)]
  rfl
 unfold Xk
 rw[hl]
 refine⟨fun e=>?_,fun e=>?_⟩
 ·rw[e,if_pos rfl,List.dropLast_eq_take,hn,Nat.add_sub_cancel]
 ·rw[if_neg (fun e2=>e (Option.some.inj e2))]
theorem zhm(l:List UInt8)(c:UInt8)(w:World)(hs:l.length≤1048576) :
  Calls Tryz.prog 7 #[.string ⟨l.toArray⟩,.int .u8 (c.toNat:Int)] w fun e w'=>(∃g cap,e=.returned (.slice (some ⟨g,0,none⟩) (Zd c l).length cap)∧(Zd c l).length≤cap∧g<w'.heap.size∧∀k,k<(Zd c l).length→w'.cell? ⟨g,k,none⟩=some (.string ⟨((Zd c l).getD k []).toArray⟩))∧Below w.heap.size w w':=by
 refine(zc1 l c w (qq2 hs (by decide))).mono ?_
 rintro e w' ⟨⟨ov,rfl,ho⟩,hb⟩
 refine⟨?_,hb⟩
 obtain⟨g,cap,rfl,hlt,hc⟩:=jI ho (zy c l)
 refine⟨g,cap,rfl,?_,hlt,hc⟩
 rcases ho.2 with⟨e1,_⟩|⟨g2,cap2,cur,e1,_,_,e2,_⟩
 ·cases e1
 ·cases e1;exact e2
set_option maxRecDepth 100000 in
set_option maxHeartbeats 4000000 in
theorem zbg(w:World)(hrun:RunC w)(t:List UInt8)(ht:t.length≤140737488351232) :
  Calls Tryz.prog 3 #[.string ⟨t.toArray⟩] w fun e w'=>e=.returned (.bool true)∧Below w.heap.size w w':=by
 have h1:=hrun t w (qq4 _ _) ht
 clear hrun
 by_cases hlong:3000<t.length
 ·have hlI:(3000:Int)<(t.length:Int):=by omega
  go_enter Tryz.func3,Tryz.ntmps3
  go_wp2_with fail
  refine h1.mono ?_
  clear h1
  rintro e w1 ⟨⟨o,rfl,hs,-⟩,hb1⟩
  unfold ZS at hs
  rw[if_pos hlong]at hs
  subst hs
  unfold XN
  go_wp2
  go_ret
  exact⟨rfl,hb1⟩
 ·have hlI:¬(3000:Int)<(t.length:Int):=by omega
  have HSE:Hid (∀o d,Yw Desk.new (Xk t) d o→ZS t o):=fun o d hr=>by unfold ZS;rw[if_neg hlong];exact⟨d,hr⟩
  have hct:=fun wx=>zhm t 10 wx (by omega)
  obtain⟨n,hn⟩:∃n,(Zd 10 t).length=n+1:=⟨(Zd 10 t).length-1,by have:=List.length_pos_iff.2 (zy 10 t);omega⟩
  have hLL:=zeS hn
  have HSH:Hid (∀p,p∈Zd 10 t→p.length≤3000):=fun p hp=>qq2 (yT 10 _ p hp) (by omega)
  have hnl:=z7 10 t
  have hn3:n≤3000:=by omega
  have hw1:IntKind.i64.wrap ((((n+1:Nat)):Int)-1)=(n:Int):=by rw[IntKind.wrap_i64];omega
  have hw2:IntKind.i64.wrap ((n:Int)+1-1)=(n:Int):=by rw[IntKind.wrap_i64];omega
  clear hnl
  go_enter Tryz.func3,Tryz.ntmps3
  go_wp2_with fail
  refine h1.mono ?_
  clear h1
  rintro e w1 ⟨⟨o,rfl,hs,-⟩,hb1⟩
  have HO:Hid (ZS t o):=hs
  have hct1:=hct w1
  clear hct hs hlong
  go_wp2_with fail
  refine hct1.mono ?_
  clear hct1
  rintro e w2 ⟨⟨g,gc,rfl,hgc,hg,hcs⟩,hb2⟩
  have HB2:Hid (Below w.heap.size w w2):=hb1.trans (hb2.mono hb1.size)
  clear hb1 hb2
  obtain⟨P,hP⟩:∃P,P=Zd 10 t:=⟨_,rfl⟩
  rw[←hP]at hn hLL HSH hcs hgc ⊢
  have hcn:=hcs n (by omega)
  by_cases he:P.getD n []=[]
  ·rw[hn]at hgc ⊢
   obtain⟨L,hL⟩:∃L,L=P.take n:=⟨_,rfl⟩
   rw[he]at hcn
   have hnil:((⟨([]:List UInt8).toArray⟩:ByteArray).toList==[])=true:=by rw[eqS];decide
   have hgI:(n:Int)≤(gc:Int):=by omega
   have hgat:∀k,k<n→L.getD k []=P.getD k []:=fun k hk=>by
    rw[hL,qq6,List.getElem?_take_of_lt hk,←qq6]
   have HL:Hid (L=Xk t):=hL.trans (hLL.1 he).symm
   have HCS:Hid (∀k,k<L.length→w2.cell? ⟨g,k,none⟩=some (.string ⟨(L.getD k []).toArray⟩)):=fun k hk=>by rw[hgat k (by rw[hL,List.length_take]at hk;omega)];exact hcs k (by rw[hL,List.length_take]at hk;omega)
   have HSL:Hid (∀p,p∈L→p.length≤3000):=fun p hp=>HSH.out p (by rw[hL]at hp;exact List.mem_of_mem_take hp)
   have hLn:L.length=n:=by rw[hL,List.length_take,hn];omega
   clear hcs hLL HSH he hL hgat hgc
   go_upto_region 7 with fail
   rw[←hLn]
   have hL3:L.length≤3001:=by omega
   clear hLn hn3 hw1 hw2
   have HST:Hid (ZH w2 w2.heap.size Desk.new (w2.alloc (.cells #[.slice none 0 0,.bool false,.pointer none] 30))):=ZH.start w2
   go_wp2
   go_loopw [6,7] (fun s6 s7 wr=>∃(i:Nat) (d:Desk) (pre:List UInt8),i≤L.length∧s7=.int .i64 i∧s6=.string ⟨pre.toArray⟩∧Hid (Yw Desk.new (L.take i) d pre)∧pre.length≤20001*i∧Hid (ZH w2 w2.heap.size d wr)) (fun _ s7 _=>L.length-(intOf s7).toNat)
   case atStart=>exact⟨0,Desk.new,[],Nat.zero_le _,rfl,rfl,⟨rfl,rfl⟩,by simp,HST.out⟩
   case round=>
    obtain⟨i,d,pre,hi,rfl,rfl,hrun,hpl,hd⟩:=hrel
    by_cases hil:i<L.length
    ·have hcy:wr.cell? ⟨g,i,none⟩=some (.string ⟨(L.getD i []).toArray⟩):=(hd.out.bel.cell (p:=⟨g,i,none⟩) hg).trans (HCS.out i hil)
     have hym:L.getD i []∈L:=by rw[qq6,qq7 hil];exact List.getElem_mem hil
     have hye:L.getD i []=L[i]:=by rw[qq6,qq7 hil];rfl
     have hyl:=HSL.out _ hym
     have HTK:Hid (L.take (i+1)=L.take i++[L.getD i []]):=by show _=_;rw[qq8 hil,←hye]
     clear hym hye
     generalize L.getD i []=y at *
     have hln:=zb0 hd.out y (by omega)
     have hok:=hd.out.ok
     have HOK:Hid d.Ok:=hok
     clear hd hok hyl
     go_wp2_with fail
     refine hln.mono ?_
     clear hln hcy
     rintro e w5 ⟨d2,o2,rfl,hline,hd2⟩
     have ho2:=zdu HOK.out hline
     have HR2:Hid (Yw Desk.new (L.take (i+1)) d2 (pre++(o2++[10]))):=by show Yw _ _ _ _;rw[HTK.out];exact zbh hrun.out hline
     have HD2:Hid (ZH w2 w2.heap.size d2 w5):=hd2
     clear hline hd2 hrun
     go_wp2
     go_roundw
     case rel=>
      refine⟨i+1,d2,pre++(o2++[10]),by omega,by go_num,?_,HR2,by simp;omega,HD2⟩
      rw[←List.append_assoc,←zZ,←zZ]
     case measure=>simp[intOf];omega
    ·have hie:i=L.length:=by omega
     subst hie
     have hrn:=hrun.out
     rw[List.take_length,HL.out]at hrn
     have hpo:pre=o:=ZS.det (HSE.out _ _ hrn) HO.out
     subst hpo
     have HQ:Hid (((⟨pre.toArray⟩:ByteArray).toList==pre)=true):=by
      show _=_
      rw[ByteArray.toList_eq];simp
     have HBE:Hid (Below w.heap.size w wr):=HB2.out.trans (hd.out.bel.mono HB2.out.size)
     clear hrun hrn hd
     go_wp2
     try rw[HQ.out]
     go_ret
     exact⟨rfl,HBE.out⟩
  ·rw[hn]at hgc ⊢
   obtain⟨L,hL⟩:∃L,L=P:=⟨_,rfl⟩
   have hnil:((⟨(P.getD n []).toArray⟩:ByteArray).toList==[])=false:=by rw[eqS];exact decide_eq_false he
   have HL:Hid (L=Xk t):=hL.trans (hLL.2 he).symm
   have HCS:Hid (∀k,k<L.length→w2.cell? ⟨g,k,none⟩=some (.string ⟨(L.getD k []).toArray⟩)):=fun k hk=>by rw[hL]at hk ⊢;exact hcs k hk
   have HSL:Hid (∀p,p∈L→p.length≤3000):=fun p hp=>HSH.out p (by rw[hL]at hp;exact hp)
   have hLn:L.length=n+1:=by rw[hL,hn]
   clear hcs hLL HSH he hL hgc
   generalize (⟨(P.getD n []).toArray⟩:ByteArray)=LP at *
   go_upto_region 7 with fail
   rw[←hLn]
   have hL3:L.length≤3001:=by omega
   clear hLn hn3 hw1 hw2
   have HST:Hid (ZH w2 w2.heap.size Desk.new (w2.alloc (.cells #[.slice none 0 0,.bool false,.pointer none] 30))):=ZH.start w2
   go_wp2
   go_loopw [6,7] (fun s6 s7 wr=>∃(i:Nat) (d:Desk) (pre:List UInt8),i≤L.length∧s7=.int .i64 i∧s6=.string ⟨pre.toArray⟩∧Hid (Yw Desk.new (L.take i) d pre)∧pre.length≤20001*i∧Hid (ZH w2 w2.heap.size d wr)) (fun _ s7 _=>L.length-(intOf s7).toNat)
   case atStart=>exact⟨0,Desk.new,[],Nat.zero_le _,rfl,rfl,⟨rfl,rfl⟩,by simp,HST.out⟩
   case round=>
    obtain⟨i,d,pre,hi,rfl,rfl,hrun,hpl,hd⟩:=hrel
    by_cases hil:i<L.length
    ·have hcy:wr.cell? ⟨g,i,none⟩=some (.string ⟨(L.getD i []).toArray⟩):=(hd.out.bel.cell (p:=⟨g,i,none⟩) hg).trans (HCS.out i hil)
     have hym:L.getD i []∈L:=by rw[qq6,qq7 hil];exact List.getElem_mem hil
     have hye:L.getD i []=L[i]:=by rw[qq6,qq7 hil];rfl
     have hyl:=HSL.out _ hym
     have HTK:Hid (L.take (i+1)=L.take i++[L.getD i []]):=by show _=_;rw[qq8 hil,←hye]
     clear hym hye
     generalize L.getD i []=y at *
     have hln:=zb0 hd.out y (by omega)
     have hok:=hd.out.ok
     have HOK:Hid d.Ok:=hok
     clear hd hok hyl
     go_wp2_with fail
     refine hln.mono ?_
     clear hln hcy
     rintro e w5 ⟨d2,o2,rfl,hline,hd2⟩
     have ho2:=zdu HOK.out hline
     have HR2:Hid (Yw Desk.new (L.take (i+1)) d2 (pre++(o2++[10]))):=by show Yw _ _ _ _;rw[HTK.out];exact zbh hrun.out hline
     have HD2:Hid (ZH w2 w2.heap.size d2 w5):=hd2
     clear hline hd2 hrun
     go_wp2
     go_roundw
     case rel=>
      refine⟨i+1,d2,pre++(o2++[10]),by omega,by go_num,?_,HR2,by simp;omega,HD2⟩
      rw[←List.append_assoc,←zZ,←zZ]
     case measure=>simp[intOf];omega
    ·have hie:i=L.length:=by omega
     subst hie
     have hrn:=hrun.out
     rw[List.take_length,HL.out]at hrn
     have hpo:pre=o:=ZS.det (HSE.out _ _ hrn) HO.out
     subst hpo
     have HQ:Hid (((⟨pre.toArray⟩:ByteArray).toList==pre)=true):=by
      show _=_
      rw[ByteArray.toList_eq];simp
     have HBE:Hid (Below w.heap.size w wr):=HB2.out.trans (hd.out.bel.mono HB2.out.size)
     clear hrun hrn hd
     go_wp2
     try rw[HQ.out]
     go_ret
     exact⟨rfl,HBE.out⟩
end
section
open Go.RowKit Go.Deep
theorem zbn{P:Program}(w:World)(base:Nat)(t u ty e:TypeId)(i:TypeInfo)(ht:P.underlying t=some (.slice e))(hu:P.underlying u=some .string)(hi:P.info? e=some i)(hz:i.zero=some (.int .u8 0))
  (hsize:i.size=1) (hby:i.bytes=1) (v:Value) (n:Nat) (xs:List Value) (hown:w.ownsRow base e 1 v n xs) (s:ByteArray)
  (h63:n+s.size≤maxLen) (hbytes:n+s.size≤140737488355328) (hbase:base≤w.heap.size) :
  ∃v' w',(Builtin.append_ #[t,u] ty #[v,.string s]).run P w=.ok v' w'∧w'.ownsRow base e 1 v' (n+s.size) (xs++Lib.strCells s)∧w.grownBy w' v.ownBlock∧(v'.ownBlock=v.ownBlock∨∀k,v'.ownBlock=some k→w.heap.size≤k):=by
 obtain⟨v',w',hr,h2,h3,-⟩:=Lib.run_append_own_string (P:=P) w base t u ty e i ht hu hi hz hsize hby v n xs hown s h63 hbytes hbase
 refine⟨v',w',hr,h2,h3,?_⟩
 have hxl:xs.length=n:=by simpa using hown.1
 rcases hown.2 with⟨rfl,rfl⟩|⟨g,cap,cur,rfl,hbg,hg,hnc,hcm,hcs,htake⟩
 ·obtain rfl:xs=[]:=List.eq_nil_of_length_eq_zero hxl
  obtain⟨v2,w2,hr2,g2,-,-⟩:=Lib.run_append_own_string (P:=P) w w.heap.size t u ty e i ht hu hi hz hsize hby (.slice none 0 0) 0 [] (World.ownsRow_nil _ _ _ _) s h63 hbytes (qq1 _)
  rw[hr]at hr2
  injection hr2 with e1 e2
  subst e1
  exact Or.inr (fun k hk=>(g2.lt k hk).1)
 ·by_cases hroom:n+s.size≤cap
  ·have hcs':cur.size=cap:=by simpa using hcs
   have hr2:=Lib.run_append_room_string (P:=P) w t u ty e i ht hu hi hsize g n cap cur hg s hroom (by omega)
   rw[hr]at hr2
   injection hr2 with e1 e2
   subst e1
   exact Or.inl rfl
  ·have holds:∀j u,xs[j]?=some u→w.cell? ((⟨g,0,none⟩:Addr).add j)=some u:=hown.cells (g:=g) rfl
   have hr2:=Lib.run_append_grow_string (P:=P) w t u ty e i (.int .u8 0) ht hu hi hz ⟨g,0,none⟩ n cap xs (by rw[hsize];simpa using hxl) holds s (by omega) (by unfold maxLen at h63;omega) (by rw[hby];exact growslice_fits (by omega) (by omega))
   rw[hr]at hr2
   injection hr2 with e1 e2
   subst e1
   exact Or.inr (fun k hk=>by simp only[Value.ownBlock,Option.some.injEq]at hk;omega)
theorem qG{P:Program}{w:World}{ops:Array Oper}{rest:List Oper}{o:Oper}{a:Act}{Q:Exit→Act→World→Prop}(hgd:o.guard=none)(sl x:Operand)(t u:TypeId)
  (ho:o.op=.call { callee:=.builtin .append,args:=#[sl,x],argTypes:=#[t,u] })
  (base:Nat) (e:TypeId) (i:TypeInfo) (ht:P.underlying t=some (.slice e)) (hu:P.underlying u=some .string) (hi:P.info? e=some i) (hz:i.zero=some (.int .u8 0))
  (hsize:i.size=1) (hby:i.bytes=1)
  (v:Value) (n:Nat) (xs:List Value) (hs:a.eval sl=v) (hown:w.ownsRow base e 1 v n xs) (s:ByteArray) (hx:a.eval x=.string s)
  (h63:n+s.size≤maxLen) (hbytes:n+s.size≤140737488355328) (hbase:base≤w.heap.size)
  (h:∀v' w',w'.ownsRow base e 1 v' (n+s.size) (xs++Lib.strCells s)→w.grownBy w' v.ownBlock→(v'.ownBlock=v.ownBlock∨∀k,v'.ownBlock=some k→w.heap.size≤k)→wpList P ops Q rest (a.put o.dst v') w'):wpList P ops Q (o::rest) a w:=by
 refine wpList_plain hgd fun K hK=>?_
 obtain⟨v',w',hr,h2,h3,h4⟩:=zbn (P:=P) w base t u o.type e i ht hu hi hz hsize hby v n xs hown s h63 hbytes hbase
 unfold Oper.wp execOp
 simp only[ho,resolve,invoke,builtin,Sem.run_bind,Sem.run_pure,Result.andThen_ok,List.map_toArray,List.map_cons,List.map_nil,hs,hx,hr]
 exact hK _ _ (h v' w' h2 h3 h4)
structure Bld (Z:Nat→Prop) (b:Nat) (acc:List UInt8) (w:World):Prop where
 low:∀k,Z k→b≤k
 zb:Z b
 mem:∃p v,(p=.pointer none∨p=.pointer (some ⟨b,0,none⟩))∧w.heap[b]?=some (.cells #[p,v] 56 (0,0))∧w.ownsRow b 5 1 v acc.length (Lib.byteCells acc)∧v.ownBlock≠some b∧∀k,v.ownBlock=some k→Z k
theorem Bld.lt{Z:Nat→Prop}{b:Nat}{acc:List UInt8}{w:World}(h:Bld Z b acc w):b<w.heap.size:=by
 obtain⟨p,v,-,h2,-⟩:=h.mem
 exact lt_of_block h2
theorem Bld.is{Z:Nat→Prop}{b:Nat}{acc:List UInt8}{w:World}(h:Bld Z b acc w):Zu b b w acc:=by
 obtain⟨p,v,h1,h2,h3,h4,-⟩:=h.mem
 have e:(Lib.byteCells acc).length=acc.length:=by simp[Lib.byteCells]
 rcases h1 with rfl|rfl
 ·exact Or.inl ⟨qq1 _,v,h2,by rw[e];exact h3,h4⟩
 ·exact Or.inr ⟨qq1 _,v,h2,by rw[e];exact h3,h4⟩
theorem Bld.kept{Z:Nat→Prop}{b:Nat}{acc:List UInt8}{w w':World}(h:Bld Z b acc w)(hk:∀k,Z k→k<w.heap.size→w'.heap[k]?=w.heap[k]?):Bld Z b acc w':=by
 have hlt:=h.lt
 obtain⟨p,v,h1,h2,h3,h4,h5⟩:=h.mem
 refine⟨h.low,h.zb,p,v,h1,(hk b h.zb hlt).trans h2,?_,h4,h5⟩
 refine⟨h3.1,?_⟩
 rcases h3.2 with h0|⟨g,cap,cur,hv,hb,hh,hr⟩
 ·exact Or.inl h0
 ·exact Or.inr ⟨g,cap,cur,hv,hb,(hk g (h5 g (by rw[hv];rfl)) (lt_of_block hh)).trans hh,hr⟩
def XP(Z:Nat→Prop)(n:Nat):Nat→Prop:=fun k=>Z k∨n≤k
theorem copyX{Z:Nat→Prop}{b:Nat}{acc:List UInt8}{w:World}(h:Bld Z b acc w) :
  Calls Tryz.prog 59 #[.pointer (some ⟨b,0,none⟩)] w fun e w'=>e=.returned (.tuple #[])∧(∃v,w'.heap[b]?=some (.cells #[.pointer (some ⟨b,0,none⟩),v] 56 (0,0))∧w'.ownsRow b 5 1 v acc.length (Lib.byteCells acc)∧v.ownBlock≠some b∧∀k,v.ownBlock=some k→Z k)∧Kx Z w w'∧w'.heap.size=w.heap.size:=by
 obtain⟨p,v,h1,h2,h3,h4,h5⟩:=h.mem
 rcases h1 with rfl|rfl
 ·have hi:=h.is
  have hb:Lib.BuilderAt 56 5 b b (.pointer none) (Lib.byteCells acc) w:=⟨qq1 _,v,h2,by rw[show(Lib.byteCells acc).length=acc.length by simp[Lib.byteCells]];exact h3,h4⟩
  refine(qj b w hb.cell0 hb.shape hb.frozen0).mono ?_
  rintro e w' ⟨rfl,rfl⟩
  refine⟨rfl,⟨v,?_,?_,h4,h5⟩,(Kx.refl Z w).set (Or.inl h.zb) 0 _,by simp⟩
  ·have:=yp w b 0 (.pointer (some ⟨b,0,none⟩)) _ _ h2
   exact this
  ·refine⟨h3.1,?_⟩
   rcases h3.2 with h0|⟨g,cap,cur,hv,hbg,hh,hr⟩
   ·exact Or.inl h0
   ·refine Or.inr ⟨g,cap,cur,hv,hbg,(qq5 _ _ _ _ (fun e=>h4 ?_)).trans hh,hr⟩
    rw[hv]
    show some g=some b
    rw[show g=b from e]
 ·have hb:Lib.BuilderAt 56 5 b b (.pointer (some ⟨b,0,none⟩)) (Lib.byteCells acc) w:=⟨qq1 _,v,h2,by rw[show(Lib.byteCells acc).length=acc.length by simp[Lib.byteCells]];exact h3,h4⟩
  refine(qp b w hb.cell0).mono ?_
  rintro e w' ⟨rfl,rfl⟩
  exact⟨rfl,⟨v,h2,h3,h4,h5⟩,Kx.refl Z _,rfl⟩
theorem Bld.wrote{Z:Nat→Prop}{b:Nat}{acc acc':List UInt8}{w w1 w2:World}{v v':Value}(h:Bld Z b acc w)(hs:w1.heap.size=w.heap.size)(hK:Kx Z w w1)
  (hbk:w2.heap[b]?=some (.cells #[.pointer (some ⟨b,0,none⟩),v] 56 (0,0))) (hv:∀k,v.ownBlock=some k→Z k) (hne:v.ownBlock≠some b)
  (hown:w2.ownsRow b 5 1 v' acc'.length (Lib.byteCells acc')) (hgr:∀k,k<w.heap.size→v.ownBlock≠some k→w2.heap[k]?=w1.heap[k]?) (hos:w2.os=w1.os∧w2.tape=w1.tape∧w2.output=w1.output∧w1.heap.size≤w2.heap.size)
  (hat:v'.ownBlock=v.ownBlock∨∀k,v'.ownBlock=some k→w.heap.size≤k):Bld (XP Z w.heap.size) b acc' (w2.setCell ⟨b,1,none⟩ v')∧Kx Z w (w2.setCell ⟨b,1,none⟩ v'):=by
 have hlt:=h.lt
 have hne':v'.ownBlock≠some b:=by
  rcases hat with e|e
  ·rw[e];exact hne
  ·intro hb;have:=e b hb;omega
 refine⟨⟨fun k hk=>?_,Or.inl h.zb,.pointer (some ⟨b,0,none⟩),v',Or.inr rfl,?_,?_,hne',fun k hk=>?_⟩,?_⟩
 ·rcases hk with hk|hk
  ·exact h.low k hk
  ·omega
 ·have:=yp w2 b 1 v' _ _ hbk
  exact this
 ·refine⟨hown.1,?_⟩
  rcases hown.2 with h0|⟨g,cap,cur,hv2,hbg,hh,hr⟩
  ·exact Or.inl h0
  ·refine Or.inr ⟨g,cap,cur,hv2,hbg,(qq5 _ _ _ _ (fun e=>hne' ?_)).trans hh,hr⟩
   rw[hv2]
   show some g=some b
   rw[show g=b from e]
 ·rcases hat with e|e
  ·exact Or.inl (hv k (e▸hk))
  ·exact Or.inr (e k hk)
 ·obtain⟨o1,o2,o3,o4⟩:=hos
  refine⟨o1.trans hK.os,o2.trans hK.tape,o3.trans hK.output,by simp;omega,fun k hk hz=>?_⟩
  refine(qq5 _ _ _ _ (fun e=>hz ?_)).trans ((hgr k hk (fun e=>hz (hv k e))).trans (hK.block k hk hz))
  rw[show k=b from e]
  exact h.zb
set_option maxHeartbeats 2000000 in
set_option maxRecDepth 100000 in
theorem writeStringX{Z:Nat→Prop}{b:Nat}{acc:List UInt8}{w:World}(h:Bld Z b acc w)(x:List UInt8)(hl:acc.length+x.length≤100000000) :
  Calls Tryz.prog 18 #[.pointer (some ⟨b,0,none⟩),.string ⟨x.toArray⟩] w fun e w'=>(∃k,e=.returned (.tuple #[.int .i64 k,.nilIface]))∧Bld (XP Z w.heap.size) b (acc++x) w'∧Kx Z w w':=by
 obtain⟨i0,hi,hz0,hz1,hz2⟩:=info_parts Tryz.info5
 have hcc:=copyX h
 have hsz:(⟨x.toArray⟩:ByteArray).size=x.length:=by show x.toArray.size=_;simp
 have HSX:Hid (Lib.byteCells acc++Lib.strCells ⟨x.toArray⟩=Lib.byteCells (acc++x)):=by
  show _=_
  simp[Lib.byteCells,Lib.strCells]
 have HH:Hid (Bld Z b acc w):=h
 have hlt:=h.lt
 clear h
 generalize (⟨x.toArray⟩:ByteArray)=s at *
 go_enter Tryz.func18,Tryz.ntmps18
 go_wp2_with (go_at_call 59;refine hcc.mono ?_)
 rintro e w1 ⟨rfl,⟨v,hbk,hown,hne,hvz⟩,hK1,hs1⟩
 clear hcc
 have c0:w1.cell? ⟨b,0,none⟩=some (.pointer (some ⟨b,0,none⟩)):=by rw[Lib.cell_of_heap hbk];rfl
 have c1:w1.cell? ⟨b,1,none⟩=some v:=by rw[Lib.cell_of_heap hbk];rfl
 have HVZ:Hid (∀k,v.ownBlock=some k→Z k):=hvz
 have HNE:Hid (v.ownBlock≠some b):=hne
 have HK1:Hid (Kx Z w w1∧w1.heap.size=w.heap.size):=⟨hK1,hs1⟩
 have HBK:Hid (w1.heap[b]?=some (.cells #[.pointer (some ⟨b,0,none⟩),v] 56 (0,0))):=hbk
 clear hvz hne hK1 hbk
 go_wp2_with (at_builtin;refine qG rfl _ _ 54 9 rfl b 5 i0 Tryz.underlying54 Tryz.underlying9 hi hz0 hz1 hz2 _ _ _ rfl hown s rfl ?c3 ?c4 ?c5 ?_)
 case c3=>unfold maxLen;omega
 case c4=>omega
 case c5=>omega
 intro v' w2 hown' hgrow hat
 have hb2:w2.heap[b]?=some (.cells #[.pointer (some ⟨b,0,none⟩),v] 56 (0,0)):=by
  rw[hgrow.block b (by omega) (fun e=>HNE.out e.symm)]
  exact HBK.out
 have d0:w2.cell? ⟨b,0,none⟩=some (.pointer (some ⟨b,0,none⟩)):=by rw[Lib.cell_of_heap hb2];rfl
 have d1:w2.cell? ⟨b,1,none⟩=some v:=by rw[Lib.cell_of_heap hb2];rfl
 have f1:w2.frozen? ⟨b,1,none⟩=false:=Lib.frozen_of_heap hb2 1
 obtain⟨ao,n',cap,rfl⟩:∃ao n' cap,v'=.slice ao n' cap:=by
  rcases hown'.2 with⟨hv,_⟩|⟨g,cap,cur,hv,_⟩
  ·exact⟨_,_,_,hv⟩
  ·exact⟨_,_,_,hv⟩
 have HW:Hid (Bld (XP Z w.heap.size) b (acc++x) (w2.setCell ⟨b,1,none⟩ (.slice ao n' cap))∧Kx Z w (w2.setCell ⟨b,1,none⟩ (.slice ao n' cap))):=by
  refine HH.out.wrote HK1.out.2 HK1.out.1 hb2 HVZ.out HNE.out ?_ (fun k hk hne=>hgrow.block k (by omega) (fun e=>hne e.symm)) ⟨hgrow.os,hgrow.tape,hgrow.output,hgrow.size⟩ (hat.imp id (fun hx k hk=>by have:=hx k hk;omega))
  rw[qb,←HSX.out]
  exact hown'
 clear hown' hgrow hat hb2 hown
 go_wp2
 go_ret2
 exact⟨⟨_,rfl⟩,HW.out.1,HW.out.2⟩
set_option maxHeartbeats 2000000 in
set_option maxRecDepth 100000 in
theorem writeByteX{Z:Nat→Prop}{b:Nat}{acc:List UInt8}{w:World}(h:Bld Z b acc w)(hl:acc.length≤100000000) :
  Calls Tryz.prog 21 #[.pointer (some ⟨b,0,none⟩),.int .u8 10] w fun e w'=>e=.returned .nilIface∧Bld (XP Z w.heap.size) b (acc++[10]) w'∧Kx Z w w':=by
 obtain⟨i0,hi,hz0,hz1,hz2⟩:=info_parts Tryz.info5
 have hcc:=copyX h
 have HSX:Hid (Lib.byteCells acc++[.int .u8 10]=Lib.byteCells (acc++[10])):=by
  show _=_
  simp[Lib.byteCells]
 have HH:Hid (Bld Z b acc w):=h
 have hlt:=h.lt
 clear h
 go_enter Tryz.func21,Tryz.ntmps21
 go_wp2_with (go_at_call 59;refine hcc.mono ?_)
 rintro e w1 ⟨rfl,⟨v,hbk,hown,hne,hvz⟩,hK1,hs1⟩
 clear hcc
 have c0:w1.cell? ⟨b,0,none⟩=some (.pointer (some ⟨b,0,none⟩)):=by rw[Lib.cell_of_heap hbk];rfl
 have c1:w1.cell? ⟨b,1,none⟩=some v:=by rw[Lib.cell_of_heap hbk];rfl
 have HVZ:Hid (∀k,v.ownBlock=some k→Z k):=hvz
 have HNE:Hid (v.ownBlock≠some b):=hne
 have HK1:Hid (Kx Z w w1∧w1.heap.size=w.heap.size):=⟨hK1,hs1⟩
 have HBK:Hid (w1.heap[b]?=some (.cells #[.pointer (some ⟨b,0,none⟩),v] 56 (0,0))):=hbk
 have hown2:=hown.alloc (.cells #[.int .u8 10] 5)
 have HOL:Hid (∀k,v.ownBlock=some k→k<w1.heap.size):=fun k hk=>(hown.lt k hk).2
 clear hvz hne hK1 hbk hown hs1
 go_wp2_with (at_builtin;go_loud (refine wpList_append_own_at _ rfl _ _ 54 rfl b 5 i0 (.int .u8 0) 1 1 Tryz.underlying54 hi hz0 hz1 hz2 rfl (by decide) _ _ _ rfl hown2 ⟨w1.heap.size,0,none⟩ 1 1 [.int .u8 10] rfl rfl ?c1 ?c2 ?c3 ?c4 ?c5 ?_))
 case c1=>exact cell_one_new w1 (.int .u8 10) 5
 case c2=>intro u hu;simp at hu;subst hu;rfl
 case c3=>unfold maxLen;omega
 case c4=>omega
 case c5=>have hs1:=HK1.out.2;simp;omega
 have hs1:=HK1.out.2
 intro v' w2 hown' hgrow _ hat
 have hb2:w2.heap[b]?=some (.cells #[.pointer (some ⟨b,0,none⟩),v] 56 (0,0)):=by
  rw[hgrow.block b (by simp;omega) (fun e=>HNE.out e.symm),Lib.alloc_old w1 _ b (by omega)]
  exact HBK.out
 have d0:w2.cell? ⟨b,0,none⟩=some (.pointer (some ⟨b,0,none⟩)):=by rw[Lib.cell_of_heap hb2];rfl
 have d1:w2.cell? ⟨b,1,none⟩=some v:=by rw[Lib.cell_of_heap hb2];rfl
 have f1:w2.frozen? ⟨b,1,none⟩=false:=Lib.frozen_of_heap hb2 1
 obtain⟨ao,n',cap,rfl⟩:∃ao n' cap,v'=.slice ao n' cap:=by
  rcases hown'.2 with⟨hv,_⟩|⟨g,cap,cur,hv,_⟩
  ·exact⟨_,_,_,hv⟩
  ·exact⟨_,_,_,hv⟩
 have HW:Hid (Bld (XP Z w.heap.size) b (acc++[10]) (w2.setCell ⟨b,1,none⟩ (.slice ao n' cap))∧Kx Z w (w2.setCell ⟨b,1,none⟩ (.slice ao n' cap))):=by
  refine HH.out.wrote HK1.out.2 HK1.out.1 hb2 HVZ.out HNE.out ?_ (fun k hk hne=>(hgrow.block k (by simp;omega) (fun e=>hne e.symm)).trans (qa _ _ _ (by omega))) ⟨hgrow.os,hgrow.tape,hgrow.output,qq2 (by simp) hgrow.size⟩ (hat.imp id (fun hx k hk=>by rw[hx]at hk;simp at hk;omega))
  rw[qb,←HSX.out]
  exact hown'
 clear hown' hgrow hat hb2 hown2
 go_wp2
 go_ret
 exact⟨rfl,HW.out.1,HW.out.2⟩
end
end Go.Proofs.YtlfbdjeojgbniaaGreatDoor

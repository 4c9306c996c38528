import Derived.Test.YtlfbdjeojgbniaaGreatDoorRan34
namespace Go.Proofs.YtlfbdjeojgbniaaGreatDoor
section
open Go.RowKit Go.Deep
def Qt(ts:Zl)(m:Nat):Nat→Nat→Nat→Prop
 | 0,x,y=>Need ts x y
 | n+1,x,z=>∃y,Qt ts m n x y∧y<m∧Need ts y z
def Path(ts:Zl)(m x y:Nat):Prop:=∃n,Qt ts m n x y
theorem zgD{ts:Zl}{x y:Nat}(h:Path ts 0 x y):Need ts x y:=by
 obtain⟨n,h⟩:=h
 cases n with
 | zero=>exact h
 | succ n=>obtain⟨z,_,hz,_⟩:=h;omega
theorem Path.more{ts:Zl}{m x y z:Nat}(h:Path ts m x y)(hy:y<m)(hn:Need ts y z):Path ts m x z:=by
 obtain⟨n,h⟩:=h
 exact⟨n+1,y,h,hy,hn⟩
theorem zfc{ts:Zl}{m x z:Nat}(h:Path ts (m+1) x z):Path ts m x z∨(Path ts m x m∧Path ts m m z):=by
 obtain⟨n,h⟩:=h
 induction n generalizing z with
 | zero=>exact Or.inl ⟨0,h⟩
 | succ n ih=>
  obtain⟨y,hy,hlt,hn⟩:=h
  by_cases e:y=m
  ·subst e
   rcases ih hy with h1|⟨h1,_⟩
   ·exact Or.inr ⟨h1,0,hn⟩
   ·exact Or.inr ⟨h1,0,hn⟩
  ·rcases ih hy with h1|⟨h1,h2⟩
   ·exact Or.inl (h1.more (by omega) hn)
   ·exact Or.inr ⟨h1,h2.more (by omega) hn⟩
theorem zfh{ts:Zl}(hr:ZA ts){x y:Nat}(hx:x<ts.length)(h:Zs ts x y):y<ts.length∧Path ts ts.length x y:=by
 induction h using Zs.ind with
 | one hn=>exact⟨zaH hr hx hn,0,hn⟩
 | more _ hn ih=>exact⟨zaH hr ih.1 hn,ih.2.more ih.1 hn⟩
def Xs(ts:Zl)(x y:Nat):Bool:=decide ((y:Int)∈Za ts x)
def setS(S:Nat→Nat→Bool)(i k:Nat):Nat→Nat→Bool:=fun x y=>if x=i then (if y=k then true else S x y) else S x y
def XE(ts:Zl)(S:Nat→Nat→Bool):Prop:=∀x y,x<ts.length→y<ts.length→S x y=true→Zs ts x y
def Full(ts:Zl)(m:Nat)(S:Nat→Nat→Bool):Prop:=∀x y,x<ts.length→y<ts.length→Path ts m x y→S x y=true
def Ym(ts:Zl)(m:Nat)(S0 S:Nat→Nat→Bool)(i k:Nat):Prop:=
 (∀x y,S0 x y=true→S x y=true)∧XE ts S∧∀x y,x<ts.length→y<ts.length→(x<i∨(x=i∧y<k))→S0 x m=true→S0 m y=true→S x y=true
theorem zdA(ts:Zl):XE ts (Xs ts):=fun x y _ _ h=>Zs.one (show(y:Int)∈Za ts x by unfold Xs at h;exact of_decide_eq_true h)
theorem zeY(ts:Zl):Full ts 0 (Xs ts):=fun x y _ _ h=>by
 have hn:(y:Int)∈Za ts x:=zgD h
 unfold Xs
 exact decide_eq_true hn
theorem Ym.start{ts:Zl}{m:Nat}{S:Nat→Nat→Bool}(h:XE ts S):Ym ts m S S 0 0:=⟨fun _ _ h=>h,h,fun x y _ _ h=>by omega⟩
theorem Ym.row{ts:Zl}{m:Nat}{S0 S:Nat→Nat→Bool}{i k:Nat}(h:Ym ts m S0 S i k)(hk:ts.length≤k):Ym ts m S0 S (i+1) 0:=
 ⟨h.1,h.2.1,fun x y hx hy hxy=>h.2.2 x y hx hy (by omega)⟩
theorem Ym.skip{ts:Zl}{m:Nat}{S0 S:Nat→Nat→Bool}{i k:Nat}(h:Ym ts m S0 S i k)(hn:¬(S i m=true∧S m k=true)):Ym ts m S0 S i (k+1):=
 ⟨h.1,h.2.1,fun x y hx hy hxy h1 h2=>by
  by_cases e:x=i∧y=k
  ·obtain⟨rfl,rfl⟩:=e
   exact absurd ⟨h.1 _ _ h1,h.1 _ _ h2⟩ hn
  ·exact h.2.2 x y hx hy (by omega) h1 h2⟩
theorem Ym.put{ts:Zl}{m:Nat}{S0 S:Nat→Nat→Bool}{i k:Nat}(h:Ym ts m S0 S i k)(hm:m<ts.length)(h1:S i m=true)(h2:S m k=true):Ym ts m S0 (setS S i k) i (k+1):=by
 have hmono:∀x y,S x y=true→setS S i k x y=true:=fun x y hs=>by
  unfold setS;split
  ·split
   ·rfl
   ·exact hs
  ·exact hs
 refine⟨fun x y hs=>hmono x y (h.1 x y hs),fun x y hx hy hs=>?_,fun x y hx hy hxy g1 g2=>?_⟩
 ·unfold setS at hs
  by_cases e:x=i∧y=k
  ·obtain⟨rfl,rfl⟩:=e
   exact Zs.trans (h.2.1 x m hx hm h1) (h.2.1 m y hm hy h2)
  ·refine h.2.1 x y hx hy ?_
   split at hs
   ·split at hs
    ·exact absurd ⟨‹x=i›,‹y=k›⟩ e
    ·exact hs
   ·exact hs
 ·by_cases e:x=i∧y=k
  ·obtain⟨rfl,rfl⟩:=e
   simp[setS]
  ·exact hmono x y (h.2.2 x y hx hy (by omega) g1 g2)
theorem Ym.ends{ts:Zl}{m:Nat}{S0 S:Nat→Nat→Bool}{i k:Nat}(h:Ym ts m S0 S i k)(hi:ts.length≤i)(hm:m<ts.length)(hf:Full ts m S0):XE ts S∧Full ts (m+1) S:=
 ⟨h.2.1,fun x y hx hy hp=>by
  rcases zfc hp with h1|⟨h1,h2⟩
  ·exact h.1 _ _ (hf x y hx hy h1)
  ·exact h.2.2 x y hx hy (by omega) (hf x m hx hm h1) (hf m y hm hy h2)⟩
theorem zeG{ts:Zl}{S:Nat→Nat→Bool}(hr:ZA ts)(hs:XE ts S)(hf:Full ts ts.length S){x y:Nat}(hx:x<ts.length)(hy:y<ts.length):S x y=true↔Zs ts x y:=
 ⟨hs x y hx hy,fun h=>hf x y hx hy (zfh hr hx h).2⟩
def Mat(N n:Nat)(w:World)(v:Value)(cnt:Nat)(bl:Nat→Nat)(S:Nat→Nat→Bool):Prop:=
 w.ownsRow N 84 1 v cnt ((List.range cnt).map fun j=>.slice (some ⟨bl j,0,none⟩) n n)∧(∀j,j<cnt→N≤bl j∧w.rowIs (bl j) 4 n (fun k=>.bool (S j k)))∧∀i j,i<cnt→j<cnt→bl i=bl j→i=j
theorem Mat.nil(N n:Nat)(w:World)(bl:Nat→Nat)(S:Nat→Nat→Bool):Mat N n w (.slice none 0 0) 0 bl S:=
 ⟨World.ownsRow_nil _ _ _ _,fun j hj=>by omega,fun i j hi=>by omega⟩
theorem Mat.later{N n:Nat}{w w':World}{v:Value}{cnt:Nat}{bl:Nat→Nat}{S:Nat→Nat→Bool}(h:Mat N n w v cnt bl S)(hb:Below w.heap.size w w'):Mat N n w' v cnt bl S:=
 ⟨h.1.kept (row:=none) ⟨hb.os,hb.tape,hb.output,hb.size,fun k hk _=>hb.block k hk⟩ (by cases v.ownBlock <;> simp),fun j hj=>⟨(h.2.1 j hj).1,(h.2.1 j hj).2.of_block (hb.block _ (h.2.1 j hj).2.lt)⟩,h.2.2⟩
theorem Mat.apart{N n:Nat}{w:World}{v:Value}{cnt:Nat}{bl:Nat→Nat}{S:Nat→Nat→Bool}(h:Mat N n w v cnt bl S){j:Nat}(hj:j<cnt):v.ownBlock≠some (bl j):=by
 intro e
 obtain⟨_,c,hc,_⟩:=h.2.1 j hj
 rcases h.1.2 with⟨hv,_⟩|⟨g,cap,cur,hv,_,hh,_⟩
 ·rw[hv]at e;simp[Value.ownBlock]at e
 ·rw[hv]at e
  simp[Value.ownBlock]at e
  subst e
  rw[hh]at hc
  simp at hc
theorem Mat.row{N n:Nat}{w:World}{v:Value}{cnt:Nat}{bl:Nat→Nat}{S:Nat→Nat→Bool}(h:Mat N n w v cnt bl S){j:Nat}(hj:j<cnt) :
  ∃g c,v=.slice (some ⟨g,0,none⟩) cnt c∧g<w.heap.size∧∀j,j<cnt→w.cell? ⟨g,j,none⟩=some (.slice (some ⟨bl j,0,none⟩) n n):=by
 rcases h.1.2 with⟨_,h0⟩|⟨g,cap,cur,hv,hg,hh,hn,hcap,hsz,htake⟩
 ·omega
 ·refine⟨g,cap,hv,(Array.getElem?_eq_some_iff.1 hh).1,fun j hj=>?_⟩
  have h2:cur[j]?=some (.slice (some ⟨bl j,0,none⟩) n n):=by
   have h3:=congrArg (fun l=>l[j]?) htake
   simp only[Nat.mul_one,List.getElem?_take,if_pos hj,List.getElem?_map,List.getElem?_range hj,Option.map_some]at h3
   simpa using h3
  simp[World.cell?,hh,h2]
theorem Mat.set{N n:Nat}{w:World}{v:Value}{cnt:Nat}{bl:Nat→Nat}{S:Nat→Nat→Bool}(h:Mat N n w v cnt bl S){i:Nat}(hi:i<cnt)(k:Nat):Mat N n (w.setCell ⟨bl i,k,none⟩ (.bool true)) v cnt bl (setS S i k):=by
 refine⟨h.1.kept (row:=some (bl i)) ⟨rfl,rfl,rfl,by simp[World.setCell],fun b _ hne=>blk_setCell_other _ _ _ _ (fun e=>hne (by rw[e]))⟩ (Or.inr (h.apart hi)),fun j hj=>⟨(h.2.1 j hj).1,?_⟩,h.2.2⟩
 by_cases e:j=i
 ·subst e
  exact((h.2.1 j hj).2.set k (.bool true)).congr (fun y _=>by unfold setS;simp only[if_true];split <;> simp_all)
 ·have hne:bl j≠bl i:=fun e'=>e (h.2.2 j i hj hi e')
  exact((h.2.1 j hj).2.setOther (a:=⟨bl i,k,none⟩) hne _).congr (fun y _=>by unfold setS;rw[if_neg e])
theorem Mat.append{N n:Nat}{w w':World}{v v':Value}{cnt r:Nat}{bl:Nat→Nat}{S:Nat→Nat→Bool}(h:Mat N n w v cnt bl S)(hr:w.rowIs r 4 n (fun k=>.bool (S cnt k)))(hN:N≤r)(hnew:∀j,j<cnt→bl j≠r)
  (ho:w'.ownsRow N 84 1 v' (cnt+1) (((List.range cnt).map fun j=>.slice (some ⟨bl j,0,none⟩) n n)++[.slice (some ⟨r,0,none⟩) n n])) (hg:w.grownBy w' v.ownBlock):∃bl',Mat N n w' v' (cnt+1) bl' S:=by
 refine⟨fun j=>if j=cnt then r else bl j,?_,fun j hj=>?_,fun i j hi hj e=>?_⟩
 ·rw[List.range_succ,List.map_append,List.map_singleton]
  simp only[if_true]
  rw[List.map_congr_left (g:=fun j=>.slice (some ⟨bl j,0,none⟩) n n) (fun j hj=>by rw[if_neg (by have:=List.mem_range.1 hj;omega)])]
  exact ho
 ·by_cases e:j=cnt
  ·subst e
   simp only[if_true]
   refine⟨hN,hr.of_block (hg.block _ hr.lt (fun e=>?_))⟩
   obtain⟨c,hc,_⟩:=hr
   rcases h.1.2 with⟨hv,_⟩|⟨g,cap,cur,hv,_,hh,_⟩
   ·rw[hv]at e;simp[Value.ownBlock]at e
   ·rw[hv]at e
    simp[Value.ownBlock]at e
    subst e
    rw[hh]at hc
    simp at hc
  ·simp only[if_neg e]
   have hj':j<cnt:=by omega
   exact⟨(h.2.1 j hj').1,(h.2.1 j hj').2.of_block (hg.block _ (h.2.1 j hj').2.lt (fun e=>h.apart hj' e.symm))⟩
 ·simp only at e
  split at e
  ·split at e
   ·omega
   ·exact absurd e.symm (hnew j (by omega))
  ·split at e
   ·exact absurd e (hnew i (by omega))
   ·exact h.2.2 i j (by omega) (by omega) e
def rowK(zs:List Int)(k:Nat)(y:Nat):Bool:=decide ((y:Int)∈zs.take k)
theorem zgR(zs:List Int):rowK zs 0=fun _=>false:=by funext y;simp[rowK]
theorem zgQ(zs:List Int)(k y:Nat)(hk:k<zs.length)(hy:zs.getD k 0=(y:Int))(j:Nat):rowK zs (k+1) j=if j=y then true else rowK zs k j:=by
 have he:zs.getD k 0=zs[k]:=by rw[qq6,qq7 hk];rfl
 unfold rowK
 rw[qq8 hk,←he,hy]
 by_cases e:j=y
 ·subst e;simp
 ·rw[if_neg e]
  have:¬((j:Int)=(y:Int)):=by omega
  simp[this]
theorem zh1(ts:Zl)(i j:Nat):rowK (Za ts i) (Za ts i).length j=Xs ts i j:=by
 unfold rowK Xs
 rw[List.take_length]
theorem Tryz.info84:(Tryz.prog.info? 84).map (fun i=>(i.zero,i.size,i.bytes))=some (some (.slice none 0 0),1,24):=by kernel_rfl
theorem zgr{N n:Nat}{w:World}{v:Value}{cnt:Nat}{bl:Nat→Nat}{S:Nat→Nat→Bool}(h:Mat N n w v cnt bl S):∃a c,v=.slice a cnt c:=by
 rcases h.1.2 with⟨h1,h2⟩|⟨g,cap,cur,hv,_⟩
 ·exact⟨none,0,by rw[h1,h2]⟩
 ·exact⟨_,_,hv⟩
set_option maxRecDepth 100000 in
set_option maxHeartbeats 8000000 in
theorem zee(v:Value)(ts:Zl)(w:World)(hp:Zf w v ts)(h30:ts.length≤30)(hr:ZA ts) :
  Calls Tryz.prog 137 #[v] w fun e w'=>(∃ov bl S,e=.returned ov∧Mat w.heap.size ts.length w' ov ts.length bl S∧XE ts S∧Full ts ts.length S)∧Below w.heap.size w w':=by
 obtain⟨hl,a,c,rfl,hp⟩:=hp
 obtain⟨i51,hi51,hz0,hz1,hz2⟩:=info_parts Tryz.info84
 have hmk:=fun wx=>run_make_row' (P:=Tryz.prog) 84 4 (.bool false) 1 Tryz.underlying84 Tryz.info4 rfl .i64 .i64 ts.length (by omega) (by omega) wx
 have HR:Hid (ZA ts):=hr
 clear hr
 go_enter Tryz.func137,Tryz.ntmps137
 go_wp2
 go_loopw [3,4] (fun s3 s4 wr=>∃i:Nat,∃bl,i≤ts.length∧s4=.int .i64 i∧Hid (Mat w.heap.size ts.length wr s3 i bl (Xs ts))∧Below w.heap.size w wr) (fun _ s4 _=>ts.length-(intOf s4).toNat)
 case atStart=>exact⟨0,fun _=>0,Nat.zero_le _,rfl,Mat.nil _ _ _ _ _,qq4 _ _⟩
 case round=>
  obtain⟨i,bl,hi,rfl,hm,hb⟩:=hrel
  by_cases hil:i<ts.length
  ·rcases hp with rfl|⟨b,o,rfl,hbl,hc⟩
   ·simp at hil
   obtain⟨_,nv,hc2,hnl,na,nc,rfl,hns⟩:=hc i hil
   clear hc
   obtain⟨w1,rfl⟩:∃w1,w1=wr:=⟨_,rfl⟩
   go_wp2
   have hrow0:Hid ((w1.alloc (.cells (madeCells #[.bool false] ts.length) 4)).rowIs w1.heap.size 4 ts.length (fun y=>.bool (rowK (Za ts i) 0 y))):=(World.rowIs_made w1 (.bool false) ts.length 4).congr (fun k _=>by rw[zgR])
   have hbm:Below w1.heap.size w1 (w1.alloc (.cells (madeCells #[.bool false] ts.length) 4)):=(qq4 _ _).alloc (qq1 _) _
   clear hmk
   go_loopw [6] (fun s6 wq=>∃k:Nat,k≤(Za ts i).length∧s6=.int .i64 k∧Hid (wq.rowIs w1.heap.size 4 ts.length (fun y=>.bool (rowK (Za ts i) k y)))∧Below w1.heap.size w1 wq) (fun s6 _=>(Za ts i).length-(intOf s6).toNat)
   case atStart=>exact⟨0,Nat.zero_le _,rfl,hrow0,hbm⟩
   case round=>
    clear hrow0 hbm
    obtain⟨k,hk,rfl,hrow,hq⟩:=hrel
    have hB:Below w.heap.size w wr:=hb.trans (hq.mono hb.size)
    have hc2':=(hB.cell (p:=⟨b,o+i*2+1,none⟩) hbl).trans hc2
    by_cases hkl:k<(Za ts i).length
    ·rcases hns with hns|⟨nb,no,rfl,hnb,hnc⟩
     ·rw[hns]at hkl;simp at hkl
     have hyc:=(hB.cell (p:=⟨nb,no+k,none⟩) hnb).trans (hnc k hkl)
     obtain⟨hylt,_,hy0⟩:=xU HR.out hil hkl
     obtain⟨y,hy⟩:=qc hy0
     rw[hy,Int.toNat_natCast]at hylt
     have hcy:=hrow.out.cell hylt
     have hfy:=hrow.out.frozen y
     have HSET:Hid ((wr.setCell ⟨w1.heap.size,y,none⟩ (.bool true)).rowIs w1.heap.size 4 ts.length (fun j=>.bool (rowK (Za ts i) (k+1) j))):=
      (hrow.out.set y (.bool true)).congr (fun j _=>by rw[zgQ _ k y hkl hy j];split <;> rfl)
     rw[hy]at hyc
     clear hnc hy0 hy hb
     generalize rowK (Za ts i) k y=old at *
     go_wp2
     go_roundw
     case rel=>exact⟨k+1,by omega,by go_num,HSET,hq.setCell (qq1 _) _⟩
     case measure=>simp[intOf];omega
    ·have hke:k=(Za ts i).length:=by omega
     subst hke
     have HROW:Hid (wr.rowIs w1.heap.size 4 ts.length (fun y=>.bool (Xs ts i y))):=hrow.out.congr (fun j _=>by rw[zh1])
     have hmq:=hm.out.later hq
     have HNW:Hid (∀j,j<i→bl j≠w1.heap.size):=fun j hj e=>by have:=(hm.out.2.1 j hj).2.lt;omega
     have hmq2:Mat w.heap.size ts.length (wr.alloc (.cells #[.slice (some ⟨w1.heap.size,0,none⟩) ts.length ts.length] 84)) _ i bl (Xs ts):=hmq.later ((qq4 _ _).alloc (qq1 _) _)
     have hown2:=hmq2.1
     clear hns hrow hmq
     go_wp2_with (at_builtin;(refine wpList_append_own _ rfl (.tmp 39) (.tmp 41) 223 rfl w.heap.size 84 i51 (.slice none 0 0) 1 24 Tryz.underlying223 hi51 hz0 hz1 hz2 rfl (by decide) _ i ((List.range i).map fun j=>.slice (some ⟨bl j,0,none⟩) ts.length ts.length) rfl hown2 ⟨wr.heap.size,0,none⟩ 1 1 [.slice (some ⟨w1.heap.size,0,none⟩) ts.length ts.length] rfl rfl ?c1 ?c2 ?c3 ?c4 ?c5 ?_))
     case c1=>exact cell_one_new wr _ 84
     case c2=>intro u hu;simp at hu;subst hu;rfl
     case c3=>unfold maxLen;omega
     case c4=>omega
     case c5=>have:=hB.size;simp;omega
     intro v' w2 hown' hgrow _
     have hb2:Below w.heap.size w w2:=(hB.alloc hB.size _).grown hgrow (by have:=hB.size;simp;omega) (fun j e=>(hown2.lt j e).1)
     have HM:∃bl',Hid (Mat w.heap.size ts.length w2 v' (i+1) bl' (Xs ts)):=hmq2.append (HROW.out.alloc _) hb.size HNW.out hown' hgrow
     obtain⟨bl',HM⟩:=HM
     clear hown' hgrow hown2 hmq2 HROW HNW
     go_wp2
     go_roundw
     case rel=>exact⟨i+1,bl',by omega,by go_num,HM,hb2⟩
     case measure=>simp[intOf];omega
  ·have hie:i=ts.length:=by omega
   subst hie
   clear hp hmk
   obtain⟨oa,oc,rfl⟩:=zgr hm.out
   go_wp2
   go_loopw [7] (fun s7 wr=>∃m:Nat,∃S,m≤ts.length∧s7=.int .i64 m∧Hid (Mat w.heap.size ts.length wr (.slice oa ts.length oc) ts.length bl S)∧Hid (XE ts S)∧Hid (Full ts m S)∧Below w.heap.size w wr) (fun s7 _=>ts.length-(intOf s7).toNat)
   case atStart=>exact⟨0,_,Nat.zero_le _,rfl,hm,zdA ts,zeY ts,hb⟩
   case round=>
    clear hm hb
    obtain⟨m,S0,hml,rfl,hm,hso,hfu,hb⟩:=hrel
    by_cases hmn:m<ts.length
    ·go_wp2
     go_loopw [8] (fun s8 wr=>∃i:Nat,∃S,i≤ts.length∧s8=.int .i64 i∧Hid (Mat w.heap.size ts.length wr (.slice oa ts.length oc) ts.length bl S)∧Hid (Ym ts m S0 S i 0)∧Below w.heap.size w wr) (fun s8 _=>ts.length-(intOf s8).toNat)
     case atStart=>exact⟨0,_,Nat.zero_le _,rfl,hm,Ym.start hso.out,hb⟩
     case round=>
      clear hm hb
      obtain⟨i,S1,hi,rfl,hm,hwi,hb⟩:=hrel
      by_cases hin:i<ts.length
      ·go_wp2
       go_loopw [9] (fun s9 wr=>∃k:Nat,∃S,k≤ts.length∧s9=.int .i64 k∧Hid (Mat w.heap.size ts.length wr (.slice oa ts.length oc) ts.length bl S)∧Hid (Ym ts m S0 S i k)∧Below w.heap.size w wr) (fun s9 _=>ts.length-(intOf s9).toNat)
       case atStart=>exact⟨0,_,Nat.zero_le _,rfl,hm,hwi,hb⟩
       case round=>
        clear hm hwi hb
        obtain⟨k,S,hk,rfl,hm,hwi,hb⟩:=hrel
        by_cases hkn:k<ts.length
        ·obtain⟨g,gc,hv,hg,hcell⟩:=hm.out.row hkn
         obtain⟨rfl,rfl⟩:oa=some ⟨g,0,none⟩∧oc=gc:=by simpa using hv
         have hgi:=hcell i hin
         have hgm:=hcell m hmn
         have him:=(hm.out.2.1 i hin).2.cell hmn
         have hmk:=(hm.out.2.1 m hmn).2.cell hkn
         have hik:=(hm.out.2.1 i hin).2.cell hkn
         have hfk:=(hm.out.2.1 i hin).2.frozen k
         clear hcell hv
         cases h1:S i m
         ·rw[h1]at him
          have HW:Hid (Ym ts m S0 S i (k+1)):=hwi.out.skip (fun h=>by rw[h1]at h;simp at h)
          clear h1 hmk hik
          go_wp2
          go_roundw
          case rel=>exact⟨k+1,S,by omega,by go_num,hm,HW,hb⟩
          case measure=>simp[intOf];omega
         ·cases h2:S m k
          ·rw[h1]at him
           rw[h2]at hmk
           have HW:Hid (Ym ts m S0 S i (k+1)):=hwi.out.skip (fun h=>by rw[h2]at h;simp at h)
           clear h1 h2 hik
           go_wp2
           go_roundw
           case rel=>exact⟨k+1,S,by omega,by go_num,hm,HW,hb⟩
           case measure=>simp[intOf];omega
          ·rw[h1]at him
           rw[h2]at hmk
           have HW:Hid (Ym ts m S0 (setS S i k) i (k+1)):=hwi.out.put hmn h1 h2
           have HMS:Hid (Mat w.heap.size ts.length (wr.setCell ⟨bl i,k,none⟩ (.bool true)) (.slice (some ⟨g,0,none⟩) ts.length oc) ts.length bl (setS S i k)):=hm.out.set hin k
           have hNb:=(hm.out.2.1 i hin).1
           clear h1 h2
           generalize S i k=old at *
           go_wp2
           go_roundw
           case rel=>exact⟨k+1,_,by omega,by go_num,HMS,HW,hb.setCell hNb _⟩
           case measure=>simp[intOf];omega
        ·go_wp2
         go_roundw
         case rel=>exact⟨i+1,S,by omega,by go_num,hm,hwi.out.row (by omega),hb⟩
         case measure=>simp[intOf];omega
      ·have HE:=hwi.out.ends (by omega) hmn hfu.out
       have HS1:Hid (XE ts S1):=HE.1
       have HF1:Hid (Full ts (m+1) S1):=HE.2
       clear HE
       go_wp2
       go_roundw
       case rel=>exact⟨m+1,S1,by omega,by go_num,hm,HS1,HF1,hb⟩
       case measure=>simp[intOf];omega
    ·have hme:m=ts.length:=by omega
     subst hme
     go_wp2
     go_ret
     exact⟨⟨_,bl,S0,rfl,hm.out,hso.out,hfu.out⟩,hb⟩
theorem zcS{wk:Int}{zs:List Int}{n:Int}(h:wk<1∨20<wk):ZT wk zs n=1:=by unfold ZT;rw[if_pos h]
theorem zbJ{wk:Int}{zs:List Int}{n y:Int}(hy:y∈zs)(h:Zr y n=false):ZT wk zs n=1:=by
 unfold ZT
 split
 ·rfl
 ·rw[if_pos (List.any_eq_true.2 ⟨y,hy,by rw[h];rfl⟩)]
theorem zbI{wk:Int}{zs:List Int}{n:Int}(h:¬(wk<1∨20<wk))(h2:∀y,y∈zs→Zr y n=true)(h3:rising zs=false):ZT wk zs n=7:=by
 unfold ZT
 rw[if_neg h,if_neg,if_neg (by rw[h3];simp)]
 rw[List.any_eq_true]
 rintro⟨y,hy,hx⟩
 rw[h2 y hy]at hx;simp at hx
theorem zcR{wk:Int}{zs:List Int}{n:Int}(h:¬(wk<1∨20<wk))(h2:∀y,y∈zs→Zr y n=true)(h3:rising zs=true):ZT wk zs n=0:=by
 unfold ZT
 rw[if_neg h,if_neg,if_pos h3]
 rw[List.any_eq_true]
 rintro⟨y,hy,hx⟩
 rw[h2 y hy]at hx;simp at hx
set_option maxRecDepth 100000 in
set_option maxHeartbeats 8000000 in
theorem zgE(v:Value)(ts:Zl)(w:World)(hp:Zf w v ts) :
  Calls Tryz.prog 103 #[v] w fun e w'=>(∃p q,e=.returned (.tuple #[.int .i64 p,.int .i64 q])∧Zc ts p q)∧Below w.heap.size w w':=by
 have HP:Hid (Zf w v ts):=hp
 obtain⟨hl,a,c,rfl,hp⟩:=hp
 by_cases hfull:30<ts.length
 ·have hf':(30:Int)<(ts.length:Int):=by omega
  clear hp
  go_enter Tryz.func103,Tryz.ntmps103
  go_wp2
  go_ret2
  exact⟨⟨0,4,rfl,Zc.full hfull⟩,qq4 _ _⟩
 have h30:ts.length≤30:=by omega
 have hf':¬(30:Int)<(ts.length:Int):=by omega
 go_enter Tryz.func103,Tryz.ntmps103
 go_wp2
 go_loopw [4] (fun s4 wr=>∃k:Nat,k≤ts.length∧s4=.int .i64 k∧Hid (∀j,j<k→ZJ ts j=0)∧Below w.heap.size w wr) (fun s4 _=>ts.length-(intOf s4).toNat)
 case atStart=>exact⟨0,Nat.zero_le _,rfl,fun j hj=>by omega,qq4 _ _⟩
 case round=>
  obtain⟨k,hk,rfl,hno,hb⟩:=hrel
  by_cases hkl:k<ts.length
  ·rcases hp with rfl|⟨b,o,rfl,hbl,hc⟩
   ·simp at hkl
   obtain⟨hc1,nv,hc2,hnl,na,nc,rfl,hns⟩:=hc k hkl
   have hc1':=(hb.cell (p:=⟨b,o+k*2,none⟩) hbl).trans hc1
   have hc2':=(hb.cell (p:=⟨b,o+k*2+1,none⟩) hbl).trans hc2
   have HEO:Hid (ZJ ts k=ZT (ts.getD k (0,[])).1 (Za ts k) ts.length):=rfl
   clear hc hc1 hc2
   generalize (ts.getD k (0,[])).1=wk at *
   obtain⟨w1,rfl⟩:∃w1,w1=wr:=⟨_,rfl⟩
   by_cases hw:wk<1∨20<wk
   ·have HE1:Hid (ZJ ts k=1):=by rw[HEO.out];exact zcS hw
    clear HEO hns
    rcases hw with hw|hw
    ·go_wp2
     go_ret2
     exact⟨⟨k,ZJ ts k,by rw[HE1.out];rfl,Zc.task k h30 hkl hno.out (by rw[HE1.out];decide)⟩,hb.alloc hb.size _⟩
    ·go_wp2
     go_ret2
     exact⟨⟨k,ZJ ts k,by rw[HE1.out];rfl,Zc.task k h30 hkl hno.out (by rw[HE1.out];decide)⟩,hb.alloc hb.size _⟩
   obtain⟨hwa,hwb⟩:¬wk<1∧¬20<wk:=⟨fun h=>hw (Or.inl h),fun h=>hw (Or.inr h)⟩
   go_wp2
   have HW:Hid (¬(wk<1∨20<wk)):=hw
   have hbW:Below w.heap.size w (w1.alloc (.cells #[.int .i64 wk,.slice na (Za ts k).length nc] 94)):=hb.alloc hb.size _
   have hcA:(w1.alloc (.cells #[.int .i64 wk,.slice na (Za ts k).length nc] 94)).cell? ⟨w1.heap.size,1,none⟩=some (.slice na (Za ts k).length nc):=by simp
   have hszA:w1.heap.size<(w1.alloc (.cells #[.int .i64 wk,.slice na (Za ts k).length nc] 94)).heap.size:=by simp
   clear hc1' hc2' hw hb
   generalize w1.alloc (.cells #[.int .i64 wk,.slice na (Za ts k).length nc] 94)=W1 at *
   generalize w1.heap.size=N1 at *
   go_loopw [6] (fun s6 wr=>∃j:Nat,j≤(Za ts k).length∧s6=.int .i64 j∧Hid (∀y,y∈(Za ts k).take j→(!Zr y ts.length)=false)∧Below W1.heap.size W1 wr) (fun s6 _=>(Za ts k).length-(intOf s6).toNat)
   case atStart=>exact⟨0,Nat.zero_le _,rfl,fun y hy=>by simp at hy,qq4 _ _⟩
   case round=>
    obtain⟨j,hj,rfl,hin,hb⟩:=hrel
    have hB:Below w.heap.size w wr:=hbW.trans (hb.mono hbW.size)
    have hcN:=(hb.cell (p:=⟨N1,1,none⟩) hszA).trans hcA
    by_cases hjl:j<(Za ts k).length
    ·rcases hns with hns|⟨nb,no,rfl,hnb,hnc⟩
     ·rw[hns]at hjl;simp at hjl
     have hyc:=(hB.cell (p:=⟨nb,no+j,none⟩) hnb).trans (hnc j hjl)
     have hym:(Za ts k).getD j 0∈Za ts k:=by rw[qq6,qq7 hjl];exact List.getElem_mem hjl
     have HS:Hid ((!Zr ((Za ts k).getD j 0) ts.length)=false→∀y,y∈(Za ts k).take (j+1)→(!Zr y ts.length)=false):=fun h=>xB (fun y=>!Zr y ts.length) _ j hjl hin.out h
     have HX:Hid (Zr ((Za ts k).getD j 0) ts.length=false→ZJ ts k=1):=fun h=>by rw[HEO.out];exact zbJ hym h
     clear hnc hym
     generalize (Za ts k).getD j 0=y at *
     by_cases hy0:y<0
     ·have HE1:Hid (ZJ ts k=1):=HX.out (by unfold Zr;simp;omega)
      go_wp2
      go_ret2
      exact⟨⟨k,ZJ ts k,by rw[HE1.out];rfl,Zc.task k h30 hkl hno.out (by rw[HE1.out];decide)⟩,hB⟩
     by_cases hyn:(ts.length:Int)≤y
     ·have HE1:Hid (ZJ ts k=1):=HX.out (by unfold Zr;simp;omega)
      go_wp2
      go_ret2
      exact⟨⟨k,ZJ ts k,by rw[HE1.out];rfl,Zc.task k h30 hkl hno.out (by rw[HE1.out];decide)⟩,hB⟩
     have HNX:Hid (∀y,y∈(Za ts k).take (j+1)→(!Zr y ts.length)=false):=HS.out (by unfold Zr;simp;omega)
     clear HS HX
     go_wp2
     go_roundw
     case rel=>exact⟨j+1,by omega,by go_num,HNX,hb⟩
     case measure=>simp[intOf];omega
    ·have HIN:Hid (∀y,y∈Za ts k→Zr y ts.length=true):=fun y hy=>by
      have:=hin.out y (by rw[List.take_of_length_le (by omega)];exact hy)
      simpa using this
     go_wp2
     clear hcN
     go_loopw [7] (fun s7 wr=>∃j:Nat,1≤j∧(j≤(Za ts k).length∨j=1)∧s7=.int .i64 j∧Hid (∀t,t+1<j→(Za ts k).getD t 0<(Za ts k).getD (t+1) 0)∧Below W1.heap.size W1 wr) (fun s7 _=>(Za ts k).length-(intOf s7).toNat)
     case atStart=>exact⟨1,qq1 _,Or.inr rfl,rfl,fun t ht=>by omega,hb⟩
     case round=>
      clear hb hB hin
      obtain⟨j,h1,hj,rfl,hri,hb⟩:=hrel
      have hB:Below w.heap.size w wr:=hbW.trans (hb.mono hbW.size)
      have hcN:=(hb.cell (p:=⟨N1,1,none⟩) hszA).trans hcA
      by_cases hjl:j<(Za ts k).length
      ·rcases hns with hns|⟨nb,no,rfl,hnb,hnc⟩
       ·rw[hns]at hjl;simp at hjl
       have hyc:=(hB.cell (p:=⟨nb,no+j,none⟩) hnb).trans (hnc j hjl)
       have hxc:=(hB.cell (p:=⟨nb,no+(j-1),none⟩) hnb).trans (hnc (j-1) (by omega))
       clear hnc
       generalize hy:(Za ts k).getD j 0=y at hyc
       generalize hx:(Za ts k).getD (j-1) 0=x at hxc
       have HY:Hid ((Za ts k).getD j 0=y):=hy
       have HX:Hid ((Za ts k).getD (j-1) 0=x):=hx
       clear hy hx hj
       go_wp2
       go_quiet (fail)
       go_wp2
       ·have HE7:ZJ ts k=7:=by
         rw[HEO.out]
         exact zbI HW.out HIN.out (jE _ j h1 hjl (by rw[HY.out,HX.out];assumption))
        go_ret2
        exact⟨⟨k,ZJ ts k,by rw[HE7];rfl,Zc.task k h30 hkl hno.out (by rw[HE7];decide)⟩,⟨hB.os,hB.tape,hB.output,hB.size,hB.block⟩⟩
       ·go_roundw
        case rel=>
         have hxy:x<y:=by assumption
         refine⟨j+1,by omega,Or.inl (by omega),by go_num,fun t ht=>?_,⟨hb.os,hb.tape,hb.output,hb.size,hb.block⟩⟩
         by_cases e:t+1=j
         ·subst e;rw[HY.out,show(Za ts k).getD t 0=x from HX.out];exact hxy
         ·exact hri.out t (by omega)
        case measure=>simp[intOf];omega
      ·have HE0:Hid (ZJ ts k=0):=by
        rw[HEO.out]
        exact zcR HW.out HIN.out ((xX _).2 (fun t ht=>hri.out t (by omega)))
       clear hns
       go_wp2
       go_roundw
       case rel=>
        refine⟨k+1,by omega,by go_num,fun t ht=>?_,hB⟩
        by_cases e:t=k
        ·subst e;exact HE0.out
        ·exact hno.out t (by omega)
       case measure=>simp[intOf];omega
  ·have hke:k=ts.length:=by omega
   subst hke
   have HRG:Hid (ZA ts):=yh hno.out
   have hab:=zee _ ts wr (HP.out.later hb) h30 HRG.out
   clear hp
   go_wp2_with fail
   refine hab.mono ?_
   rintro e w2 ⟨⟨ov,bl,S,rfl,hm,hso,hfu⟩,hb2⟩
   clear hab
   have hB2:Below w.heap.size w w2:=hb.trans (hb2.mono hb.size)
   have HM:Hid (Mat wr.heap.size ts.length w2 ov ts.length bl S):=hm
   have HRE:Hid (∀j,j<ts.length→(S j j=true↔Zs ts j j)):=fun j hj=>zeG HRG.out hso hfu hj hj
   clear hm hso hfu hb2
   obtain⟨N1,hN1⟩:∃N1,N1=wr.heap.size:=⟨_,rfl⟩
   rw[←hN1]at HM
   clear hN1
   go_wp2
   go_loopw [9] (fun s9 wr=>∃i:Nat,i≤ts.length∧s9=.int .i64 i∧Hid (∀j,j<i→¬Zs ts j j)∧Below w2.heap.size w2 wr) (fun s9 _=>ts.length-(intOf s9).toNat)
   case atStart=>exact⟨0,Nat.zero_le _,rfl,fun j hj=>by omega,qq4 _ _⟩
   case round=>
    obtain⟨i,hi,rfl,hnr,hb3⟩:=hrel
    have hB3:Below w.heap.size w wr:=hB2.trans (hb3.mono hB2.size)
    by_cases hil:i<ts.length
    ·have hm:=HM.out.later hb3
     obtain⟨g,gc,hv,hg,hcell⟩:=hm.row hil
     subst hv
     have hgi:=hcell i hil
     have hii:=(hm.2.1 i hil).2.cell hil
     have hre:=HRE.out i hil
     clear hm hcell
     cases hS:S i i
     ·rw[hS]at hii hre
      have HNR:Hid (¬Zs ts i i):=fun h=>by have:=hre.2 h;simp at this
      clear hre hS
      go_wp2
      go_roundw
      case rel=>
       refine⟨i+1,by omega,by go_num,fun j hj=>?_,hb3⟩
       by_cases e:j=i
       ·subst e;exact HNR.out
       ·exact hnr.out j (by omega)
      case measure=>simp[intOf];omega
     ·rw[hS]at hii hre
      have HYR:Hid (Zs ts i i):=hre.1 rfl
      clear hre hS
      go_wp2
      go_ret2
      exact⟨⟨i,8,rfl,Zc.ring i h30 hno.out hil hnr.out HYR.out⟩,hB3⟩
    ·have HNA:Hid (∀j,j<ts.length→¬Zs ts j j):=fun j hj=>hnr.out j (by omega)
     go_wp2
     go_ret2
     exact⟨⟨0,0,rfl,Zc.none h30 hno.out HNA.out⟩,hB3⟩
set_option maxRecDepth 100000 in
theorem zfl(v:Value)(ts:Zl)(w:World)(hp:Zf w v ts) :
  Calls Tryz.prog 64 #[v] w fun e w'=>(∃p q,e=.returned (.int .i64 q)∧Zc ts p q)∧Below w.heap.size w w':=by
 have hpl:=zgE v ts w hp
 go_enter Tryz.func64,Tryz.ntmps64
 go_wp2_with fail
 refine hpl.mono ?_
 rintro e w1 ⟨⟨p,q,rfl,hc⟩,hb1⟩
 go_wp2
 go_ret
 exact⟨⟨p,q,rfl,hc⟩,hb1⟩
theorem zhO{l:List UInt8}(h:4<l.length):Ze l=none:=by unfold Ze;rw[if_pos (Or.inl h)]
theorem zhP{r:List UInt8}(h:1<(48::r:List UInt8).length):Ze (48::r)=none:=by unfold Ze;rw[if_pos (Or.inr ⟨h,rfl⟩)]
theorem zgw{b:UInt8}{r:List UInt8}(h4:¬4<(b::r).length)(h:¬(b=48∧1<(b::r).length)):Ze (b::r)=Lib.decFrom 0 (b::r):=by
 unfold Ze
 rw[if_neg]
 ·rfl
 ·rintro (h1|⟨h1,h2⟩)
  ·exact h4 h1
  ·exact h ⟨Option.some.inj h2,h1⟩
theorem zho{l:List UInt8}{i n:Nat}(hi:i<l.length):Lib.decFrom n (l.drop i)=match Lib.digitVal l[i] with|some d=>Lib.decFrom (n*10+d) (l.drop (i+1))|none=>none:=by
 rw[List.drop_eq_getElem_cons hi];rfl
theorem zf9{b:UInt8}(h:b.toNat<48):Lib.digitVal b=none:=by unfold Lib.digitVal;rw[if_neg (by omega)]
theorem zey{b:UInt8}(h:57<b.toNat):Lib.digitVal b=none:=by unfold Lib.digitVal;rw[if_neg (by omega)]
theorem zhq{b:UInt8}(h:¬b.toNat<48)(h2:¬57<b.toNat):Lib.digitVal b=some (b.toNat-48):=by unfold Lib.digitVal;rw[if_pos (by omega)]
set_option maxRecDepth 100000 in
set_option maxHeartbeats 4000000 in
theorem zcF(l:List UInt8)(w:World)(hpos:0<l.length)(hll:l.length≤4)(hz:∀{h:0<l.length},1<l.length→l[0]≠48)(hnum:Ze l=Lib.decFrom 0 l) :
  Calls Tryz.prog 30 #[.string ⟨l.toArray⟩,.int .i64 4] w fun e w'=>e=.returned (.tuple #[.int .i64 (((Ze l).getD 0:Nat):Int),.bool (Ze l).isSome])∧Below w.heap.size w w':=by
 have HN:Hid (Ze l=Lib.decFrom 0 l):=hnum
 have hne:l.isEmpty=false:=by cases l <;> simp_all
 have h0:0<(⟨l.toArray⟩:ByteArray).size:=by show 0<l.toArray.size;simpa using hpos
 have hz':¬(1:Int)<(l.length:Int)∨((1:Int)<(l.length:Int)∧((((⟨l.toArray⟩:ByteArray)[0]'h0).toNat:Int)==48)=false):=by
  by_cases h1:1<l.length
  ·refine Or.inr ⟨by omega,?_⟩
   rw[beq_eq_false_iff_ne]
   intro e
   have e':(l[0].toNat:Int)=48:=e
   exact hz h1 (UInt8.toNat_inj.1 (by show l[0].toNat=48;omega))
  ·exact Or.inl (by omega)
 clear hz hnum
 have hlI:¬(4:Int)<(l.length:Int):=by omega
 rcases hz' with h1|⟨h1,h48⟩
 all_goals
  go_enter Tryz.func30,Tryz.ntmps30
  go_wp2
  all_goals
   go_loopw [6,7] (fun s6 s7 wr=>∃i n:Nat,i≤l.length∧s6=.int .i64 n∧s7=.int .i64 i∧n<10 ^ i∧Hid (Lib.decFrom 0 l=Lib.decFrom n (l.drop i))∧Below w.heap.size w wr) (fun _ s7 _=>l.length-(intOf s7).toNat)
   case atStart=>exact⟨0,0,Nat.zero_le _,rfl,rfl,by decide,rfl,qq4 _ _⟩
   case round=>
    obtain⟨i,n,hi,rfl,rfl,hn,hd,hb⟩:=hrel
    have hn4:n<10000:=qq3 hn (qq2 (Nat.pow_le_pow_right (by decide) (show i≤4 by omega)) (by decide))
    by_cases hil:i<l.length
    ·have hsz:i<(⟨l.toArray⟩:ByteArray).size:=by show i<l.toArray.size;simpa using hil
     have hst:=zho (n:=n) hil
     have hxe:(⟨l.toArray⟩:ByteArray)[i]'hsz=l[i]:=rfl
     have HX:Hid ((⟨l.toArray⟩:ByteArray)[i]'hsz=l[i]):=hxe
     by_cases h48:l[i].toNat<48
     ·rw[zf9 h48]at hst
      have HNN:Hid (Ze l=none):=by rw[HN.out,hd.out];exact hst
      have h48':(((⟨l.toArray⟩:ByteArray)[i]'hsz).toNat:Int)<48:=by rw[hxe];omega
      clear hst h48 hxe
      go_wp2
      go_ret2
      exact⟨by rw[HNN.out];rfl,hb⟩
     by_cases h57:57<l[i].toNat
     ·rw[zey h57]at hst
      have HNN:Hid (Ze l=none):=by rw[HN.out,hd.out];exact hst
      have h48':¬(((⟨l.toArray⟩:ByteArray)[i]'hsz).toNat:Int)<48:=by rw[hxe];omega
      have h57':57<(((⟨l.toArray⟩:ByteArray)[i]'hsz).toNat:Int):=by rw[hxe];omega
      clear hst h48 hxe h57
      go_wp2
      go_ret2
      exact⟨by rw[HNN.out];rfl,hb⟩
     rw[zhq h48 h57]at hst
     have h48':¬(((⟨l.toArray⟩:ByteArray)[i]'hsz).toNat:Int)<48:=by rw[hxe];omega
     have h57':¬57<(((⟨l.toArray⟩:ByteArray)[i]'hsz).toNat:Int):=by rw[hxe];omega
     have HST:Hid (Lib.decFrom n (l.drop i)=Lib.decFrom (n*10+(((⟨l.toArray⟩:ByteArray)[i]'hsz).toNat-48)) (l.drop (i+1))):=hst
     have HB:Hid (n*10+(((⟨l.toArray⟩:ByteArray)[i]'hsz).toNat-48)<10 ^ (i+1)):=by
      show _<_
      rw[hxe,Nat.pow_succ];omega
     clear hst h48 h57 hxe HX
     go_wp2
     go_roundw
     case rel=>exact⟨i+1,_,by omega,congrArg (Value.int .i64) (by omega),by go_num,HB.out,hd.out.trans HST.out,hb⟩
     case measure=>simp[intOf];omega
    ·have HNN:Hid (Ze l=some n):=by rw[HN.out,hd.out,List.drop_of_length_le (by omega)];rfl
     go_wp2
     go_ret2
     exact⟨by rw[HNN.out];rfl,hb⟩
set_option maxRecDepth 100000 in
set_option maxHeartbeats 4000000 in
theorem qx(l:List UInt8)(w:World)(hs:l.length≤1048576) :
  Calls Tryz.prog 30 #[.string ⟨l.toArray⟩,.int .i64 4] w fun e w'=>e=.returned (.tuple #[.int .i64 (((Ze l).getD 0:Nat):Int),.bool (Ze l).isSome])∧Below w.heap.size w w':=by
 cases l with
 | nil=>
  go_enter Tryz.func30,Tryz.ntmps30
  go_wp2
  go_ret2
  exact⟨rfl,qq4 _ _⟩
 | cons b r=>
  by_cases h4:4<(b::r).length
  ·have HN:Hid (Ze (b::r)=none):=zhO h4
   have h4':4<r.length+1:=h4
   have h4'':4<(r.length:Int)+1:=by omega
   clear h4
   go_enter Tryz.func30,Tryz.ntmps30
   go_wp2
   go_ret2
   exact⟨by rw[HN.out];rfl,qq4 _ _⟩
  by_cases hz:b=48∧1<(b::r).length
  ·obtain⟨rfl,h1⟩:=hz
   have HN:Hid (Ze (48::r)=none):=zhP h1
   have h4':r.length<4:=by simp at h4;omega
   have h1':0<r.length:=by simpa using h1
   clear h1 h4
   go_enter Tryz.func30,Tryz.ntmps30
   go_wp2
   go_ret2
   exact⟨by rw[HN.out];rfl,qq4 _ _⟩
  exact zcF (b::r) w (by simp) (by omega) (fun h e=>hz ⟨e,h⟩) (zgw h4 hz)
end
end Go.Proofs.YtlfbdjeojgbniaaGreatDoor

import Derived.Test.YtlfbdjeojgbniaaGreatDoorRan39
namespace Go.Proofs.YtlfbdjeojgbniaaGreatDoor
section
open Go.RowKit Go.Deep
theorem Tryz.info9:(Tryz.prog.info? 9).map (fun i=>(i.zero,i.size,i.bytes))=some (some (.string ⟨#[]⟩),1,16):=by kernel_rfl
theorem js(l:List UInt8)(f i:Nat):(⟨l.toArray⟩:ByteArray).extract f i=⟨((l.drop f).take (i-f)).toArray⟩:=by
 apply ByteArray.ext
 simp
def YY(c:UInt8)(l:List UInt8)(done:List (List UInt8))(f i:Nat):Prop:=
 Zd c l=done++Zd c (l.drop f)∧f≤i∧c∉(l.drop f).take (i-f)
theorem YY.start(c:UInt8)(l:List UInt8):YY c l [] 0 0:=⟨rfl,qq1 _,by simp⟩
theorem YY.skip{c:UInt8}{l:List UInt8}{done:List (List UInt8)}{f i:Nat}(h:YY c l done f i)(hi:i<l.length)(hx:l[i]≠c):YY c l done f (i+1):=by
 obtain⟨h1,h2,h3⟩:=h
 refine⟨h1,by omega,?_⟩
 rw[show i+1-f=(i-f)+1 by omega,qq8 (by simp;omega)]
 intro hm
 rcases List.mem_append.1 hm with hm|hm
 ·exact h3 hm
 ·simp only[List.mem_singleton,List.getElem_drop]at hm
  have:f+(i-f)=i:=by omega
  simp only[this]at hm
  exact hx hm.symm
theorem YY.hit{c:UInt8}{l:List UInt8}{done:List (List UInt8)}{f i:Nat}(h:YY c l done f i)(hi:i<l.length)(hx:l[i]=c):YY c l (done++[(l.drop f).take (i-f)]) (i+1) (i+1):=by
 obtain⟨h1,h2,h3⟩:=h
 refine⟨?_,qq1 _,by simp⟩
 have hsp:l.drop f=(l.drop f).take (i-f)++c::l.drop (i+1):=by
  conv=>lhs;rw[←List.take_append_drop (i-f) (l.drop f)]
  congr 1
  rw[List.drop_drop,show f+(i-f)=i by omega,List.drop_eq_getElem_cons hi,hx]
 rw[h1]
 conv=>lhs;rw[hsp]
 rw[ja c _ _ h3,List.append_assoc];rfl
theorem YY.ends{c:UInt8}{l:List UInt8}{done:List (List UInt8)}{f:Nat}(h:YY c l done f l.length):Zd c l=done++[l.drop f]:=by
 obtain⟨h1,h2,h3⟩:=h
 rw[List.take_of_length_le (by simp)]at h3
 rw[h1,jH c _ h3]
theorem YY.few{c:UInt8}{l:List UInt8}{done:List (List UInt8)}{f i:Nat}(h:YY c l done f i):done.length≤l.length:=by
 have h1:=congrArg List.length h.1
 have h2:=z7 c l
 have h3:0<(Zd c (l.drop f)).length:=List.length_pos_iff.2 (zy c _)
 simp at h1
 omega
set_option maxRecDepth 100000 in
set_option maxHeartbeats 4000000 in
theorem zc1(l:List UInt8)(c:UInt8)(w:World)(hs:l.length≤100000000) :
  Calls Tryz.prog 7 #[.string ⟨l.toArray⟩,.int .u8 (c.toNat:Int)] w fun e w'=>(∃ov,e=.returned ov∧w'.ownsRow w.heap.size 9 1 ov (Zd c l).length ((Zd c l).map strV))∧Below w.heap.size w w':=by
 obtain⟨i9,hi9,hz0,hz1,hz2⟩:=info_parts Tryz.info9
 go_enter Tryz.func7,Tryz.ntmps7
 go_wp2
 go_loopw [5,6,7] (fun s5 s6 s7 wr=>∃done,∃f i:Nat,i≤l.length∧s6=.int .i64 f∧s7=.int .i64 i∧f≤i∧Hid (wr.ownsRow w.heap.size 9 1 s5 done.length (done.map strV))∧Hid (YY c l done f i)∧Below w.heap.size w wr) (fun _ _ s7 _=>l.length-(intOf s7).toNat)
 case atStart=>exact⟨[],0,0,Nat.zero_le _,rfl,rfl,qq1 _,World.ownsRow_nil _ _ _ _,YY.start c l,qq4 _ _⟩
 case round=>
  obtain⟨done,f,i,hi,rfl,rfl,hfi,hown,hcut,hb⟩:=hrel
  have hfew:=hcut.out.few
  by_cases hil:i<l.length
  ·have hsz:i<(⟨l.toArray⟩:ByteArray).size:=by show i<l.toArray.size;simpa using hil
   by_cases hx:l[i]=c
   ·have hx':(((⟨l.toArray⟩:ByteArray)[i]'hsz).toNat:Int)=(c.toNat:Int):=by show((l[i]).toNat:Int)=_;rw[hx]
    have HC:Hid (YY c l (done++[(l.drop f).take (i-f)]) (i+1) (i+1)):=hcut.out.hit hil hx
    have HEL:Hid (Value.string ((⟨l.toArray⟩:ByteArray).extract f i)=strV ((l.drop f).take (i-f))):=yF (js l f i)
    have hown2:=hown.out.alloc (.cells #[.string ((⟨l.toArray⟩:ByteArray).extract f i)] 9)
    clear hx
    go_wp2_with (at_builtin;(refine wpList_append_own _ rfl (.tmp 19) (.tmp 24) 23 rfl w.heap.size 9 i9 (.string ⟨#[]⟩) 1 16 Tryz.underlying23 hi9 hz0 hz1 hz2 rfl (by decide) _ done.length (done.map strV) rfl hown2 ⟨wr.heap.size,0,none⟩ 1 1 [.string ((⟨l.toArray⟩:ByteArray).extract f i)] rfl rfl ?c1 ?c2 ?c3 ?c4 ?c5 ?_))
    case c1=>exact cell_one_new wr _ 9
    case c2=>intro u hu;simp at hu;subst hu;rfl
    case c3=>unfold maxLen;omega
    case c4=>omega
    case c5=>have:=hb.size;simp;omega
    intro v' w2 hown' hgrow _
    have hb2:Below w.heap.size w w2:=(hb.alloc hb.size _).grown hgrow (by have:=hb.size;simp;omega) (fun j e=>(hown2.lt j e).1)
    have HO:Hid (w2.ownsRow w.heap.size 9 1 v' (done++[(l.drop f).take (i-f)]).length ((done++[(l.drop f).take (i-f)]).map strV)):=by
     rw[HEL.out]at hown'
     simpa[Hid]using hown'
    clear hown' hgrow hown2 hown
    go_wp2
    go_roundw
    case rel=>exact⟨_,i+1,i+1,by omega,by go_num,by go_num,qq1 _,HO,HC,hb2⟩
    case measure=>simp[intOf];omega
   ·have hx':¬(((⟨l.toArray⟩:ByteArray)[i]'hsz).toNat:Int)=(c.toNat:Int):=fun e=>hx (by
     have e':((l[i]).toNat:Int)=(c.toNat:Int):=e
     exact UInt8.toNat_inj.1 (by omega))
    have HC:Hid (YY c l done f (i+1)):=hcut.out.skip hil hx
    clear hx
    go_wp2
    go_roundw
    case rel=>exact⟨_,f,i+1,by omega,rfl,by go_num,by omega,hown,HC,hb⟩
    case measure=>simp[intOf];omega
  ·have hie:i=l.length:=by omega
   subst hie
   have HE:Hid (Zd c l=done++[l.drop f]):=hcut.out.ends
   have HEL:Hid (Value.string ((⟨l.toArray⟩:ByteArray).extract f l.length)=strV (l.drop f)):=yF (by rw[js,List.take_of_length_le (by simp)])
   have hown2:=hown.out.alloc (.cells #[.string ((⟨l.toArray⟩:ByteArray).extract f l.length)] 9)
   go_wp2_with (at_builtin;(refine wpList_append_own _ rfl (.tmp 28) (.tmp 32) 23 rfl w.heap.size 9 i9 (.string ⟨#[]⟩) 1 16 Tryz.underlying23 hi9 hz0 hz1 hz2 rfl (by decide) _ done.length (done.map strV) rfl hown2 ⟨wr.heap.size,0,none⟩ 1 1 [.string ((⟨l.toArray⟩:ByteArray).extract f l.length)] rfl rfl ?c1 ?c2 ?c3 ?c4 ?c5 ?_))
   case c1=>exact cell_one_new wr _ 9
   case c2=>intro u hu;simp at hu;subst hu;rfl
   case c3=>unfold maxLen;omega
   case c4=>omega
   case c5=>have:=hb.size;simp;omega
   intro v' w2 hown' hgrow _
   have hb2:Below w.heap.size w w2:=(hb.alloc hb.size _).grown hgrow (by have:=hb.size;simp;omega) (fun j e=>(hown2.lt j e).1)
   have HO:Hid (w2.ownsRow w.heap.size 9 1 v' (Zd c l).length ((Zd c l).map strV)):=by
    rw[HEL.out]at hown'
    rw[HE.out]
    simpa[Hid]using hown'
   clear hown' hgrow hown2 hown
   go_wp2
   go_ret
   exact⟨⟨_,rfl,HO.out⟩,hb2⟩
theorem zgv{l:List UInt8}{b:UInt8}(hb:b∈l)(h:YI b=false):Ze l=none:=by
 unfold Ze
 split
 ·rfl
 ·unfold Lib.decNat
  split
  ·rfl
  ·exact jp 0 l (List.any_eq_true.2 ⟨b,hb,by rw[h];rfl⟩)
theorem qI{α β:Type}(f:α→Option β)(l:List α)(x:α)(hx:x∈l)(h:f x=none):Zq f l=none:=by
 obtain⟨a,b,rfl⟩:=List.append_of_mem hx
 exact qH f a b x h
theorem ze5{l:List UInt8}(h:(60:UInt8)∈l):Y8 l=none:=by
 have hj:=zeN 44 l
 rw[←hj]at h
 rcases zbY 44 60 _ h with h|⟨p,hp,hm⟩
 ·exact absurd h (by decide)
 ·unfold Y8
  rw[qI Ze _ p hp (zgv hm (by decide))];rfl
theorem y6(l x:List UInt8)(xs:List (List UInt8))(h:Zd 60 l=x::xs):(cutB 60 l).1=x∧(if (cutB 60 l).2.2 then Zd 60 (cutB 60 l).2.1 else [])=xs:=by
 have hs:=yj 60 l
 rw[h]at hs
 injection hs with h1 h2
 exact⟨h1.symm,h2.symm⟩
theorem zig(l x:List UInt8)(xs:List (List UInt8))(h:Zd 60 l=x::xs)(hn:Ze x=none):ZN l=none:=by
 have:=(y6 l x xs h).1
 unfold ZN
 rw[this,hn]
theorem zih(l x:List UInt8)(n:Nat)(h:Zd 60 l=[x])(hn:Ze x=some n):ZN l=some ((n:Int),[]):=by
 obtain⟨h1,h2⟩:=y6 l x [] h
 have h3:(cutB 60 l).2.2=false:=by
  cases hc:(cutB 60 l).2.2 with
  | false=>rfl
  | true=>rw[hc]at h2;exact absurd h2 (zy 60 _)
 unfold ZN
 rw[h1,hn,h3];rfl
theorem zii(l x y:List UInt8)(n:Nat)(h:Zd 60 l=[x,y])(hn:Ze x=some n):ZN l=(Y8 y).map (fun ns=>((n:Int),ns)):=by
 obtain⟨h1,h2⟩:=y6 l x [y] h
 cases hc:(cutB 60 l).2.2 with
 | false=>rw[hc]at h2;simp at h2
 | true=>
  rw[hc]at h2
  simp only[if_true]at h2
  obtain⟨g1,g2⟩:=y6 _ y [] h2
  have g3:(cutB 60 (cutB 60 l).2.1).2.2=false:=by
   cases hd:(cutB 60 (cutB 60 l).2.1).2.2 with
   | false=>rfl
   | true=>rw[hd]at g2;exact absurd g2 (zy 60 _)
  have g4:=(jT 60 _ g3).1
  rw[g1]at g4
  unfold ZN
  rw[h1,hn,hc,←g4];rfl
theorem zg5(l x y z:List UInt8)(xs:List (List UInt8))(h:Zd 60 l=x::y::z::xs):ZN l=none:=by
 obtain⟨h1,h2⟩:=y6 l x _ h
 cases hc:(cutB 60 l).2.2 with
 | false=>rw[hc]at h2;simp at h2
 | true=>
  rw[hc]at h2
  simp only[if_true]at h2
  obtain⟨g1,g2⟩:=y6 _ y _ h2
  have hm:(60:UInt8)∈(cutB 60 l).2.1:=by
   cases hd:(cutB 60 (cutB 60 l).2.1).2.2 with
   | false=>rw[hd]at g2;simp at g2
   | true=>rw[zf4 60 _ hd];simp
  unfold ZN
  rw[ze5 hm]
  cases Ze (cutB 60 l).1 with
  | none=>rfl
  | some n=>rw[hc];rfl
def Qx(w:World)(v:Value)(xs:List (List UInt8)):Prop:=
 ∃g c,v=.slice (some ⟨g,0,none⟩) xs.length c∧g<w.heap.size∧∀k,k<xs.length→w.cell? ⟨g,k,none⟩=some (strV (xs.getD k []))
theorem jI{w:World}{N:Nat}{v:Value}{xs:List (List UInt8)}(h:w.ownsRow N 9 1 v xs.length (xs.map strV))(h0:xs≠[]):Qx w v xs:=by
 rcases h.2 with⟨_,hn⟩|⟨g,cap,cur,hv,hg,hh,hn,hcap,hsz,htake⟩
 ·exact absurd (List.eq_nil_of_length_eq_zero hn) h0
 ·refine⟨g,cap,hv,(Array.getElem?_eq_some_iff.1 hh).1,fun j hj=>?_⟩
  have h2:cur[j]?=some (strV (xs.getD j [])):=by
   have h3:=congrArg (fun l=>l[j]?) htake
   simp only[Nat.mul_one,List.getElem?_take,if_pos hj,List.getElem?_map,List.getElem?_eq_getElem hj,Option.map_some]at h3
   rw[qq6,qq7 hj]
   simpa using h3
  simp[World.cell?,hh,h2]
theorem yT(c:UInt8)(l:List UInt8)(p:List UInt8)(hp:p∈Zd c l):p.length≤l.length:=by
 induction l generalizing p with
 | nil=>simp[Zd]at hp;subst hp;simp
 | cons b r ih=>
  rw[yn]at hp
  split at hp
  ·rcases List.mem_cons.1 hp with rfl|hp
   ·simp
   ·have:=ih p hp;simp;omega
  ·cases hs:Zd c r with
   | nil=>exact absurd hs (zy c r)
   | cons x xs=>
    rw[hs]at hp ih
    rcases List.mem_cons.1 hp with rfl|hp
    ·have:=ih x (by simp);simp;omega
    ·have:=ih p (by simp[hp]);simp;omega
theorem ZX.older{B C:Nat}{w:World}{v:Value}{ts:Zl}(h:ZX B w v ts)(hc:C≤B):ZX C w v ts:=fun W hW=>h W (fun k h1 h2=>hW k (qq2 hc h1) h2)
theorem jo(l:List UInt8)(c:UInt8)(w:World)(hs:l.length≤1048576) :
  Calls Tryz.prog 7 #[.string ⟨l.toArray⟩,.int .u8 (c.toNat:Int)] w fun e w'=>(∃g cap,e=.returned (.slice (some ⟨g,0,none⟩) (Zd c l).length cap)∧w.heap.size≤g∧g<w'.heap.size∧∀k,k<(Zd c l).length→w'.cell? ⟨g,k,none⟩=some (.string ⟨((Zd c l).getD k []).toArray⟩))∧Below w.heap.size w w':=by
 refine(zc1 l c w (qq2 hs (by decide))).mono ?_
 rintro e w' ⟨⟨ov,rfl,ho⟩,hb⟩
 refine⟨?_,hb⟩
 obtain⟨g,cap,rfl,hlt,hc⟩:=jI ho (zy c l)
 exact⟨g,cap,rfl,(ho.lt g rfl).1,hlt,hc⟩
theorem jZ{W2 wq w6:World}{tb:Nat}{row:Option Nat}(h:W2.grownBy wq (some tb))(hb:wq.grownBy w6 row)(hr:∀j,row=some j→W2.heap.size≤j):W2.grownBy w6 (some tb):=
 ⟨hb.os.trans h.os,hb.tape.trans h.tape,hb.output.trans h.output,qq2 h.size hb.size,fun k hk hne=>
  (hb.block k (qq3 hk h.size) (fun e=>by have:=hr k e.symm;omega)).trans (h.block k hk hne)⟩
theorem zeJ{W2 wq:World}{tb j:Nat}(h:W2.grownBy wq (some tb))(v:Value):W2.grownBy (wq.setCell ⟨tb,j,none⟩ v) (some tb):=
 ⟨h.os,h.tape,h.output,by simpa[World.setCell]using h.size,fun k hk hne=>(blk_setCell_other _ _ _ _ (fun e=>hne (by rw[e]))).trans (h.block k hk hne)⟩
theorem yP{w w':World}(h:Below w.heap.size w w')(row:Option Nat):w.grownBy w' row:=⟨h.os,h.tape,h.output,h.size,fun k hk _=>h.block k hk⟩
theorem zhR{W:World}{k:Nat}{x y b:Value}{t:TypeId}(h:W.heap[k]?=some (.cells #[x,y] t (0,0))):(W.setCell ⟨k,1,none⟩ b).heap[k]?=some (.cells #[x,b] t (0,0)):=by
 simp[World.setCell,Array.getElem?_modify,h]
theorem jk{W:World}{k:Nat}{x y:Value}{t:TypeId}(h:W.heap[k]?=some (.cells #[x,y] t (0,0))):W.cell? ⟨k,0,none⟩=some x∧W.cell? ⟨k,1,none⟩=some y∧W.frozen? ⟨k,1,none⟩=false:=by
 simp[World.cell?,World.frozen?,h]
set_option maxRecDepth 100000 in
set_option maxHeartbeats 16000000 in
theorem zfi(b:UInt8)(r:List UInt8)(w:World)(hs:(b::r).length≤1048576) :
  Calls Tryz.prog 29 #[.string ⟨(b::r).toArray⟩] w fun e w'=>((ZW (b::r)=none∧e=.returned (.tuple #[.slice none 0 0,.int .i64 2]))∨(∃ts p q,ZW (b::r)=some ts∧Zc ts p q∧((q≠0∧e=.returned (.tuple #[.slice none 0 0,.int .i64 q]))∨(q=0∧∃v,e=.returned (.tuple #[v,.int .i64 0])∧ZX w.heap.size w' v ts))))∧Below w.heap.size w w':=by
 obtain⟨i30,hi30,hz0,hz1,hz2⟩:=info_parts Tryz.info94
 obtain⟨i3,hi3,hy0,hy1,hy2⟩:=info_parts Tryz.info3
 have hcut:=jo (b::r) 32 w hs
 have HT:Hid (ZW (b::r)=Zq ZN (Zd 32 (b::r))):=by unfold ZW;rw[if_neg (by simp)];rfl
 have HSH:Hid (∀p,p∈Zd 32 (b::r)→p.length≤1048576):=fun p hp=>qq2 (yT 32 _ p hp) hs
 have hwl:=z7 32 (b::r)
 go_enter Tryz.func29,Tryz.ntmps29
 go_wp2_with fail
 refine hcut.mono ?_
 rintro e w1 ⟨⟨g,gc,rfl,_,hg,hcs⟩,hb1⟩
 have HCS:Hid (∀k,k<(Zd 32 (b::r)).length→w1.cell? ⟨g,k,none⟩=some (.string ⟨((Zd 32 (b::r)).getD k []).toArray⟩)):=hcs
 clear hcut hcs
 generalize Zd 32 (b::r)=words at *
 have hwl2:words.length≤1048577:=by omega
 clear hwl hs
 go_wp2
 go_loopw [4,6] (fun s4 s6 wr=>∃i:Nat,∃ts,i≤words.length∧s6=.int .i64 i∧Hid (Zy w1.heap.size wr s4 ts)∧Hid (Zq ZN (words.take i)=some ts)∧Hid (Few ts)∧Below w1.heap.size w1 wr) (fun _ s6 _=>words.length-(intOf s6).toNat)
 case atStart=>exact⟨0,[],Nat.zero_le _,rfl,Zy.nil _ _,rfl,fun t ht=>by simp at ht,qq4 _ _⟩
 case round=>
  obtain⟨i,ts,hi,rfl,hown,hall,hfew,hb⟩:=hrel
  have hBr:Below w.heap.size w wr:=hb1.trans (hb.mono hb1.size)
  have htl:ts.length≤words.length:=by have:=yW _ _ _ hall.out;rw[this];simp;omega
  by_cases hil:i<words.length
  ·have hcell:=(hb.cell (p:=⟨g,i,none⟩) hg).trans (HCS.out i hil)
   have hxm:words.getD i []∈words:=by rw[qq6,qq7 hil];exact List.getElem_mem hil
   have hxl:=HSH.out _ hxm
   have hxe:words.getD i []=words[i]:=by rw[qq6,qq7 hil];rfl
   have HBAD:Hid (ZN (words.getD i [])=none→ZW (b::r)=none):=fun h=>by rw[HT.out];exact qI ZN _ _ hxm h
   have HGOOD:Hid (∀t,ZN (words.getD i [])=some t→Zq ZN (words.take (i+1))=some (ts++[t])):=fun t h=>by
    rw[qq8 hil,←hxe];exact yy _ _ _ _ _ hall.out h
   have HFEW:Hid (∀t,ZN (words.getD i [])=some t→Few (ts++[t])):=fun t h=>by
    intro t' ht
    rcases List.mem_append.1 ht with h' | h'
    ·exact hfew.out t' h'
    ·have:=zbk _ _ h
     rw[List.mem_singleton.1 h'];omega
   clear hxm hxe hall hfew
   generalize words.getD i []=x at *
   have hc60:=jo x 60 wr hxl
   have HSX:Hid (∀p,p∈Zd 60 x→p.length≤1048576):=fun p hp=>qq2 (yT 60 _ p hp) hxl
   go_wp2_with fail
   refine hc60.mono ?_
   rintro e w2 ⟨⟨g2,gc2,rfl,hg2a,hg2,hcs2⟩,hb2⟩
   clear hc60 hcell
   have hB2:Below w.heap.size w w2:=hBr.trans (hb2.mono hBr.size)
   have hB12:Below w1.heap.size w1 w2:=hb.trans (hb2.mono hb.size)
   have HOW2:Hid (Zy w1.heap.size w2 _ ts):=hown.out.later hb2
   clear hown hb2 hBr hb
   have HSP:Hid (Zd 60 x=Zd 60 x):=rfl
   obtain⟨P,hP⟩:∃P,P=Zd 60 x:=⟨_,rfl⟩
   rw[←hP]at hcs2 HSX ⊢
   have HP:Hid (Zd 60 x=P):=hP.symm
   clear hP HSP
   cases P with
   | nil=>exact absurd HP.out (zy 60 x)
   | cons p0 ps=>
    have hc0:w2.cell? ⟨g2,0,none⟩=some (.string ⟨p0.toArray⟩):=hcs2 0 (by simp)
    have hn0:=qx p0 w2 (HSX.out p0 (by simp))
    go_wp2_with fail
    refine hn0.mono ?_
    rintro e w3 ⟨rfl,hb3⟩
    clear hn0
    have hB3:Below w.heap.size w w3:=hB2.trans (hb3.mono hB2.size)
    have hB13:Below w1.heap.size w1 w3:=hB12.trans (hb3.mono hB12.size)
    have HOW3:Hid (Zy w1.heap.size w3 _ ts):=HOW2.out.later hb3
    cases hnum:Ze p0 with
    | none=>
     have HNO:Hid (ZW (b::r)=none):=HBAD.out (zig x p0 ps HP.out hnum)
     clear HBAD hnum
     go_wp2
     go_ret2
     exact⟨Or.inl ⟨HNO.out,rfl⟩,hB3⟩
    | some n=>
     cases ps with
     | nil=>
      have htk:=zih x p0 n HP.out hnum
      have HA:Hid (Zq ZN (words.take (i+1))=some (ts++[((n:Int),[])])):=HGOOD.out _ htk
      have HF:Hid (Few (ts++[((n:Int),[])])):=HFEW.out _ htk
      clear htk hnum HBAD HGOOD HFEW
      have hBX:Below w1.heap.size w1 (w3.alloc (.cells #[.int .i64 (n:Nat),.slice none 0 0] 94)):=hB13.alloc hB13.size _
      have hownX:=HOW3.out.later (w':=w3.alloc (.cells #[.int .i64 (n:Nat),.slice none 0 0] 94)) ((qq4 _ _).alloc (qq1 _) _)
      have hrowX:Zp w1.heap.size (w3.alloc (.cells #[.int .i64 (n:Nat),.slice none 0 0] 94)) (.slice none 0 0) []:=Zp.nil _ _
      have hbA:Below (w3.alloc (.cells #[.int .i64 (n:Nat),.slice none 0 0] 94)).heap.size (w3.alloc (.cells #[.int .i64 (n:Nat),.slice none 0 0] 94)) ((w3.alloc (.cells #[.int .i64 (n:Nat),.slice none 0 0] 94)).alloc (.cells #[.int .i64 (n:Nat),.slice none 0 0] 94)):=(qq4 _ _).alloc (qq1 _) _
      obtain⟨xs,ho,hx⟩:=hownX.later hbA
      have HR:Hid (Zp w1.heap.size ((w3.alloc (.cells #[.int .i64 (n:Nat),.slice none 0 0] 94)).alloc (.cells #[.int .i64 (n:Nat),.slice none 0 0] 94)) (.slice none 0 0) []):=hrowX.later hbA
      have HX:Hid (∀j,j<ts.length→xs[j*2]?=some (.int .i64 (ts.getD j (0,[])).1)∧∃nv,xs[j*2+1]?=some nv∧Zp w1.heap.size ((w3.alloc (.cells #[.int .i64 (n:Nat),.slice none 0 0] 94)).alloc (.cells #[.int .i64 (n:Nat),.slice none 0 0] 94)) nv (Za ts j)):=hx
      clear hx hownX hrowX
      go_wp2_with (at_builtin;(refine wpList_append_own _ rfl (.tmp 74) (.tmp 76) 27 rfl w1.heap.size 94 i30 (.agg #[.int .i64 0,.slice none 0 0]) 2 32 Tryz.underlying27 hi30 hz0 hz1 hz2 rfl (by decide) _ ts.length xs rfl ho ⟨w3.heap.size+1,0,none⟩ 1 1 [.int .i64 (n:Nat),.slice none 0 0] rfl rfl ?c1 ?c2 ?c3 ?c4 ?c5 ?_))
      case c1=>
       have h2:=cell_two_new ((w3.alloc (.cells #[.int .i64 (n:Nat),.slice none 0 0] 94))) (.int .i64 (n:Nat)) (.slice none 0 0) 94
       rw[nblk_alloc]at h2
       exact h2
      case c2=>intro u hu;simp at hu;rcases hu with rfl|rfl <;> rfl
      case c3=>unfold maxLen;omega
      case c4=>omega
      case c5=>have:=hBX.size;simp at this ⊢;omega
      intro v' w9 hown' hgrow _
      have hB9:Below w1.heap.size w1 w9:=(hBX.trans (hbA.mono hBX.size)).grown hgrow (by have:=hBX.size;simp at this ⊢;omega) (fun j e=>(ho.lt j e).1)
      have HO:Hid (Zy w1.heap.size w9 v' (ts++[((n:Int),[])])):=Zy.append ho HX.out HR.out hown' hgrow
      clear hown' hgrow ho hbA HX HR
      go_wp2
      go_roundw
      case rel=>exact⟨i+1,_,by omega,by go_num,HO,HA,HF,hB9⟩
      case measure=>simp[intOf];omega
     | cons p1 ps=>
      cases ps with
      | nil=>
       have hc1:w2.cell? ⟨g2,1,none⟩=some (.string ⟨p1.toArray⟩):=hcs2 1 (by simp)
       have HTW:Hid (ZN x=(Y8 p1).map (fun ns=>((n:Int),ns))):=zii x p0 p1 n HP.out hnum
       have hbA:Below w3.heap.size w3 (w3.alloc (.cells #[.int .i64 (n:Nat),.slice none 0 0] 94)):=(qq4 _ _).alloc (qq1 _) _
       have hc1':=((hb3.trans (hbA.mono hb3.size)).cell (p:=⟨g2,1,none⟩) hg2).trans hc1
       have hc44:=jo p1 44 (w3.alloc (.cells #[.int .i64 (n:Nat),.slice none 0 0] 94)) (HSX.out p1 (by simp))
       have HSY:Hid (∀p,p∈Zd 44 p1→p.length≤1048576):=fun p hp=>qq2 (yT 44 _ p hp) (HSX.out p1 (by simp))
       have hYl:=z7 44 p1
       have hp1l:=HSX.out p1 (by simp)
       clear hcs2 hc0 hnum hc1
       go_wp2_with fail
       refine hc44.mono ?_
       rintro e w4 ⟨⟨g4,gc4,rfl,hg4a,hg4,hcs4⟩,hb4⟩
       have htb4:w3.heap.size<w4.heap.size:=by have:=hb4.size;simp at this;omega
       have HT4:Hid (w4.heap[w3.heap.size]?=some (.cells #[.int .i64 (n:Nat),.slice none 0 0] 94 (0,0))):=(hb4.block _ (by simp)).trans (heap_alloc_new w3 _)
       have hb34:Below w3.heap.size w3 w4:=hbA.trans (hb4.mono (by simp))
       have hB14:Below w1.heap.size w1 w4:=hB13.trans (hb34.mono hB13.size)
       have HNS:Hid (Y8 p1=(Zq Ze (Zd 44 p1)).map (List.map Int.ofNat)):=rfl
       have HCS4:Hid (∀k,k<(Zd 44 p1).length→w4.cell? ⟨g4,k,none⟩=some (.string ⟨((Zd 44 p1).getD k []).toArray⟩)):=hcs4
       have hg4b:w3.heap.size<g4:=by simp at hg4a;omega
       have htw1:=hB13.size
       clear hc44 hcs4 hc1' hb4 hbA HOW2 hg4a hb3
       generalize Zd 44 p1=Y at *
       have hYl2:Y.length≤1048577:=by omega
       clear hYl hp1l
       go_wp2
       go_loopw [12] (fun s12 wr=>∃k:Nat,∃ns nv,k≤Y.length∧s12=.int .i64 k∧Hid (Zq Ze (Y.take k)=some ns)∧Hid (ZQ w4.heap.size wr nv ns)∧Hid (wr.heap[w3.heap.size]?=some (.cells #[.int .i64 (n:Nat),nv] 94 (0,0)))∧Hid (w4.grownBy wr (some w3.heap.size))) (fun s12 _=>Y.length-(intOf s12).toNat)
       case atStart=>exact⟨0,[],.slice none 0 0,Nat.zero_le _,rfl,rfl,World.ownsRow_nil _ _ _ _,HT4,yP (qq4 _ _) _⟩
       case round=>
        obtain⟨k,ns,nv,hk,rfl,hal,hns,hT,hgr⟩:=hrel
        have hB1r:Below w1.heap.size w1 wr:=hB14.grown hgr.out hB14.size (fun j e=>by have:=Option.some.inj e;omega)
        have hBr:Below w.heap.size w wr:=hb1.trans (hB1r.mono hb1.size)
        have hnl:ns.length≤Y.length:=by have:=yW _ _ _ hal.out;rw[this];simp;omega
        have hsz:w4.heap.size≤wr.heap.size:=hgr.out.size
        by_cases hkl:k<Y.length
        ·have hcy:=hgr.out.cell (HCS4.out k hkl) (fun e=>by have:=Option.some.inj e;simp at this;omega)
         have hym:Y.getD k []∈Y:=by rw[qq6,qq7 hkl];exact List.getElem_mem hkl
         have hye:Y.getD k []=Y[k]:=by rw[qq6,qq7 hkl];rfl
         have HBN:Hid (Ze (Y.getD k [])=none→ZW (b::r)=none):=fun h=>HBAD.out (by rw[HTW.out,HNS.out,qI Ze _ _ hym h];rfl)
         have HGN:Hid (∀m,Ze (Y.getD k [])=some m→Zq Ze (Y.take (k+1))=some (ns++[m])):=fun m h=>by
          rw[qq8 hkl,←hye];exact yy _ _ _ _ _ hal.out h
         have hyl:=HSY.out _ hym
         clear hym hye hal
         generalize Y.getD k []=y at *
         have hn2:=qx y wr hyl
         go_wp2_with fail
         refine hn2.mono ?_
         rintro e w5 ⟨rfl,hb5⟩
         clear hn2 hcy
         cases hm:Ze y with
         | none=>
          have HNO:Hid (ZW (b::r)=none):=HBN.out hm
          clear HBN hm
          go_wp2
          go_ret2
          exact⟨Or.inl ⟨HNO.out,rfl⟩,hBr.trans (hb5.mono hBr.size)⟩
         | some m=>
          have HG:=HGN.out m hm
          have HGH:Hid (Zq Ze (Y.take (k+1))=some (ns++[m])):=HG
          have hT5:w5.heap[w3.heap.size]?=some (.cells #[.int .i64 (n:Nat),nv] 94 (0,0)):=(hb5.block _ (by omega)).trans hT.out
          obtain⟨_,hc5,_⟩:=jk hT5
          have hns5:ZQ w4.heap.size w5 nv ns:=ZQ.later' hns.out hb5
          have hgr5:w4.grownBy w5 (some w3.heap.size):=jZ hgr.out (yP hb5 none) (fun j e=>by cases e)
          have hsz5:=hgr5.size
          have hown2:=World.ownsRow.alloc hns5 (.cells #[.int .i64 (m:Nat)] 3)
          have HG6:Hid (w4.grownBy (w5.alloc (.cells #[.int .i64 (m:Nat)] 3)) (some w3.heap.size)):=jZ hgr5 (World.grownBy_alloc w5 _ none) (fun j e=>by cases e)
          have HT5:Hid (w5.heap[w3.heap.size]?=some (.cells #[.int .i64 (n:Nat),nv] 94 (0,0))):=hT5
          clear hT5 hgr5 hns5 hm HG HBN HGN hns hT hgr
          go_wp2_with (at_builtin;(refine wpList_append_own _ rfl (.tmp 69) (.tmp 71) 73 rfl w4.heap.size 3 i3 (.int .i64 0) 1 8 Tryz.underlying73 hi3 hy0 hy1 hy2 rfl (by decide) _ ns.length (ns.map natV) rfl hown2 ⟨w5.heap.size,0,none⟩ 1 1 [.int .i64 (m:Nat)] rfl rfl ?c1 ?c2 ?c3 ?c4 ?c5 ?_))
          case c1=>exact cell_one_new w5 _ 3
          case c2=>intro u hu;simp at hu;subst hu;rfl
          case c3=>unfold maxLen;omega
          case c4=>omega
          case c5=>simp;omega
          intro v' w6 hown' hgrow _
          obtain⟨va,vc,rfl⟩:=zas hown'
          have hT6:w6.heap[w3.heap.size]?=some (.cells #[.int .i64 (n:Nat),nv] 94 (0,0)):=(hgrow.block _ (by simp;omega) (fun e=>by have:=(hown2.lt _ e.symm).1;omega)).trans (((World.grownBy_alloc w5 _ none).block _ (by omega) (by simp)).trans HT5.out)
          obtain⟨_,hc6,hf6⟩:=jk hT6
          have HG7:Hid (w4.grownBy (w6.setCell ⟨w3.heap.size,1,none⟩ (.slice va (ns.length+1) vc)) (some w3.heap.size)):=zeJ (jZ HG6.out hgrow (fun j e=>(hown2.lt j e).1)) _
          have HT7:Hid ((w6.setCell ⟨w3.heap.size,1,none⟩ (.slice va (ns.length+1) vc)).heap[w3.heap.size]?=some (.cells #[.int .i64 (n:Nat),.slice va (ns.length+1) vc] 94 (0,0))):=zhR hT6
          have HN7:Hid (ZQ w4.heap.size (w6.setCell ⟨w3.heap.size,1,none⟩ (.slice va (ns.length+1) vc)) (.slice va (ns.length+1) vc) (ns++[m])):=ownsRow_setCell_below (a:=⟨w3.heap.size,1,none⟩) (by simpa[ZQ,natV]using hown') htb4 _
          clear hown' hgrow hown2 hT6 hc5 HG6 HT5
          go_wp2
          go_roundw
          case rel=>exact⟨k+1,_,_,by omega,by go_num,HGH,HN7,HT7,HG7⟩
          case measure=>simp[intOf];omega
        ·have hke:k=Y.length:=by omega
         subst hke
         rw[List.take_length]at hal
         have htk:ZN x=some ((n:Int),ns.map Int.ofNat):=by rw[HTW.out,HNS.out,hal.out];rfl
         have hrowX:Zp w1.heap.size wr nv (ns.map Int.ofNat):=(Zp.of hns.out).mono hB14.size
         have hBX:Below w1.heap.size w1 wr:=hB1r
         have hownX:=HOW3.out.later (hb34.grown hgr.out hb34.size (fun j e=>by have:=Option.some.inj e;omega))
         generalize ns.map Int.ofNat=zs at *
         have HA:Hid (Zq ZN (words.take (i+1))=some (ts++[((n:Int),zs)])):=HGOOD.out _ htk
         have HF:Hid (Few (ts++[((n:Int),zs)])):=HFEW.out _ htk
         obtain⟨na,nc,rfl⟩:=hrowX.shape
         obtain⟨hcx0,hcx1,_⟩:=jk hT.out
         clear htk HBAD HGOOD HFEW hal hns hT hgr HTW
         have hbA:Below wr.heap.size wr (wr.alloc (.cells #[.int .i64 (n:Nat),.slice na zs.length nc] 94)):=(qq4 _ _).alloc (qq1 _) _
         obtain⟨xs,ho,hx⟩:=hownX.later hbA
         have HR:Hid (Zp w1.heap.size (wr.alloc (.cells #[.int .i64 (n:Nat),.slice na zs.length nc] 94)) (.slice na zs.length nc) zs):=hrowX.later hbA
         have HX:Hid (∀j,j<ts.length→xs[j*2]?=some (.int .i64 (ts.getD j (0,[])).1)∧∃nv,xs[j*2+1]?=some nv∧Zp w1.heap.size (wr.alloc (.cells #[.int .i64 (n:Nat),.slice na zs.length nc] 94)) nv (Za ts j)):=hx
         clear hx hownX hrowX
         go_wp2_with (at_builtin;(refine wpList_append_own _ rfl (.tmp 74) (.tmp 76) 27 rfl w1.heap.size 94 i30 (.agg #[.int .i64 0,.slice none 0 0]) 2 32 Tryz.underlying27 hi30 hz0 hz1 hz2 rfl (by decide) _ ts.length xs rfl ho ⟨wr.heap.size,0,none⟩ 1 1 [.int .i64 (n:Nat),.slice na zs.length nc] rfl rfl ?c1 ?c2 ?c3 ?c4 ?c5 ?_))
         case c1=>
          have h2:=cell_two_new (wr) (.int .i64 (n:Nat)) (.slice na zs.length nc) 94
          skip
          exact h2
         case c2=>intro u hu;simp at hu;rcases hu with rfl|rfl <;> rfl
         case c3=>unfold maxLen;omega
         case c4=>omega
         case c5=>have:=hBX.size;simp at this ⊢;omega
         intro v' w9 hown' hgrow _
         have hB9:Below w1.heap.size w1 w9:=(hBX.trans (hbA.mono hBX.size)).grown hgrow (by have:=hBX.size;simp at this ⊢;omega) (fun j e=>(ho.lt j e).1)
         have HO:Hid (Zy w1.heap.size w9 v' (ts++[((n:Int),zs)])):=Zy.append ho HX.out HR.out hown' hgrow
         clear hown' hgrow ho hbA HX HR
         go_wp2
         go_roundw
         case rel=>exact⟨i+1,_,by omega,by go_num,HO,HA,HF,hB9⟩
         case measure=>simp[intOf];omega
      | cons p2 ps=>
       have HNO:Hid (ZW (b::r)=none):=HBAD.out (zg5 x p0 p1 p2 ps HP.out)
       clear HBAD hnum
       have hlen3:¬((p0::p1::p2::ps).length:Int)≤2:=by simp;omega
       go_wp2
       go_ret2
       exact⟨Or.inl ⟨HNO.out,rfl⟩,hB3⟩
  ·have hie:i=words.length:=by omega
   subst hie
   rw[List.take_length]at hall
   have HTS:Hid (ZW (b::r)=some ts):=HT.out.trans hall.out
   have hpa:Zf wr _ ts:=hown.out.planAt (by omega) (fun j _=>by have:=hfew.out.needs j;omega)
   have hri:=zfl _ ts wr hpa
   have HPA:Hid (ZX w.heap.size wr _ ts):=(hown.out.planNew (by omega) (fun j _=>by have:=hfew.out.needs j;omega)).older hb1.size
   clear hpa hown
   go_wp2_with fail
   refine hri.mono ?_
   rintro e w2 ⟨⟨p,q,rfl,hc⟩,hb2⟩
   clear hri
   have HC:Hid (Zc ts p q):=hc
   clear hc
   have hB2:Below w.heap.size w w2:=hBr.trans (hb2.mono hBr.size)
   by_cases hq:q=0
   ·subst hq
    go_wp2
    go_ret2
    exact⟨Or.inr ⟨ts,p,0,HTS.out,HC.out,Or.inr ⟨rfl,_,rfl,HPA.out.later hb2⟩⟩,hB2⟩
   ·have HQ:Hid (q≠0):=hq
    go_wp2
    go_ret2
    exact⟨Or.inr ⟨ts,p,q,HTS.out,HC.out,Or.inl ⟨HQ.out,rfl⟩⟩,hB2⟩
def Rw(R:Nat)(l:List UInt8)(i:Nat)(e:Int)(ts:Zl)(w:World):Prop:=
 ∃tv,w.heap[R]?=some (.cells #[.string ⟨l.toArray⟩,.int .i64 i,tv,.int .i64 e] 136 (0,0))∧RowT (R+1) (fun _=>True) w tv ts
theorem Rw.cells{R i:Nat}{l:List UInt8}{e:Int}{ts:Zl}{w:World}(h:Rw R l i e ts w) :
  w.cell? ⟨R,0,none⟩=some (.string ⟨l.toArray⟩)∧w.cell? ⟨R,1,none⟩=some (.int .i64 i)∧w.cell? ⟨R,3,none⟩=some (.int .i64 e)∧∀j,w.frozen? ⟨R,j,none⟩=false:=by
 obtain⟨tv,h,_⟩:=h
 refine⟨by simp[World.cell?,h],by simp[World.cell?,h],by simp[World.cell?,h],fun j=>by simp[World.frozen?,h]⟩
theorem Rw.drewN{R i:Nat}{l:List UInt8}{e:Int}{ts:Zl}{w:World}(h:Rw R l i e ts w)(n:Nat):Rw R l i e ts (w.drewN n):=by
 obtain⟨tv,h1,h2⟩:=h
 exact⟨tv,h1,h2.of_kinds (fun _ _ _ _=>rfl) (fun _ _ _ _=>rfl)⟩
theorem Rw.place{R i:Nat}{l:List UInt8}{e:Int}{ts:Zl}{w:World}(h:Rw R l i e ts w)(k:Nat):Rw R l k e ts (w.setCell ⟨R,1,none⟩ (.int .i64 k)):=by
 obtain⟨tv,h1,h2⟩:=h
 refine⟨tv,?_,h2.of_blocks (fun k hk _ _=>qq5 _ _ _ _ (by show k≠R;omega))⟩
 have:=heap_setCell_same w R 1 _ 136 (.int .i64 k) h1
 simpa using this
theorem Rw.fault{R i:Nat}{l:List UInt8}{e:Int}{ts:Zl}{w:World}(h:Rw R l i e ts w)(e':Int):Rw R l i e' ts (w.setCell ⟨R,3,none⟩ (.int .i64 e')):=by
 obtain⟨tv,h1,h2⟩:=h
 refine⟨tv,?_,h2.of_blocks (fun k hk _ _=>qq5 _ _ _ _ (by show k≠R;omega))⟩
 have:=heap_setCell_same w R 3 _ 136 (.int .i64 e') h1
 simpa using this
def Yh(e:Int)(l:List UInt8)(i:Nat)(c:UInt8):Bool:=decide (e=0)&&decide ((l.drop i).head?=some c)
set_option maxRecDepth 100000 in
set_option maxHeartbeats 2000000 in
theorem yD(R:Nat)(l:List UInt8)(i:Nat)(e:Int)(ts:Zl)(c:UInt8)(w:World)(_hl:l.length≤200)(hi:i≤l.length)(hr:Rw R l i e ts w) :
  Calls Tryz.prog 102 #[.pointer (some ⟨R,0,none⟩),.int .u8 (c.toNat:Int)] w fun ev w'=>ev=.returned (.bool (Yh e l i c))∧∃n,w'=w.drewN n:=by
 obtain⟨h0,h1,h3,-⟩:=hr.cells
 clear hr
 by_cases he:e=0
 ·subst he
  have hee:((0:Int)==0)=true:=rfl
  by_cases hil:i<l.length
  ·have hsz:i<(⟨l.toArray⟩:ByteArray).size:=by show i<l.toArray.size;simpa using hil
   have hxe:(⟨l.toArray⟩:ByteArray)[i]'hsz=l[i]:=rfl
   have hli:(i:Int)<(l.length:Int):=by omega
   by_cases hc:l[i]=c
   ·have hb:(((((⟨l.toArray⟩:ByteArray)[i]'hsz).toNat:Int))==(c.toNat:Int))=true:=by rw[hxe,hc];simp
    have hb2:((l[i].toNat:Int)==(c.toNat:Int))=true:=by rw[hc];simp
    have HB:Hid (Yh 0 l i c=true):=by show _=_;unfold Yh;rw[yl hil,hc];simp
    clear hxe hc
    go_enter Tryz.func102,Tryz.ntmps102
    go_wp2
    go_quiet (fail)
    go_wp2
    go_ret
    exact⟨by rw[HB.out];rfl,_,rfl⟩
   ·have hnt:¬(l[i].toNat:Int)=(c.toNat:Int):=fun h=>hc (UInt8.toNat_inj.1 (by omega))
    have hb:(((((⟨l.toArray⟩:ByteArray)[i]'hsz).toNat:Int))==(c.toNat:Int))=false:=by rw[hxe];simpa using hnt
    have hb2:((l[i].toNat:Int)==(c.toNat:Int))=false:=by simpa using hnt
    have HB:Hid (Yh 0 l i c=false):=by show _=_;unfold Yh;rw[yl hil];simpa using hc
    clear hxe hc hnt
    go_enter Tryz.func102,Tryz.ntmps102
    go_wp2
    go_quiet (fail)
    go_wp2
    go_ret
    exact⟨by rw[HB.out];rfl,_,rfl⟩
  ·have hli:decide ((i:Int)<(l.length:Int))=false:=decide_eq_false (by omega)
   have HB:Hid (Yh 0 l i c=false):=by show _=_;unfold Yh;rw[xc (by omega)];simp
   go_enter Tryz.func102,Tryz.ntmps102
   go_wp2
   go_quiet (fail)
   go_wp2
   go_ret
   exact⟨by rw[HB.out];rfl,_,rfl⟩
 ·have hee:(e==0)=false:=by simp[he]
  have HB:Hid (Yh e l i c=false):=by show _=_;unfold Yh;simp[he]
  go_enter Tryz.func102,Tryz.ntmps102
  go_wp2
  go_quiet (fail)
  go_wp2
  go_ret
  exact⟨by rw[HB.out];rfl,_,rfl⟩
def cap2(n:Nat)(d:UInt8):Nat:=if n<1000 then n*10+(d.toNat-48) else n
def V2(ds:List UInt8):Int:=(ds.foldl cap2 0:Nat)
theorem zch(ds:List UInt8)(n:Nat)(h:n≤10300):ds.foldl cap2 n≤10300:=by
 induction ds generalizing n with
 | nil=>exact h
 | cons d r ih=>
  refine ih _ ?_
  have:=d.toNat_lt
  unfold cap2
  split <;> omega
theorem zjg(ds:List UInt8):0≤V2 ds∧V2 ds≤10300:=by
 have:=zch ds 0 (by omega)
 unfold V2;omega
theorem caps(ds:List UInt8):∀a b:Nat,((a≤20∧a=b)∨(a=21∧21≤b))→((ds.foldl cap1 a≤20∧ds.foldl cap1 a=ds.foldl cap2 b)∨(ds.foldl cap1 a=21∧21≤ds.foldl cap2 b)):=by
 induction ds with
 | nil=>intro a b h;exact h
 | cons d r ih=>
  intro a b h
  refine ih _ _ ?_
  unfold cap1 cap2
  rcases h with⟨h,rfl⟩|⟨rfl,h⟩
  ·rw[if_pos (by omega)];omega
  ·right
   refine⟨by omega,?_⟩
   split <;> omega
theorem ziR(ds:List UInt8):(V1 ds≤20∧V1 ds=V2 ds)∨(20<V1 ds∧20<V2 ds):=by
 have:=caps ds 0 0 (Or.inl ⟨by omega,rfl⟩)
 unfold V1 V2
 omega
theorem Tree.lay_congr{V V':List UInt8→Int}(t:Tree):(∀ds,ds∈t.leaves→V ds=V' ds)→∀ts,t.lay V ts=t.lay V' ts:=by
 induction t with
 | num ds=>intro h ts;simp only[Tree.lay];rw[h ds (by simp[Tree.leaves])]
 | seq a b iha ihb=>
  intro h ts
  simp only[Tree.lay]
  rw[iha (fun ds hd=>h ds (by simp[Tree.leaves,hd])),ihb (fun ds hd=>h ds (by simp[Tree.leaves,hd]))]
 | par a b iha ihb=>
  intro h ts
  simp only[Tree.lay]
  rw[iha (fun ds hd=>h ds (by simp[Tree.leaves,hd])),ihb (fun ds hd=>h ds (by simp[Tree.leaves,hd]))]
theorem Tree.work_congr{V V':List UInt8→Int}(t:Tree):(∀ds,ds∈t.leaves→V ds=V' ds)→t.work V=t.work V':=by
 induction t with
 | num ds=>intro h;exact h ds (by simp[Tree.leaves])
 | seq a b iha ihb=>intro h;simp only[Tree.work];rw[iha (fun ds hd=>h ds (by simp[Tree.leaves,hd])),ihb (fun ds hd=>h ds (by simp[Tree.leaves,hd]))]
 | par a b iha ihb=>intro h;simp only[Tree.work];rw[iha (fun ds hd=>h ds (by simp[Tree.leaves,hd])),ihb (fun ds hd=>h ds (by simp[Tree.leaves,hd]))]
theorem Tree.span_congr{V V':List UInt8→Int}(t:Tree):(∀ds,ds∈t.leaves→V ds=V' ds)→t.span V=t.span V':=by
 induction t with
 | num ds=>intro h;exact h ds (by simp[Tree.leaves])
 | seq a b iha ihb=>intro h;simp only[Tree.span];rw[iha (fun ds hd=>h ds (by simp[Tree.leaves,hd])),ihb (fun ds hd=>h ds (by simp[Tree.leaves,hd]))]
 | par a b iha ihb=>intro h;simp only[Tree.span];rw[iha (fun ds hd=>h ds (by simp[Tree.leaves,hd])),ihb (fun ds hd=>h ds (by simp[Tree.leaves,hd]))]
theorem zfX(ts:Zl):big ts=(Yc ts).any (fun x=>decide (20<x)):=by
 unfold big Yc
 rw[List.any_map];rfl
theorem zcg(V:List UInt8→Int)(t:Tree):big (t.lay V [])=t.leaves.any (fun ds=>decide (20<V ds)):=by
 rw[zfX,Tree.lay_works]
 simp[Yc,List.any_map,Function.comp_def]
theorem zaL(t:Tree):big (t.lay V2 [])=big (t.lay V1 []):=by
 rw[zcg,zcg]
 congr 1
 funext ds
 rcases ziR ds with⟨h1,h2⟩|⟨h1,h2⟩
 ·rw[h2]
 ·simp[h1,h2]
theorem zgn{t:Tree}(h:big (t.lay V1 [])=false):∀ds,ds∈t.leaves→V2 ds=V1 ds:=by
 intro ds hd
 rw[zcg]at h
 have:=List.any_eq_false.1 h ds hd
 rcases ziR ds with⟨h1,h2⟩|⟨h1,h2⟩
 ·exact h2.symm
 ·simp[h1]at this
end
end Go.Proofs.YtlfbdjeojgbniaaGreatDoor

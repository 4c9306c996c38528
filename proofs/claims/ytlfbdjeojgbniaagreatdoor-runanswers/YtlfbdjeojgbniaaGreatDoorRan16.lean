import Derived.Test.YtlfbdjeojgbniaaGreatDoorRan15
import Derived.Shelf.Slices.Cells
import Derived.Shelf.Slices.Empties
namespace Go.Proofs.YtlfbdjeojgbniaaGreatDoor.Hnd
open Go.RowKit Go.Deep
def OutZ(C:Nat)(w:World)(v:Value)(o:List Int):Prop:=(o=[]∧v=.slice none 0 0)∨RowZ C w v o
theorem RowZ.mono{B B':Nat}{w:World}{v:Value}{zs:List Int}(h:RowZ B w v zs)(hb:B'≤B):RowZ B' w v zs:=by
 obtain⟨b,c,hv,hcap,h1,hl,hc⟩:=h
 exact⟨b,c,hv,hcap,qq2 hb h1,hl,hc⟩
theorem OutZ.set{C I x:Nat}{w:World}{v:Value}{o:List Int}(h:OutZ C w v o)(hI:I<C)(u:Value):OutZ C (w.setCell ⟨I,x,none⟩ u) v o:=by
 rcases h with h|⟨b,c,hv,hcap,hb,hl,hc⟩
 ·exact Or.inl h
 ·exact Or.inr ⟨b,c,hv,hcap,hb,by simpa using hl,fun k hk=>(qq9 (qq5 w ⟨I,x,none⟩ u b (by show b≠I;omega))).trans (hc k hk)⟩
structure Kh (H R:Nat) (w w':World):Prop where
 os:w'.os=w.os
 tape:w'.tape=w.tape
 output:w'.output=w.output
 size:w.heap.size≤w'.heap.size
 block:∀k,k<w.heap.size→k≠H→k≠R→w'.heap[k]?=w.heap[k]?
theorem Kh.refl(H R:Nat)(w:World):Kh H R w w:=⟨rfl,rfl,rfl,qq1 _,fun _ _ _ _=>rfl⟩
theorem Kr.kh{R:Nat}{w w':World}(h:Kr R w w')(H:Nat):Kh H R w w':=⟨h.os,h.tape,h.output,h.size,fun k hk _ hR=>h.block k hk hR⟩
theorem Kh.setH{H R:Nat}{w0 w:World}(h:Kh H R w0 w)(j:Nat)(u:Value):Kh H R w0 (w.setCell ⟨H,j,none⟩ u):=
 ⟨h.os,h.tape,h.output,by simpa using h.size,fun k hk hH hR=>(qq5 _ _ _ _ (by show k≠H;exact hH)).trans (h.block k hk hH hR)⟩
def XG(nr:Int)(R:Nat):Nat→Value:=fun k=>if k=0 then .int .i64 nr else .pointer (some ⟨R,0,none⟩)
structure Hd (H R room:Nat) (nr:Int) (xs:List Int) (w:World):Prop where
 row:w.rowIs H 195 2 (XG nr R)
 ring:Rg R room xs w
 ne:H≠R
 one:1≤room
 near:nr=-1∨0≤nr
theorem Hd.c0{H R room:Nat}{nr:Int}{xs:List Int}{w:World}(h:Hd H R room nr xs w):w.cell? ⟨H,0,none⟩=some (.int .i64 nr):=by
 have:=h.row.cell (i:=0) (by omega)
 simpa[XG]using this
theorem Hd.c1{H R room:Nat}{nr:Int}{xs:List Int}{w:World}(h:Hd H R room nr xs w):w.cell? ⟨H,1,none⟩=some (.pointer (some ⟨R,0,none⟩)):=by
 have:=h.row.cell (i:=1) (by omega)
 simpa[XG]using this
theorem Hd.set{H R room:Nat}{nr:Int}{xs:List Int}{w:World}(h:Hd H R room nr xs w)(n:Int)(hn:n=-1∨0≤n):Hd H R room n xs (w.setCell ⟨H,0,none⟩ (.int .i64 n)):=
 ⟨(h.row.set 0 _).congr (fun k _=>by unfold XG;split <;> simp_all),h.ring.setOther (fun e=>h.ne e.symm) _ _,h.ne,h.one,hn⟩
theorem Hd.kr{H R room:Nat}{nr:Int}{xs xs':List Int}{w w':World}(h:Hd H R room nr xs w)(hr:Rg R room xs' w')(hk:Kr R w w'):Hd H R room nr xs' w':=
 ⟨h.row.of_block (hk.block H h.row.lt h.ne),hr,h.ne,h.one,h.near⟩
theorem Hd.of_blocks{H R room:Nat}{nr:Int}{xs:List Int}{w w':World}(h:Hd H R room nr xs w)(e1:w'.heap[H]?=w.heap[H]?)(e2:w'.heap[R]?=w.heap[R]?):Hd H R room nr xs w':=
 ⟨h.row.of_block e1,h.ring.of_block e2,h.ne,h.one,h.near⟩
theorem zjh(room:Int)(w:World)(h:room<1∨16<room):Calls Tryz.prog 83 #[.int .i64 room] w fun e w'=>e=.returned (.tuple #[.pointer none,errV 1])∧w'=w:=by
 have hn:=zfD room w h
 go_enter Tryz.func83,Tryz.ntmps83
 go_wp2_with (first|(go_at_call 116;refine hn.mono ?_;clear hn;rintro e w' ⟨rfl,rfl⟩))
 go_ret2
 exact⟨rfl,rfl⟩
theorem zjc(room:Nat)(w:World)(h1:1≤room)(h2:room≤16):Calls Tryz.prog 83 #[.int .i64 room] w fun e w'=>e=.returned (.tuple #[.pointer (some ⟨w.heap.size+1,0,none⟩),.nilIface])∧Hd (w.heap.size+1) w.heap.size room (-1) [] w'∧Below w.heap.size w w'∧w'.heap.size=w.heap.size+2:=by
 have hn:=zaJ room w h1 h2
 go_enter Tryz.func83,Tryz.ntmps83
 go_wp2_with (first|(go_at_call 116;refine hn.mono ?_;clear hn;rintro e w1 ⟨rfl,hr,hb,hs⟩))
 go_ret2
 refine⟨rfl,⟨?_,hr.alloc _,by omega,h1,Or.inl rfl⟩,hb.alloc (by omega) _,by simp[hs]⟩
 rw[←hs]
 refine World.rowIs_alloc _ _ _ _ ?_
 intro i hi
 change i<2 at hi
 rcases(by omega:i=0∨i=1)with rfl|rfl <;> rfl
theorem zgJ(H R room:Nat)(nr n:Int)(xs:List Int)(w:World)(h:Hd H R room nr xs w)(hl:xs.length<room) :
  Calls Tryz.prog 206 #[.pointer (some ⟨H,0,none⟩),.int .i64 n] w fun e w'=>e=.returned (.slice none 0 0)∧Hd H R room nr (xs++[n]) w'∧Kr R w w':=by
 have hp:=zcW R room xs n w h.ring hl
 have hc:=h.c1
 have HH:Hid (Hd H R room nr xs w):=h
 clear h
 go_enter Tryz.func206,Tryz.ntmps206
 go_wp2_with (first|(go_at_call 220;refine hp.mono ?_;clear hp;rintro e w' ⟨rfl,hr,hk⟩))
 go_ret
 exact⟨rfl,HH.out.kr hr hk,hk⟩
theorem zgI(H R room:Nat)(nr n:Int)(xs:List Int)(w:World)(h:Hd H R room nr xs w)(hl:xs.length=room) :
  Calls Tryz.prog 206 #[.pointer (some ⟨H,0,none⟩),.int .i64 n] w fun e w'=>(∃v,e=.returned v∧RowZ w.heap.size w' v (xs.take ((xs.length+1) / 2)))∧Hd H R room nr (xs.drop ((xs.length+1) / 2)++[n]) w'∧Kr R w w':=by
 have hp:=zfS R room xs n w h.ring hl
 have hc:=h.c1
 have hll:(xs.drop ((xs.length+1) / 2)).length<room:=by have:=h.one;simp;omega
 have HH:Hid (Hd H R room nr xs w):=h
 have HF:Hid (∀w1,Rg R room xs w1→Calls Tryz.prog 209 #[.pointer (some ⟨R,0,none⟩)] w1 fun e w'=>(∃v,e=.returned v∧RowZ w1.heap.size w' v (xs.take ((xs.length+1) / 2)))∧Rg R room (xs.drop ((xs.length+1) / 2)) w'∧Kr R w1 w'):=fun w1=>zcV R room xs w1
 clear h hl
 generalize xs.take ((xs.length+1) / 2)=o at *
 generalize xs.drop ((xs.length+1) / 2)=r at *
 go_enter Tryz.func206,Tryz.ntmps206
 go_wp2_with fail
 refine hp.mono ?_
 clear hp hc
 rintro e w1 ⟨rfl,hr1,hk1⟩
 unfold errV
 have hH1:=HH.out.kr hr1 hk1
 have hc:=hH1.c1
 have hha:=HF.out w1 hr1
 have HH1:Hid (Hd H R room nr xs w1):=hH1
 clear hH1
 go_wp2_with fail
 refine hha.mono ?_
 clear hha hc
 rintro e w2 ⟨⟨v,rfl,hv⟩,hr2,hk2⟩
 have hH2:=HH1.out.kr hr2 hk2
 have hc:=hH2.c1
 have hp:=zcW R room _ n w2 hr2 hll
 have HH2:Hid (Hd H R room nr r w2):=hH2
 have HV:Hid (RowZ w1.heap.size w2 v o):=hv
 clear hH2 hv
 obtain⟨a,c,rfl⟩:∃a c,v=.slice a o.length c:=by obtain⟨b,c,hv,_⟩:=HV.out;exact⟨_,c,hv⟩
 go_wp2_with fail
 refine hp.mono ?_
 clear hp hc
 rintro e w3 ⟨rfl,hr3,hk3⟩
 go_wp2
 go_ret
 exact⟨⟨_,rfl,(HV.out.kr hk3 (HH1.out.ring.lt)).mono hk1.size⟩,HH2.out.kr hr3 hk3,(hk1.trans hk2).trans hk3⟩
def putO(room:Nat)(nr:Int)(xs:List Int):List Int:=if nr=-1∨xs.length<room then [] else xs.take ((xs.length+1) / 2)
def putR(room:Nat)(nr:Int)(xs:List Int):List Int:=if nr=-1 then xs else if xs.length<room then xs++[nr] else xs.drop ((xs.length+1) / 2)++[nr]
theorem zjj(H R room:Nat)(nr:Int)(xs:List Int)(n:Nat)(w:World)(h:Hd H R room nr xs w) :
  Calls Tryz.prog 184 #[.pointer (some ⟨H,0,none⟩),.int .i64 n] w fun e w'=>(∃v,e=.returned v∧OutZ w.heap.size w' v (putO room nr xs))∧Hd H R room n (putR room nr xs) w'∧Kh H R w w':=by
 have hn0:¬(n:Int)<0:=by omega
 have hc:=h.c0
 have hf:=h.row.frozen 0
 have HH:Hid (Hd H R room nr xs w):=h
 have hHlt:=h.row.lt
 by_cases hnr:nr=-1
 ·subst hnr
  clear h
  go_enter Tryz.func184,Tryz.ntmps184
  go_wp2
  go_ret
  refine⟨⟨_,rfl,Or.inl ⟨by simp[putO],rfl⟩⟩,?_,(Kh.refl _ _ _).setH _ _⟩
  simp only[putR,if_true]
  exact HH.out.set _ (Or.inr (by omega))
 ·have hne:(nr != -1)=true:=by simp[hnr]
  by_cases hl:xs.length<room
  ·have hp:=zgJ H R room nr nr xs w h hl
   have HL:Hid (¬nr=-1∧xs.length<room):=⟨hnr,hl⟩
   clear h hl hnr
   go_enter Tryz.func184,Tryz.ntmps184
   go_wp2_with fail
   refine hp.mono ?_
   clear hp hc hf
   rintro e w1 ⟨rfl,hH1,hk1⟩
   have hf:=hH1.row.frozen 0
   have hc:=hH1.c0
   have HH1:Hid (Hd H R room nr (xs++[nr]) w1):=hH1
   clear hH1
   go_wp2
   go_ret
   refine⟨⟨_,rfl,Or.inl ⟨by simp[putO,HL.out],rfl⟩⟩,?_,(hk1.kh H).setH _ _⟩
   simp only[putR,HL.out,if_false,if_true]
   exact HH1.out.set _ (Or.inr (by omega))
  ·have hp:=zgI H R room nr nr xs w h (by have:=h.ring.le;omega)
   have HL:Hid (¬nr=-1∧¬xs.length<room):=⟨hnr,hl⟩
   have hpo:putO room nr xs=xs.take ((xs.length+1) / 2):=by simp[putO,HL.out]
   have hpr:putR room nr xs=xs.drop ((xs.length+1) / 2)++[nr]:=by simp[putR,HL.out]
   rw[hpo,hpr]
   clear h hl hnr hpo hpr
   generalize xs.take ((xs.length+1) / 2)=o at *
   generalize xs.drop ((xs.length+1) / 2)++[nr]=r at *
   go_enter Tryz.func184,Tryz.ntmps184
   go_wp2_with fail
   refine hp.mono ?_
   clear hp hc hf
   rintro e w1 ⟨⟨v,rfl,hv⟩,hH1,hk1⟩
   have hf:=hH1.row.frozen 0
   have hc:=hH1.c0
   have HH1:Hid (Hd H R room nr r w1):=hH1
   have HV:Hid (OutZ w.heap.size w1 v o):=Or.inr hv
   obtain⟨a,c,rfl⟩:∃a c,v=.slice a o.length c:=by obtain⟨b,c,hv,_⟩:=hv;exact⟨_,c,hv⟩
   clear hH1 hv
   go_wp2
   go_ret
   exact⟨⟨_,rfl,HV.out.set hHlt _⟩,HH1.out.set _ (Or.inr (by omega)),(hk1.kh H).setH _ _⟩
theorem zi9(H R room:Nat)(nr:Int)(xs:List Int)(w:World)(h:Hd H R room nr xs w)(hnr:nr≠-1) :
  Calls Tryz.prog 157 #[.pointer (some ⟨H,0,none⟩)] w fun e w'=>e=.returned (.tuple #[.int .i64 nr,.nilIface])∧Hd H R room (-1) xs w'∧Kh H R w w':=by
 have hc:=h.c0
 have hf:=h.row.frozen 0
 have HH:Hid (Hd H R room nr xs w):=h
 have hne:(nr==-1)=false:=by simp[hnr]
 clear h hnr
 go_enter Tryz.func157,Tryz.ntmps157
 go_wp2
 go_ret2
 exact⟨rfl,HH.out.set _ (Or.inl rfl),(Kh.refl _ _ _).setH _ _⟩
theorem zjf(H R room:Nat)(x:Int)(xs:List Int)(w:World)(h:Hd H R room (-1) (xs++[x]) w) :
  Calls Tryz.prog 157 #[.pointer (some ⟨H,0,none⟩)] w fun e w'=>e=.returned (.tuple #[.int .i64 x,.nilIface])∧Hd H R room (-1) xs w'∧Kh H R w w':=by
 have hc:=h.c0
 have hc1:=h.c1
 have hp:=zio R room x xs w h.ring
 have HH:Hid (Hd H R room (-1) (xs++[x]) w):=h
 clear h
 go_enter Tryz.func157,Tryz.ntmps157
 go_wp2_with (first|(go_at_call 186;refine hp.mono ?_;clear hp;rintro e w' ⟨rfl,hr,hk⟩))
 go_ret2
 exact⟨rfl,HH.out.kr hr hk,hk.kh H⟩
theorem zja(H R room:Nat)(w:World)(h:Hd H R room (-1) [] w) :
  Calls Tryz.prog 157 #[.pointer (some ⟨H,0,none⟩)] w fun e w'=>e=.returned (.tuple #[.int .i64 0,errV 5])∧w'=w:=by
 have hc:=h.c0
 have hc1:=h.c1
 have hp:=zhe R room w h.ring
 clear h
 go_enter Tryz.func157,Tryz.ntmps157
 go_wp2_with (first|(go_at_call 186;refine hp.mono ?_;clear hp;rintro e w' ⟨rfl,rfl⟩))
 go_ret2
 exact⟨rfl,rfl⟩
theorem zjk(H R room:Nat)(nr:Int)(xs:List Int)(w:World)(h:Hd H R room nr xs w) :
  Calls Tryz.prog 188 #[.pointer (some ⟨H,0,none⟩)] w fun e w'=>(∃v,e=.returned v∧RowZ w.heap.size w' v (xs.take ((xs.length+1) / 2)))∧Hd H R room nr (xs.drop ((xs.length+1) / 2)) w'∧Kh H R w w':=by
 have hc1:=h.c1
 have hp:=zcV R room xs w h.ring
 have HH:Hid (Hd H R room nr xs w):=h
 clear h
 go_enter Tryz.func188,Tryz.ntmps188
 go_wp2_with (first|(go_at_call 209;refine hp.mono ?_;clear hp;rintro e w' ⟨⟨v,rfl,hv⟩,hr,hk⟩))
 go_ret
 exact⟨⟨_,rfl,hv⟩,HH.out.kr hr hk,hk.kh H⟩
end Go.Proofs.YtlfbdjeojgbniaaGreatDoor.Hnd
namespace Go.Proofs.YtlfbdjeojgbniaaGreatDoor.Spl
open Go.RowKit Go.Deep
theorem Tryz.info3:(Tryz.prog.info? 3).map (fun i=>(i.zero,i.size,i.bytes))=some (some (.int .i64 0),1,8):=by kernel_rfl
theorem Tryz.size3:(Tryz.prog.info? 3).map (·.size)=some 1:=by kernel_rfl
def RowI(b:Nat)(w:World)(v:Value)(zs:List Int):Prop:=w.ownsRow b 3 1 v zs.length (zs.map (Value.int .i64))
theorem RowI.of_blocks{b:Nat}{w w':World}{v:Value}{zs:List Int}(h:RowI b w v zs)(hk:∀k,v.ownBlock=some k→w'.heap[k]?=w.heap[k]?):RowI b w' v zs:=by
 rcases h.2 with⟨rfl,hn⟩|⟨g,cap,cur,rfl,hb,hh,hr⟩
 ·exact⟨h.1,Or.inl ⟨rfl,hn⟩⟩
 ·exact⟨h.1,Or.inr ⟨g,cap,cur,rfl,hb,(hk g rfl).trans hh,hr⟩⟩
theorem RowI.mono{b b':Nat}{w:World}{v:Value}{zs:List Int}(h:RowI b w v zs)(hb:b'≤b):RowI b' w v zs:=by
 rcases h.2 with hn|⟨g,cap,cur,hv,hg,r⟩
 ·exact⟨h.1,Or.inl hn⟩
 ·exact⟨h.1,Or.inr ⟨g,cap,cur,hv,qq2 hb hg,r⟩⟩
theorem RowI.low{b:Nat}{w:World}{v:Value}{zs:List Int}(h:RowI b w v zs){k:Nat}(hk:v.ownBlock=some k):b≤k∧k<w.heap.size:=World.ownsRow.lt h k hk
theorem RowI.cap{B:Nat}{w:World}{v:Value}{zs:List Int}(h:RowI B w v zs):∃a c,v=.slice a zs.length c∧zs.length≤c:=by
 rcases h.2 with⟨rfl,hn⟩|⟨g,cap,cur,rfl,_,_,hc,_⟩
 ·exact⟨none,0,by rw[hn],by omega⟩
 ·exact⟨_,_,rfl,hc⟩
theorem RowI.shape{B:Nat}{w:World}{v:Value}{zs:List Int}(h:RowI B w v zs):∃a c,v=.slice a zs.length c:=by
 obtain⟨a,c,hv,_⟩:=h.cap
 exact⟨a,c,hv⟩
theorem RowI.nil(b:Nat)(w:World):RowI b w (.slice none 0 0) []:=World.ownsRow_nil _ _ _ _
theorem RowI.alloc{b:Nat}{w:World}{v:Value}{zs:List Int}(h:RowI b w v zs)(o:Obj):RowI b (w.alloc o) v zs:=h.of_blocks (fun _ e=>qa _ _ _ (h.low e).2)
theorem RowI.cell{b g n c:Nat}{w:World}{zs:List Int}(h:RowI b w (.slice (some ⟨g,0,none⟩) n c) zs){k:Nat}(hk:k<zs.length):w.cell? ⟨g,k,none⟩=some (.int .i64 (zs.getD k 0)):=by
 have:=World.ownsRow.cells h (g:=g) rfl k (.int .i64 (zs.getD k 0)) (by simp[List.getD_eq_getElem?_getD,List.getElem?_eq_getElem hk])
 rwa [Addr.add_lit,Nat.zero_add]at this
theorem RowI.full{b:Nat}{w:World}{v:Value}{zs:List Int}(h:RowI b w v zs)(hz:0<zs.length):∃g c,v=.slice (some ⟨g,0,none⟩) zs.length c∧b≤g∧g<w.heap.size∧zs.length≤c∧c≤maxLen:=by
 rcases h.2 with⟨_,h0⟩|⟨g,cap,cur,hv,hb,hh,hc,hm,_⟩
 ·omega
 ·exact⟨g,cap,hv,hb,(Array.getElem?_eq_some_iff.1 hh).1,hc,hm⟩
def Rds(A:Nat→Prop)(w:World)(v:Value)(xs:List Int):Prop:=
 ∃a c,v=.slice a xs.length c∧xs.length≤c∧∀k,k<xs.length→∃b o,a=some ⟨b,o,none⟩∧A b∧b<w.heap.size∧w.cell? ⟨b,o+k,none⟩=some (.int .i64 (xs.getD k 0))
theorem Rds.mono{A A':Nat→Prop}{w:World}{v:Value}{xs:List Int}(h:Rds A w v xs)(hA:∀b,A b→A' b):Rds A' w v xs:=by
 obtain⟨a,c,hv,hl,h⟩:=h
 refine⟨a,c,hv,hl,fun k hk=>?_⟩
 obtain⟨b,o,ha,hb,hw⟩:=h k hk
 exact⟨b,o,ha,hA b hb,hw⟩
theorem Rds.shape{A:Nat→Prop}{w:World}{v:Value}{xs:List Int}(h:Rds A w v xs):∃a c,v=.slice a xs.length c:=by
 obtain⟨a,c,hv,_⟩:=h
 exact⟨a,c,hv⟩
theorem RowI.rds{b:Nat}{w:World}{v:Value}{xs:List Int}(h:RowI b w v xs):Rds (fun k=>v.ownBlock=some k) w v xs:=by
 obtain⟨a,c,rfl,hc⟩:=h.cap
 refine⟨a,c,rfl,hc,fun k hk=>?_⟩
 obtain⟨g,c',hv,hg⟩:=h.full (by omega)
 simp only[Value.slice.injEq]at hv
 obtain⟨rfl,_,rfl⟩:=hv
 exact⟨g,0,rfl,rfl,hg.2.1,by rw[Nat.zero_add];exact h.cell hk⟩
structure Ks (S:Nat) (o:Option Nat) (w w':World):Prop where
 os:w'.os=w.os
 tape:w'.tape=w.tape
 output:w'.output=w.output
 size:w.heap.size≤w'.heap.size
 block:∀k,k<w.heap.size→k≠S→o≠some k→w'.heap[k]?=w.heap[k]?
theorem Ks.refl(S:Nat)(o:Option Nat)(w:World):Ks S o w w:=⟨rfl,rfl,rfl,qq1 _,fun _ _ _ _=>rfl⟩
theorem Ks.trans{S:Nat}{o o':Option Nat}{a b c:World}(h:Ks S o a b)(k:Ks S o' b c)(ho:∀j,o'=some j→o=some j∨a.heap.size≤j):Ks S o a c:=
 ⟨k.os.trans h.os,k.tape.trans h.tape,k.output.trans h.output,qq2 h.size k.size,fun i hi hS hO=>by
  refine(k.block i (qq3 hi h.size) hS (fun e=>?_)).trans (h.block i hi hS hO)
  rcases ho i e with h1|h1
  ·exact hO h1
  ·omega⟩
theorem Ks.setS{S:Nat}{o:Option Nat}{w0 w:World}(h:Ks S o w0 w)(j:Nat)(u:Value):Ks S o w0 (w.setCell ⟨S,j,none⟩ u):=
 ⟨h.os,h.tape,h.output,by simpa using h.size,fun k hk hS hO=>(qq5 _ _ _ _ (by show k≠S;exact hS)).trans (h.block k hk hS hO)⟩
theorem Ks.grown{S:Nat}{o o':Option Nat}{w0 w w':World}(h:Ks S o w0 w)(hg:w.grownBy w' o')(ho:∀j,o'=some j→o=some j∨w0.heap.size≤j):Ks S o w0 w':=
 h.trans ⟨hg.os,hg.tape,hg.output,hg.size,fun k hk _ hO=>hg.block k hk (fun e=>hO e.symm)⟩ ho
structure Sp (S room:Nat) (xs:List Int) (v:Value) (w:World):Prop where
 cells:w.heap[S]?=some (.cells #[v,.int .i64 room] 161 (0,0))
 row:RowI (S+1) w v xs
 le:xs.length≤60
theorem Sp.lt{S room:Nat}{xs:List Int}{v:Value}{w:World}(h:Sp S room xs v w):S<w.heap.size:=(Array.getElem?_eq_some_iff.1 h.cells).1
theorem Sp.c0{S room:Nat}{xs:List Int}{v:Value}{w:World}(h:Sp S room xs v w):w.cell? ⟨S,0,none⟩=some v:=by simp[World.cell?,h.cells]
theorem Sp.fz{S room:Nat}{xs:List Int}{v:Value}{w:World}(h:Sp S room xs v w)(j:Nat):w.frozen? ⟨S,j,none⟩=false:=by simp[World.frozen?,h.cells]
theorem Sp.of_blocks{S room:Nat}{xs:List Int}{v:Value}{w w':World}(h:Sp S room xs v w)(h1:w'.heap[S]?=w.heap[S]?)(h2:∀k,v.ownBlock=some k→w'.heap[k]?=w.heap[k]?):Sp S room xs v w':=
 ⟨h1.trans h.cells,h.row.of_blocks h2,h.le⟩
theorem Sp.later{S room:Nat}{xs:List Int}{v:Value}{w w':World}(h:Sp S room xs v w)(hb:Below w.heap.size w w'):Sp S room xs v w':=h.of_blocks (hb.block _ h.lt) (fun _ e=>hb.block _ (h.row.low e).2)
theorem Sp.set{S room:Nat}{xs ys:List Int}{v v':Value}{w w1:World}(h:Sp S room xs v w)(h1:w1.heap[S]?=w.heap[S]?)(hr:RowI (S+1) w1 v' ys)(hy:ys.length≤60):Sp S room ys v' (w1.setCell ⟨S,0,none⟩ v'):=by
 have hS:w1.heap[S]?=some (.cells #[v,.int .i64 room] 161 (0,0)):=h1.trans h.cells
 refine⟨?_,hr.of_blocks (fun k e=>qq5 _ _ _ _ (by show k≠S;have:=(hr.low e).1;omega)),hy⟩
 rw[setCell_eq_setRow w1 S 0 _ 161 (0,0) v' hS,setRow_heap w1 S _ _ 161 _ hS]
 rfl
theorem zY(ty:TypeId)(b:Option Addr)(n c:Nat)(a:Option Addr)(c':Nat)(w:World)(h:n≤c):(Builtin.append_ #[73,73] ty #[.slice b n c,.slice a 0 c']).run Tryz.prog w=.ok (.slice b n c) w:=by
 unfold Builtin.append_
 cases b with
 | none=>
  cases a with
  | none=>go_simp
  | some a=>go_simp
 | some b=>
  cases a with
  | none=>go_simp
  | some a=>go_simp
theorem zv(ty:TypeId){B:Nat}{A:Nat→Prop}{v x:Value}{zs ys:List Int}{w:World}(hv:RowI B w v zs)(hx:Rds A w x ys)(hb:zs.length+ys.length≤1000)(hB:B≤w.heap.size) :
  ∃v' w',(Builtin.append_ #[73,73] ty #[v,x]).run Tryz.prog w=.ok v' w'∧RowI B w' v' (zs++ys)∧w.grownBy w' v.ownBlock∧(v'.ownBlock=v.ownBlock∨v'.ownBlock=some w.heap.size):=by
 obtain⟨a,c,rfl,hc,hx⟩:=hx
 by_cases hy:ys=[]
 ·subst hy
  obtain⟨b,d,rfl,hd⟩:=hv.cap
  refine⟨_,w,zY ty b _ d a c w hd,by rw[List.append_nil];exact hv,⟨rfl,rfl,rfl,qq1 _,fun _ _ _=>rfl⟩,Or.inl rfl⟩
 ·have hpos:0<ys.length:=List.length_pos_iff.2 hy
  obtain⟨i3,hi3,hz0,hz1,hz2⟩:=info_parts Tryz.info3
  obtain⟨g,o,rfl,_⟩:=hx 0 hpos
  have hcl:∀j u,(ys.map (Value.int .i64))[j]?=some u→w.cell? ((⟨g,o,none⟩:Addr).add j)=some u:=fun j u hu=>by
   have hj:j<ys.length:=by have:=(List.getElem?_eq_some_iff.1 hu).1;simpa using this
   obtain⟨g',o',e,_,_,hc⟩:=hx j hj
   simp only[Option.some.injEq,Addr.mk.injEq,and_true]at e
   obtain⟨rfl,rfl⟩:=e
   rw[Addr.add_lit,hc]
   simpa[List.getD_eq_getElem?_getD,List.getElem?_eq_getElem hj]using hu
  obtain⟨v',w',h1,h2,h3,h4,h5⟩:=run_append_own_at (P:=Tryz.prog) w B 73 ty 3 i3 (.int .i64 0) 1 8 Tryz.underlying73 hi3 hz0 hz1 hz2 rfl (by decide) v zs.length (zs.map (Value.int .i64)) hv ⟨g,o,none⟩ ys.length c (ys.map (Value.int .i64)) (by simp) hcl (by intro u hu;obtain⟨x,_,rfl⟩:=List.mem_map.1 hu;rfl) (by unfold maxLen;omega) (by omega) hB
  refine⟨v',w',h1,?_,h3,h5⟩
  show w'.ownsRow B 3 1 v' (zs++ys).length ((zs++ys).map (Value.int .i64))
  rw[qb,List.map_append]
  exact h2
theorem ze{ops:Array Oper}{rest:List Oper}{o:Oper}{a:Act}{Q:Exit→Act→World→Prop}{w:World}(hgd:o.guard=none)(s x:Operand)(ho:o.op=.call { callee:=.builtin .append,args:=#[s,x],argTypes:=#[73,73] })
  (B:Nat) (A:Nat→Prop) (v xv:Value) (zs ys:List Int) (hs:a.eval s=v) (hx:a.eval x=xv) (hv:RowI B w v zs) (hxv:Rds A w xv ys) (hb:zs.length+ys.length≤1000) (hB:B≤w.heap.size)
  (h:∀v' w',RowI B w' v' (zs++ys)→w.grownBy w' v.ownBlock→(v'.ownBlock=v.ownBlock∨v'.ownBlock=some w.heap.size)→wpList Tryz.prog ops Q rest (a.put o.dst v') w'):wpList Tryz.prog ops Q (o::rest) a w:=by
 refine wpList_plain hgd fun K hK=>?_
 obtain⟨v',w',hr,h2,h3,h4⟩:=zv o.type hv hxv hb hB
 unfold Oper.wp execOp
 simp only[ho,resolve,invoke,builtin,Sem.run_bind,Sem.run_pure,Result.andThen_ok,List.map_toArray,List.map_cons,List.map_nil,hs,hx,hr]
 exact hK _ _ (h v' w' h2 h3 h4)
end Go.Proofs.YtlfbdjeojgbniaaGreatDoor.Spl
namespace Go.Proofs
open Go.Shelf
def Tryz.laysNm223_ren:Go.Shelf.Ren:=⟨fun|23=>187|n=>n,fun|22=>73|3=>3|4=>4|0=>0|n=>n,fun|n=>n⟩
theorem Tryz.laysNm223:Go.Proofs.Lays2.n23 Tryz.prog Tryz.laysNm223_ren:={
 mixed:=by kernel_rfl
 f23:=Tryz.func187.trans (congrArg some (by kernel_rfl))
 t0:=Tryz.underlying0
 a0:=Tryz.isAgg0
 z0:=Tryz.sizeOf0
 v0:=Tryz.zeroValue0
 t3:=Tryz.underlying3
 a3:=Tryz.isAgg3
 z3:=Tryz.sizeOf3
 v3:=Tryz.zeroValue3
 t4:=Tryz.underlying4
 a4:=Tryz.isAgg4
 z4:=Tryz.sizeOf4
 v4:=Tryz.zeroValue4
 t22:=Tryz.underlying73
 a22:=Tryz.isAgg73
 z22:=Tryz.sizeOf73
 v22:=Tryz.zeroValue73
 i3:=by kernel_rfl }
open Go.RowKit Go.Lib Go.Sort in
theorem Tryz.slices_Delete_int_cells(b off n c i j:Nat)(zs:List Int)(w:World)(hz:n≤zs.length)(hcap:n≤c)(hm:c≤9223372036854775807)(hij:i≤j)(hj:j≤n)(hc:∀j,j<zs.length→w.cell? ⟨b,off+j,none⟩=some (.int .i64 (zs.getD j 0)))(hf:∀j,j<n→w.frozen? ⟨b,off+j,none⟩=false) :
  Calls Tryz.prog 187 #[.slice (some ⟨b,off,none⟩) n c,.int .i64 i,.int .i64 j] w fun e w'=>e=.returned (.slice (some ⟨b,off,none⟩) (n-(j-i)) c)∧∃q,w'=(w.drewN q).setCells b off (((zs.take n).take i++(zs.take n).drop j++List.replicate (j-i) 0).map (Value.int .i64)):=Any.slices_Delete_int_cells Tryz.laysNm223 b off n c i j zs w hz hcap hm hij hj hc hf
open Go.RowKit Go.Lib in
theorem Tryz.slices_Delete_int_empty(a:Option Addr)(c:Nat)(w:World) :
  Calls Tryz.prog 187 #[.slice a 0 c,.int .i64 0,.int .i64 0] w fun e w'=>e=.returned (.slice a 0 c)∧w'=w:=Any.slices_Delete_int_empty Tryz.laysNm223 a c w
end Go.Proofs
namespace Go.Proofs.YtlfbdjeojgbniaaGreatDoor.Spl
open Go.RowKit Go.Deep
theorem zn(g:Nat):∀(vs:List Value) (o:Nat) (w:World),w.grownBy (w.setCells g o vs) (some g)
 | [],_,w=>⟨rfl,rfl,rfl,qq1 _,fun _ _ _=>rfl⟩
 | v::r,o,w=>by
  have h1:w.grownBy (w.setCell ⟨g,o,none⟩ v) (some g):=⟨rfl,rfl,rfl,by simp,fun k _ hne=>qq5 _ _ _ _ (by show k≠g;intro e;exact hne (by rw[e]))⟩
  exact h1.trans (zn g r (o+1) _)
theorem yg(g:Nat)(t:TypeId):∀(vs:List Value) (o:Nat) (w:World) (cur:Array Value),w.heap[g]?=some (.cells cur t (0,0))→∃cur',(w.setCells g o vs).heap[g]?=some (.cells cur' t (0,0))∧cur'.size=cur.size
 | [],_,_,cur,h=>⟨cur,h,rfl⟩
 | v::r,o,w,cur,h=>by
  have h1:(w.setCell ⟨g,o,none⟩ v).heap[g]?=some (.cells (cur.setIfInBounds o v) t (0,0)):=by
   rw[setCell_eq_setRow w g o cur t (0,0) v h,setRow_heap w g cur _ t _ h]
  obtain⟨cur',h2,h3⟩:=yg g t r (o+1) _ _ h1
  exact⟨cur',h2,by rw[h3];simp⟩
theorem RowI.cut{b g n c:Nat}{w w':World}{zs ys:List Int}(h:RowI b w (.slice (some ⟨g,0,none⟩) n c) zs){cur':Array Value}{cur:Array Value}(hc:w.heap[g]?=some (.cells cur 3 (0,0)))(h':w'.heap[g]?=some (.cells cur' 3 (0,0)))(hs:cur'.size=cur.size)(hy:ys.length≤zs.length)(hcell:∀k,k<ys.length→w'.cell? ⟨g,k,none⟩=some (.int .i64 (ys.getD k 0))):RowI b w' (.slice (some ⟨g,0,none⟩) ys.length c) ys:=by
 rcases h.2 with⟨hv,_⟩|⟨g',cap,cur2,hv,hb,hh,hcp,hm,hsz,_⟩
 ·simp at hv
 ·simp only[Value.slice.injEq,Option.some.injEq,Addr.mk.injEq,and_true]at hv
  obtain⟨rfl,rfl,rfl⟩:=hv
  rw[hc]at hh
  simp only[Option.some.injEq,Obj.cells.injEq,and_true]at hh
  obtain rfl:=hh
  refine⟨by simp,Or.inr ⟨g,c,cur',rfl,hb,h',by omega,hm,by omega,?_⟩⟩
  apply List.ext_getElem?
  intro k
  rw[Nat.mul_one,List.getElem?_take]
  by_cases hk:k<ys.length
  ·have h1:=hcell k hk
   rw[cell_of_row w' g k cur' 3 (0,0) h']at h1
   rw[if_pos hk,Array.getElem?_toList,h1]
   simp[List.getD_eq_getElem?_getD,List.getElem?_eq_getElem hk]
  ·rw[if_neg hk,List.getElem?_eq_none (by simpa using hk)]
theorem xN(b:Nat)(v:Value)(zs:List Int)(j:Nat)(w:World)(h:RowI b w v zs)(hj:j≤zs.length) :
  Calls Tryz.prog 187 #[v,.int .i64 0,.int .i64 j] w fun e w'=>∃v',e=.returned v'∧RowI b w' v' (zs.drop j)∧w.grownBy w' v.ownBlock∧v'.ownBlock=v.ownBlock:=by
 by_cases hz:zs=[]
 ·subst hz
  obtain rfl:j=0:=by simpa using hj
  obtain⟨a,c,rfl⟩:=h.shape
  refine(Tryz.slices_Delete_int_empty a c w).mono ?_
  rintro e w' ⟨rfl,rfl⟩
  exact⟨_,rfl,h,⟨rfl,rfl,rfl,qq1 _,fun _ _ _=>rfl⟩,rfl⟩
 ·obtain⟨g,c,rfl,hb,hg,hc,hm⟩:=h.full (List.length_pos_iff.2 hz)
  obtain⟨cur,hcur⟩:∃cur,w.heap[g]?=some (.cells cur 3 (0,0)):=by
   rcases h.2 with⟨hv,_⟩|⟨g',cap,cur2,hv,_,hh,_⟩
   ·simp at hv
   ·simp only[Value.slice.injEq,Option.some.injEq,Addr.mk.injEq,and_true]at hv
    obtain⟨rfl,_⟩:=hv
    exact⟨_,hh⟩
  have hfz:∀k,w.frozen? ⟨g,k,none⟩=false:=fun k=>by simp[World.frozen?,hcur]
  refine(Tryz.slices_Delete_int_cells g 0 zs.length c 0 j zs w (qq1 _) hc (by unfold maxLen at hm;omega) (Nat.zero_le _) hj (fun k hk=>by rw[Nat.zero_add];exact h.cell hk) (fun k _=>hfz _)).mono ?_
  rintro e w' ⟨rfl,q,rfl⟩
  have hl:zs.length-(j-0)=(zs.drop j).length:=by simp
  rw[hl]
  obtain⟨cur',hc1,hc2⟩:=yg g 3 (((zs.take zs.length).take 0++(zs.take zs.length).drop j++List.replicate (j-0) 0).map (Value.int .i64)) 0 (w.drewN q) cur hcur
  have hL:(((zs.take zs.length).take 0++(zs.take zs.length).drop j++List.replicate (j-0) 0).map (Value.int .i64)).length=zs.length:=by simp;omega
  refine⟨_,rfl,h.cut hcur hc1 hc2 (by simp) (fun k hk=>?_),⟨(zn g _ 0 _).os,(zn g _ 0 _).tape,(zn g _ 0 _).output,(zn g _ 0 (w.drewN q)).size,(zn g _ 0 (w.drewN q)).block⟩,rfl⟩
  have hk':k<zs.length-j:=by simpa using hk
  have:=World.cell?_setCells_in g (((zs.take zs.length).take 0++(zs.take zs.length).drop j++List.replicate (j-0) 0).map (Value.int .i64)) 0 (w.drewN q) (fun i hi=>by rw[Nat.zero_add];have:=h.cell (k:=i) (by omega);show(w.cell? _).isSome=true;rw[this];rfl) k (by omega)
  rw[Nat.zero_add]at this
  rw[this]
  simp only[List.getElem_map,List.take_length,List.take_zero,List.nil_append]
  rw[List.getElem_append_left (by simpa using hk)]
  simp[List.getD_eq_getElem?_getD]
  rw[qq7 (by omega)]
  rfl
end Go.Proofs.YtlfbdjeojgbniaaGreatDoor.Spl
namespace Go.Proofs.YtlfbdjeojgbniaaGreatDoor.Spl
open Go.RowKit Go.Deep
theorem zaJ(room:Nat)(w:World)(h1:1≤room)(h2:room≤16):Calls Tryz.prog 43 #[.int .i64 room] w fun e w'=>e=.returned (.tuple #[.pointer (some ⟨w.heap.size,0,none⟩),.nilIface])∧Sp w.heap.size room [] (.slice none 0 0) w'∧Below w.heap.size w w':=by
 have g1:¬(room:Int)<1:=by omega
 have g2:¬(16:Int)<(room:Int):=by omega
 go_enter Tryz.func43,Tryz.ntmps43
 go_wp2
 go_ret2
 refine⟨rfl,⟨?_,RowI.nil _ _,by simp⟩,(qq4 _ _).alloc (qq1 _) _⟩
 exact heap_alloc_new w _
def Near(n:Nat)(v v':Value):Prop:=∀k,v'.ownBlock=some k→v.ownBlock=some k∨n≤k
theorem zje(S room:Nat)(xs ys:List Int)(v lv:Value)(A:Nat→Prop)(w:World)(h:Sp S room xs v w)(hl:Rds A w lv ys)(hf:xs.length+ys.length≤60) :
  Calls Tryz.prog 45 #[.pointer (some ⟨S,0,none⟩),lv] w fun e w'=>e=.returned .nilIface∧∃v',Sp S room (xs++ys) v' w'∧Ks S v.ownBlock w w'∧Near w.heap.size v v':=by
 have HS:Hid (Sp S room xs v w):=h
 have HL:Hid (Rds A w lv ys):=hl
 have hc:=h.c0
 have hle:=h.le
 have hlt:=h.lt
 have hz:=h.fz 0
 obtain⟨a,c,rfl⟩:=h.row.shape
 obtain⟨a',c',rfl⟩:=hl.shape
 have hgt:¬(60:Int)-xs.length<ys.length:=by omega
 clear h hl
 go_enter Tryz.func45,Tryz.ntmps45
 go_wp2_with (first|(at_builtin;refine ze rfl (.tmp 19) (.tmp 20) rfl (S+1) A (.slice a xs.length c) (.slice a' ys.length c') xs ys rfl rfl HS.out.row HL.out (by omega) (by omega) ?_;intro v2 w2 hown hgr hat;obtain⟨a2,c2,rfl⟩:=hown.shape;rw[qb]at hown hat;have hbk:=hgr.block S hlt (fun e=>by have:=(HS.out.row.low e.symm).1;omega);have hz2:=(World.frozen?_of_block (a:=⟨S,0,none⟩) hbk).trans hz;have hc2:=(qq9 (a:=⟨S,0,none⟩) hbk).trans hc;clear hc hz))
 go_ret
 refine⟨rfl,_,HS.out.set hbk hown (by simp;omega),((Ks.refl _ _ _).grown hgr (fun j e=>Or.inl e)).setS _ _,fun k e=>?_⟩
 rcases hat with h1|h1
 ·exact Or.inl (h1.symm.trans e)
 ·rw[h1]at e
  simp only[Option.some.injEq]at e
  exact Or.inr (by omega)
end Go.Proofs.YtlfbdjeojgbniaaGreatDoor.Spl
namespace Go.Proofs.YtlfbdjeojgbniaaGreatDoor.Spl
open Go.RowKit Go.Deep
theorem j5(n:Nat):(madeCells #[.int .i64 0] n).size=n:=by simp[madeCells]
theorem RowI.whole(w:World)(N n:Nat)(ys:List Int)(hn:ys.length=n)(h60:n≤60)(h:w.heap[N]?=some (.cells (ys.map (Value.int .i64)).toArray 3 (0,0))):RowI N w (.slice (some ⟨N,0,none⟩) n n) ys:=by
 subst hn
 exact⟨by simp,Or.inr ⟨N,_,_,rfl,qq1 _,h,qq1 _,by unfold maxLen;omega,by simp,by simp[List.take_of_length_le]⟩⟩
set_option maxHeartbeats 1000000 in
theorem zjd(S room most:Nat)(xs:List Int)(v:Value)(w:World)(h:Sp S room xs v w)(h1:1≤most)(h2:most≤60) :
  Calls Tryz.prog 159 #[.pointer (some ⟨S,0,none⟩),.int .i64 most] w fun e w'=>∃lv v',e=.returned (.tuple #[lv,.nilIface])∧RowI w.heap.size w' lv (xs.take most)∧Sp S room (xs.drop most) v' w'∧Ks S v.ownBlock w w'∧Near w.heap.size v v'∧v'.ownBlock≠lv.ownBlock:=by
 have HS:Hid (Sp S room xs v w):=h
 have hc:=h.c0
 have hle:=h.le
 have hlt:=h.lt
 obtain⟨a,c,rfl⟩:=h.row.shape
 obtain⟨n,hn⟩:∃n,n=min most xs.length:=⟨_,rfl⟩
 have et:xs.take most=xs.take n:=by rw[hn,List.take_eq_take_min]
 have ed:xs.drop most=xs.drop n:=by
  rcases Nat.le_total most xs.length with h|h
  ·rw[hn,Nat.min_eq_left h]
  ·rw[hn,Nat.min_eq_right h,List.drop_eq_nil_of_le h,List.drop_length]
 rw[et,ed]
 have hmin:min (most:Int) (xs.length:Int)=(n:Int):=by omega
 have hn60:n≤60:=by omega
 have hnx:n≤xs.length:=by omega
 have g1:¬(most:Int)<1:=by omega
 have g2:¬(60:Int)<(most:Int):=by omega
 have hmk:=fun wx=>run_make_row' (P:=Tryz.prog) 73 3 (.int .i64 0) 8 Tryz.underlying73 Tryz.info3 rfl .i64 .i64 n (by omega) (by omega) wx
 obtain⟨cs,hcs⟩:∃cs,cs=(xs.take n).map (Value.int .i64):=⟨_,rfl⟩
 have HC:Hid (cs=(xs.take n).map (Value.int .i64)):=hcs
 have hcl:cs.length=n:=by rw[hcs];simp;omega
 obtain⟨z,hz⟩:∃z,z=(madeCells #[.int .i64 0] n).toList:=⟨_,rfl⟩
 have HZ:Hid (z.length=n):=by show z.length=n;rw[hz,Array.length_toList,j5]
 have hg:(w.alloc (.cells (madeCells #[.int .i64 0] n) 3)).heap[w.heap.size]?=some (.cells z.toArray 3 (0,0)):=by rw[hz,Array.toArray_toList];exact heap_alloc_new w _
 have HG:Hid ((w.alloc (.cells (madeCells #[.int .i64 0] n) 3)).heap[w.heap.size]?=some (.cells z.toArray 3 (0,0))):=hg
 have hsr:0<cs.length→∃ad,a=some ad∧∀j u,cs[j]?=some u→(w.alloc (.cells (madeCells #[.int .i64 0] n) 3)).cell? (ad.add j)=some u:=by
  intro hp
  obtain⟨g,c',hv,hgb,hgs,_⟩:=h.row.full (by omega)
  simp only[Value.slice.injEq]at hv
  obtain⟨rfl,_,rfl⟩:=hv
  refine⟨_,rfl,fun j u hu=>?_⟩
  have hj:j<n:=by have:=(List.getElem?_eq_some_iff.1 hu).1;omega
  rw[Addr.add_lit,Nat.zero_add,qq9 (qa _ _ _ hgs),h.row.cell (by omega)]
  rw[hcs]at hu
  simp[hj,List.getElem?_eq_getElem (show j<xs.length by omega)]at hu
  simp[List.getD_eq_getElem?_getD,List.getElem?_eq_getElem (show j<xs.length by omega),hu]
 have HSR:Hid (0<cs.length→∃ad,a=some ad∧∀j u,cs[j]?=some u→(w.alloc (.cells (madeCells #[.int .i64 0] n) 3)).cell? (ad.add j)=some u):=hsr
 have H1:Hid (∀u∈cs,u.oneCell'=true):=by
  intro u hu
  rw[hcs]at hu
  obtain⟨x,_,rfl⟩:=List.mem_map.1 hu
  rfl
 have HL:Hid (cs.length=n):=hcl
 clear h hn et ed hcs hcl hz hg hsr
 go_enter Tryz.func159,Tryz.ntmps159
 go_wp2_with (first|(refine wpList_copy_splice rfl (.tmp 22) (.tmp 26) 73 73 rfl 3 Tryz.underlying73 Tryz.size3 (some ⟨w.heap.size,0,none⟩) a n n xs.length c rfl rfl w.heap.size 0 z 3 HG.out cs (HL.out.trans (Nat.min_eq_right hnx).symm) (fun hp=>⟨rfl,HSR.out hp⟩) (by have:=HL.out;have:=HZ.out;omega) H1.out w.heap.size w ((qq4 _ _).alloc (qq1 _) _) (qq1 _) ?_;intro w2 HG2 hB2;have hS2:=HS.out.later hB2;have hc2:=hS2.c0;have HS2:Hid (Sp S room xs (.slice a xs.length c) w2):=hS2;have HB2:Hid (Below w.heap.size w w2):=hB2;have hdel:=xN (S+1) _ xs n w2 hS2.row hnx;clear hc hS2 hB2 hmk)|(go_at_call 187;refine hdel.mono ?_;clear hdel;rintro e w3 ⟨v3,rfl,hr3,hg3,ho3⟩;obtain⟨a3,c3,rfl⟩:=hr3.shape;have hbk:=hg3.block S HS2.out.lt (fun e=>by have:=(HS2.out.row.low e.symm).1;omega);have hz3:=(World.frozen?_of_block (a:=⟨S,0,none⟩) hbk).trans (HS2.out.fz 0);have hc3:=(qq9 (a:=⟨S,0,none⟩) hbk).trans HS2.out.c0;have HR3:Hid (RowI (S+1) w3 (.slice a3 (xs.drop n).length c3) (xs.drop n)):=hr3;clear hr3 hc2))
 go_ret2
 have hr3:=HR3.out
 rw[List.length_drop]at hr3 ho3
 have hkw:Ks S (Value.slice a xs.length c).ownBlock w w2:=⟨HB2.out.os,HB2.out.tape,HB2.out.output,HB2.out.size,fun k hk _ _=>HB2.out.block k hk⟩
 have hsp:splice z 0 cs=(xs.take n).map (Value.int .i64):=by
  unfold splice
  rw[List.take_zero,List.nil_append,Nat.zero_add,List.drop_eq_nil_of_le (by have:=HL.out;have:=HZ.out;omega),List.append_nil]
  exact HC.out
 have hN:∀k,(Value.slice a xs.length c).ownBlock=some k→k<w.heap.size:=fun k e=>(HS.out.row.low e).2
 have hNw:w.heap.size<w2.heap.size:=by
  have:=HG2.out
  exact(Array.getElem?_eq_some_iff.1 this).1
 refine⟨_,_,rfl,(RowI.whole w2 w.heap.size n (xs.take n) (by simp;omega) hn60 (by rw[←hsp];exact HG2.out)).of_blocks (fun k e=>?_),HS2.out.set hbk hr3 (by simp;omega),(hkw.grown hg3 (fun j e=>Or.inl e)).setS _ _,fun k e=>Or.inl (ho3.symm.trans e),fun e=>?_⟩
 ·simp only[Value.ownBlock,Option.some.injEq]at e
  subst e
  refine(qq5 _ _ _ _ (by show w.heap.size≠S;omega)).trans (hg3.block _ hNw (fun e=>?_))
  have:=hN _ e.symm
  omega
 ·have:=hN w.heap.size (by rw[←ho3];exact e)
  omega
end Go.Proofs.YtlfbdjeojgbniaaGreatDoor.Spl

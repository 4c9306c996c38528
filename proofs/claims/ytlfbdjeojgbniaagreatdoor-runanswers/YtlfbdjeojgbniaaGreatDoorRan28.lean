import Derived.Test.YtlfbdjeojgbniaaGreatDoorRan27
namespace Go.Proofs.YtlfbdjeojgbniaaGreatDoor
section
open Go.RowKit Go.Deep
open Spl.Dsp (Gq gArr)
def LvAt(own:Nat→Nat)(c:Nat)(oa:Option Addr)(ls:List Nat)(w:World):Prop:=
 ∀j,j<ls.length→∃ob oo,oa=some ⟨ob,oo,none⟩∧ob<w.heap.size∧own ob=c∧w.cell? ⟨ob,oo+j,none⟩=some (.int .i64 ((ls.getD j 0:Nat):Int))
theorem LvAt.kc{own:Nat→Nat}{C:Nat→Prop}{c d:Nat}{oa:Option Addr}{ls:List Nat}{w w':World}(h:LvAt own c oa ls w)(hk:Kc own C w w')(hc:¬C c):LvAt (relabel own w.heap.size d) c oa ls w':=fun j hj=>by
 obtain⟨ob,oo,ha,hlt,hl,hcell⟩:=h j hj
 exact⟨ob,oo,ha,qq3 hlt hk.size,by rw[za hlt];exact hl,(qq9 (a:=⟨ob,oo+j,none⟩) (hk.block ob hlt (by rw[hl];exact hc))).trans hcell⟩
theorem zg2{ls:List Nat}{k:Nat}(h1:1≤k)(hk:k<ls.length):(Zb ls).tail.take k=(Zb ls).tail.take (k-1)++[((ls.getD k 0:Nat):Int)]:=by
 obtain⟨m,rfl⟩:∃m,k=m+1:=⟨k-1,by omega⟩
 have hl:m<(Zb ls).tail.length:=by rw[List.length_tail,zd];omega
 rw[Nat.add_sub_cancel,zag hl]
 congr 2
 rw[qq6,List.getElem?_tail,←qq6,zL]
variable (M room hands:Nat) (ts:Zl) (p:Value) (g:Gs) (Bd:Bs) (w0 w:World) (h pick:Nat)
set_option maxRecDepth 100000 in
set_option maxHeartbeats 8000000 in
theorem zev(hD:DgE M room hands ts p g Bd w0 w)(hh:h<hands)(h6:hands≤6)(h16:room≤16)(hr1:1≤room)(hz:(h:Int)∉g.zz)(ht:¬0≤g.task h)(hn:g.near h=-1)(hr:g.ring h=[])(hs:g.sp=[])(_hp63:pick<9223372036854775808)(o:Nat)(hod:o=pick % hands)(hoh':o≠h)(ls:List Nat)(hls:Zb ls=(g.ring o).take (((g.ring o).length+1) / 2))(hlp:0<ls.length)(hll:ls.length≤16)(hlt:∀x,x∈ls→x<ts.length) :
  Calls Tryz.prog 36 #[.pointer (some ⟨M,0,none⟩),.int .i64 h,.int .i64 pick] w fun e w'=>(∃v,e=.returned v∧RowD w.heap.size w' v [(2,(h:Int),((ls.getD 0 0:Nat):Int),(o:Int))])∧DgE M room hands ts p (takes ts (puts room { g with ring:=updG g.ring o ((g.ring o).drop (((g.ring o).length+1) / 2)) } h (Zb ls).tail) h ((ls.getD 0 0:Nat):Int)) Bd w0 w':=by
 obtain⟨own,gq,vf,vh,HB,hc,DB,dc,Hk,vk,rfl,hD⟩:=hD
 have hin:=inZ hD.row hD.zle (h:Int)
 rw[decide_eq_false hz]at hin
 obtain⟨-,-,hc2,hc3,hc7,-⟩:=hD.c
 obtain⟨hc1,hcp⟩:=hD.hands1 hh
 obtain⟨tb,tc,wb,wc,htv,hwv,hct,-⟩:=hD.tw hh
 rw[htv]at hc2
 have htk:=hD.takeNone hh hn hr
 have hget:=hD.get1 h16
 rw[hs]at hget
 simp only[List.take_nil,List.tail_nil]at hget
 have hhi:(h:Int)<(hands:Int):=by omega
 generalize g.task h=t at *
 have hoh:o<hands:=by rw[hod];exact Nat.mod_lt _ (by omega)
 have hmod:(pick:Int).tmod (hands:Int)=(o:Int):=by rw[hod];exact Int.ofNat_tmod pick hands
 have hh0:((hands:Int)==0)=false:=by simp;omega
 have hho':(o:Int)<(hands:Int):=by omega
 have HS:Hid ({ g with sp:=[] }=g):=by show _=_;rw[←hs]
 have hne:((o:Int) != (h:Int))=true:=by rw[bne_iff_ne];omega
 obtain⟨g1,hg1⟩:∃g1:Gs,g1={ g with ring:=updG g.ring o ((g.ring o).drop (((g.ring o).length+1) / 2)) }:=⟨_,rfl⟩
 have HG1:Hid (g1={ g with ring:=updG g.ring o ((g.ring o).drop (((g.ring o).length+1) / 2)) }):=hg1
 have HLS:Hid (Zb ls=(g.ring o).take (((g.ring o).length+1) / 2)):=hls
 have HLT:Hid (∀x,x∈ls→x<ts.length):=hlt
 rw[←hg1]
 have hl0:((ls.length:Int)==0)=false:=by rw[beq_eq_false_iff_ne];omega
 clear hD hz hod hg1 hls hlt
 go_enter Tryz.func36,Tryz.ntmps36
 go_wp2_with (first|(go_at_call 68;refine hin.mono ?_;clear hin;rintro e w ⟨rfl,rfl⟩)|(go_at_call 71;refine htk.mono ?_;clear htk;rintro e w ⟨rfl,rfl⟩)|(go_at_call 73;refine hget.mono ?_;clear hget;rintro e w2 ⟨⟨ov,rfl,ho2⟩,⟨own2,vf2,vh2,hD2,-⟩,hs2⟩;obtain⟨oa,oc,rfl⟩:=ho2.shape;have hD2':Dg M room hands ts g own2 gq vf2 vh2 HB hc DB dc Hk vk Bd w0 w2:=by { have:=HS.out;rw[←this];exact hD2 };have e1:=hD2.hands1 hoh;obtain⟨e1,e2⟩:=e1;have hrob:=hD2'.rob hoh;rw[←HG1.out,←HLS.out]at hrob;simp only[List.length_nil]at ⊢;clear hD2 hD2' ho2)|(go_at_call 74;refine hrob.mono ?_;clear hrob;rintro e w3 ⟨⟨ov3,rfl,ho3⟩,⟨own3,vk3,hD3,hl3⟩,hs3⟩;obtain⟨oa3,oc3,rfl⟩:=ho3.shape;rw[zd];have HO3:Hid (Rds (fun k=>w2.heap.size≤k) w3 (.slice oa3 (Zb ls).length oc3) (Zb ls)):=ho3;have HD3:Hid (Dg M room hands ts g1 own3 gq vf2 vh2 HB hc DB dc Hk vk3 Bd w0 w3):=hD3;have HL3:Hid (∀k,w2.heap.size≤k→own3 k=10+o):=hl3;clear hD3 ho3 hl3))
 have HLV:Hid (LvAt own3 (10+o) oa3 ls w3):=fun j hj=>by
  obtain⟨ob,oo,ha,hge,hlt,hcell⟩:=HO3.out.at (k:=j) (by rw[zd];exact hj)
  rw[zL]at hcell
  exact⟨ob,oo,ha,hlt,HL3.out ob hge,hcell⟩
 have HP3:Hid (Dg M room hands ts (puts room g1 h ((Zb ls).tail.take (1-1))) own3 gq vf2 vh2 HB hc DB dc Hk vk3 Bd w0 w3):=by rw[Nat.sub_self,List.take_zero,za9];exact HD3
 clear HO3 HL3 HD3 hc1 hcp hc2 hc3 hc7 hct htv hwv e1 e2 hmod hh0 hne hl0
 have hsw:w.heap.size≤w3.heap.size:=by omega
 clear hs2 hs3
 go_loopw [22] (fun s22 wr=>∃(k:Nat) (own4:Nat→Nat) (vk4:Nat→Value),s22=.int .i64 k∧1≤k∧k≤ls.length∧Hid (Dg M room hands ts (puts room g1 h ((Zb ls).tail.take (k-1))) own4 gq vf2 vh2 HB hc DB dc Hk vk4 Bd w0 wr)∧Hid (LvAt own4 (10+o) oa3 ls wr)∧w.heap.size≤wr.heap.size) (fun s22 _=>ls.length-(intOf s22).toNat)
 case atStart=>exact⟨1,own3,vk3,rfl,by omega,by omega,HP3,HLV,hsw⟩
 case round=>
  clear HP3 HLV hsw
  obtain⟨k,own4,vk4,rfl,hk1,hk,hD4,hL4,hsw⟩:=hrel
  by_cases hkl:k<ls.length
  ·have hkl':(k:Int)<(ls.length:Int):=by omega
   obtain⟨ob,oo,rfl,hobl,-,hcx⟩:=hL4.out k hkl
   have hcx':∀q,(wr.drewN q).cell? ⟨ob,oo+k,none⟩=some (.int .i64 ((ls.getD k 0:Nat):Int)):=fun q=>hcx
   have c1:=(hD4.out.hands1 hh).1
   have c2:=(hD4.out.hands1 hh).2
   have HTT:Hid ((Zb ls).tail.take k=(Zb ls).tail.take (k-1)++[((ls.getD k 0:Nat):Int)]):=zg2 hk1 hkl
   have hput:=fun q=>(hD4.out.later0 (w':=wr.drewN q) (Kc.of_below ⟨rfl,rfl,rfl,qq1 _,fun _ _=>rfl⟩)).put hh hr1 (ls.getD k 0)
   generalize ls.getD k 0=x at *
   have HNX:Hid (∀(q:Nat) (wz:World),Kc (relabel own4 wr.heap.size 9) (fun c=>c=10+h) (wr.drewN q) wz→LvAt (relabel (relabel own4 wr.heap.size 9) wr.heap.size (10+h)) (10+o) (some ⟨ob,oo,none⟩) ls wz∧wr.heap.size≤wz.heap.size):=fun q wz hk=>⟨LvAt.kc (w:=wr.drewN q) (fun j hj=>by
    obtain⟨ob',oo',ha,hlt,hl,hcell⟩:=hL4.out j hj
    exact⟨ob',oo',ha,hlt,by rw[za hlt];exact hl,hcell⟩) hk (by omega),hk.size⟩
   go_wp2
   go_region_with (first|(go_at_call 69;refine(hput _).mono ?_;clear hput;rintro e w5 ⟨⟨ov5,rfl,-⟩,⟨vk5,hD5⟩,hk5⟩;have HD5:Hid (Dg M room hands ts (puts room g1 h ((Zb ls).tail.take k)) (relabel (relabel own4 wr.heap.size 9) wr.heap.size (10+h)) gq vf2 vh2 HB hc DB dc Hk vk5 Bd w0 w5):=(by rw[HTT.out,zb5];exact hD5);have HL5:=HNX.out _ w5 hk5;clear hD5 hk5))
   all_goals
    go_wp2
    go_roundw
    case rel=>exact⟨k+1,_,_,by go_num,by omega,by omega,HD5,HL5.1,by have:=HL5.2;omega⟩
    case measure=>simp[intOf];omega
  ·have hkl':¬(k:Int)<(ls.length:Int):=by omega
   obtain rfl:k=ls.length:=by omega
   have HE:(Zb ls).tail.take (ls.length-1)=(Zb ls).tail:=List.take_of_length_le (by rw[List.length_tail,zd];omega)
   rw[HE]at hD4
   obtain⟨ob,oo,rfl,hobl,hobo,hcx⟩:=hL4.out 0 hlp
   rw[Nat.add_zero]at hcx
   have hx0:ls.getD 0 0<ts.length:=HLT.out _ (by rw[qq6,qq7 hlp];exact List.getElem_mem hlp)
   have hta:=hD4.out.take h (ls.getD 0 0) hh h6 hx0
   have hpl:(0:Int)<(ls.length:Int):=by omega
   obtain⟨x,hx⟩:∃x,x=ls.getD 0 0:=⟨_,rfl⟩
   have HX:Hid (x=ls.getD 0 0):=hx
   rw[←hx]at hta hcx hx0
   clear HE hx
   go_wp2_with (first|(go_at_call 72;refine hta.mono ?_;clear hta;rintro e w5 ⟨rfl,⟨own5,hD5⟩,hk5⟩;have hco5:=(qq9 (a:=⟨ob,oo,none⟩) (hk5.block ob hobl (by omega))).trans hcx;have hs5:=hk5.size;have HD5:Hid (DgE M room hands ts gq.p (takes ts (puts room g1 h (Zb ls).tail) h ((x:Nat):Int)) Bd w0 w5):=hD5.e;clear hD5 hk5 hcx))
   go_ret
   rw[←HX.out]
   exact⟨⟨_,rfl,RowD.told w w5 (by omega) (2,(h:Int),((x:Nat):Int),(o:Int))⟩,HD5.out.later ((qq4 _ _).alloc (qq1 _) _)⟩
end
section
open Go.RowKit Go.Deep
open Spl.Dsp (Gq gArr)
theorem Dg.bools{M room hands:Nat}{ts:Zl}{g:Gs}{own:Nat→Nat}{gq:Gq}{vf vh:Value}{HB hc DB dc:Nat}{Hk:Nat→Nat}{vk:Nat→Value}{Bd:Bs}{w0 w:World}(hD:Dg M room hands ts g own gq vf vh HB hc DB dc Hk vk Bd w0 w):Yl w gq.dn ts.length g.S:=
 ⟨DB,0,dc,hD.dn,hD.drow.lt,fun k hk=>by rw[Nat.zero_add];exact hD.drow.cell hk⟩
theorem Dg.planNow{M room hands:Nat}{ts:Zl}{g:Gs}{own:Nat→Nat}{gq:Gq}{vf vh:Value}{HB hc DB dc:Nat}{Hk:Nat→Nat}{vk:Nat→Value}{Bd:Bs}{w0 w:World}(hD:Dg M room hands ts g own gq vf vh HB hc DB dc Hk vk Bd w0 w):Zf w gq.p ts:=hD.plan.later hD.below
theorem Dg.doneTo{M room hands:Nat}{ts:Zl}{g:Gs}{own:Nat→Nat}{gq:Gq}{vf vh:Value}{HB hc DB dc:Nat}{Hk:Nat→Nat}{vk:Nat→Value}{Bd:Bs}{w0 w:World}(hD:Dg M room hands ts g own gq vf vh HB hc DB dc Hk vk Bd w0 w)(i:Nat) :
  Dg M room hands ts { g with S:=mark g.S i } (relabel own w.heap.size 5) gq vf vh HB hc DB dc Hk vk Bd w0 (w.setCell ⟨DB,i,none⟩ (.bool true)):=by
 refine hD.setDone (mark g.S i) ((hD.drow.set i (.bool true)).congr (fun k _=>?_)) (Kc.store (b:=DB) hD.lDB i (.bool true))
 unfold mark
 split <;> rfl
structure Eh (M room hands:Nat) (ts:Zl) (g:Gs) (own:Nat→Nat) (gq:Gq) (vf vh:Value) (HB hc DB dc:Nat) (Hk:Nat→Nat) (vk:Nat→Value) (Bd:Bs) (w0:World) (N0:Nat) (ov nv dv:Value) (was now:List Int) (ds:List Deed) (w:World):Prop where
 dg:Dg M room hands ts g own gq vf vh HB hc DB dc Hk vk Bd w0 w
 was:RowI N0 w ov was
 now:RowI N0 w nv now
 out:RowD N0 w dv ds
 lw:Lb own 8 ov
 ln:Lb own 8 nv
 ld:Lb own 8 dv
 n0:N0≤w.heap.size
variable {M room hands:Nat} {ts:Zl} {g g':Gs} {own:Nat→Nat} {gq gq':Gq} {vf vh vf' vh':Value} {HB hc DB dc:Nat} {Hk:Nat→Nat} {vk vk':Nat→Value} {Bd:Bs} {w0 w w':World} {N0 c:Nat} {ov nv dv:Value} {was now:List Int} {ds:List Deed}
theorem Eh.to(h:Eh M room hands ts g own gq vf vh HB hc DB dc Hk vk Bd w0 N0 ov nv dv was now ds w){C:Nat→Prop}(K:Kc own C w w')(hC:¬C 8)(hd:Dg M room hands ts g' (relabel own w.heap.size c) gq' vf' vh' HB hc DB dc Hk vk' Bd w0 w'):Eh M room hands ts g' (relabel own w.heap.size c) gq' vf' vh' HB hc DB dc Hk vk' Bd w0 N0 ov nv dv was now ds w':=
 ⟨hd,h.was.kc h.lw hC K,h.now.kc h.ln hC K,h.out.kc h.ld hC K,h.lw.re h.was,h.ln.re h.now,h.ld.reD h.out,qq2 h.n0 K.size⟩
theorem Eh.ready{q:Nat}{v:Value}{l:List Int}(h:Eh M room hands ts g own gq vf vh HB hc DB dc Hk vk Bd w0 N0 ov nv dv was now ds w)(hr:RowI (w.drewN q).heap.size w' v l)(hb:Below (w.drewN q).heap.size (w.drewN q) w'):∃own',Eh M room hands ts g own' gq vf vh HB hc DB dc Hk vk Bd w0 N0 v nv dv l now ds w':=by
 have hb2:Below w.heap.size w w':=⟨hb.os,hb.tape,hb.output,hb.size,hb.block⟩
 have hr2:RowI w.heap.size w' v l:=hr
 have h1:=h.to (C:=fun c=>c=99) (Kc.of_below hb2) (show ¬((8:Nat)=99) by omega) (h.dg.later8 (Kc.of_below hb2))
 exact⟨_,h1.dg,hr2.mono h.n0,h1.now,h1.out,fun k e=>zj (hr2.low e).1,h1.ln,h1.ld,h1.n0⟩
theorem Eh.ready2{q:Nat}{v:Value}{l:List Int}(h:Eh M room hands ts g own gq vf vh HB hc DB dc Hk vk Bd w0 N0 ov nv dv was now ds w)(hr:RowI (w.drewN q).heap.size w' v l)(hb:Below (w.drewN q).heap.size (w.drewN q) w'):∃own',Eh M room hands ts g own' gq vf vh HB hc DB dc Hk vk Bd w0 N0 ov v dv was l ds w':=by
 have hb2:Below w.heap.size w w':=⟨hb.os,hb.tape,hb.output,hb.size,hb.block⟩
 have hr2:RowI w.heap.size w' v l:=hr
 have h1:=h.to (C:=fun c=>c=99) (Kc.of_below hb2) (show ¬((8:Nat)=99) by omega) (h.dg.later8 (Kc.of_below hb2))
 exact⟨_,h1.dg,h1.was,hr2.mono h.n0,h1.out,h1.lw,fun k e=>zj (hr2.low e).1,h1.ld,h1.n0⟩
theorem Eh.next{tb tc h i:Nat}(hE:Eh M room hands ts g own gq vf vh HB hc DB dc Hk vk Bd w0 N0 ov nv dv was now ds w)(hh:h<hands)(hi:i<ts.length)(htv:gq.tk=.slice (some ⟨tb,0,none⟩) hands tc) :
  w.cell? ⟨M,8,none⟩=some (.slice (some ⟨DB,0,none⟩) ts.length dc)∧w.cell? ⟨DB,i,none⟩=some (.bool (g.S i))∧w.frozen? ⟨DB,i,none⟩=false∧(w.setCell ⟨DB,i,none⟩ (.bool true)).cell? ⟨M,2,none⟩=some (.slice (some ⟨tb,0,none⟩) hands tc)∧(w.setCell ⟨DB,i,none⟩ (.bool true)).cell? ⟨tb,h,none⟩=some (.int .i64 (g.task h))∧(w.setCell ⟨DB,i,none⟩ (.bool true)).frozen? ⟨tb,h,none⟩=false
   ∧∃own6,Eh M room hands ts { g with S:=mark g.S i,task:=updG g.task h (-1) } own6 gq vf vh HB hc DB dc Hk vk Bd w0 N0 ov nv dv was now ds ((w.setCell ⟨DB,i,none⟩ (.bool true)).setCell ⟨tb,h,none⟩ (.int .i64 (-1))):=by
 obtain⟨-,-,-,-,-,e8⟩:=hE.dg.c
 rw[hE.dg.dn]at e8
 have hE5:=hE.to (Kc.store (C:=fun c=>c=5) (b:=DB) hE.dg.lDB i (.bool true)) (show ¬((8:Nat)=5) by omega) (hE.dg.doneTo i)
 obtain⟨-,-,f2,-,-,-⟩:=hE5.dg.c
 obtain⟨tb',tc',wb',wc',htv',-,fct,-,ftl,-,ftlt,-,ffT,-⟩:=hE5.dg.tw hh
 rw[htv]at htv'
 simp only[Value.slice.injEq,Option.some.injEq,Addr.mk.injEq,and_true,true_and]at htv'
 obtain⟨rfl,rfl⟩:=htv'
 rw[htv]at f2
 exact⟨e8,hE.dg.drow.cell hi,hE.dg.drow.frozen i,f2,fct,ffT h,_,hE5.to (Kc.store (C:=fun c=>c=2) (b:=tb) ftl h (.int .i64 (-1))) (show ¬((8:Nat)=2) by omega) (hE5.dg.taskTo hh htv (-1))⟩
theorem Dg.sput2(h:Dg M room hands ts g own gq vf vh HB hc DB dc Hk vk Bd w0 w)(h16:room≤16){A:Nat→Prop}{lv:Value}{ys:List Int}(hl:Rds A w lv ys)(hA:∀b,A b→own b≠0∧own b≠6)(hle:g.sp.length+ys.length≤60) :
  Calls Tryz.prog 67 #[.pointer (some ⟨M,4,none⟩),lv] w fun e w'=>e=.returned (.bool true)∧(∃vf' vh',Dg M room hands ts { g with sp:=g.sp++ys } (relabel own w.heap.size 6) gq vf' vh' HB hc DB dc Hk vk Bd w0 w')∧Kc own (fun c=>c=0∨c=6) w w':=by
 refine(Spl.Dsp.ziU gq M room g.sp ys vf vh lv w h.md (Rds.mono hl (fun b hb=>⟨fun e=>(hA b hb).1 (by rw[e];exact h.lM),fun e=>(hA b hb).2 (h.lf b e),fun e=>(hA b hb).2 (h.lh b e)⟩)) hle h16).mono ?_
 rintro e w' ⟨rfl,vf',vh',hp⟩
 have hm:=hp.md
 rw[List.take_length]at hm
 exact⟨rfl,⟨vf',vh',h.setSp (g.sp++ys) vf' vh' hm (Lb.near h.lf (fun k e=>(h.fr.low e).2) hp.nf) (Lb.near h.lh (fun k e=>(h.hp.low e).2) hp.nh) (h.kx6 hp.kx)⟩,h.kx6 hp.kx⟩
theorem Eh.drawn(h:Eh M room hands ts g own gq vf vh HB hc DB dc Hk vk Bd w0 N0 ov nv dv was now ds w)(q:Nat):Eh M room hands ts g (relabel own w.heap.size 9) gq vf vh HB hc DB dc Hk vk Bd w0 N0 ov nv dv was now ds (w.drewN q):=
 have hb:Below w.heap.size w (w.drewN q):=⟨rfl,rfl,rfl,qq1 _,fun _ _=>rfl⟩
 h.to (C:=fun c=>c=99) (Kc.of_below hb) (show ¬((8:Nat)=99) by omega) (h.dg.later0 (Kc.of_below hb))
theorem Eh.putHand(h:Eh M room hands ts g own gq vf vh HB hc DB dc Hk vk Bd w0 N0 ov nv dv was now ds w){j:Nat}(hj:j<hands)(hr1:1≤room)(n q:Nat) :
  Calls Tryz.prog 69 #[.pointer (some ⟨Hk j,0,none⟩),.int .i64 n] (w.drewN q) fun e w'=>∃lv,e=.returned lv∧∃own5 vk5,Eh M room hands ts { g with near:=updG g.near j (n:Int),ring:=updG g.ring j (putR room (g.near j) (g.ring j)) } own5 gq vf vh HB hc DB dc Hk vk5 Bd w0 N0 ov nv dv was now ds w'∧Rds (fun k=>own5 k≠0∧own5 k≠6) w' lv (putO room (g.near j) (g.ring j)):=by
 have hq:=h.drawn q
 refine(hq.dg.put hj hr1 n).mono ?_
 rintro e w' ⟨⟨lv,rfl,hl⟩,⟨vk5,hD5⟩,hk5⟩
 exact⟨lv,rfl,_,vk5,hq.to hk5 (show ¬((8:Nat)=10+j) by omega) hD5,hl.mono (fun b hb=>by rw[zj hb];omega)⟩
theorem Eh.putSpill(h:Eh M room hands ts g own gq vf vh HB hc DB dc Hk vk Bd w0 N0 ov nv dv was now ds w)(h16:room≤16){lv:Value}{ys:List Int}(hl:Rds (fun k=>own k≠0∧own k≠6) w lv ys)(hle:g.sp.length+ys.length≤60) :
  Calls Tryz.prog 67 #[.pointer (some ⟨M,4,none⟩),lv] w fun e w'=>e=.returned (.bool true)∧∃own9 vf9 vh9,Eh M room hands ts { g with sp:=g.sp++ys } own9 gq vf9 vh9 HB hc DB dc Hk vk Bd w0 N0 ov nv dv was now ds w':=by
 refine(h.dg.sput2 h16 hl (fun b hb=>hb) hle).mono ?_
 rintro e w' ⟨rfl,⟨vf9,vh9,hD9⟩,hk9⟩
 exact⟨rfl,_,vf9,vh9,h.to hk9 (show ¬((8:Nat)=0∨(8:Nat)=6) by omega) hD9⟩
end
section
open Go.RowKit Go.Deep
open Spl.Dsp (Gq gArr)
def DgO(own:Nat→Nat)(M room hands:Nat)(ts:Zl)(p:Value)(g:Gs)(Bd:Bs)(w0 w:World):Prop:=
 ∃gq vf vh HB hc DB dc Hk vk,gq.p=p∧Dg M room hands ts g own gq vf vh HB hc DB dc Hk vk Bd w0 w
theorem Tryz.infoDHand:(Tryz.prog.info? 141).map (fun i=>(i.zero,i.size,i.bytes))=some (some (.pointer none),1,8):=by kernel_rfl
theorem NG.dg{M room hands:Nat}{ts:Zl}{p:Value}{own:Nat→Nat}{gq:Gq}{DB N0:Nat}{Hk:Nat→Nat}{w0 wN w:World}(h:NG M room hands hands hands ts p own gq DB Hk N0 wN w)(h1:1≤hands)(hp:Zf w0 p ts)(hB:Below w0.heap.size w0 wN)(hN:N0=wN.heap.size) :
  ∃HB hc,Dg M room hands ts { gnew ts with sp:=[] } own gq (.slice none 0 0) (.slice none 0 0) HB hc DB ts.length Hk (fun _=>.slice none 0 0) ⟨fun k=>k<N0,wN⟩ w0 w:=by
 have hs0:=hB.size
 have hn0:=h.n0
 obtain⟨HB,hc,hhs⟩:∃HB hc,gq.hs=.slice (some ⟨HB,0,none⟩) hands hc:=by
  rcases h.hrow.2 with⟨_,h0⟩|⟨g,cap,cur,hv,_⟩
  ·omega
  ·exact⟨g,cap,hv⟩
 have hob:gq.hs.ownBlock=some HB:=by rw[hhs];rfl
 have hfar:Below w0.heap.size w0 w:=hB.trans (h.far.mono (by omega))
 refine⟨HB,hc,{
  blk:=h.blk,lM:=h.lM,fr:=by simp only[List.take_nil];exact RowI.nil _ _,hp:=by simp only[List.drop_nil];exact RowI.nil _ _
  lf:=fun k e=>by simp[Value.ownBlock]at e
  lh:=fun k e=>by simp[Value.ownBlock]at e
  apart:=fun k e=>by simp[Value.ownBlock]at e
  le60:=by simp
  tk:=h.tk,ltk:=h.ltk,wk:=h.wk,lwk:=h.lwk
  row:=by rw[h.rw0];exact RowI.nil _ _
  lrw:=fun k e=>by rw[h.rw0]at e;simp[Value.ownBlock]at e
  zle:=by simp[gnew]
  hs:=hhs,hblt:=h.hlt hob,lHB:=h.lh HB hob
  hcell:=fun k hk=>?_
  hand:=h.hand
  lH:=fun k hk=>⟨h.lH k hk,fun j e=>by simp[Value.ownBlock]at e⟩
  hMk:=h.hMk
  dn:=h.dn,drow:=h.drow,lDB:=h.lDB
  plan:=by rw[h.hp];exact hp
  base:=by omega
  far:=fun k hk=>⟨by have hk':k<N0:=hk;show k<wN.heap.size;omega,h.low k hk,h.far.block k hk⟩
  w1le:=by show wN.heap.size≤_;omega
  io:=⟨h.far.os,h.far.tape,h.far.output⟩
  below:=hfar
  lowL:=fun k hk=>h.low k (by omega) }⟩
 have hr:=h.hrow
 rw[hhs]at hr
 have:=World.ownsRow.cells hr (g:=HB) rfl k (.pointer (some ⟨Hk k,0,none⟩)) (by simp[hk])
 rwa [Addr.add_lit,Nat.zero_add]at this
def Qu(room hands:Nat)(ts:Zl)(p:Value)(w0 w:World)(e:Ending)(w':World):Prop:=
 ∃M own,e=.returned (.pointer (some ⟨M,0,none⟩))∧DgO own M room hands ts p (gnew ts) ⟨fun k=>k<w.heap.size,w⟩ w0 w'
set_option maxRecDepth 100000 in
set_option maxHeartbeats 8000000 in
theorem zcC(v:Value)(ts:Zl)(hands room:Nat)(w0 w:World)(hp:Zf w0 v ts)(hB:Below w0.heap.size w0 w)(hr:ZA ts)(h30:ts.length≤30)(h1:1≤hands)(h6:hands≤6)(r16:room≤16) :
  Calls Tryz.prog 35 #[v,.int .i64 hands,.int .i64 room] w (Qu room hands ts v w0 w):=by
 have HP:Hid (Zf w0 v ts∧Below w0.heap.size w0 w∧ZA ts):=⟨hp,hB,hr⟩
 obtain⟨pa,pc,rfl⟩:∃a c,v=.slice a ts.length c:=by obtain⟨hl,a,c,hv,-⟩:=hp;exact⟨a,c,hv⟩
 clear hp hB hr
 have hmk:=fun wx=>run_make_row' (P:=Tryz.prog) 84 4 (.bool false) 1 Tryz.underlying84 Tryz.info4 rfl .i64 .i64 ts.length (by omega) (by omega) wx
 obtain⟨iP,hiP,hz0,hz1,hz2⟩:=info_parts Tryz.infoDHand
 go_enter Tryz.func35,Tryz.ntmps35
 go_upto_region 2 with fail
 obtain⟨W,hW⟩:∃W,W=(w.alloc (.cells (madeCells #[.bool false] ts.length) 4)).alloc (.cells (gArr ⟨.slice pa ts.length pc,.slice none 0 0,.slice none 0 0,.slice none 0 0,.slice none 0 0,.slice (some ⟨w.heap.size,0,none⟩) ts.length ts.length⟩ room (.slice none 0 0) (.slice none 0 0)) 86):=⟨_,rfl⟩
 have hWg:W=(w.alloc (.cells (madeCells #[.bool false] ts.length) 4)).alloc (.cells #[.slice pa ts.length pc,.slice none 0 0,.slice none 0 0,.slice none 0 0,.int .i64 room,.slice none 0 0,.slice none 0 0,.slice none 0 0,.slice (some ⟨w.heap.size,0,none⟩) ts.length ts.length] 86):=hW
 rw[←hWg]
 have HN:Hid (NG (w.heap.size+1) room 0 0 0 ts (.slice pa ts.length pc) (fun k=>if k<w.heap.size then 9 else if k=w.heap.size then 5 else 0) ⟨.slice pa ts.length pc,.slice none 0 0,.slice none 0 0,.slice none 0 0,.slice none 0 0,.slice (some ⟨w.heap.size,0,none⟩) ts.length ts.length⟩ w.heap.size (fun _=>0) w.heap.size w W):=by
  have hW1:W.heap[w.heap.size+1]?=some (.cells (gArr ⟨.slice pa ts.length pc,.slice none 0 0,.slice none 0 0,.slice none 0 0,.slice none 0 0,.slice (some ⟨w.heap.size,0,none⟩) ts.length ts.length⟩ room (.slice none 0 0) (.slice none 0 0)) 86):=by rw[hW];have:=heap_alloc_new (w.alloc (.cells (madeCells #[.bool false] ts.length) 4)) (.cells (gArr ⟨.slice pa ts.length pc,.slice none 0 0,.slice none 0 0,.slice none 0 0,.slice none 0 0,.slice (some ⟨w.heap.size,0,none⟩) ts.length ts.length⟩ room (.slice none 0 0) (.slice none 0 0)) 86);simp only[nblk_alloc]at this;exact this
  have hW0:W.heap[w.heap.size]?=some (.cells (madeCells #[.bool false] ts.length) 4):=by rw[hW];exact(qa _ _ _ (by simp)).trans (heap_alloc_new w _)
  have hWs:W.heap.size=w.heap.size+2:=by rw[hW];simp
  exact {
   blk:=hW1
   lM:=by rw[if_neg (by omega),if_neg (by omega)]
   hrow:=World.ownsRow_nil _ _ _ _
   lh:=fun k e=>by simp[Value.ownBlock]at e
   tk:=RowI.nil _ _
   ltk:=fun k e=>by simp[Value.ownBlock]at e
   wk:=RowI.nil _ _
   lwk:=fun k e=>by simp[Value.ownBlock]at e
   rw0:=rfl
   hand:=fun j hj=>by omega
   lH:=fun j hj=>by omega
   hMk:=fun j hj=>by omega
   dn:=rfl
   drow:=⟨_,hW0,size_madeCells _ _,fun i hi=>by simp[madeCells,hi,Nat.mod_one]⟩
   lDB:=by rw[if_neg (by omega),if_pos rfl]
   hp:=rfl
   far:=by rw[hW];exact((qq4 _ _).alloc (qq1 _) _).alloc (by simp) _
   low:=fun k hk=>if_pos hk
   n0:=⟨by omega,by omega⟩ }
 clear hW hWg hmk
 go_wp2
 go_loopw [8] (fun s8 wr=>∃(k:Nat),s8=.int .i64 k∧k≤hands∧Hid (∃own gq Hk,NG (w.heap.size+1) room k k k ts (.slice pa ts.length pc) own gq w.heap.size Hk w.heap.size w wr)) (fun s8 _=>hands-(intOf s8).toNat)
 case atStart=>exact⟨0,rfl,Nat.zero_le _,_,_,_,HN.out⟩
 case round=>
  clear HN
  obtain⟨k,rfl,hk,hN⟩:=hrel
  obtain⟨own,gq,Hk,hN⟩:=hN.out
  by_cases hkl:k<hands
  ·have hkl':(k:Int)<(hands:Int):=by omega
   obtain⟨ha,hc,hhs⟩:∃ha hc,gq.hs=.slice ha k hc:=by
    rcases hN.hrow.2 with⟨hv,h0⟩|⟨g,cap,cur,hv,_⟩
    ·exact⟨none,0,by rw[hv,h0]⟩
    ·exact⟨_,_,hv⟩
   have c1:=hN.c.2.1
   rw[hhs]at c1
   have HN:Hid (NG (w.heap.size+1) room k k k ts (.slice pa ts.length pc) own gq w.heap.size Hk w.heap.size w wr∧gq.hs=.slice ha k hc):=⟨hN,hhs⟩
   have hor:((wr.alloc (XM room)).alloc (.cells #[.pointer (some ⟨wr.heap.size,0,none⟩)] 141)).ownsRow (w.heap.size+1+1) 141 1 (.slice ha k hc) k ((List.range k).map (fun j=>.pointer (some ⟨Hk j,0,none⟩))):=by
    have:=hN.hrow
    rw[hhs]at this
    exact yr this (fun b e=>by have:=hN.hlt (by rw[hhs];exact e);exact(qa _ _ _ (by simp;omega)).trans (qa _ _ _ this))
   have hMw:=hN.ltM
   have hMb:Hid (wr.heap[w.heap.size+1]?=some (.cells (gArr gq room (.slice none 0 0) (.slice none 0 0)) 86 (0,0))):=hN.blk
   have hnews:∀j u,[Value.pointer (some ⟨wr.heap.size,0,none⟩)][j]?=some u→((wr.alloc (XM room)).alloc (.cells #[.pointer (some ⟨wr.heap.size,0,none⟩)] 141)).cell? ((⟨wr.heap.size+1,0,none⟩:Addr).add j)=some u:=by
    have:=cell_one_new (wr.alloc (XM room)) (.pointer (some ⟨wr.heap.size,0,none⟩)) 141
    rw[nblk_alloc]at this
    exact this
   have h1c:∀u∈[Value.pointer (some ⟨wr.heap.size,0,none⟩)],u.oneCell'=true:=by intro u hu;simp at hu;subst hu;rfl
   clear hN hhs
   unfold XM at hor hnews
   go_upto_region 6 with (first|(at_builtin;go_loud (refine wpList_append_own_at _ rfl (.tmp 26) (.tmp 30) 81 rfl (w.heap.size+1+1) 141 iP (.pointer none) 1 8 Tryz.underlying81 hiP hz0 hz1 hz2 rfl (by decide) _ k ((List.range k).map (fun j=>.pointer (some ⟨Hk j,0,none⟩))) rfl hor ⟨wr.heap.size+1,0,none⟩ 1 1 [.pointer (some ⟨wr.heap.size,0,none⟩)] rfl rfl hnews h1c (by unfold maxLen;omega) (by omega) (by simp;omega) ?_;intro v2 w2 hown hgr _ hat;obtain⟨g2,cc2,rfl⟩:∃g2 c2,v2=.slice (some ⟨g2,0,none⟩) (k+1) c2:=(by { rcases hown.2 with⟨_,h0⟩|⟨g,cap,cur,hv,_⟩;{ omega };{ exact⟨g,cap,hv⟩ } });obtain⟨hM2,own1,Hk1,hN1⟩:=HN.out.1.hand1 r16 (by rw[HN.out.2];exact hgr) (by rw[HN.out.2];exact hat) hown;have cM1:w2.cell? ⟨w.heap.size+1,1,none⟩=some (.slice ha k hc):=(qq9 (a:=⟨w.heap.size+1,1,none⟩) hM2).trans c1;have fM1:w2.frozen? ⟨w.heap.size+1,1,none⟩=false:=(World.frozen?_of_block (a:=⟨w.heap.size+1,1,none⟩) hM2).trans (HN.out.1.fz 1);have HN1:Hid (NG (w.heap.size+1) room (k+1) k k ts (.slice pa ts.length pc) own1 { gq with hs:=.slice (some ⟨g2,0,none⟩) (k+1) cc2 } w.heap.size Hk1 w.heap.size w (w2.setCell ⟨w.heap.size+1,1,none⟩ (.slice (some ⟨g2,0,none⟩) (k+1) cc2))):=hN1;clear hN1 hM2 hown hgr hat)))
   obtain⟨w3,hw3⟩:∃w3,w3=w2.setCell ⟨w.heap.size+1,1,none⟩ (.slice (some ⟨g2,0,none⟩) (k+1) cc2):=⟨_,rfl⟩
   rw[←hw3]at HN1 ⊢
   obtain⟨gq1,hgq1⟩:∃gq1,gq1={ gq with hs:=.slice (some ⟨g2,0,none⟩) (k+1) cc2 }:=⟨_,rfl⟩
   rw[←hgq1]at HN1
   clear hw3 hgq1 cM1 fM1 c1 hor hnews h1c HN hMb hMw
   obtain⟨ta,tc,htk⟩:=HN1.out.tk.shape
   obtain⟨lt,hlt⟩:∃lt,lt=upto k (fun _=>(-1:Int)):=⟨_,rfl⟩
   have HLT:Hid (lt=upto k (fun _=>(-1:Int))∧lt.length=k):=⟨hlt,by rw[hlt,zo]⟩
   rw[←hlt]at htk
   have c2:=HN1.out.c.2.2.1
   rw[htk]at c2
   have hta:RowI (w.heap.size+1+1) (w3.alloc (.cells #[.int .i64 (-1)] 3)) (.slice ta lt.length tc) lt:=by
    have:=HN1.out.tk
    rw[htk,←hlt]at this
    exact this.alloc _
   have hM3:=HN1.out.ltM
   have HTK:Hid (gq1.tk=.slice ta lt.length tc):=htk
   have HO:Hid (Rds (fun _=>True) (w3.alloc (.cells #[.int .i64 (-1)] 3)) (.slice (some ⟨w3.heap.size,0,none⟩) 1 1) [-1]):=zK w3 (-1)
   have hll:lt.length≤6:=by have:=HLT.out.2;omega
   clear htk hlt
   go_upto_region 7 with (first|(at_builtin;go_loud (refine ze rfl (.tmp 38) (.tmp 39) rfl (w.heap.size+1+1) (fun _=>True) (.slice ta lt.length tc) (.slice (some ⟨w3.heap.size,0,none⟩) 1 1) lt [-1] rfl rfl hta HO.out (by simp;omega) (by simp;omega) ?_;intro v4 w4 hown hgr hat;obtain⟨a4,c4,rfl⟩:=hown.shape;obtain⟨hM4,own4,hN4⟩:=HN1.out.task1 (v:=.slice a4 (lt++[-1]).length c4) (by rw[HTK.out];exact hgr) (by rw[HTK.out];exact hat) (by rw[←HLT.out.1];exact hown);have cM2:w4.cell? ⟨w.heap.size+1,2,none⟩=some (.slice ta lt.length tc):=(qq9 (a:=⟨w.heap.size+1,2,none⟩) hM4).trans c2;have fM2:w4.frozen? ⟨w.heap.size+1,2,none⟩=false:=(World.frozen?_of_block (a:=⟨w.heap.size+1,2,none⟩) hM4).trans (HN1.out.fz 2);have e9:(lt++[(-1:Int)]).length=lt.length+1:=(by simp);rw[e9]at hN4 ⊢;have HN4:Hid (∃gq4,NG (w.heap.size+1) room (k+1) (k+1) k ts (.slice pa ts.length pc) own4 gq4 w.heap.size Hk1 w.heap.size w (w4.setCell ⟨w.heap.size+1,2,none⟩ (.slice a4 (lt.length+1) c4))):=⟨_,hN4⟩;clear hN4 hM4 hown hgr hat e9)))
   obtain⟨w5,hw5⟩:∃w5,w5=w4.setCell ⟨w.heap.size+1,2,none⟩ (.slice a4 (lt.length+1) c4):=⟨_,rfl⟩
   rw[←hw5]at HN4 ⊢
   obtain⟨gq4,hN4⟩:=HN4.out
   clear hw5 cM2 fM2 c2 hta HN1 hM3 HTK HO HN4
   have HN4:Hid (NG (w.heap.size+1) room (k+1) (k+1) k ts (.slice pa ts.length pc) own4 gq4 w.heap.size Hk1 w.heap.size w w5):=hN4
   obtain⟨wa,wc,hwk⟩:=hN4.wk.shape
   obtain⟨lw,hlw⟩:∃lw,lw=upto k (fun _=>(0:Int)):=⟨_,rfl⟩
   have HLW:Hid (lw=upto k (fun _=>(0:Int))∧lw.length=k):=⟨hlw,by rw[hlw,zo]⟩
   rw[←hlw]at hwk
   have c3:=hN4.c.2.2.2.1
   rw[hwk]at c3
   have hwa:RowI (w.heap.size+1+1) (w5.alloc (.cells #[.int .i64 0] 3)) (.slice wa lw.length wc) lw:=by
    have:=hN4.wk
    rw[hwk,←hlw]at this
    exact this.alloc _
   have hM5:=hN4.ltM
   have HWK:Hid (gq4.wk=.slice wa lw.length wc):=hwk
   have HO5:Hid (Rds (fun _=>True) (w5.alloc (.cells #[.int .i64 0] 3)) (.slice (some ⟨w5.heap.size,0,none⟩) 1 1) [0]):=zK w5 0
   have hlw6:lw.length≤6:=by have:=HLW.out.2;omega
   clear hwk hlw hN4
   go_wp2_with (first|(at_builtin;go_loud (refine ze rfl (.tmp 47) (.tmp 48) rfl (w.heap.size+1+1) (fun _=>True) (.slice wa lw.length wc) (.slice (some ⟨w5.heap.size,0,none⟩) 1 1) lw [0] rfl rfl hwa HO5.out (by simp;omega) (by simp;omega) ?_;intro v6 w6 hown hgr hat;obtain⟨a6,c6,rfl⟩:=hown.shape;obtain⟨hM6,own6,hN6⟩:=HN4.out.work1 (v:=.slice a6 (lw++[0]).length c6) (by rw[HWK.out];exact hgr) (by rw[HWK.out];exact hat) (by rw[←HLW.out.1];exact hown);have cM3:w6.cell? ⟨w.heap.size+1,3,none⟩=some (.slice wa lw.length wc):=(qq9 (a:=⟨w.heap.size+1,3,none⟩) hM6).trans c3;have fM3:w6.frozen? ⟨w.heap.size+1,3,none⟩=false:=(World.frozen?_of_block (a:=⟨w.heap.size+1,3,none⟩) hM6).trans (HN4.out.fz 3);have e9:(lw++[(0:Int)]).length=lw.length+1:=(by simp);rw[e9]at hN6 ⊢;have HN6:Hid (∃own gq Hk,NG (w.heap.size+1) room (k+1) (k+1) (k+1) ts (.slice pa ts.length pc) own gq w.heap.size Hk w.heap.size w (w6.setCell ⟨w.heap.size+1,3,none⟩ (.slice a6 (lw.length+1) c6))):=⟨_,_,_,hN6⟩;clear hN6 hM6 hown hgr hat e9)))
   exact⟨⟨k+1,by go_num,by omega,HN6⟩,by simp[intOf];omega⟩
  ·have hkl':¬(k:Int)<(hands:Int):=by omega
   obtain rfl:k=hands:=by omega
   obtain⟨HB,hc,hD⟩:=hN.dg h1 HP.out.1 HP.out.2.1 rfl
   have hdn:=hN.dn
   have c8:=hN.c.2.2.2.2
   rw[hdn]at c8
   have hpl:=hD.planNow
   rw[hN.hp]at hpl
   have hbo:=hD.bools
   rw[hdn]at hbo
   have hrdy:=fun q=>qu (.slice pa ts.length pc) (.slice (some ⟨w.heap.size,0,none⟩) ts.length ts.length) ts (fun _=>false) (wr.drewN q) (hpl.later ⟨rfl,rfl,rfl,qq1 _,fun _ _=>rfl⟩) HP.out.2.2 h30 (hbo.later ⟨rfl,rfl,rfl,qq1 _,fun _ _=>rfl⟩)
   have HD:Hid (Dg (w.heap.size+1) room k ts { gnew ts with sp:=[] } own gq (.slice none 0 0) (.slice none 0 0) HB hc w.heap.size ts.length Hk (fun _=>.slice none 0 0) ⟨fun k=>k<w.heap.size,w⟩ w0 wr∧gq.p=.slice pa ts.length pc):=⟨hD,hN.hp⟩
   clear hD hN hpl hbo hdn
   go_upto_region 8 with fail
   go_region_with (first|(go_at_call 65;refine(hrdy 1).mono ?_;clear hrdy;rintro e w4 ⟨⟨ov4,rfl,hr4⟩,hb4⟩;have hb5:Below wr.heap.size wr w4:=⟨hb4.os,hb4.tape,hb4.output,hb4.size,hb4.block⟩;have hD4:=HD.out.1.later8 (Kc.of_below hb5);have hput:=hD4.sput2 r16 (A:=fun b=>ov4.ownBlock=some b) hr4.rds (fun b e=>by { have h8:wr.heap.size≤b:=(hr4.low e).1;rw[zj h8];omega }) (by { have:=z6 ts (fun _=>false) ts.length;simp[zd];omega });clear hD4 hb4 hr4 hb5)|(go_at_call 67;refine hput.mono ?_;clear hput;rintro e w9 ⟨rfl,⟨vf',vh',hD9⟩,-⟩;have HD9:Hid (DgO (relabel (relabel own wr.heap.size 8) w4.heap.size 6) (w.heap.size+1) room k ts (.slice pa ts.length pc) (gnew ts) ⟨fun k=>k<w.heap.size,w⟩ w0 w9):=⟨_,_,_,_,_,_,_,_,_,HD.out.2,hD9⟩;clear hD9))
   all_goals
    go_wp2
    go_ret
    exact⟨_,_,rfl,HD9.out⟩
end
end Go.Proofs.YtlfbdjeojgbniaaGreatDoor

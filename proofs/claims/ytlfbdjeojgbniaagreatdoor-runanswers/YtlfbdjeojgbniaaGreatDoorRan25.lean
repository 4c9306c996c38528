import Derived.Test.YtlfbdjeojgbniaaGreatDoorRan24
namespace Go.Proofs.YtlfbdjeojgbniaaGreatDoor.Hnd
open Go.RowKit Go.Deep
theorem zdS(M room:Nat)(n:Nat)(xs:List Int)(v:Value)(w:World)(h:Mh M room (-1) xs v w) :
  Calls Tryz.prog 69 #[.pointer (some ⟨M,0,none⟩),.int .i64 n] w fun e w'=>e=.returned (.slice none 0 0)∧Mh M room n xs v w'∧Kd M v.ownBlock w w':=by
 have HH:Hid (Mh M room (-1) xs v w):=h
 have hc1:=h.c1
 have hf1:=h.fz 1
 clear h
 go_enter Tryz.func69,Tryz.ntmps69
 go_wp2
 go_ret
 exact⟨rfl,HH.out.setN (Or.inr (by omega)),(Kd.refl _ _ _).setS _ _⟩
theorem Mh.more{M room:Nat}{nr x:Int}{xs:List Int}{v v2:Value}{W w2:World}{ob:Obj}(h:Mh M room nr xs v W)(hgr:(W.alloc ob).grownBy w2 v.ownBlock)(hown:RowI (M+1) w2 v2 (xs++[x]))(hl:xs.length<room) :
  Mh M room nr (xs++[x]) v2 (w2.setCell ⟨M,2,none⟩ v2)∧Kd M v.ownBlock W (w2.setCell ⟨M,2,none⟩ v2)∧w2.heap[M]?=W.heap[M]?:=by
 have hlt:=h.lt
 have hbk:w2.heap[M]?=W.heap[M]?:=(hgr.block M (by simp;omega) (fun e=>by have:=(h.row.low e.symm).1;omega)).trans (qa _ _ _ hlt)
 exact⟨h.setV hbk hown (by simp;omega),(((Kd.refl _ _ _).alloc _).grown hgr (fun j e=>Or.inl e)).setS _ _,hbk⟩
set_option maxHeartbeats 4000000 in
theorem zdT(M room:Nat)(nr:Int)(n:Nat)(xs:List Int)(v:Value)(w:World)(h:Mh M room nr xs v w)(hn:nr≠-1)(hl:xs.length<room) :
  Calls Tryz.prog 69 #[.pointer (some ⟨M,0,none⟩),.int .i64 n] w fun e w'=>e=.returned (.slice none 0 0)∧(∃v',Mh M room n (xs++[nr]) v' w'∧XR w.heap.size v v')∧Kd M v.ownBlock w w':=by
 have hc1:=h.c1
 have hf1:=h.fz 1
 have hlt:=h.lt
 have h0:¬nr<0:=by have:=h.near.resolve_left hn;omega
 have hr16:=h.r16
 have hne:((xs.length:Int)==(room:Int))=false:=by simp;omega
 obtain⟨W1,hW1⟩:∃W1,W1=w.setCell ⟨M,1,none⟩ (.int .i64 n):=⟨_,rfl⟩
 have HB1:Hid (Kd M v.ownBlock w W1∧W1.heap.size=w.heap.size):=by rw[hW1];exact⟨(Kd.refl _ _ _).setS _ _,by simp⟩
 have h1:Mh M room n xs v W1:=by rw[hW1];exact h.setN (Or.inr (by omega))
 have HH1:Hid (∀q,Mh M room n xs v (W1.drewN q)):=fun q=>h1.later (xL _ _ q)
 have hd0:=h1.c0
 have hd2:=h1.c2
 have hf2:=h1.fz 2
 have hlt1:=h1.lt
 have hcA:∀q,((W1.drewN q).alloc (.cells #[.int .i64 nr] 3)).cell? ⟨M,2,none⟩=some v:=fun q=>(qq9 (a:=⟨M,2,none⟩) (qa (W1.drewN q) _ _ hlt1)).trans hd2
 obtain⟨a,c,rfl⟩:=h1.row.shape
 have HO:Hid (∀q,Rds (fun _=>True) ((W1.drewN q).alloc (.cells #[.int .i64 nr] 3)) (.slice (some ⟨(W1.drewN q).heap.size,0,none⟩) 1 1) [nr]):=fun q=>zK (W1.drewN q) nr
 have HW:Hid (W1=w.setCell ⟨M,1,none⟩ (.int .i64 n)):=hW1
 clear h h1 hn hW1
 go_enter Tryz.func69,Tryz.ntmps69
 go_wp2
 rw[←HW.out]
 clear HW hc1 hf1
 go_quiet (fail)
 go_wp2_with (first|(at_builtin;refine ze rfl (.tmp 53) (.tmp 55) rfl (M+1) (fun _=>True) (.slice a xs.length c) (.slice (some ⟨W1.heap.size,0,none⟩) 1 1) xs [nr] rfl rfl ((HH1.out _).row.alloc _) (HO.out _) (by simp;omega) (by simp;omega) ?_;intro v2 w2 hown2 hgr2 hat2;have hM:=(HH1.out _).more hgr2 hown2 hl;obtain⟨hM1,hM2,hM3⟩:=hM;have HM1:Hid (Mh M room n (xs++[nr]) v2 (w2.setCell ⟨M,2,none⟩ v2)):=hM1;have HM2:Hid (Kd M (Value.slice a xs.length c).ownBlock W1 (w2.setCell ⟨M,2,none⟩ v2)):=⟨hM2.os,hM2.tape,hM2.output,hM2.size,hM2.block⟩;have HN2:Hid (XR W1.heap.size (.slice a xs.length c) v2):=(fun k e=>by { rcases hat2 with h|h;{ exact Or.inl (h.symm.trans e) };{ have e2:=h.symm.trans e;simp at e2;exact Or.inr (by omega) } });have hz2:=(World.frozen?_of_block (a:=⟨M,2,none⟩) hM3).trans hf2;have hcm:=(qq9 (a:=⟨M,2,none⟩) hM3).trans hd2;obtain⟨a2,k2,rfl⟩:=hown2.shape;simp only[List.length_append,List.length_singleton]at *;clear hown2 hgr2 hat2 hM1 hM2 hM3))
 go_ret
 exact⟨rfl,⟨_,HM1.out,by rw[←HB1.out.2];exact HN2.out⟩,HB1.out.1.trans HM2.out (fun j e=>Or.inl e)⟩
set_option maxRecDepth 100000 in
set_option maxHeartbeats 4000000 in
theorem zdR(M room:Nat)(nr:Int)(n:Nat)(xs:List Int)(v:Value)(w:World)(h:Mh M room nr xs v w)(hn:nr≠-1)(hl:xs.length=room)(hr1:1≤room) :
  Calls Tryz.prog 69 #[.pointer (some ⟨M,0,none⟩),.int .i64 n] w fun e w'=>(∃ov,e=.returned ov∧Rds (fun k=>w.heap.size≤k) w' ov (xs.take ((xs.length+1) / 2)))∧(∃v',Mh M room n (xs.drop ((xs.length+1) / 2)++[nr]) v' w'∧XR w.heap.size v v')∧Kd M v.ownBlock w w':=by
 have hc1:=h.c1
 have hf1:=h.fz 1
 have hlt:=h.lt
 have h0:¬nr<0:=by have:=h.near.resolve_left hn;omega
 have hr16:=h.r16
 have hne:((xs.length:Int)==(room:Int))=true:=by simp[hl]
 obtain⟨W1,hW1⟩:∃W1,W1=w.setCell ⟨M,1,none⟩ (.int .i64 n):=⟨_,rfl⟩
 have HB1:Hid (Kd M v.ownBlock w W1∧W1.heap.size=w.heap.size):=by rw[hW1];exact⟨(Kd.refl _ _ _).setS _ _,by simp⟩
 have h1:Mh M room n xs v W1:=by rw[hW1];exact h.setN (Or.inr (by omega))
 have HH1:Hid (∀q,Mh M room n xs v (W1.drewN q)):=fun q=>h1.later (xL _ _ q)
 have hd0:=h1.c0
 have hd2:=h1.c2
 have hlt1:=h1.lt
 have hx16:xs.length≤16:=by omega
 obtain⟨m,hm⟩:∃m,m=(xs.length+1) / 2:=⟨_,rfl⟩
 have hq:((xs.length:Int)+1).tdiv 2=(m:Int):=by rw[Int.tdiv_eq_ediv_of_nonneg (by omega)];omega
 have hq2:((xs.length:Int)+1) / 2=(m:Int):=by omega
 have hw1:IntKind.i64.wrap ((xs.length:Int)+1)=(xs.length:Int)+1:=yG (by omega) (by omega)
 have hw2:IntKind.i64.wrap (m:Int)=(m:Int):=yG (by omega) (by omega)
 have hdl:(xs.drop m).length<room:=by simp;omega
 obtain⟨a,c,rfl⟩:=h1.row.shape
 have hcu:=fun q=>yN _ (.slice a xs.length c) xs m (W1.drewN q) (HH1.out q).row.rds (by omega)
 have HW:Hid (W1=w.setCell ⟨M,1,none⟩ (.int .i64 n)):=hW1
 rw[←hm]
 clear h h1 hn hW1 hm hl
 generalize xs.take m=o at *
 generalize xs.drop m=r at *
 go_enter Tryz.func69,Tryz.ntmps69
 go_wp2
 rw[←HW.out]
 clear HW hc1 hf1
 go_quiet (fail)
 go_wp2
 have HS:(W1.drewN (nq+1)).cell? ⟨M,2,none⟩=some (.slice a xs.length c):=hd2
 refine wp_region_held (S:=fun W'=>W'.cell? ⟨M,2,none⟩=some (.slice a xs.length c)) (by kernel_rfl) ?_
 refine zc (i:=0) (v:=?v0) (some 30) rfl rfl (by kernel_rfl) (by kernel_rfl) (by kernel_rfl) (fun _ _ _ h=>h) (Or.inl ⟨by rfl,?hy0⟩) HS ?_
 case hy0=>
  intro wz hSz
  go_simp
  try rfl
 refine zc (i:=1) (v:=?v1) (some 31) rfl rfl (by kernel_rfl) (by kernel_rfl) (by kernel_rfl) (fun _ _ _ h=>h) (Or.inl ⟨by rfl,?hy1⟩) HS ?_
 case hy1=>
  intro wz hSz
  go_simp
  try rfl
 refine zc (i:=2) (v:=?v2) (some 32) rfl rfl (by kernel_rfl) (by kernel_rfl) (by kernel_rfl) (fun _ _ _ h=>h) (Or.inl ⟨by rfl,?hy2⟩) HS ?_
 case hy2=>
  intro wz hSz
  go_simp
  try rfl
 refine zc (i:=3) (v:=?v3) (some 33) rfl rfl (by kernel_rfl) (by kernel_rfl) (by kernel_rfl) (fun _ _ _ h=>h) (Or.inl ⟨by rfl,?hy3⟩) HS ?_
 case hy3=>
  intro wz hSz
  go_simp
  try rfl
 refine zc (i:=4) (v:=?v4) (some 34) rfl rfl (by kernel_rfl) (by kernel_rfl) (by kernel_rfl) (fun _ _ _ h=>h) (Or.inl ⟨by rfl,?hy4⟩) HS ?_
 case hy4=>
  intro wz hSz
  go_simp
  try rfl
 refine zc (i:=5) (v:=?v5) (some 35) rfl rfl (by kernel_rfl) (by kernel_rfl) (by kernel_rfl) (fun _ _ _ h=>h) (Or.inl ⟨by rfl,?hy5⟩) HS ?_
 case hy5=>
  intro wz hSz
  go_simp
  try rfl
 refine zc (i:=6) (v:=?v6) (some 36) rfl rfl (by kernel_rfl) (by kernel_rfl) (by kernel_rfl) (fun _ _ _ h=>h) (Or.inl ⟨by rfl,?hy6⟩) HS ?_
 case hy6=>
  intro wz hSz
  go_simp
  try rfl
 refine zc (i:=7) (v:=?v7) (some 37) rfl rfl (by kernel_rfl) (by kernel_rfl) (by kernel_rfl) (fun _ _ _ h=>h) (Or.inl ⟨by rfl,?hy7⟩) HS ?_
 case hy7=>
  intro wz hSz
  go_simp
  try rfl
 refine zc (i:=8) (v:=?v8) (some 38) rfl rfl (by kernel_rfl) (by kernel_rfl) (by kernel_rfl) (fun _ _ _ h=>h) (Or.inl ⟨by rfl,?hy8⟩) HS ?_
 case hy8=>
  intro wz hSz
  go_simp
  try rfl
 refine zc (i:=9) (v:=?v9) (some 39) rfl rfl (by kernel_rfl) (by kernel_rfl) (by kernel_rfl) (fun _ _ _ h=>h) (Or.inl ⟨by rfl,?hy9⟩) HS ?_
 case hy9=>
  intro wz hSz
  go_simp
  try rfl
 refine zc (i:=10) (v:=?v10) (some 40) rfl rfl (by kernel_rfl) (by kernel_rfl) (by kernel_rfl) (fun _ _ _ h=>h) (Or.inl ⟨by rfl,?hy10⟩) HS ?_
 case hy10=>
  intro wz hSz
  go_simp
  try rfl
 refine wpAnyH_all (rs:=[11]) (by kernel_rfl) (by simp) (fun j hj=>?_)
 obtain rfl:=List.mem_singleton.1 hj
 refine yk (f:=70) (args:=#[.slice a xs.length c,.int .i64 m]) (some 41) rfl rfl (by rfl) ?hcall ?_
 case hcall=>
  go_simp
  all_goals (first|rfl|(rw[hw1,hq,hw2]))
 refine(hcu (nq+1)).mono ?_
 rintro e w1 ⟨va,vb,rfl,hra,hrb,hap,hb1⟩
 have HB2:Hid (Below W1.heap.size W1 w1):=(xL _ _ (nq+1)).trans hb1
 have HH2:Hid (Mh M room n xs (.slice a xs.length c) w1):=(HH1.out 0).later HB2.out
 have HS1:=HH2.out.c2
 have HA:Hid (RowI W1.heap.size w1 va o):=hra
 have HBR:Hid (RowI W1.heap.size w1 vb r):=hrb
 have HAP:Hid (Yr va vb):=hap
 obtain⟨aa,ac,rfl⟩:=hra.shape
 obtain⟨ba,bc,rfl⟩:=hrb.shape
 refine⟨HS1,?_⟩
 refine zc (i:=12) (v:=?v12) (some 29) rfl rfl (by kernel_rfl) (by kernel_rfl) (by kernel_rfl) (fun _ _ _ h=>h) (Or.inl ⟨by rfl,?hy12⟩) HS1 ?_
 case hy12=>
  intro wz hSz
  go_simp
  try rfl
 refine zc (i:=13) (v:=?v13) (some 42) rfl rfl (by kernel_rfl) (by kernel_rfl) (by kernel_rfl) (fun _ _ _ h=>h) (Or.inl ⟨by rfl,?hy13⟩) HS1 ?_
 case hy13=>
  intro wz hSz
  go_simp
  try rfl
 refine zc (i:=14) (v:=?v14) (some 43) rfl rfl (by kernel_rfl) (by kernel_rfl) (by kernel_rfl) (fun _ _ _ h=>h) (Or.inl ⟨by rfl,?hy14⟩) HS1 ?_
 case hy14=>
  intro wz hSz
  go_simp
  try rfl
 refine zc (i:=15) (v:=?v15) (some 7) rfl rfl (by kernel_rfl) (by kernel_rfl) (by kernel_rfl) (fun _ _ _ h=>h) (Or.inl ⟨by rfl,?hy15⟩) HS1 ?_
 case hy15=>
  intro wz hSz
  go_simp
  try rfl
 refine zc (i:=16) (v:=?v16) (some 8) rfl rfl (by kernel_rfl) (by kernel_rfl) (by kernel_rfl) (fun _ _ _ h=>h) (Or.inl ⟨by rfl,?hy16⟩) HS1 ?_
 case hy16=>
  intro wz hSz
  go_simp
  try rfl
 refine wpAnyH_done (by kernel_rfl) ?_ _
 clear hra hrb hap hb1 hcu hq hq2 hd0 hd2 HS hw1 hw2 hne HH1
 obtain⟨W3,hW3⟩:∃W3,W3=w1.setCell ⟨M,2,none⟩ (.slice ba r.length bc):=⟨_,rfl⟩
 have hsz:=HB2.out.size
 have HB3:Hid (Kd M (Value.slice a xs.length c).ownBlock W1 W3):=by rw[hW3];exact(Kd.of_below HB2.out).setS _ _
 have HBL:Hid (∀k,(Value.slice ba r.length bc).ownBlock=some k→W1.heap.size≤k):=fun k e=>(HBR.out.low e).1
 have h3:Mh M room n r (.slice ba r.length bc) W3:=by rw[hW3];exact HH2.out.setV rfl (HBR.out.mono (by omega)) (by omega)
 have HA3:Hid (RowI W1.heap.size W3 (.slice aa o.length ac) o):=by rw[hW3];exact HA.out.of_blocks (fun k e=>qq5 _ _ _ _ (by show k≠M;have:=(HA.out.low e).1;omega))
 have HH3:Hid (Mh M room n r (.slice ba r.length bc) W3):=h3
 have hf2:=HH2.out.fz 2
 have hd2:=h3.c2
 have hf3:=h3.fz 2
 have hlt3:=h3.lt
 have hcA:(W3.alloc (.cells #[.int .i64 nr] 3)).cell? ⟨M,2,none⟩=some (.slice ba r.length bc):=(qq9 (a:=⟨M,2,none⟩) (qa W3 _ _ hlt3)).trans hd2
 have HO:Hid (Rds (fun _=>True) (W3.alloc (.cells #[.int .i64 nr] 3)) (.slice (some ⟨W3.heap.size,0,none⟩) 1 1) [nr]):=zK W3 nr
 have HW:Hid (W3=w1.setCell ⟨M,2,none⟩ (.slice ba r.length bc)):=hW3
 have HAP2:Hid (Yr (.slice ba r.length bc) (.slice aa o.length ac)):=HAP.out.symm
 clear h3 hW3
 simp only[Act.put,List.setIfInBounds_toArray,List.set_cons_zero,List.set_cons_succ]
 go_upto_region 10 with fail
 rw[←HW.out]
 clear HW hf2 HS1 HH2 HA HBR HAP
 go_wp2_with (first|(at_builtin;refine ze rfl (.tmp 53) (.tmp 55) rfl (M+1) (fun _=>True) (.slice ba r.length bc) (.slice (some ⟨W3.heap.size,0,none⟩) 1 1) r [nr] rfl rfl (HH3.out.row.alloc _) HO.out (by simp;omega) (by simp;omega) ?_;intro v2 w2 hown2 hgr2 hat2;have hM:=HH3.out.more hgr2 hown2 hdl;have hA4:=yU (HA3.out.alloc (.cells #[.int .i64 nr] 3)) HAP2.out hgr2 (by simpa using hat2);obtain⟨hM1,hM2,hM3⟩:=hM;have HM1:Hid (Mh M room n (r++[nr]) v2 (w2.setCell ⟨M,2,none⟩ v2)):=hM1;have HM2:Hid (Kd M (Value.slice ba r.length bc).ownBlock W3 (w2.setCell ⟨M,2,none⟩ v2)):=hM2;have HN2:Hid (∀k,v2.ownBlock=some k→W1.heap.size≤k):=(fun k e=>by { rcases hat2 with h|h;{ exact HBL.out k (h.symm.trans e) };{ have e2:=h.symm.trans e;have e3:=HB3.out.size;simp at e2;omega } });have HA4:Hid (RowI W1.heap.size w2 (.slice aa o.length ac) o):=hA4.1;have hz2:=(World.frozen?_of_block (a:=⟨M,2,none⟩) hM3).trans hf3;have hcm:=(qq9 (a:=⟨M,2,none⟩) hM3).trans hd2;obtain⟨a2,k2,rfl⟩:=hown2.shape;simp only[List.length_append,List.length_singleton]at *;clear hown2 hgr2 hat2 hM1 hM2 hM3 hA4))
 go_ret
 have hsw:=HB1.out.2
 exact⟨⟨_,rfl,(HA4.out.rds.mono (fun k e=>by have:=(HA4.out.low e).1;omega)).setM (fun b hb=>by omega) _ _⟩,⟨_,HM1.out,fun k e=>Or.inr (by have:=HN2.out k e;omega)⟩,(HB1.out.1.trans HB3.out (fun j e=>Or.inl e)).trans HM2.out (fun j e=>Or.inr (by have:=HBL.out j e;omega))⟩
theorem zi3(M room:Nat)(nr:Int)(n:Nat)(xs:List Int)(v:Value)(w:World)(h:Mh M room nr xs v w)(hr1:1≤room) :
  Calls Tryz.prog 69 #[.pointer (some ⟨M,0,none⟩),.int .i64 n] w fun e w'=>(∃ov,e=.returned ov∧Rds (fun k=>w.heap.size≤k) w' ov (putO room nr xs))∧(∃v',Mh M room n (putR room nr xs) v' w'∧XR w.heap.size v v')∧Kd M v.ownBlock w w':=by
 by_cases hn:nr=-1
 ·subst hn
  refine(zdS M room n xs v w h).mono ?_
  rintro e w' ⟨rfl,hm,hb⟩
  exact⟨⟨_,rfl,by simp only[putO,true_or,if_true];exact Rds.nil _ _⟩,⟨v,by simp only[putR,if_true];exact hm,fun k e=>Or.inl e⟩,hb⟩
 ·by_cases hl:xs.length<room
  ·refine(zdT M room nr n xs v w h hn hl).mono ?_
   rintro e w' ⟨rfl,⟨v',hm,hn2⟩,hb⟩
   exact⟨⟨_,rfl,by simp only[putO,hl,or_true,if_true];exact Rds.nil _ _⟩,⟨v',by simp only[putR,hn,hl,if_false,if_true];exact hm,hn2⟩,hb⟩
  ·have hpo:putO room nr xs=xs.take ((xs.length+1) / 2):=by simp[putO,hn,hl]
   have hpr:putR room nr xs=xs.drop ((xs.length+1) / 2)++[nr]:=by simp[putR,hn,hl]
   rw[hpo,hpr]
   exact zdR M room nr n xs v w h hn (by have:=h.le;omega) hr1
end Go.Proofs.YtlfbdjeojgbniaaGreatDoor.Hnd
namespace Go.Proofs.YtlfbdjeojgbniaaGreatDoor
section
open Go.RowKit Go.Deep
theorem zas{w:World}{base:Nat}{v:Value}{n:Nat}{xs:List Value}(h:w.ownsRow base 3 1 v n xs):∃a c,v=.slice a n c:=by
 rcases h.2 with⟨h1,h2⟩|⟨g,cap,cur,hv,_⟩
 ·exact⟨none,0,by rw[h1,h2]⟩
 ·exact⟨_,_,hv⟩
def missing(ts:Zl)(T:Nat→Bool)(k:Nat):Bool:=(Za ts k).any (fun y=>!T y.toNat)
set_option maxRecDepth 100000 in
set_option maxHeartbeats 4000000 in
theorem jX(v pv:Value)(ts:Zl)(T:Nat→Bool)(i:Nat)(w:World)(hp:Zf w v ts)(hi:i<ts.length)(hr:ZA ts)(hb:Yl w pv ts.length T) :
  Calls Tryz.prog 104 #[v,.int .i64 i,pv] w fun e w'=>e=.returned (.bool (!missing ts T i))∧Below w.heap.size w w':=by
 obtain⟨hl,a,c,rfl,hp⟩:=hp
 obtain⟨bb,bo,bc,rfl,hblt,hbc⟩:=hb
 rcases hp with rfl|⟨b,o,rfl,hbl,hc⟩
 ·simp at hi
 obtain⟨_,nv,hc2,hin⟩:=hc i hi
 obtain⟨hnl,na,nc,rfl,hns⟩:=hin
 have HBC:Hid (∀k,k<ts.length→w.cell? ⟨bb,bo+k,none⟩=some (.bool (T k))):=hbc
 have HR:Hid (ZA ts):=hr
 clear hc hbc hr
 go_enter Tryz.func104,Tryz.ntmps104
 go_wp2
 go_loopw [7] (fun s7 wr=>∃k:Nat,k≤(Za ts i).length∧s7=.int .i64 k∧Hid (∀y,y∈(Za ts i).take k→(!T y.toNat)=false)∧Below w.heap.size w wr) (fun s7 _=>(Za ts i).length-(intOf s7).toNat)
 case atStart=>exact⟨0,Nat.zero_le _,rfl,fun y hy=>by simp at hy,qq4 _ _⟩
 case round=>
  obtain⟨k,hk,rfl,hno,hb⟩:=hrel
  have hc2':=(hb.cell (p:=⟨b,o+i*2+1,none⟩) hbl).trans hc2
  by_cases hkl:k<(Za ts i).length
  ·rcases hns with hns|⟨nb,no,rfl,hnb,hnc⟩
   ·rw[hns]at hkl;simp at hkl
   have hyc:=(hb.cell (p:=⟨nb,no+k,none⟩) hnb).trans (hnc k hkl)
   have hym:(Za ts i).getD k 0∈Za ts i:=by rw[qq6,qq7 hkl];exact List.getElem_mem hkl
   have hyr:=HR.out i hi _ hym
   have HS:Hid ((!T ((Za ts i).getD k 0).toNat)=false→∀y,y∈(Za ts i).take (k+1)→(!T y.toNat)=false):=fun h=>xB (fun y=>!T y.toNat) _ k hkl hno.out h
   have HX:Hid ((!T ((Za ts i).getD k 0).toNat)=true→missing ts T i=true):=fun h=>List.any_eq_true.2 ⟨_,hym,h⟩
   clear hnc hym
   generalize (Za ts i).getD k 0=yz at *
   obtain⟨y,rfl⟩:=qc hyr.1
   have hyl:y<ts.length:=by omega
   have hdy:=(hb.cell (p:=⟨bb,bo+y,none⟩) hblt).trans (HBC.out y hyl)
   rw[Int.toNat_natCast]at HS HX
   cases hT:T y
   ·rw[hT]at hdy HX
    have HMI:Hid (missing ts T i=true):=HX.out rfl
    clear HS HX hT
    go_wp2
    go_ret
    exact⟨zM (by rw[HMI.out];rfl),hb⟩
   ·rw[hT]at hdy HS
    clear HX hT
    go_wp2
    go_roundw
    case rel=>exact⟨k+1,by omega,by go_num,HS.out rfl,hb⟩
    case measure=>simp[intOf];omega
  ·have HMI:Hid (missing ts T i=false):=by
    unfold missing
    refine List.any_eq_false.2 fun y hy=>?_
    have:=hno.out y (by rw[List.take_of_length_le (by omega)];exact hy)
    simp only[this];simp
   clear hns
   go_wp2
   go_ret
   exact⟨zM (by rw[HMI.out];rfl),hb⟩
theorem zdk(ts:Zl)(T:Nat→Bool)(k:Nat):Yy ts T k=(!T k&&!missing ts T k):=rfl
theorem zd5(S:Nat→Bool)(n:Nat)(h:unseen S n=0):∀k,k<n→S k=true:=by
 induction n with
 | zero=>intro k hk;omega
 | succ n ih=>
  intro k hk
  unfold unseen at h
  by_cases e:k=n
  ·subst e
   cases hs:S k with
   | true=>rfl
   | false=>rw[hs]at h;simp at h
  ·exact ih (by omega) k (by omega)
def Xc(N n:Nat)(w wr:World)(s:Value)(ord:List Nat):Prop:=
 wr.ownsRow (N+1) 3 1 s ord.length (ord.map natV)∧wr.rowIs N 4 n (fun k=>.bool (has ord k))∧Below N w wr
theorem Xc.later{N n:Nat}{w wr w':World}{s:Value}{ord:List Nat}(h:Xc N n w wr s ord)(hb:Below wr.heap.size wr w'):Xc N n w w' s ord:=
 ⟨h.1.kept (row:=none) ⟨hb.os,hb.tape,hb.output,hb.size,fun k hk _=>hb.block k hk⟩ (by cases s.ownBlock <;> simp),h.2.1.of_block (hb.block N h.2.1.lt),h.2.2.trans (hb.mono (Nat.le_of_lt h.2.1.lt))⟩
theorem Xc.bools{N n:Nat}{w wr:World}{s:Value}{ord:List Nat}(h:Xc N n w wr s ord):Yl wr (.slice (some ⟨N,0,none⟩) n n) n (has ord):=
 ⟨N,0,n,rfl,h.2.1.lt,fun k hk=>by rw[Nat.zero_add];exact h.2.1.cell hk⟩
set_option maxRecDepth 100000 in
set_option maxHeartbeats 8000000 in
theorem ze9(v:Value)(ts:Zl)(w:World)(hp:Zf w v ts)(hck:Zc ts 0 0) :
  Calls Tryz.prog 105 #[v] w fun e w'=>(∃ov ord,e=.returned ov∧Z9 ts ord∧Z0 w' ov (Zb ord)∧∀j,ov.ownBlock=some j→w.heap.size≤j)∧Below w.heap.size w w':=by
 have HP:Hid (Zf w v ts):=hp
 obtain⟨hl,a,c,rfl,hp⟩:=hp
 clear hp
 obtain⟨_,h30,herr,hno⟩:=hck.ok rfl
 have HR:Hid (ZA ts):=yh herr
 have HNO:Hid (∀j,j<ts.length→¬Zs ts j j):=hno
 clear herr hno hck
 have hmk:=fun wx=>run_make_row' (P:=Tryz.prog) 84 4 (.bool false) 1 Tryz.underlying84 Tryz.info4 rfl .i64 .i64 ts.length (by omega) (by omega) wx
 obtain⟨i3,hi3,hz0,hz1,hz2⟩:=info_parts Tryz.info3
 go_enter Tryz.func105,Tryz.ntmps105
 go_wp2
 have HM:Hid (Xc w.heap.size ts.length w (w.alloc (.cells (madeCells #[.bool false] ts.length) 4)) (.slice none 0 0) []):=
  ⟨World.ownsRow_nil _ _ _ _,(World.rowIs_made w (.bool false) ts.length 4).congr (fun k _=>by simp[has]),(qq4 _ _).alloc (qq1 _) _⟩
 clear hmk
 go_loopg [4] (ts.length) (fun gg s4 wr=>∃ord,Hid (Xc w.heap.size ts.length w wr s4 ord)∧Hid (Ords ts ord)∧ord.length≤ts.length∧ts.length-ord.length≤gg)
 case atStart=>exact⟨[],HM,Ords.nil ts,Nat.zero_le _,by simp⟩
 case round=>
  clear HM
  obtain⟨ord,hm,ho,hol,hgg⟩:=hrel
  obtain⟨G,rfl⟩:∃G,G=gk:=⟨_,rfl⟩
  obtain⟨oa,oc,rfl⟩:=zas hm.out.1
  by_cases hlt:ord.length<ts.length
  ·go_wp2
   go_loopw [4,5] (fun s4 s5 wr=>∃k:Nat,k≤ts.length∧s4=.slice oa ord.length oc∧s5=.int .i64 k∧Hid (Xc w.heap.size ts.length w wr (.slice oa ord.length oc) ord)∧Hid (∀j,j<k→Yy ts (has ord) j=false)) (fun _ s5 _=>ts.length-(intOf s5).toNat)
   case atStart=>exact⟨0,Nat.zero_le _,rfl,rfl,hm,fun j hj=>by omega⟩
   case round=>
    clear hm
    obtain⟨k,hk,rfl,rfl,hm,hnf⟩:=hrel
    by_cases hkl:k<ts.length
    ·have hfr:=jX _ _ ts (has ord) k wr (HP.out.later hm.out.2.2) hkl HR.out hm.out.bools
     go_wp2_with fail
     refine hfr.mono ?_
     rintro e w3 ⟨rfl,hb3⟩
     clear hfr
     have hm3:Hid (Xc w.heap.size ts.length w w3 (.slice oa ord.length oc) ord):=hm.out.later hb3
     clear hm hb3
     have hdk:=hm3.out.2.1.cell hkl
     have HFB:Hid (Yy ts (has ord) k=(!has ord k&&!missing ts (has ord) k)):=zdk _ _ _
     cases hh:has ord k
     ·rw[hh]at hdk HFB
      cases hmi:missing ts (has ord) k
      ·rw[hmi]at HFB
       have HNX:Hid (ZP ts (has ord) (k:Nat)):=ZP.some k hkl hnf.out HFB.out
       clear hh hmi HFB hnf
       have hfk:=hm3.out.2.1.frozen k
       have hown2:((w3.setCell ⟨w.heap.size,k,none⟩ (.bool true)).alloc (.cells #[.int .i64 k] 3)).ownsRow (w.heap.size+1) 3 1 (.slice oa ord.length oc) ord.length (ord.map natV):=(ownsRow_setCell_below hm3.out.1 (by show w.heap.size<w.heap.size+1;omega) _).alloc _
       go_wp2_with (at_builtin;go_loud (refine wpList_append_own _ rfl (.tmp 36) (.tmp 38) 73 rfl (w.heap.size+1) 3 i3 (.int .i64 0) 1 8 Tryz.underlying73 hi3 hz0 hz1 hz2 rfl (by decide) _ ord.length (ord.map natV) rfl hown2 ⟨w3.heap.size,0,none⟩ 1 1 [.int .i64 k] rfl rfl ?c1 ?c2 ?c3 ?c4 ?c5 ?_))
       case c1=>
        have hone:=cell_one_new (w3.setCell ⟨w.heap.size,k,none⟩ (.bool true)) (.int .i64 k) 3
        simpa using hone
       case c2=>intro u hu;simp at hu;subst hu;rfl
       case c3=>unfold maxLen;omega
       case c4=>omega
       case c5=>have:=hm3.out.2.1.lt;simp;omega
       intro v' w4 hown' hgrow _
       have hm4:Hid (Xc w.heap.size ts.length w w4 v' (ord++[k])):=by
        have hN:=hm3.out.2.1.lt
        refine⟨by simpa[natV]using hown',?_,?_⟩
        ·rw[←za0]
         refine(((hm3.out.2.1.set k (.bool true)).congr (fun j _=>by unfold mark;split <;> simp_all)).alloc _).of_block (hgrow.block _ (by simp;omega) (fun e=>by have:=(hown2.lt _ e.symm).1;omega))
        ·exact(((hm3.out.2.2.setCell (qq1 _) _)).alloc (by simp;omega) _).grown hgrow (by simp;omega) (fun j e=>by have:=(hown2.lt j e).1;omega)
       clear hown' hgrow hown2 hfk hm3
       go_wp2
       go_roundg (ts.length-(ord.length+1))
       case measure=>omega
       case rel=>exact⟨ord++[k],hm4,ho.out.snoc HNX.out,by simp;omega,by simp⟩
      ·rw[hmi]at HFB
       clear hh hmi
       go_wp2
       go_roundw
       case rel=>
        refine⟨k+1,by omega,rfl,by go_num,hm3,fun j hj=>?_⟩
        by_cases e:j=k
        ·subst e;exact HFB.out
        ·exact hnf.out j (by omega)
       case measure=>simp[intOf];omega
     ·rw[hh]at hdk HFB
      clear hh
      go_wp2
      go_roundw
      case rel=>
       refine⟨k+1,by omega,rfl,by go_num,hm3,fun j hj=>?_⟩
       by_cases e:j=k
       ·subst e;exact HFB.out
       ·exact hnf.out j (by omega)
      case measure=>simp[intOf];omega
    ·exfalso
     have hio:Z9 ts ord:=⟨ho.out,ZP.none (fun j hj=>hnf.out j (by omega))⟩
     have:=hio.length HR.out HNO.out
     omega
  ·have hle:ord.length=ts.length:=by omega
   have HLE:Hid (ord.length=ts.length):=hle
   have hnn:¬((ord.length:Int)<(ts.length:Int)):=by omega
   go_wp2
   go_ret
   refine⟨⟨_,rfl,ord,⟨ho.out,ZP.none fun j hj=>?_⟩,jx (by rw[hle]at hm;have:=hm.out.1;rw[hle]at this ⊢;exact this) (by omega),fun j hj=>?_⟩,hm.out.2.2⟩
   ·have hcount:=ho.out.count
    have hall:=zd5 (has ord) ts.length (by omega) j hj
    rw[zdk,hall];rfl
   ·have hj2:(Value.slice oa ord.length oc).ownBlock=some j:=by
     cases oa with
     | none=>exact hj
     | some z=>exact hj
    have:=(hm.out.1.lt j hj2).1
    omega
theorem zeW(ts:Zl)(S:Nat→Bool)(k:Nat):missing ts S k=!decide (ZD ts S k=0):=by
 unfold missing
 rw[Bool.eq_iff_iff]
 simp only[List.any_eq_true,Bool.not_eq_true',decide_eq_false_iff_not]
 rw[xd]
 simp only[Classical.not_forall]
 constructor
 ·rintro⟨y,hy,h⟩
  exact⟨y,hy,by simpa using h⟩
 ·rintro⟨y,hy,h⟩
  exact⟨y,hy,by simpa using h⟩
set_option maxRecDepth 100000 in
set_option maxHeartbeats 2000000 in
theorem qu(v bv:Value)(ts:Zl)(S:Nat→Bool)(w:World)(hp:Zf w v ts)(hr:ZA ts)(h30:ts.length≤30)(hb:Yl w bv ts.length S) :
  Calls Tryz.prog 65 #[v,bv] w fun e w'=>(∃ov,e=.returned ov∧RowI w.heap.size w' ov (Zb (Zg ts S ts.length)))∧Below w.heap.size w w':=by
 have HP:Hid (Zf w v ts):=hp
 have HB:Hid (Yl w bv ts.length S):=hb
 have HR:Hid (ZA ts):=hr
 obtain⟨hl,a,c,rfl,-⟩:=hp
 obtain⟨bb,bo,bc,rfl,hblt,hbc⟩:=hb
 have HBC:Hid (∀k,k<ts.length→w.cell? ⟨bb,bo+k,none⟩=some (.bool (S k))):=hbc
 clear hr hbc
 go_enter Tryz.func65,Tryz.ntmps65
 go_wp2
 go_loopw [5,6] (fun s5 s6 wr=>∃k:Nat,k≤ts.length∧s6=.int .i64 k∧Hid (RowI w.heap.size wr s5 (Zb (Zg ts S k)))∧Below w.heap.size w wr) (fun _ s6 _=>ts.length-(intOf s6).toNat)
 case atStart=>exact⟨0,Nat.zero_le _,rfl,RowI.nil _ _,qq4 _ _⟩
 case round=>
  obtain⟨k,hk,rfl,hR,hb⟩:=hrel
  obtain⟨la,lc,rfl⟩:=hR.out.shape
  by_cases hkl:k<ts.length
  ·have hfr:=jX _ _ ts S k wr (HP.out.later hb) hkl HR.out (HB.out.later hb)
   rw[zeW,Bool.not_not]at hfr
   have HT:Hid (Zg ts S (k+1)=Zg ts S k++if ZE ts S k then [k] else []):=jC ts S k
   have HBD:Hid (ZE ts S k=(!S k&&decide (ZD ts S k=0))):=rfl
   have hlen:(Zb (Zg ts S k)).length≤30:=by rw[zd];have:=z6 ts S k;omega
   generalize decide (ZD ts S k=0)=free at *
   go_wp2_with fail
   refine hfr.mono ?_
   clear hfr
   rintro e w1 ⟨rfl,hb1⟩
   have hbs:=hb.size
   have hbs1:=hb1.size
   have hB1:Below w.heap.size w w1:=hb.trans (hb1.mono hbs)
   have hR1:=hR.out.later hb1
   have hcb:=(hB1.cell (p:=⟨bb,bo+k,none⟩) hblt).trans (HBC.out k hkl)
   cases free
   ·rw[Bool.and_false]at HBD
    rw[HBD.out]at HT
    have HN:Hid (RowI w.heap.size w1 (.slice la (Zb (Zg ts S k)).length lc) (Zb (Zg ts S (k+1)))):=by show RowI _ _ _ _;rw[HT.out];simpa using hR1
    clear hR hR1 HT HBD
    cases hS:S k
    all_goals
     rw[hS]at hcb
     clear hS
     go_wp2
     go_roundw
     case rel=>exact⟨k+1,by omega,by go_num,HN,hB1⟩
     case measure=>simp[intOf];omega
   ·rw[Bool.and_true]at HBD
    cases hS:S k
    ·rw[hS]at hcb HBD
     rw[HBD.out]at HT
     have HT2:Hid (Zb (Zg ts S (k+1))=Zb (Zg ts S k)++[(k:Int)]):=by show _=_;rw[HT.out];simp[Zb]
     clear hS HT HBD hR
     generalize Zb (Zg ts S k)=l at *
     have HO:Hid (Rds (fun _=>True) (w1.alloc (.cells #[.int .i64 k] 3)) (.slice (some ⟨w1.heap.size,0,none⟩) 1 1) [(k:Int)]):=zK w1 k
     have hoa:=hR1.alloc (.cells #[.int .i64 k] 3)
     go_wp2_with (first|(at_builtin;refine ze rfl (.tmp 26) (.tmp 28) rfl w.heap.size (fun _=>True) (.slice la l.length lc) (.slice (some ⟨w1.heap.size,0,none⟩) 1 1) l [(k:Int)] rfl rfl hoa HO.out (by simp;omega) (by simp;omega) ?_;intro v2 w2 hown2 hgr2 hat2))
     have hb2:Below w.heap.size w w2:=(hB1.alloc (by omega) _).grown hgr2 (by simp;omega) (fun j e=>(hR1.low e).1)
     have HN:Hid (RowI w.heap.size w2 v2 (Zb (Zg ts S (k+1)))):=by rw[HT2.out];exact hown2
     clear hown2 hgr2 hat2 hoa HO hR1
     go_wp2
     go_roundw
     case rel=>exact⟨k+1,by omega,by go_num,HN,hb2⟩
     case measure=>simp[intOf];omega
    ·rw[hS]at hcb HBD
     have HBD2:Hid (ZE ts S k=false):=HBD
     rw[HBD2.out]at HT
     have HN:Hid (RowI w.heap.size w1 (.slice la (Zb (Zg ts S k)).length lc) (Zb (Zg ts S (k+1)))):=by show RowI _ _ _ _;rw[HT.out];simpa using hR1
     clear hS hR hR1 HT HBD HBD2
     go_wp2
     go_roundw
     case rel=>exact⟨k+1,by omega,by go_num,HN,hB1⟩
     case measure=>simp[intOf];omega
  ·have hke:k=ts.length:=by omega
   have hkl':¬(k:Int)<(ts.length:Int):=by omega
   have HE:Hid (RowI w.heap.size wr (.slice la (Zb (Zg ts S k)).length lc) (Zb (Zg ts S ts.length))):=by have:=hR.out;rw[hke]at this ⊢;exact this
   clear hR hke
   go_wp2
   go_ret
   exact⟨⟨_,rfl,HE.out⟩,hb⟩
end
end Go.Proofs.YtlfbdjeojgbniaaGreatDoor

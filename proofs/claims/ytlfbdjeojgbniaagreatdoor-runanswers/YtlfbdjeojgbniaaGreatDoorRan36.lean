import Derived.Test.YtlfbdjeojgbniaaGreatDoorRan35
namespace Go.Proofs.YtlfbdjeojgbniaaGreatDoor
section
open Go.RowKit Go.Extern.Stop Go.Stop Go.Extern
theorem Tryz.typeOfL(v:Value)(w:World):(ReflectliteType.typeOf #[.iface 132 v]).run Tryz.prog w=.ok (.iface 257 (.agg #[.pointer (some ⟨16,132,none⟩)])) w:=by kernel_rfl
theorem Tryz.typeOfS(v:Value)(w:World):(ReflectliteType.typeOf #[.iface 313 v]).run Tryz.prog w=.ok (.iface 257 (.agg #[.pointer (some ⟨16,313,none⟩)])) w:=by kernel_rfl
theorem Tryz.assignableL(w:World):(ReflectliteType.relation "AssignableTo" ReflectliteType.assignableTo #[.agg #[.pointer (some ⟨16,132,none⟩)],.iface 257 (.agg #[.pointer (some ⟨16,97,none⟩)])]).run Tryz.prog w=.ok (.bool false) w:=by kernel_rfl
theorem Tryz.assignableS(w:World):(ReflectliteType.relation "AssignableTo" ReflectliteType.assignableTo #[.agg #[.pointer (some ⟨16,313,none⟩)],.iface 257 (.agg #[.pointer (some ⟨16,97,none⟩)])]).run Tryz.prog w=.ok (.bool false) w:=by kernel_rfl
theorem Tryz.asL(v:Value)(xT:TypeId)(w:World):(Instr.typeAssert (.iface 132 v) xT 262 true).run Tryz.prog w=.ok (.tuple #[.nilIface,.bool false]) w:=run_typeAssert_lacksB Tryz.underlying262 (by kernel_rfl) (by kernel_rfl) v xT w
theorem Tryz.asS(v:Value)(xT:TypeId)(w:World):(Instr.typeAssert (.iface 313 v) xT 262 true).run Tryz.prog w=.ok (.tuple #[.nilIface,.bool false]) w:=run_typeAssert_lacksB Tryz.underlying262 (by kernel_rfl) (by kernel_rfl) v xT w
theorem Tryz.unL(v:Value)(xT:TypeId)(w:World):(Instr.typeAssert (.iface 132 v) xT 265 true).run Tryz.prog w=.ok (.tuple #[.iface 132 v,.bool true]) w:=run_typeAssert_hasB Tryz.underlying265 (by kernel_rfl) v xT w
theorem Tryz.unS(v:Value)(xT:TypeId)(w:World):(Instr.typeAssert (.iface 313 v) xT 265 true).run Tryz.prog w=.ok (.tuple #[.nilIface,.bool false]) w:=run_typeAssert_lacksB Tryz.underlying265 (by kernel_rfl) (by kernel_rfl) v xT w
theorem Tryz.unsS(v:Value)(xT:TypeId)(w:World):(Instr.typeAssert (.iface 313 v) xT 267 true).run Tryz.prog w=.ok (.tuple #[.nilIface,.bool false]) w:=run_typeAssert_lacksB Tryz.underlying267 (by kernel_rfl) (by kernel_rfl) v xT w
theorem Tryz.methodUnwrap(v:Value)(w:World):(Go.method 454 132 (.agg #[v]) "Unwrap").run Tryz.prog w=.ok (246,.agg #[v]) w:=by kernel_rfl
theorem Tryz.methodErrorS(v:Value)(w:World):(Go.method 454 313 v "Error").run Tryz.prog w=.ok (278,v) w:=by kernel_rfl
theorem zbl(ev:Value)(hev:(∃t v,ev=.iface t v))(w:World):Calls Tryz.prog 246 #[.agg #[ev]] w fun e w'=>e=.returned ev∧w'=w.alloc (.cells #[ev] 132):=by
 obtain⟨t,v,rfl⟩:=hev
 go_enter Tryz.func246,Tryz.ntmps246
 go_wp2
 go_ret
 exact⟨rfl,rfl⟩
theorem zdf(n:Int)(h1:1≤n)(h8:n≤8)(w:World):Calls Tryz.prog 99 #[.int .i64 n] w fun e w'=>e=.returned (.string ⟨(Ye n).toArray⟩)∧Below w.heap.size w w':=by
 have hq:n=1∨n=2∨n=3∨n=4∨n=5∨n=6∨n=7∨n=8:=by omega
 rcases hq with rfl|rfl|rfl|rfl|rfl|rfl|rfl|rfl
 all_goals
  go_enter Tryz.func99,Tryz.ntmps99
  go_wp2
  go_ret
  exact⟨rfl,qq4 _ _⟩
theorem zep{w w':World}{a:Addr}{v:Value}(hb:Below w.heap.size w w')(h:w.cell? a=some v)(hl:a.block<w.heap.size):w'.cell? a=some v:=(hb.cell (p:=a) hl).trans h
set_option maxRecDepth 100000 in
set_option maxHeartbeats 4000000 in
theorem ziq(n:Int)(t:Addr)(old:Value)(w:World)(hg:w.cell? ⟨1,0,none⟩=some (.iface 257 (.agg #[.pointer (some ⟨16,35,none⟩)])))(ht0:w.cell? t=some old)(hf0:w.frozen? t=false) :
  Calls Tryz.prog 98 #[.iface 132 (.agg #[.iface 97 (.int .i64 n)]),.iface 178 (.pointer (some t))] w fun ev w'=>ev=.returned (.bool true)∧w'=(((((w.alloc (.cells #[.pointer (some t)] 178)).alloc (.cells #[.pointer (some ⟨16,178,none⟩),.pointer (some ⟨w.heap.size,0,none⟩),.int .u64 150] 213)).alloc (.cells #[.pointer (some ⟨16,178,none⟩),.pointer (some ⟨w.heap.size,0,none⟩),.int .u64 150] 213)).alloc (.cells #[.iface 97 (.int .i64 n)] 132)).alloc (.cells #[.int .i64 n] 97)).setCell t (.int .i64 n):=by
 have h6:=@run_callFunc_extern Tryz.prog 132 _ (fun args=>ReflectliteValue.unpack (args.getD 0 (.tuple #[]))) Tryz.func132 (by kernel_rfl) (by kernel_rfl) (by kernel_rfl) (by kernel_rfl)
 have h7:=@run_callFunc_extern Tryz.prog 133 _ (ReflectliteValue.methodAny (ReflectliteValue.valueError "reflectlite.Value.Type" 0) (fun t _ _ _=>ReflectliteType.toType t)) Tryz.func133 (by kernel_rfl) (by kernel_rfl) (by kernel_rfl) (by kernel_rfl)
 have h8:=@run_callFunc_extern Tryz.prog 134 _ (ReflectliteValue.method (ReflectliteValue.valueError "reflectlite.Value.IsNil" 0) ReflectliteValue.isNil) Tryz.func134 (by kernel_rfl) (by kernel_rfl) (by kernel_rfl) (by kernel_rfl)
 have h27:=@run_callFunc_extern Tryz.prog 240 _ (ReflectliteType.abiMethod fun t=>do pure (.int .u8 (←Rtype.kind t))) Tryz.func240 (by kernel_rfl) (by kernel_rfl) (by kernel_rfl) (by kernel_rfl)
 have h37:=@run_callFunc_extern Tryz.prog 256 _ (ReflectliteType.method ReflectliteType.elem) Tryz.func256 (by kernel_rfl) (by kernel_rfl) (by kernel_rfl) (by kernel_rfl)
 have h38:=@run_callFunc_extern Tryz.prog 257 _ (ReflectliteType.relation "Implements" ReflectliteType.implements_) Tryz.func257 (by kernel_rfl) (by kernel_rfl) (by kernel_rfl) (by kernel_rfl)
 have h10:=@run_callFunc_extern Tryz.prog 166 _ ReflectliteType.typeOf Tryz.func166 (by kernel_rfl) (by kernel_rfl) (by kernel_rfl) (by kernel_rfl)
 have h35:=@run_callFunc_extern Tryz.prog 254 _ (ReflectliteType.relation "AssignableTo" ReflectliteType.assignableTo) Tryz.func254 (by kernel_rfl) (by kernel_rfl) (by kernel_rfl) (by kernel_rfl)
 have h11:=@run_callFunc_extern Tryz.prog 167 _ (ReflectliteValue.method (ReflectliteValue.valueError "reflectlite.Value.Elem" 0) ReflectliteValue.elem) Tryz.func167 (by kernel_rfl) (by kernel_rfl) (by kernel_rfl) (by kernel_rfl)
 have h12:=@run_callFunc_extern Tryz.prog 168 _ ReflectliteValue.set Tryz.func168 (by kernel_rfl) (by kernel_rfl) (by kernel_rfl) (by kernel_rfl)
 have tO:=Tryz.typeOf38
 have a25:=Tryz.assignable38
 have v25:=Tryz.valueOf38
 have mA:=Tryz.methodAssignableTo
 have f6:=Tryz.valueOf45
 have f7:=Tryz.type45
 have mK:=Tryz.methodKind
 have mE:=Tryz.methodElem
 have mI:=Tryz.methodImplements
 have mU:=Tryz.methodUnwrap
 have k27:=Tryz.kind45
 have k25:=Tryz.kind38
 have e27:=Tryz.elem45
 have i25:=Tryz.implements38
 have tL:=Tryz.typeOfL
 have aL:=Tryz.assignableL
 have sL:=Tryz.asL
 have uL:=Tryz.unL
 have n8:=Tryz.isNil45 ⟨w.heap.size,0,none⟩ t ((w.alloc (.cells #[.pointer (some t)] 178)).alloc (.cells #[.pointer (some ⟨16,178,none⟩),.pointer (some ⟨w.heap.size,0,none⟩),.int .u64 150] 213)) (by simp)
 have hlt:1<w.heap.size:=by
  rcases Nat.lt_or_ge 1 w.heap.size with h|h
  ·exact h
  ·simp[World.cell?,Array.getElem?_eq_none h]at hg
 have hg2:((w.alloc (.cells #[.pointer (some t)] 178)).alloc (.cells #[.pointer (some ⟨16,178,none⟩),.pointer (some ⟨w.heap.size,0,none⟩),.int .u64 150] 213)).cell? ⟨1,0,none⟩=some (.iface 257 (.agg #[.pointer (some ⟨16,35,none⟩)])):=by
  rw[World.cell?_alloc_lt _ _ ⟨1,0,none⟩ (by simp <;> omega),World.cell?_alloc_lt _ _ ⟨1,0,none⟩ hlt];exact hg
 have htl:t.block<w.heap.size:=by
  rcases Nat.lt_or_ge t.block w.heap.size with h|h
  ·exact h
  ·simp[World.cell?,Array.getElem?_eq_none h]at ht0
 have hun:=zbl (.iface 97 (.int .i64 n)) ⟨_,_,rfl⟩ (((w.alloc (.cells #[.pointer (some t)] 178)).alloc (.cells #[.pointer (some ⟨16,178,none⟩),.pointer (some ⟨w.heap.size,0,none⟩),.int .u64 150] 213)).alloc (.cells #[.pointer (some ⟨16,178,none⟩),.pointer (some ⟨w.heap.size,0,none⟩),.int .u64 150] 213))
 have b4:Below w.heap.size w ((((w.alloc (.cells #[.pointer (some t)] 178)).alloc (.cells #[.pointer (some ⟨16,178,none⟩),.pointer (some ⟨w.heap.size,0,none⟩),.int .u64 150] 213)).alloc (.cells #[.pointer (some ⟨16,178,none⟩),.pointer (some ⟨w.heap.size,0,none⟩),.int .u64 150] 213)).alloc (.cells #[.iface 97 (.int .i64 n)] 132)):=((((qq4 _ _).alloc (qq1 _) _).alloc (by simp) _).alloc (by simp <;> omega) _).alloc (by simp <;> omega) _
 have b5:Below w.heap.size w (((((w.alloc (.cells #[.pointer (some t)] 178)).alloc (.cells #[.pointer (some ⟨16,178,none⟩),.pointer (some ⟨w.heap.size,0,none⟩),.int .u64 150] 213)).alloc (.cells #[.pointer (some ⟨16,178,none⟩),.pointer (some ⟨w.heap.size,0,none⟩),.int .u64 150] 213)).alloc (.cells #[.iface 97 (.int .i64 n)] 132)).alloc (.cells #[.int .i64 n] 97)):=b4.alloc b4.size _
 have el:=Tryz.elemV45 ⟨w.heap.size,0,none⟩ t ((((w.alloc (.cells #[.pointer (some t)] 178)).alloc (.cells #[.pointer (some ⟨16,178,none⟩),.pointer (some ⟨w.heap.size,0,none⟩),.int .u64 150] 213)).alloc (.cells #[.pointer (some ⟨16,178,none⟩),.pointer (some ⟨w.heap.size,0,none⟩),.int .u64 150] 213)).alloc (.cells #[.iface 97 (.int .i64 n)] 132)) (by
  rw[World.cell?_alloc_lt _ _ ⟨w.heap.size,0,none⟩ (by simp <;> omega),World.cell?_alloc_lt _ _ ⟨w.heap.size,0,none⟩ (by simp <;> omega),World.cell?_alloc_lt _ _ ⟨w.heap.size,0,none⟩ (by simp <;> omega)]
  rw[World.cell?_alloc_at _ _ _ _ (by simp)];rfl)
 have st:=Tryz.set38 t ⟨w.heap.size+1+1+1+1,0,none⟩ n old (((((w.alloc (.cells #[.pointer (some t)] 178)).alloc (.cells #[.pointer (some ⟨16,178,none⟩),.pointer (some ⟨w.heap.size,0,none⟩),.int .u64 150] 213)).alloc (.cells #[.pointer (some ⟨16,178,none⟩),.pointer (some ⟨w.heap.size,0,none⟩),.int .u64 150] 213)).alloc (.cells #[.iface 97 (.int .i64 n)] 132)).alloc (.cells #[.int .i64 n] 97))
  (by rw[World.cell?_alloc_at _ _ _ _ (by simp)];rfl)
  (zep b5 ht0 htl)
  (by rw[World.frozen?_alloc_old _ _ t (by simp <;> omega),World.frozen?_alloc_old _ _ t (by simp <;> omega),World.frozen?_alloc_old _ _ t (by simp <;> omega),World.frozen?_alloc_old _ _ t (by simp <;> omega),World.frozen?_alloc_old _ _ t (Nat.ne_of_lt htl)];exact hf0)
 clear b4 b5
 go_enter Tryz.func98,Tryz.ntmps98
 go_wp2
 refine wp_loop_rounds 2 ?_
 rw[rounds_succ]
 go_wp2_with (first|(go_at_call 246;refine hun.mono ?_;clear hun;rintro e w4 ⟨rfl,rfl⟩)|go_in)
 rw[rounds_succ]
 go_wp2
 go_ret
 exact⟨rfl,rfl⟩
end
section
open Go.RowKit Go.Deep Go.Extern.Stop Go.Stop Go.Extern
set_option maxRecDepth 100000 in
set_option maxHeartbeats 4000000 in
theorem ziX(q:Addr)(t:Addr)(old:Value)(w:World)(hg:w.cell? ⟨1,0,none⟩=some (.iface 257 (.agg #[.pointer (some ⟨16,35,none⟩)])))(ht0:w.cell? t=some old)(_hf0:w.frozen? t=false) :
  Calls Tryz.prog 98 #[.iface 132 (.agg #[badV q]),.iface 178 (.pointer (some t))] w fun ev w'=>ev=.returned (.bool false)∧w'=((((w.alloc (.cells #[.pointer (some t)] 178)).alloc (.cells #[.pointer (some ⟨16,178,none⟩),.pointer (some ⟨w.heap.size,0,none⟩),.int .u64 150] 213)).alloc (.cells #[.pointer (some ⟨16,178,none⟩),.pointer (some ⟨w.heap.size,0,none⟩),.int .u64 150] 213)).alloc (.cells #[badV q] 132)):=by
 have h6:=@run_callFunc_extern Tryz.prog 132 _ (fun args=>ReflectliteValue.unpack (args.getD 0 (.tuple #[]))) Tryz.func132 (by kernel_rfl) (by kernel_rfl) (by kernel_rfl) (by kernel_rfl)
 have h7:=@run_callFunc_extern Tryz.prog 133 _ (ReflectliteValue.methodAny (ReflectliteValue.valueError "reflectlite.Value.Type" 0) (fun t _ _ _=>ReflectliteType.toType t)) Tryz.func133 (by kernel_rfl) (by kernel_rfl) (by kernel_rfl) (by kernel_rfl)
 have h8:=@run_callFunc_extern Tryz.prog 134 _ (ReflectliteValue.method (ReflectliteValue.valueError "reflectlite.Value.IsNil" 0) ReflectliteValue.isNil) Tryz.func134 (by kernel_rfl) (by kernel_rfl) (by kernel_rfl) (by kernel_rfl)
 have h27:=@run_callFunc_extern Tryz.prog 240 _ (ReflectliteType.abiMethod fun t=>do pure (.int .u8 (←Rtype.kind t))) Tryz.func240 (by kernel_rfl) (by kernel_rfl) (by kernel_rfl) (by kernel_rfl)
 have h37:=@run_callFunc_extern Tryz.prog 256 _ (ReflectliteType.method ReflectliteType.elem) Tryz.func256 (by kernel_rfl) (by kernel_rfl) (by kernel_rfl) (by kernel_rfl)
 have h38:=@run_callFunc_extern Tryz.prog 257 _ (ReflectliteType.relation "Implements" ReflectliteType.implements_) Tryz.func257 (by kernel_rfl) (by kernel_rfl) (by kernel_rfl) (by kernel_rfl)
 have h10:=@run_callFunc_extern Tryz.prog 166 _ ReflectliteType.typeOf Tryz.func166 (by kernel_rfl) (by kernel_rfl) (by kernel_rfl) (by kernel_rfl)
 have h35:=@run_callFunc_extern Tryz.prog 254 _ (ReflectliteType.relation "AssignableTo" ReflectliteType.assignableTo) Tryz.func254 (by kernel_rfl) (by kernel_rfl) (by kernel_rfl) (by kernel_rfl)
 have h11:=@run_callFunc_extern Tryz.prog 167 _ (ReflectliteValue.method (ReflectliteValue.valueError "reflectlite.Value.Elem" 0) ReflectliteValue.elem) Tryz.func167 (by kernel_rfl) (by kernel_rfl) (by kernel_rfl) (by kernel_rfl)
 have h12:=@run_callFunc_extern Tryz.prog 168 _ ReflectliteValue.set Tryz.func168 (by kernel_rfl) (by kernel_rfl) (by kernel_rfl) (by kernel_rfl)
 have tS:=Tryz.typeOfS
 have aS:=Tryz.assignableS
 have sS:=Tryz.asS
 have uS:=Tryz.unS
 have uuS:=Tryz.unsS
 have mA:=Tryz.methodAssignableTo
 have f6:=Tryz.valueOf45
 have f7:=Tryz.type45
 have mK:=Tryz.methodKind
 have mE:=Tryz.methodElem
 have mI:=Tryz.methodImplements
 have mU:=Tryz.methodUnwrap
 have k27:=Tryz.kind45
 have k25:=Tryz.kind38
 have e27:=Tryz.elem45
 have i25:=Tryz.implements38
 have tL:=Tryz.typeOfL
 have aL:=Tryz.assignableL
 have sL:=Tryz.asL
 have uL:=Tryz.unL
 have n8:=Tryz.isNil45 ⟨w.heap.size,0,none⟩ t ((w.alloc (.cells #[.pointer (some t)] 178)).alloc (.cells #[.pointer (some ⟨16,178,none⟩),.pointer (some ⟨w.heap.size,0,none⟩),.int .u64 150] 213)) (by simp)
 have hlt:1<w.heap.size:=by
  rcases Nat.lt_or_ge 1 w.heap.size with h|h
  ·exact h
  ·simp[World.cell?,Array.getElem?_eq_none h]at hg
 have hg2:((w.alloc (.cells #[.pointer (some t)] 178)).alloc (.cells #[.pointer (some ⟨16,178,none⟩),.pointer (some ⟨w.heap.size,0,none⟩),.int .u64 150] 213)).cell? ⟨1,0,none⟩=some (.iface 257 (.agg #[.pointer (some ⟨16,35,none⟩)])):=by
  rw[World.cell?_alloc_lt _ _ ⟨1,0,none⟩ (by simp <;> omega),World.cell?_alloc_lt _ _ ⟨1,0,none⟩ hlt];exact hg
 have htl:t.block<w.heap.size:=by
  rcases Nat.lt_or_ge t.block w.heap.size with h|h
  ·exact h
  ·simp[World.cell?,Array.getElem?_eq_none h]at ht0
 have hun:=zbl (badV q) ⟨_,_,rfl⟩ (((w.alloc (.cells #[.pointer (some t)] 178)).alloc (.cells #[.pointer (some ⟨16,178,none⟩),.pointer (some ⟨w.heap.size,0,none⟩),.int .u64 150] 213)).alloc (.cells #[.pointer (some ⟨16,178,none⟩),.pointer (some ⟨w.heap.size,0,none⟩),.int .u64 150] 213))
 unfold badV at hun ⊢
 go_enter Tryz.func98,Tryz.ntmps98
 go_wp2
 refine wp_loop_rounds 2 ?_
 rw[rounds_succ]
 go_wp2_with (first|(go_at_call 246;refine hun.mono ?_;clear hun;rintro e w4 ⟨rfl,rfl⟩)|go_in)
 rw[rounds_succ]
 go_wp2
 go_ret
 exact⟨rfl,rfl⟩
end
section
open Go.RowKit Go.Deep Go.Maps
def fnT(b:Nat):Value:=.func (.func 85) #[] #[.pointer (some ⟨b,0,none⟩)]
def fnN(b:Nat):Value:=.func (.func 88) #[] #[.pointer (some ⟨b,0,none⟩),.pointer (some ⟨b+1,0,none⟩)]
def metV(S f:Nat):Value:=.func (.func f) #[.pointer (some ⟨S,0,none⟩)] #[]
theorem ziE{b c:Nat}(h:fnT b=fnT c):b=c:=by simpa[fnT]using h
theorem ziD{b c:Nat}(h:fnN b=fnN c):b=c:=by
 have:=h
 simp[fnN]at this
 exact this
def fnD(k:Int)(b:Nat):DataW Unit:=.agg [.lit (.int .i64 k),.lit (.int .i64 b)]
theorem zC{k l:Int}{b c:Nat}(h:fnD k b=fnD l c):k=l∧b=c:=by
 simp[fnD]at h
 exact⟨h.1,by omega⟩
open Classical in
noncomputable def fnElem (v:Value):Option (DataW Unit×List MemPlace):=
 if v=.nilFunc then some (fnD 0 0,[]) else if h:∃b,v=fnT b then some (fnD 1 h.choose,[]) else if h:∃b,v=fnN b then some (fnD 2 h.choose,[]) else none
theorem zeF:fnElem .nilFunc=some (fnD 0 0,[]):=by unfold fnElem;rw[if_pos rfl]
theorem zdj(b:Nat):fnElem (fnT b)=some (fnD 1 b,[]):=by
 have h:∃c,fnT b=fnT c:=⟨b,rfl⟩
 unfold fnElem
 rw[if_neg (by simp[fnT]),dif_pos h]
 rw[←ziE h.choose_spec]
theorem qs(b:Nat):fnElem (fnN b)=some (fnD 2 b,[]):=by
 have h:∃c,fnN b=fnN c:=⟨b,rfl⟩
 unfold fnElem
 rw[if_neg (by simp[fnN]),dif_neg (by rintro⟨c,hc⟩;simp[fnN,fnT]at hc),dif_pos h]
 rw[←ziD h.choose_spec]
theorem zeE{v:Value}{z:DataW Unit×List MemPlace}(h:fnElem v=some z):(v=.nilFunc∧z.1=fnD 0 0)∨(∃b,v=fnT b∧z.1=fnD 1 b)∨(∃b,v=fnN b∧z.1=fnD 2 b):=by
 unfold fnElem at h
 split at h
 ·rename_i e;cases h;exact Or.inl ⟨e,rfl⟩
 ·split at h
  ·rename_i e;cases h;exact Or.inr (Or.inl ⟨_,e.choose_spec,rfl⟩)
  ·split at h
   ·rename_i e;cases h;exact Or.inr (Or.inr ⟨_,e.choose_spec,rfl⟩)
   ·cases h
theorem keyedS:Keyed Tryz.prog 9:=string_keyed Tryz.underlying9
theorem zeroAsk(w:World):(zeroValue 123).run Tryz.prog w=.ok .nilFunc w:=by kernel_rfl
theorem keyS(l:List UInt8)(h:l.length≤1000000):keyOf Tryz.prog 9 (.string ⟨l.toArray⟩)=some (.string l):=by
 have:=WideMaps.keyOf_string_mk (P:=Tryz.prog) (k:=9) Tryz.underlying9 (s:=⟨l.toArray⟩) (by show l.toArray.size≤maxLen;unfold maxLen;simp;omega)
 simpa using this
inductive Ask|text (f:Nat)|num (c f:Nat)
def YF(l:List UInt8):Option Ask:=
 if l=YC then some (.text 49) else if l=Y0 then some (.text 50) else if l=YU then some (.num 0 52) else if l=Yt then some (.num 1 53) else if l=Y9 then some (.num 1 54) else if l=Xa then some (.num 2 55) else if l=YT then some (.num 0 56) else none
def Qy(w:World)(S:Nat):Ask→Value→Prop
 | .text f,v=>∃b,v=fnT b∧w.cell? ⟨b,0,none⟩=some (metV S f)
 | .num c f,v=>∃b,v=fnN b∧w.cell? ⟨b,0,none⟩=some (.int .i64 (c:Int))∧w.cell? ⟨b+1,0,none⟩=some (metV S f)
def X6(M S:Nat)(w:World):Prop:=∀l:List UInt8,l.length≤1000000→∃v,(Instr.lookup 48 (.map (some M)) (.string ⟨l.toArray⟩) true).run Tryz.prog w=.ok (.tuple #[v,.bool (YF l).isSome]) w∧∀a,YF l=some a→Qy w S a v
def Y5(F:Nat→Prop)(M S:Nat)(w:World):Prop:=∀W:World,(∀k,F k→W.heap[k]?=w.heap[k]?)→X6 M S W
theorem Y5.at{F:Nat→Prop}{M S:Nat}{w:World}(h:Y5 F M S w):X6 M S w:=h w (fun _ _=>rfl)
theorem Y5.kept{F:Nat→Prop}{M S:Nat}{w w':World}(h:Y5 F M S w)(e:∀k,F k→w'.heap[k]?=w.heap[k]?):Y5 F M S w':=fun W hW=>h W (fun k hk=>(hW k hk).trans (e k hk))
theorem Y5.more{F F':Nat→Prop}{M S:Nat}{w:World}(h:Y5 F M S w)(e:∀k,F k→F' k):Y5 F' M S w:=fun W hW=>h W (fun k hk=>hW k (e k hk))
theorem zcU(S f:Nat)(w:World):Calls Tryz.prog 48 #[metV S f] w fun e w'=>e=.returned (fnT w.heap.size)∧w'=w.alloc (.cells #[metV S f] 125):=by
 unfold metV fnT
 go_enter Tryz.func48,Tryz.ntmps48
 go_wp2
 go_ret
 exact⟨rfl,rfl⟩
theorem zaE(c:Int)(S f:Nat)(w:World):Calls Tryz.prog 51 #[.int .i64 c,metV S f] w fun e w'=>e=.returned (fnN w.heap.size)∧w'=(w.alloc (.cells #[.int .i64 c] 3)).alloc (.cells #[metV S f] 127):=by
 unfold metV fnN
 go_enter Tryz.func51,Tryz.ntmps51
 go_wp2
 go_ret
 exact⟨by simp,rfl⟩
structure AskD (D:DataW Unit) (b1 b2 b3 b4 b5 b6 b7:Nat):Prop where
 has:∀l:List UInt8,Maps.has D (.string l)=(YF l).isSome
 c1:D.atKey (.string YC) (fnD 0 0)=fnD 1 b1
 c2:D.atKey (.string Y0) (fnD 0 0)=fnD 1 b2
 c3:D.atKey (.string YU) (fnD 0 0)=fnD 2 b3
 c4:D.atKey (.string Yt) (fnD 0 0)=fnD 2 b4
 c5:D.atKey (.string Y9) (fnD 0 0)=fnD 2 b5
 c6:D.atKey (.string Xa) (fnD 0 0)=fnD 2 b6
 c7:D.atKey (.string YT) (fnD 0 0)=fnD 2 b7
theorem zt{a b:List UInt8}(h:a≠b):(Lit.string a)≠.string b:=fun e=>h (by injection e)
theorem zhf{D1 D2 D3 D4 D5 D6 D7:DataW Unit}(b1 b2 b3 b4 b5 b6 b7:Nat)(h1:D1=(DataW.map []).put (.string YC) (fnD 1 b1))(h2:D2=D1.put (.string Y0) (fnD 1 b2))(h3:D3=D2.put (.string YU) (fnD 2 b3))(h4:D4=D3.put (.string Yt) (fnD 2 b4))(h5:D5=D4.put (.string Y9) (fnD 2 b5))(h6:D6=D5.put (.string Xa) (fnD 2 b6))(h7:D7=D6.put (.string YT) (fnD 2 b7))
  (m1:Maps.IsMap D1) (m2:Maps.IsMap D2) (m3:Maps.IsMap D3) (m4:Maps.IsMap D4) (m5:Maps.IsMap D5) (m6:Maps.IsMap D6):AskD D7 b1 b2 b3 b4 b5 b6 b7:=by
 have m0:Maps.IsMap (DataW.map []:DataW Unit):=⟨[],rfl⟩
 subst h1 h2 h3 h4 h5 h6 h7
 refine⟨fun l=>?_,?_,?_,?_,?_,?_,?_,?_⟩
 ·unfold YF
  by_cases e7:l=YT
  ·subst e7;rw[Maps.has_put_same m6 (by trivial)];rfl
  rw[Maps.has_put_other (zt e7)]
  by_cases e6:l=Xa
  ·subst e6;rw[Maps.has_put_same m5 (by trivial)];rfl
  rw[Maps.has_put_other (zt e6)]
  by_cases e5:l=Y9
  ·subst e5;rw[Maps.has_put_same m4 (by trivial)];rfl
  rw[Maps.has_put_other (zt e5)]
  by_cases e4:l=Yt
  ·subst e4;rw[Maps.has_put_same m3 (by trivial)];rfl
  rw[Maps.has_put_other (zt e4)]
  by_cases e3:l=YU
  ·subst e3;rw[Maps.has_put_same m2 (by trivial)];rfl
  rw[Maps.has_put_other (zt e3)]
  by_cases e2:l=Y0
  ·subst e2;rw[Maps.has_put_same m1 (by trivial)];rfl
  rw[Maps.has_put_other (zt e2)]
  by_cases e1:l=YC
  ·subst e1;rw[Maps.has_put_same m0 (by trivial)];rfl
  rw[Maps.has_put_other (zt e1),if_neg e1,if_neg e2,if_neg e3,if_neg e4,if_neg e5,if_neg e6,if_neg e7]
  rfl
 ·rw[Maps.atKey_put_other (zt (by decide)),Maps.atKey_put_other (zt (by decide)),Maps.atKey_put_other (zt (by decide)),Maps.atKey_put_other (zt (by decide)),Maps.atKey_put_other (zt (by decide)),Maps.atKey_put_other (zt (by decide))]
  exact Maps.atKey_put_same m0 (by trivial) _ _
 ·rw[Maps.atKey_put_other (zt (by decide)),Maps.atKey_put_other (zt (by decide)),Maps.atKey_put_other (zt (by decide)),Maps.atKey_put_other (zt (by decide)),Maps.atKey_put_other (zt (by decide))]
  exact Maps.atKey_put_same m1 (by trivial) _ _
 ·rw[Maps.atKey_put_other (zt (by decide)),Maps.atKey_put_other (zt (by decide)),Maps.atKey_put_other (zt (by decide)),Maps.atKey_put_other (zt (by decide))]
  exact Maps.atKey_put_same m2 (by trivial) _ _
 ·rw[Maps.atKey_put_other (zt (by decide)),Maps.atKey_put_other (zt (by decide)),Maps.atKey_put_other (zt (by decide))]
  exact Maps.atKey_put_same m3 (by trivial) _ _
 ·rw[Maps.atKey_put_other (zt (by decide)),Maps.atKey_put_other (zt (by decide))]
  exact Maps.atKey_put_same m4 (by trivial) _ _
 ·rw[Maps.atKey_put_other (zt (by decide))]
  exact Maps.atKey_put_same m5 (by trivial) _ _
 ·exact Maps.atKey_put_same m6 (by trivial) _ _
theorem zis{D:DataW Unit}{b1 b2 b3 b4 b5 b6 b7 M S n:Nat}{w:World}(hD:AskD D b1 b2 b3 b4 b5 b6 b7)(hown:w.ownsMap Tryz.prog 9 fnElem M n D)
  (h1:w.cell? ⟨b1,0,none⟩=some (metV S 49)) (h2:w.cell? ⟨b2,0,none⟩=some (metV S 50))
  (h3:w.cell? ⟨b3,0,none⟩=some (.int .i64 0)∧w.cell? ⟨b3+1,0,none⟩=some (metV S 52))
  (h4:w.cell? ⟨b4,0,none⟩=some (.int .i64 1)∧w.cell? ⟨b4+1,0,none⟩=some (metV S 53))
  (h5:w.cell? ⟨b5,0,none⟩=some (.int .i64 1)∧w.cell? ⟨b5+1,0,none⟩=some (metV S 54))
  (h6:w.cell? ⟨b6,0,none⟩=some (.int .i64 2)∧w.cell? ⟨b6+1,0,none⟩=some (metV S 55))
  (h7:w.cell? ⟨b7,0,none⟩=some (.int .i64 0)∧w.cell? ⟨b7+1,0,none⟩=some (metV S 56)):X6 M S w:=by
 intro l hl
 obtain⟨v,ps,hr,hv⟩:=hown.look_ok keyedS Tryz.underlying48 (zeroAsk w) zeF (keyS l hl)
 rw[hD.has]at hr
 refine⟨v,hr,fun a ha=>?_⟩
 have inv:=zeE hv
 dsimp only at inv
 unfold YF at ha
 split at ha
 ·rename_i e;subst e;cases ha
  rw[hD.c1]at inv
  rcases inv with⟨-,e⟩|⟨b,rfl,e⟩|⟨b,-,e⟩
  ·exact absurd (zC e).1 (by decide)
  ·obtain rfl:=(zC e).2;exact⟨_,rfl,h1⟩
  ·exact absurd (zC e).1 (by decide)
 split at ha
 ·rename_i e;subst e;cases ha
  rw[hD.c2]at inv
  rcases inv with⟨-,e⟩|⟨b,rfl,e⟩|⟨b,-,e⟩
  ·exact absurd (zC e).1 (by decide)
  ·obtain rfl:=(zC e).2;exact⟨_,rfl,h2⟩
  ·exact absurd (zC e).1 (by decide)
 split at ha
 ·rename_i e;subst e;cases ha
  rw[hD.c3]at inv
  rcases inv with⟨-,e⟩|⟨b,-,e⟩|⟨b,rfl,e⟩
  ·exact absurd (zC e).1 (by decide)
  ·exact absurd (zC e).1 (by decide)
  ·obtain rfl:=(zC e).2;exact⟨_,rfl,h3⟩
 split at ha
 ·rename_i e;subst e;cases ha
  rw[hD.c4]at inv
  rcases inv with⟨-,e⟩|⟨b,-,e⟩|⟨b,rfl,e⟩
  ·exact absurd (zC e).1 (by decide)
  ·exact absurd (zC e).1 (by decide)
  ·obtain rfl:=(zC e).2;exact⟨_,rfl,h4⟩
 split at ha
 ·rename_i e;subst e;cases ha
  rw[hD.c5]at inv
  rcases inv with⟨-,e⟩|⟨b,-,e⟩|⟨b,rfl,e⟩
  ·exact absurd (zC e).1 (by decide)
  ·exact absurd (zC e).1 (by decide)
  ·obtain rfl:=(zC e).2;exact⟨_,rfl,h5⟩
 split at ha
 ·rename_i e;subst e;cases ha
  rw[hD.c6]at inv
  rcases inv with⟨-,e⟩|⟨b,-,e⟩|⟨b,rfl,e⟩
  ·exact absurd (zC e).1 (by decide)
  ·exact absurd (zC e).1 (by decide)
  ·obtain rfl:=(zC e).2;exact⟨_,rfl,h6⟩
 split at ha
 ·rename_i e;subst e;cases ha
  rw[hD.c7]at inv
  rcases inv with⟨-,e⟩|⟨b,-,e⟩|⟨b,rfl,e⟩
  ·exact absurd (zC e).1 (by decide)
  ·exact absurd (zC e).1 (by decide)
  ·obtain rfl:=(zC e).2;exact⟨_,rfl,h7⟩
 ·cases ha
end
section
open Go.RowKit Go.Deep Go.Maps
structure Stg (w:World) (n:Nat) (D:DataW Unit) (L:List (Nat×Value)) (V:World):Prop where
 own:V.ownsMap Tryz.prog 9 fnElem w.heap.size n D
 bel:Below w.heap.size w V
 cl:∀p,p∈L→w.heap.size<p.1∧V.cell? ⟨p.1,0,none⟩=some p.2
theorem Stg.start(w:World):Stg w 0 (.map []) [] (w.alloc (.map #[] 0)):=⟨World.ownsMap_made _ _ _ _,(qq4 _ _).alloc (qq1 _) _,fun p hp=>by simp at hp⟩
theorem yH{w:World}{b:Nat}{v:Value}{t:TypeId}(h:w.heap[b]?=some (.cells #[v] t (0,0))):w.cell? ⟨b,0,none⟩=some v:=by
 unfold World.cell?
 rw[h]
 rfl
theorem qL{w:World}{b:Nat}{v:Value}(h:w.cell? ⟨b,0,none⟩=some v):b<w.heap.size:=by
 rcases Nat.lt_or_ge b w.heap.size with hp|h0
 ·exact hp
 ·simp[World.cell?,Array.getElem?_eq_none h0]at h
theorem Stg.grow{w V U V':World}{n n':Nat}{D D':DataW Unit}{L N:List (Nat×Value)}(h:Stg w n D L V)(hb:Below V.heap.size V U)(hN:∀p,p∈N→V.heap.size≤p.1∧U.cell? ⟨p.1,0,none⟩=some p.2)(ho:V'.ownsMap Tryz.prog 9 fnElem w.heap.size n' D')(hg:U.grownBy V' (some w.heap.size)):Stg w n' D' (L++N) V':=by
 have hM:=h.own.lt
 have hk:∀b v,b≠w.heap.size→U.cell? ⟨b,0,none⟩=some v→V'.cell? ⟨b,0,none⟩=some v:=fun b v hb hc=>
  (qq9 (a:=⟨b,0,none⟩) (hg.block b (qL hc) (fun e=>hb (Option.some.inj e)))).trans hc
 refine⟨ho,(h.bel.trans (hb.mono h.bel.size)).grown hg (qq2 h.bel.size hb.size) (fun k e=>by cases e;exact qq1 _),fun p hp=>?_⟩
 rcases List.mem_append.1 hp with hp|hp
 ·obtain⟨h1,h2⟩:=h.cl p hp
  exact⟨h1,hk _ _ (by omega) ((hb.cell (p:=⟨p.1,0,none⟩) (qL h2)).trans h2)⟩
 ·obtain⟨h1,h2⟩:=hN p hp
  exact⟨by omega,hk _ _ (by omega) h2⟩
theorem Stg.text{w V V':World}{n n' S f:Nat}{D D':DataW Unit}{L:List (Nat×Value)}(h:Stg w n D L V)(ho:V'.ownsMap Tryz.prog 9 fnElem w.heap.size n' D')(hg:(V.alloc (.cells #[metV S f] 125)).grownBy V' (some w.heap.size)):Stg w n' D' (L++[(V.heap.size,metV S f)]) V':=by
 refine h.grow ((qq4 _ _).alloc (qq1 _) _) (fun p hp=>?_) ho hg
 rw[List.mem_singleton.1 hp]
 refine⟨qq1 _,?_⟩
 exact yH (blk_alloc_new V (.cells #[metV S f] 125))
theorem Stg.num{w V V':World}{n n' S f:Nat}{c:Int}{D D':DataW Unit}{L:List (Nat×Value)}(h:Stg w n D L V)(ho:V'.ownsMap Tryz.prog 9 fnElem w.heap.size n' D')(hg:((V.alloc (.cells #[.int .i64 c] 3)).alloc (.cells #[metV S f] 127)).grownBy V' (some w.heap.size)):Stg w n' D' (L++[(V.heap.size,.int .i64 c),(V.heap.size+1,metV S f)]) V':=by
 refine h.grow (((qq4 _ _).alloc (qq1 _) _).alloc (by simp) _) (fun p hp=>?_) ho hg
 simp only[List.mem_cons,List.not_mem_nil,or_false]at hp
 rcases hp with rfl|rfl
 ·refine⟨qq1 _,?_⟩
  have h1:=blk_alloc_new V (.cells #[.int .i64 c] 3)
  have h2:((V.alloc (.cells #[.int .i64 c] 3)).alloc (.cells #[metV S f] 127)).heap[V.heap.size]?=some (.cells #[.int .i64 c] 3 (0,0)):=(blk_alloc_lt _ _ _ (by simp)).trans h1
  exact yH h2
 ·refine⟨by simp,?_⟩
  have h2:=blk_alloc_new (V.alloc (.cells #[.int .i64 c] 3)) (.cells #[metV S f] 127)
  rw[nblk_alloc]at h2
  exact yH h2
theorem Stg.owns{w V W:World}{n:Nat}{D:DataW Unit}{L:List (Nat×Value)}(h:Stg w n D L V)(hW:∀k,w.heap.size≤k∧k<V.heap.size→W.heap[k]?=V.heap[k]?):W.ownsMap Tryz.prog 9 fnElem w.heap.size n D:=by
 have hM:=h.own.lt
 obtain⟨es,clock,hb,r⟩:=h.own
 exact⟨es,clock,(hW _ ⟨qq1 _,hM⟩).trans hb,r⟩
theorem Stg.cells{w V W:World}{n:Nat}{D:DataW Unit}{L:List (Nat×Value)}(h:Stg w n D L V)(hW:∀k,w.heap.size≤k∧k<V.heap.size→W.heap[k]?=V.heap[k]?):∀b v,(b,v)∈L→W.cell? ⟨b,0,none⟩=some v:=fun b v hp=>by
 obtain⟨h1,h2⟩:=h.cl (b,v) hp
 exact(qq9 (a:=⟨b,0,none⟩) (hW b ⟨Nat.le_of_lt h1,qL h2⟩)).trans h2
set_option maxRecDepth 100000 in
set_option maxHeartbeats 4000000 in
theorem zhh(S:Nat)(w:World):Calls Tryz.prog 16 #[.pointer (some ⟨S,0,none⟩)] w fun e w'=>e=.returned (.map (some w.heap.size))∧Y5 (fun k=>w.heap.size≤k∧k<w'.heap.size) w.heap.size S w'∧Below w.heap.size w w':=by
 have hT:=fun (f:Nat) (W:World)=>zcU S f W
 have hN:=fun (c:Int) (f:Nat) (W:World)=>zaE c S f W
 unfold metV fnT at hT
 unfold metV fnN at hN
 have hmk:∀wx,Sem.run Tryz.prog (Instr.makeMap 48 none) wx=.ok (.map (some wx.heap.size)) (wx.alloc (.map #[] 0)):=fun wx=>by kernel_rfl
 have H0:Hid (Stg w 0 (.map []) [] (w.alloc (.map #[] 0))):=Stg.start w
 go_enter Tryz.func16,Tryz.ntmps16
 go_wp2_with fail
 refine(hT _ _).mono ?_
 rintro e W ⟨rfl,rfl⟩
 obtain⟨V1,hr,ho,hg⟩:=(H0.out.own.alloc (.cells #[metV S 49] 125)).update keyedS Tryz.underlying48 (by unfold maxLen;omega) (keyS YC (by decide)) (zdj (w.alloc (.map #[] 0)).heap.size)
 have H1:Hid (Stg w 1 _ _ V1):=H0.out.text ho hg
 unfold YC fnT metV at hr
 rw[nblk_alloc]at hr
 clear ho hg
 go_wp2_with fail
 clear hr
 refine(hT _ _).mono ?_
 rintro e W ⟨rfl,rfl⟩
 obtain⟨V2,hr,ho,hg⟩:=(H1.out.own.alloc (.cells #[metV S 50] 125)).update keyedS Tryz.underlying48 (by unfold maxLen;omega) (keyS Y0 (by decide)) (zdj V1.heap.size)
 have H2:Hid (Stg w 2 _ _ V2):=H1.out.text ho hg
 unfold Y0 fnT metV at hr
 clear ho hg
 go_wp2_with fail
 clear hr
 refine(hN _ _ _).mono ?_
 rintro e W ⟨rfl,rfl⟩
 obtain⟨V3,hr,ho,hg⟩:=((H2.out.own.alloc (.cells #[.int .i64 0] 3)).alloc (.cells #[metV S 52] 127)).update keyedS Tryz.underlying48 (by unfold maxLen;omega) (keyS YU (by decide)) (qs V2.heap.size)
 have H3:Hid (Stg w 3 _ _ V3):=H2.out.num ho hg
 unfold YU fnN metV at hr
 clear ho hg
 go_wp2_with fail
 clear hr
 refine(hN _ _ _).mono ?_
 rintro e W ⟨rfl,rfl⟩
 obtain⟨V4,hr,ho,hg⟩:=((H3.out.own.alloc (.cells #[.int .i64 1] 3)).alloc (.cells #[metV S 53] 127)).update keyedS Tryz.underlying48 (by unfold maxLen;omega) (keyS Yt (by decide)) (qs V3.heap.size)
 have H4:Hid (Stg w 4 _ _ V4):=H3.out.num ho hg
 unfold Yt fnN metV at hr
 clear ho hg
 go_wp2_with fail
 clear hr
 refine(hN _ _ _).mono ?_
 rintro e W ⟨rfl,rfl⟩
 obtain⟨V5,hr,ho,hg⟩:=((H4.out.own.alloc (.cells #[.int .i64 1] 3)).alloc (.cells #[metV S 54] 127)).update keyedS Tryz.underlying48 (by unfold maxLen;omega) (keyS Y9 (by decide)) (qs V4.heap.size)
 have H5:Hid (Stg w 5 _ _ V5):=H4.out.num ho hg
 unfold Y9 fnN metV at hr
 clear ho hg
 go_wp2_with fail
 clear hr
 refine(hN _ _ _).mono ?_
 rintro e W ⟨rfl,rfl⟩
 obtain⟨V6,hr,ho,hg⟩:=((H5.out.own.alloc (.cells #[.int .i64 2] 3)).alloc (.cells #[metV S 55] 127)).update keyedS Tryz.underlying48 (by unfold maxLen;omega) (keyS Xa (by decide)) (qs V5.heap.size)
 have H6:Hid (Stg w 6 _ _ V6):=H5.out.num ho hg
 unfold Xa fnN metV at hr
 clear ho hg
 go_wp2_with fail
 clear hr
 refine(hN _ _ _).mono ?_
 rintro e W ⟨rfl,rfl⟩
 obtain⟨V7,hr,ho,hg⟩:=((H6.out.own.alloc (.cells #[.int .i64 0] 3)).alloc (.cells #[metV S 56] 127)).update keyedS Tryz.underlying48 (by unfold maxLen;omega) (keyS YT (by decide)) (qs V6.heap.size)
 have H7:Hid (Stg w 7 _ _ V7):=H6.out.num ho hg
 unfold YT fnN metV at hr
 clear ho hg
 go_wp2
 go_ret
 refine⟨rfl,fun W hW=>?_,H7.out.bel⟩
 have hM:=H7.out.own.lt
 have hown:=H7.out.owns hW
 have hcl:=H7.out.cells hW
 refine zis (zhf _ _ _ _ _ _ _ rfl rfl rfl rfl rfl rfl rfl H1.out.own.isMap H2.out.own.isMap H3.out.own.isMap H4.out.own.isMap H5.out.own.isMap H6.out.own.isMap) hown (hcl _ _ ?_) (hcl _ _ ?_) ⟨hcl _ _ ?_,hcl _ _ ?_⟩ ⟨hcl _ _ ?_,hcl _ _ ?_⟩ ⟨hcl _ _ ?_,hcl _ _ ?_⟩ ⟨hcl _ _ ?_,hcl _ _ ?_⟩ ⟨hcl _ _ ?_,hcl _ _ ?_⟩
 all_goals simp
end
end Go.Proofs.YtlfbdjeojgbniaaGreatDoor

/- The asks of a session: closures in a map by their words; the contracts of withText, withNumbers, asks. The walk of asks. (lineError).answer. A join in memory; the contracts of stateOf, State, Left. The contract of Ready. -/
import Derived.Test.YtlfbdjeojgbniaaGreatDoorRcm17
import Derived.Maps.OwnSet
import Derived.OrdersHeld
import Derived.BigQuiet
import Derived.Test.YtlfbdjeojgbniaaGreatDoorRcm13
import Derived.Test.YtlfbdjeojgbniaaGreatDoorRcm24
import Derived.Test.YtlfbdjeojgbniaaGreatDoorRcm10

namespace Go.Proofs.YtlfbdjeojgbniaaGreatDoor
open Go.RowKit Go.Deep Go.Maps

/-- A closure with its boxes. -/
def fnT (b : Nat) : Value := .func (.func 85) #[] #[.pointer (some ⟨b, 0, none⟩)]
def fnN (b : Nat) : Value := .func (.func 88) #[] #[.pointer (some ⟨b, 0, none⟩), .pointer (some ⟨b + 1, 0, none⟩)]
/-- A method of the session. -/
def metV (S f : Nat) : Value := .func (.func f) #[.pointer (some ⟨S, 0, none⟩)] #[]
theorem fnT_inj {b c : Nat} (h : fnT b = fnT c) : b = c := by simpa [fnT] using h
theorem fnN_inj {b c : Nat} (h : fnN b = fnN c) : b = c := by
  have := h
  simp [fnN] at this
  exact this
def fnD (k : Int) (b : Nat) : DataW Unit := .agg [.lit (.int .i64 k), .lit (.int .i64 b)]
theorem fnD_inj {k l : Int} {b c : Nat} (h : fnD k b = fnD l c) : k = l ∧ b = c := by
  simp [fnD] at h
  exact ⟨h.1, by omega⟩
open Classical in
/-- How a closure reads. -/
noncomputable def fnElem (v : Value) : Option (DataW Unit × List MemPlace) :=
  if v = .nilFunc then some (fnD 0 0, []) else if h : ∃ b, v = fnT b then some (fnD 1 h.choose, []) else if h : ∃ b, v = fnN b then some (fnD 2 h.choose, []) else none
theorem fnElem_nil : fnElem .nilFunc = some (fnD 0 0, []) := by unfold fnElem; rw [if_pos rfl]
theorem fnElem_T (b : Nat) : fnElem (fnT b) = some (fnD 1 b, []) := by
  have h : ∃ c, fnT b = fnT c := ⟨b, rfl⟩
  unfold fnElem
  rw [if_neg (by simp [fnT]), dif_pos h]
  rw [← fnT_inj h.choose_spec]
theorem fnElem_N (b : Nat) : fnElem (fnN b) = some (fnD 2 b, []) := by
  have h : ∃ c, fnN b = fnN c := ⟨b, rfl⟩
  unfold fnElem
  rw [if_neg (by simp [fnN]), dif_neg (by rintro ⟨c, hc⟩; simp [fnN, fnT] at hc), dif_pos h]
  rw [← fnN_inj h.choose_spec]
theorem fnElem_inv {v : Value} {z : DataW Unit × List MemPlace} (h : fnElem v = some z) : (v = .nilFunc ∧ z.1 = fnD 0 0) ∨ (∃ b, v = fnT b ∧ z.1 = fnD 1 b) ∨ (∃ b, v = fnN b ∧ z.1 = fnD 2 b) := by
  unfold fnElem at h
  split at h
  · rename_i e; cases h; exact Or.inl ⟨e, rfl⟩
  · split at h
    · rename_i e; cases h; exact Or.inr (Or.inl ⟨_, e.choose_spec, rfl⟩)
    · split at h
      · rename_i e; cases h; exact Or.inr (Or.inr ⟨_, e.choose_spec, rfl⟩)
      · cases h

/-- 'm[k] = v' of a map's literal, at the operation. -/
theorem wpList_insert_own {H : Type} {P : Program} (w : World) {ops : Array Oper} {rest : List Oper} {o : Oper} {a : Act} {Q : Exit → Act → World → Prop}
    (hg : o.guard = none) (m x v : Operand) (t : TypeId) (hop : o.op = Op.insert t m x v)
    (k e : TypeId) (K : Keyed P k) (ht : P.underlying t = some (.map k e)) (R : Value → Option (DataW H × List MemPlace)) (b n : Nat) (D : DataW H)
    (hm : a.eval m = .map (some b)) (hown : w.ownsMap P k R b n D) (hn : n < maxLen) (key val : Value) (kl : Lit) (hx : a.eval x = key) (hv : a.eval v = val) (hkey : keyOf P k key = some kl)
    (d : DataW H) (ps : List MemPlace) (hval : R val = some (d, ps))
    (hK : ∀ w', w'.ownsMap P k R b (n + 1) (D.put kl d) → w.grownBy w' (some b) → wpList P ops Q rest (a.put o.dst undef) w') :
    wpList P ops Q (o :: rest) a w := by
  refine wpList_plain hg fun K' hK' => ?_
  obtain ⟨w', hrun, r1, r2⟩ := hown.update K ht hn hkey hval
  unfold Oper.wp
  simp [execOp, hop, hm, hx, hv, hrun, Result.andThen]
  exact hK' _ _ (hK w' r1 r2)
theorem keyedS : Keyed Tryz.prog 9 := string_keyed Tryz.underlying9
theorem zeroAsk (w : World) : (zeroValue 123).run Tryz.prog w = .ok .nilFunc w := by kernel_rfl
theorem keyS (l : List UInt8) (h : l.length ≤ 1000000) : keyOf Tryz.prog 9 (.string ⟨l.toArray⟩) = some (.string l) := by
  have := WideMaps.keyOf_string_mk (P := Tryz.prog) (k := 9) Tryz.underlying9 (s := ⟨l.toArray⟩) (by show l.toArray.size ≤ maxLen; unfold maxLen; simp; omega)
  simpa using this

/-- What is asked by a line's first word: a text up to its end, or so many numbers. -/
inductive Ask | text (f : Nat) | num (c f : Nat)
def askOf (l : List UInt8) : Option Ask :=
  if l = weaveT then some (.text 49) else if l = planT then some (.text 50) else if l = showT then some (.num 0 52) else if l = greedyT then some (.num 1 53) else if l = gangT then some (.num 1 54) else if l = stepT then some (.num 2 55) else if l = leftT then some (.num 0 56) else none
/-- A closure that asks so. -/
def AskIs (w : World) (S : Nat) : Ask → Value → Prop
  | .text f, v => ∃ b, v = fnT b ∧ w.cell? ⟨b, 0, none⟩ = some (metV S f)
  | .num c f, v => ∃ b, v = fnN b ∧ w.cell? ⟨b, 0, none⟩ = some (.int .i64 (c : Int)) ∧ w.cell? ⟨b + 1, 0, none⟩ = some (metV S f)
def AsksOk (M S : Nat) (w : World) : Prop := ∀ l : List UInt8, l.length ≤ 1000000 → ∃ v, (Instr.lookup 48 (.map (some M)) (.string ⟨l.toArray⟩) true).run Tryz.prog w = .ok (.tuple #[v, .bool (askOf l).isSome]) w ∧ ∀ a, askOf l = some a → AskIs w S a v
/-- .. in blocks of F alone. -/
def AsksY (F : Nat → Prop) (M S : Nat) (w : World) : Prop := ∀ W : World, (∀ k, F k → W.heap[k]? = w.heap[k]?) → AsksOk M S W
theorem AsksY.at {F : Nat → Prop} {M S : Nat} {w : World} (h : AsksY F M S w) : AsksOk M S w := h w (fun _ _ => rfl)
theorem AsksY.kept {F : Nat → Prop} {M S : Nat} {w w' : World} (h : AsksY F M S w) (e : ∀ k, F k → w'.heap[k]? = w.heap[k]?) : AsksY F M S w' := fun W hW => h W (fun k hk => (hW k hk).trans (e k hk))
theorem AsksY.more {F F' : Nat → Prop} {M S : Nat} {w : World} (h : AsksY F M S w) (e : ∀ k, F k → F' k) : AsksY F' M S w := fun W hW => h W (fun k hk => hW k (e k hk))

theorem withText_any (S f : Nat) (w : World) : Calls Tryz.prog 48 #[metV S f] w fun e w' => e = .returned (fnT w.heap.size) ∧ w' = w.alloc (.cells #[metV S f] 125) := by
  unfold metV fnT
  go_enter Tryz.func48, Tryz.ntmps48
  go_wp2
  go_ret
  exact ⟨rfl, rfl⟩
theorem withNumbers_any (c : Int) (S f : Nat) (w : World) : Calls Tryz.prog 51 #[.int .i64 c, metV S f] w fun e w' => e = .returned (fnN w.heap.size) ∧ w' = (w.alloc (.cells #[.int .i64 c] 3)).alloc (.cells #[metV S f] 127) := by
  unfold metV fnN
  go_enter Tryz.func51, Tryz.ntmps51
  go_wp2
  go_ret
  exact ⟨by simp, rfl⟩

/-- What the map's datum tells. -/
structure AskD (D : DataW Unit) (b1 b2 b3 b4 b5 b6 b7 : Nat) : Prop where
  has : ∀ l : List UInt8, Maps.has D (.string l) = (askOf l).isSome
  c1 : D.atKey (.string weaveT) (fnD 0 0) = fnD 1 b1
  c2 : D.atKey (.string planT) (fnD 0 0) = fnD 1 b2
  c3 : D.atKey (.string showT) (fnD 0 0) = fnD 2 b3
  c4 : D.atKey (.string greedyT) (fnD 0 0) = fnD 2 b4
  c5 : D.atKey (.string gangT) (fnD 0 0) = fnD 2 b5
  c6 : D.atKey (.string stepT) (fnD 0 0) = fnD 2 b6
  c7 : D.atKey (.string leftT) (fnD 0 0) = fnD 2 b7
theorem strL_ne {a b : List UInt8} (h : a ≠ b) : (Lit.string a) ≠ .string b := fun e => h (by injection e)
theorem askD_any {D1 D2 D3 D4 D5 D6 D7 : DataW Unit} (b1 b2 b3 b4 b5 b6 b7 : Nat) (h1 : D1 = (DataW.map []).put (.string weaveT) (fnD 1 b1)) (h2 : D2 = D1.put (.string planT) (fnD 1 b2)) (h3 : D3 = D2.put (.string showT) (fnD 2 b3)) (h4 : D4 = D3.put (.string greedyT) (fnD 2 b4)) (h5 : D5 = D4.put (.string gangT) (fnD 2 b5)) (h6 : D6 = D5.put (.string stepT) (fnD 2 b6)) (h7 : D7 = D6.put (.string leftT) (fnD 2 b7))
    (m1 : Maps.IsMap D1) (m2 : Maps.IsMap D2) (m3 : Maps.IsMap D3) (m4 : Maps.IsMap D4) (m5 : Maps.IsMap D5) (m6 : Maps.IsMap D6) : AskD D7 b1 b2 b3 b4 b5 b6 b7 := by
  have m0 : Maps.IsMap (DataW.map [] : DataW Unit) := ⟨[], rfl⟩
  subst h1 h2 h3 h4 h5 h6 h7
  refine ⟨fun l => ?_, ?_, ?_, ?_, ?_, ?_, ?_, ?_⟩
  · unfold askOf
    by_cases e7 : l = leftT
    · subst e7; rw [Maps.has_put_same m6 (by trivial)]; rfl
    rw [Maps.has_put_other (strL_ne e7)]
    by_cases e6 : l = stepT
    · subst e6; rw [Maps.has_put_same m5 (by trivial)]; rfl
    rw [Maps.has_put_other (strL_ne e6)]
    by_cases e5 : l = gangT
    · subst e5; rw [Maps.has_put_same m4 (by trivial)]; rfl
    rw [Maps.has_put_other (strL_ne e5)]
    by_cases e4 : l = greedyT
    · subst e4; rw [Maps.has_put_same m3 (by trivial)]; rfl
    rw [Maps.has_put_other (strL_ne e4)]
    by_cases e3 : l = showT
    · subst e3; rw [Maps.has_put_same m2 (by trivial)]; rfl
    rw [Maps.has_put_other (strL_ne e3)]
    by_cases e2 : l = planT
    · subst e2; rw [Maps.has_put_same m1 (by trivial)]; rfl
    rw [Maps.has_put_other (strL_ne e2)]
    by_cases e1 : l = weaveT
    · subst e1; rw [Maps.has_put_same m0 (by trivial)]; rfl
    rw [Maps.has_put_other (strL_ne e1), if_neg e1, if_neg e2, if_neg e3, if_neg e4, if_neg e5, if_neg e6, if_neg e7]
    rfl
  · rw [Maps.atKey_put_other (strL_ne (by decide)), Maps.atKey_put_other (strL_ne (by decide)), Maps.atKey_put_other (strL_ne (by decide)), Maps.atKey_put_other (strL_ne (by decide)), Maps.atKey_put_other (strL_ne (by decide)), Maps.atKey_put_other (strL_ne (by decide))]
    exact Maps.atKey_put_same m0 (by trivial) _ _
  · rw [Maps.atKey_put_other (strL_ne (by decide)), Maps.atKey_put_other (strL_ne (by decide)), Maps.atKey_put_other (strL_ne (by decide)), Maps.atKey_put_other (strL_ne (by decide)), Maps.atKey_put_other (strL_ne (by decide))]
    exact Maps.atKey_put_same m1 (by trivial) _ _
  · rw [Maps.atKey_put_other (strL_ne (by decide)), Maps.atKey_put_other (strL_ne (by decide)), Maps.atKey_put_other (strL_ne (by decide)), Maps.atKey_put_other (strL_ne (by decide))]
    exact Maps.atKey_put_same m2 (by trivial) _ _
  · rw [Maps.atKey_put_other (strL_ne (by decide)), Maps.atKey_put_other (strL_ne (by decide)), Maps.atKey_put_other (strL_ne (by decide))]
    exact Maps.atKey_put_same m3 (by trivial) _ _
  · rw [Maps.atKey_put_other (strL_ne (by decide)), Maps.atKey_put_other (strL_ne (by decide))]
    exact Maps.atKey_put_same m4 (by trivial) _ _
  · rw [Maps.atKey_put_other (strL_ne (by decide))]
    exact Maps.atKey_put_same m5 (by trivial) _ _
  · exact Maps.atKey_put_same m6 (by trivial) _ _
/-- Seven closures in a map. -/
theorem asks_ok {D : DataW Unit} {b1 b2 b3 b4 b5 b6 b7 M S n : Nat} {w : World} (hD : AskD D b1 b2 b3 b4 b5 b6 b7) (hown : w.ownsMap Tryz.prog 9 fnElem M n D)
    (h1 : w.cell? ⟨b1, 0, none⟩ = some (metV S 49)) (h2 : w.cell? ⟨b2, 0, none⟩ = some (metV S 50))
    (h3 : w.cell? ⟨b3, 0, none⟩ = some (.int .i64 0) ∧ w.cell? ⟨b3 + 1, 0, none⟩ = some (metV S 52))
    (h4 : w.cell? ⟨b4, 0, none⟩ = some (.int .i64 1) ∧ w.cell? ⟨b4 + 1, 0, none⟩ = some (metV S 53))
    (h5 : w.cell? ⟨b5, 0, none⟩ = some (.int .i64 1) ∧ w.cell? ⟨b5 + 1, 0, none⟩ = some (metV S 54))
    (h6 : w.cell? ⟨b6, 0, none⟩ = some (.int .i64 2) ∧ w.cell? ⟨b6 + 1, 0, none⟩ = some (metV S 55))
    (h7 : w.cell? ⟨b7, 0, none⟩ = some (.int .i64 0) ∧ w.cell? ⟨b7 + 1, 0, none⟩ = some (metV S 56)) : AsksOk M S w := by
  intro l hl
  obtain ⟨v, ps, hr, hv⟩ := hown.look_ok keyedS Tryz.underlying48 (zeroAsk w) fnElem_nil (keyS l hl)
  rw [hD.has] at hr
  refine ⟨v, hr, fun a ha => ?_⟩
  have inv := fnElem_inv hv
  dsimp only at inv
  unfold askOf at ha
  split at ha
  · rename_i e; subst e; cases ha
    rw [hD.c1] at inv
    rcases inv with ⟨-, e⟩ | ⟨b, rfl, e⟩ | ⟨b, -, e⟩
    · exact absurd (fnD_inj e).1 (by decide)
    · obtain rfl := (fnD_inj e).2; exact ⟨_, rfl, h1⟩
    · exact absurd (fnD_inj e).1 (by decide)
  split at ha
  · rename_i e; subst e; cases ha
    rw [hD.c2] at inv
    rcases inv with ⟨-, e⟩ | ⟨b, rfl, e⟩ | ⟨b, -, e⟩
    · exact absurd (fnD_inj e).1 (by decide)
    · obtain rfl := (fnD_inj e).2; exact ⟨_, rfl, h2⟩
    · exact absurd (fnD_inj e).1 (by decide)
  split at ha
  · rename_i e; subst e; cases ha
    rw [hD.c3] at inv
    rcases inv with ⟨-, e⟩ | ⟨b, -, e⟩ | ⟨b, rfl, e⟩
    · exact absurd (fnD_inj e).1 (by decide)
    · exact absurd (fnD_inj e).1 (by decide)
    · obtain rfl := (fnD_inj e).2; exact ⟨_, rfl, h3⟩
  split at ha
  · rename_i e; subst e; cases ha
    rw [hD.c4] at inv
    rcases inv with ⟨-, e⟩ | ⟨b, -, e⟩ | ⟨b, rfl, e⟩
    · exact absurd (fnD_inj e).1 (by decide)
    · exact absurd (fnD_inj e).1 (by decide)
    · obtain rfl := (fnD_inj e).2; exact ⟨_, rfl, h4⟩
  split at ha
  · rename_i e; subst e; cases ha
    rw [hD.c5] at inv
    rcases inv with ⟨-, e⟩ | ⟨b, -, e⟩ | ⟨b, rfl, e⟩
    · exact absurd (fnD_inj e).1 (by decide)
    · exact absurd (fnD_inj e).1 (by decide)
    · obtain rfl := (fnD_inj e).2; exact ⟨_, rfl, h5⟩
  split at ha
  · rename_i e; subst e; cases ha
    rw [hD.c6] at inv
    rcases inv with ⟨-, e⟩ | ⟨b, -, e⟩ | ⟨b, rfl, e⟩
    · exact absurd (fnD_inj e).1 (by decide)
    · exact absurd (fnD_inj e).1 (by decide)
    · obtain rfl := (fnD_inj e).2; exact ⟨_, rfl, h6⟩
  split at ha
  · rename_i e; subst e; cases ha
    rw [hD.c7] at inv
    rcases inv with ⟨-, e⟩ | ⟨b, -, e⟩ | ⟨b, rfl, e⟩
    · exact absurd (fnD_inj e).1 (by decide)
    · exact absurd (fnD_inj e).1 (by decide)
    · obtain rfl := (fnD_inj e).2; exact ⟨_, rfl, h7⟩
  · cases ha
end Go.Proofs.YtlfbdjeojgbniaaGreatDoor

namespace Go.Proofs.YtlfbdjeojgbniaaGreatDoor
open Go.RowKit Go.Deep Go.Maps

/-- While the map is laid. -/
structure Stg (w : World) (n : Nat) (D : DataW Unit) (L : List (Nat × Value)) (V : World) : Prop where
  own : V.ownsMap Tryz.prog 9 fnElem w.heap.size n D
  bel : Below w.heap.size w V
  cl : ∀ p, p ∈ L → w.heap.size < p.1 ∧ V.cell? ⟨p.1, 0, none⟩ = some p.2
theorem Stg.start (w : World) : Stg w 0 (.map []) [] (w.alloc (.map #[] 0)) := ⟨World.ownsMap_made _ _ _ _, (Below.refl _ _).alloc (Nat.le_refl _) _, fun p hp => by simp at hp⟩
theorem cell_of {w : World} {b : Nat} {v : Value} {t : TypeId} (h : w.heap[b]? = some (.cells #[v] t (0, 0))) : w.cell? ⟨b, 0, none⟩ = some v := by
  unfold World.cell?
  rw [h]
  rfl
theorem cell_lt {w : World} {b : Nat} {v : Value} (h : w.cell? ⟨b, 0, none⟩ = some v) : b < w.heap.size := by
  rcases Nat.lt_or_ge b w.heap.size with hp | h0
  · exact hp
  · simp [World.cell?, Array.getElem?_eq_none h0] at h
theorem Stg.grow {w V U V' : World} {n n' : Nat} {D D' : DataW Unit} {L N : List (Nat × Value)} (h : Stg w n D L V) (hb : Below V.heap.size V U) (hN : ∀ p, p ∈ N → V.heap.size ≤ p.1 ∧ U.cell? ⟨p.1, 0, none⟩ = some p.2) (ho : V'.ownsMap Tryz.prog 9 fnElem w.heap.size n' D') (hg : U.grownBy V' (some w.heap.size)) : Stg w n' D' (L ++ N) V' := by
  have hM := h.own.lt
  have hk : ∀ b v, b ≠ w.heap.size → U.cell? ⟨b, 0, none⟩ = some v → V'.cell? ⟨b, 0, none⟩ = some v := fun b v hb hc =>
    (World.cell?_of_block (a := ⟨b, 0, none⟩) (hg.block b (cell_lt hc) (fun e => hb (Option.some.inj e)))).trans hc
  refine ⟨ho, (h.bel.trans (hb.mono h.bel.size)).grown hg (Nat.le_trans h.bel.size hb.size) (fun k e => by cases e; exact Nat.le_refl _), fun p hp => ?_⟩
  rcases List.mem_append.1 hp with hp | hp
  · obtain ⟨h1, h2⟩ := h.cl p hp
    exact ⟨h1, hk _ _ (by omega) ((hb.cell (p := ⟨p.1, 0, none⟩) (cell_lt h2)).trans h2)⟩
  · obtain ⟨h1, h2⟩ := hN p hp
    exact ⟨by omega, hk _ _ (by omega) h2⟩
theorem Stg.text {w V V' : World} {n n' S f : Nat} {D D' : DataW Unit} {L : List (Nat × Value)} (h : Stg w n D L V) (ho : V'.ownsMap Tryz.prog 9 fnElem w.heap.size n' D') (hg : (V.alloc (.cells #[metV S f] 125)).grownBy V' (some w.heap.size)) : Stg w n' D' (L ++ [(V.heap.size, metV S f)]) V' := by
  refine h.grow ((Below.refl _ _).alloc (Nat.le_refl _) _) (fun p hp => ?_) ho hg
  rw [List.mem_singleton.1 hp]
  refine ⟨Nat.le_refl _, ?_⟩
  exact cell_of (blk_alloc_new V (.cells #[metV S f] 125))
theorem Stg.num {w V V' : World} {n n' S f : Nat} {c : Int} {D D' : DataW Unit} {L : List (Nat × Value)} (h : Stg w n D L V) (ho : V'.ownsMap Tryz.prog 9 fnElem w.heap.size n' D') (hg : ((V.alloc (.cells #[.int .i64 c] 3)).alloc (.cells #[metV S f] 127)).grownBy V' (some w.heap.size)) : Stg w n' D' (L ++ [(V.heap.size, .int .i64 c), (V.heap.size + 1, metV S f)]) V' := by
  refine h.grow (((Below.refl _ _).alloc (Nat.le_refl _) _).alloc (by simp) _) (fun p hp => ?_) ho hg
  simp only [List.mem_cons, List.not_mem_nil, or_false] at hp
  rcases hp with rfl | rfl
  · refine ⟨Nat.le_refl _, ?_⟩
    have h1 := blk_alloc_new V (.cells #[.int .i64 c] 3)
    have h2 : ((V.alloc (.cells #[.int .i64 c] 3)).alloc (.cells #[metV S f] 127)).heap[V.heap.size]? = some (.cells #[.int .i64 c] 3 (0, 0)) := (blk_alloc_lt _ _ _ (by simp)).trans h1
    exact cell_of h2
  · refine ⟨by simp, ?_⟩
    have h2 := blk_alloc_new (V.alloc (.cells #[.int .i64 c] 3)) (.cells #[metV S f] 127)
    rw [nblk_alloc] at h2
    exact cell_of h2

theorem Stg.owns {w V W : World} {n : Nat} {D : DataW Unit} {L : List (Nat × Value)} (h : Stg w n D L V) (hW : ∀ k, w.heap.size ≤ k ∧ k < V.heap.size → W.heap[k]? = V.heap[k]?) : W.ownsMap Tryz.prog 9 fnElem w.heap.size n D := by
  have hM := h.own.lt
  obtain ⟨es, clock, hb, r⟩ := h.own
  exact ⟨es, clock, (hW _ ⟨Nat.le_refl _, hM⟩).trans hb, r⟩
theorem Stg.cells {w V W : World} {n : Nat} {D : DataW Unit} {L : List (Nat × Value)} (h : Stg w n D L V) (hW : ∀ k, w.heap.size ≤ k ∧ k < V.heap.size → W.heap[k]? = V.heap[k]?) : ∀ b v, (b, v) ∈ L → W.cell? ⟨b, 0, none⟩ = some v := fun b v hp => by
  obtain ⟨h1, h2⟩ := h.cl (b, v) hp
  exact (World.cell?_of_block (a := ⟨b, 0, none⟩) (hW b ⟨Nat.le_of_lt h1, cell_lt h2⟩)).trans h2
set_option maxRecDepth 100000 in
set_option maxHeartbeats 4000000 in
theorem asks_any (S : Nat) (w : World) : Calls Tryz.prog 16 #[.pointer (some ⟨S, 0, none⟩)] w fun e w' => e = .returned (.map (some w.heap.size)) ∧ AsksY (fun k => w.heap.size ≤ k ∧ k < w'.heap.size) w.heap.size S w' ∧ Below w.heap.size w w' := by
  have hT := fun (f : Nat) (W : World) => withText_any S f W
  have hN := fun (c : Int) (f : Nat) (W : World) => withNumbers_any c S f W
  unfold metV fnT at hT
  unfold metV fnN at hN
  have hmk : ∀ wx, Sem.run Tryz.prog (Instr.makeMap 48 none) wx = .ok (.map (some wx.heap.size)) (wx.alloc (.map #[] 0)) := fun wx => by kernel_rfl
  have H0 : Hid (Stg w 0 (.map []) [] (w.alloc (.map #[] 0))) := Stg.start w
  go_enter Tryz.func16, Tryz.ntmps16
  go_wp2_with fail
  refine (hT _ _).mono ?_
  rintro e W ⟨rfl, rfl⟩
  obtain ⟨V1, hr, ho, hg⟩ := (H0.out.own.alloc (.cells #[metV S 49] 125)).update keyedS Tryz.underlying48 (by unfold maxLen; omega) (keyS weaveT (by decide)) (fnElem_T (w.alloc (.map #[] 0)).heap.size)
  have H1 : Hid (Stg w 1 _ _ V1) := H0.out.text ho hg
  unfold weaveT fnT metV at hr
  rw [nblk_alloc] at hr
  clear ho hg
  go_wp2_with fail
  clear hr
  refine (hT _ _).mono ?_
  rintro e W ⟨rfl, rfl⟩
  obtain ⟨V2, hr, ho, hg⟩ := (H1.out.own.alloc (.cells #[metV S 50] 125)).update keyedS Tryz.underlying48 (by unfold maxLen; omega) (keyS planT (by decide)) (fnElem_T V1.heap.size)
  have H2 : Hid (Stg w 2 _ _ V2) := H1.out.text ho hg
  unfold planT fnT metV at hr
  clear ho hg
  go_wp2_with fail
  clear hr
  refine (hN _ _ _).mono ?_
  rintro e W ⟨rfl, rfl⟩
  obtain ⟨V3, hr, ho, hg⟩ := ((H2.out.own.alloc (.cells #[.int .i64 0] 3)).alloc (.cells #[metV S 52] 127)).update keyedS Tryz.underlying48 (by unfold maxLen; omega) (keyS showT (by decide)) (fnElem_N V2.heap.size)
  have H3 : Hid (Stg w 3 _ _ V3) := H2.out.num ho hg
  unfold showT fnN metV at hr
  clear ho hg
  go_wp2_with fail
  clear hr
  refine (hN _ _ _).mono ?_
  rintro e W ⟨rfl, rfl⟩
  obtain ⟨V4, hr, ho, hg⟩ := ((H3.out.own.alloc (.cells #[.int .i64 1] 3)).alloc (.cells #[metV S 53] 127)).update keyedS Tryz.underlying48 (by unfold maxLen; omega) (keyS greedyT (by decide)) (fnElem_N V3.heap.size)
  have H4 : Hid (Stg w 4 _ _ V4) := H3.out.num ho hg
  unfold greedyT fnN metV at hr
  clear ho hg
  go_wp2_with fail
  clear hr
  refine (hN _ _ _).mono ?_
  rintro e W ⟨rfl, rfl⟩
  obtain ⟨V5, hr, ho, hg⟩ := ((H4.out.own.alloc (.cells #[.int .i64 1] 3)).alloc (.cells #[metV S 54] 127)).update keyedS Tryz.underlying48 (by unfold maxLen; omega) (keyS gangT (by decide)) (fnElem_N V4.heap.size)
  have H5 : Hid (Stg w 5 _ _ V5) := H4.out.num ho hg
  unfold gangT fnN metV at hr
  clear ho hg
  go_wp2_with fail
  clear hr
  refine (hN _ _ _).mono ?_
  rintro e W ⟨rfl, rfl⟩
  obtain ⟨V6, hr, ho, hg⟩ := ((H5.out.own.alloc (.cells #[.int .i64 2] 3)).alloc (.cells #[metV S 55] 127)).update keyedS Tryz.underlying48 (by unfold maxLen; omega) (keyS stepT (by decide)) (fnElem_N V5.heap.size)
  have H6 : Hid (Stg w 6 _ _ V6) := H5.out.num ho hg
  unfold stepT fnN metV at hr
  clear ho hg
  go_wp2_with fail
  clear hr
  refine (hN _ _ _).mono ?_
  rintro e W ⟨rfl, rfl⟩
  obtain ⟨V7, hr, ho, hg⟩ := ((H6.out.own.alloc (.cells #[.int .i64 0] 3)).alloc (.cells #[metV S 56] 127)).update keyedS Tryz.underlying48 (by unfold maxLen; omega) (keyS leftT (by decide)) (fnElem_N V6.heap.size)
  have H7 : Hid (Stg w 7 _ _ V7) := H6.out.num ho hg
  unfold leftT fnN metV at hr
  clear ho hg
  go_wp2
  go_ret
  refine ⟨rfl, fun W hW => ?_, H7.out.bel⟩
  have hM := H7.out.own.lt
  have hown := H7.out.owns hW
  have hcl := H7.out.cells hW
  refine asks_ok (askD_any _ _ _ _ _ _ _ rfl rfl rfl rfl rfl rfl rfl H1.out.own.isMap H2.out.own.isMap H3.out.own.isMap H4.out.own.isMap H5.out.own.isMap H6.out.own.isMap) hown (hcl _ _ ?_) (hcl _ _ ?_) ⟨hcl _ _ ?_, hcl _ _ ?_⟩ ⟨hcl _ _ ?_, hcl _ _ ?_⟩ ⟨hcl _ _ ?_, hcl _ _ ?_⟩ ⟨hcl _ _ ?_, hcl _ _ ?_⟩ ⟨hcl _ _ ?_, hcl _ _ ?_⟩
  all_goals simp
end Go.Proofs.YtlfbdjeojgbniaaGreatDoor

namespace Go.Proofs.YtlfbdjeojgbniaaGreatDoor
open Go.RowKit Go.Deep Go.Extern.Stop Go.Stop Go.Extern

theorem blk_set_same (w : World) (b j : Nat) (v : Value) (c : Array Value) (t : TypeId) (h : w.heap[b]? = some (.cells c t (0, 0))) : (w.setCell ⟨b, j, none⟩ v).heap[b]? = some (.cells (c.setIfInBounds j v) t (0, 0)) := by
  simp [World.setCell, Array.getElem?_modify, h]
theorem frozen_of {w : World} {b : Nat} {v : Value} {t : TypeId} (h : w.heap[b]? = some (.cells #[v] t (0, 0))) : w.frozen? ⟨b, 0, none⟩ = false := by
  unfold World.frozen?
  rw [h]
  rfl
theorem below4 {w : World} (a b c d : Obj) : Below w.heap.size w ((((w.alloc a).alloc b).alloc c).alloc d) :=
  ((((Below.refl _ _).alloc (Nat.le_refl _) _).alloc (by simp) _).alloc (by simp <;> omega) _).alloc (by simp <;> omega) _
/-- What a line's error answers. -/
theorem ansErr_any (n : Int) (h1 : 1 ≤ n) (h8 : n ≤ 8) {q : Addr} (w : World) (hv : Vars q w) : Calls Tryz.prog 61 #[.agg #[.iface 97 (.int .i64 n)]] w fun e w' => e = .returned (.string ⟨(nameT n).toArray⟩) ∧ Below w.heap.size w w' := by
  have b2 : Below w.heap.size w ((w.alloc (.cells #[.iface 97 (.int .i64 n)] 132)).alloc (.cells #[.int .i64 0] 97)) := ((Below.refl _ _).alloc (Nat.le_refl _) _).alloc (by simp) _
  have k2 : ((w.alloc (.cells #[.iface 97 (.int .i64 n)] 132)).alloc (.cells #[.int .i64 0] 97)).heap[w.heap.size + 1]? = some (.cells #[.int .i64 0] 97 (0, 0)) := by
    have := blk_alloc_new (w.alloc (.cells #[.iface 97 (.int .i64 n)] 132)) (.cells #[.int .i64 0] 97)
    rwa [nblk_alloc] at this
  have hA := as_wrap n ⟨w.heap.size + 1, 0, none⟩ (.int .i64 0) ((w.alloc (.cells #[.iface 97 (.int .i64 n)] 132)).alloc (.cells #[.int .i64 0] 97)) (hv.typ.later b2) (cell_of k2) (frozen_of k2)
  have hA2 := hA.mono (R' := fun e w' => e = .returned (.bool true) ∧ w'.cell? ⟨w.heap.size + 1, 0, none⟩ = some (.int .i64 n) ∧ Below w.heap.size w w') (fun e w' ⟨e1, e2⟩ => by
    subst e2
    have b6 := below4 (w := ((w.alloc (.cells #[.iface 97 (.int .i64 n)] 132)).alloc (.cells #[.int .i64 0] 97))) (.cells #[.pointer (some ⟨w.heap.size + 1, 0, none⟩)] 178) (.cells #[.pointer (some ⟨16, 178, none⟩), .pointer (some ⟨((w.alloc (.cells #[.iface 97 (.int .i64 n)] 132)).alloc (.cells #[.int .i64 0] 97)).heap.size, 0, none⟩), .int .u64 150] 213) (.cells #[.pointer (some ⟨16, 178, none⟩), .pointer (some ⟨((w.alloc (.cells #[.iface 97 (.int .i64 n)] 132)).alloc (.cells #[.int .i64 0] 97)).heap.size, 0, none⟩), .int .u64 150] 213) (.cells #[.iface 97 (.int .i64 n)] 132)
    have b7 := b6.alloc b6.size (.cells #[.int .i64 n] 97)
    have k7 := (b7.block _ (lt_of_block k2)).trans k2
    have k8 := blk_set_same _ (w.heap.size + 1) 0 (.int .i64 n) _ _ k7
    refine ⟨e1, cell_of k8, (b2.trans (b7.mono b2.size)).setCell (p := ⟨w.heap.size + 1, 0, none⟩) (by show w.heap.size ≤ w.heap.size + 1; omega) _⟩)
  have hE := fun wx => errName_any n h1 h8 wx
  clear hA hv b2 k2
  go_enter Tryz.func61, Tryz.ntmps61
  go_wp2_with (first | (go_at_call 98; refine hA2.mono ?_; clear hA2; rintro e w2 ⟨rfl, hc, hb2⟩; have HB2 : Hid (Below w.heap.size w w2) := hb2; clear hb2) | (go_at_call 99; refine (hE _).mono ?_; rintro e w3 ⟨rfl, hb3⟩; have HB3 : Hid (Below w.heap.size w w3) := HB2.out.trans (hb3.mono HB2.out.size); clear hb3))
  go_ret
  exact ⟨rfl, HB3.out⟩
theorem ansBad_any {q : Addr} (w : World) (hv : Vars q w) : Calls Tryz.prog 61 #[.agg #[badV q]] w fun e w' => e = .returned (.string ⟨badT.toArray⟩) ∧ Below w.heap.size w w' := by
  have b2 : Below w.heap.size w ((w.alloc (.cells #[badV q] 132)).alloc (.cells #[.int .i64 0] 97)) := ((Below.refl _ _).alloc (Nat.le_refl _) _).alloc (by simp) _
  have k2 : ((w.alloc (.cells #[badV q] 132)).alloc (.cells #[.int .i64 0] 97)).heap[w.heap.size + 1]? = some (.cells #[.int .i64 0] 97 (0, 0)) := by
    have := blk_alloc_new (w.alloc (.cells #[badV q] 132)) (.cells #[.int .i64 0] 97)
    rwa [nblk_alloc] at this
  have k1 : ((w.alloc (.cells #[badV q] 132)).alloc (.cells #[.int .i64 0] 97)).heap[w.heap.size]? = some (.cells #[badV q] 132 (0, 0)) := (blk_alloc_lt _ _ _ (by simp)).trans (blk_alloc_new _ _)
  have hA := as_bad q ⟨w.heap.size + 1, 0, none⟩ (.int .i64 0) ((w.alloc (.cells #[badV q] 132)).alloc (.cells #[.int .i64 0] 97)) (hv.typ.later b2) (cell_of k2) (frozen_of k2)
  have hA2 := hA.mono (R' := fun e w' => e = .returned (.bool false) ∧ w'.cell? ⟨w.heap.size, 0, none⟩ = some (badV q) ∧ w'.cell? q = some (.string ⟨badT.toArray⟩) ∧ Below w.heap.size w w') (fun e w' ⟨e1, e2⟩ => by
    subst e2
    have b6 := below4 (w := ((w.alloc (.cells #[badV q] 132)).alloc (.cells #[.int .i64 0] 97))) (.cells #[.pointer (some ⟨w.heap.size + 1, 0, none⟩)] 178) (.cells #[.pointer (some ⟨16, 178, none⟩), .pointer (some ⟨((w.alloc (.cells #[badV q] 132)).alloc (.cells #[.int .i64 0] 97)).heap.size, 0, none⟩), .int .u64 150] 213) (.cells #[.pointer (some ⟨16, 178, none⟩), .pointer (some ⟨((w.alloc (.cells #[badV q] 132)).alloc (.cells #[.int .i64 0] 97)).heap.size, 0, none⟩), .int .u64 150] 213) (.cells #[badV q] 132)
    have hb := b2.trans (b6.mono b2.size)
    have k6 := (b6.block _ (lt_of_block k1)).trans k1
    exact ⟨e1, cell_of k6, (hb.cell (p := q) hv.qlt).trans hv.txt, hb⟩)
  have mS := Tryz.methodErrorS
  clear hA hv b2 k1 k2
  unfold badV at hA2 ⊢
  unfold badT at hA2 ⊢
  go_enter Tryz.func61, Tryz.ntmps61
  go_wp2_with (first | (go_at_call 98; refine hA2.mono ?_; clear hA2; rintro e w2 ⟨rfl, hc, hq, hb2⟩; have HB2 : Hid (Below w.heap.size w w2) := hb2; clear hb2) | go_in)
  go_ret
  exact ⟨rfl, HB2.out⟩
end Go.Proofs.YtlfbdjeojgbniaaGreatDoor

namespace Go.Proofs.YtlfbdjeojgbniaaGreatDoor
open Go.RowKit Go.Deep Go.Maps

theorem keyed3 : Keyed Tryz.prog 3 := int_keyed Tryz.underlying3
theorem zero48 (w : World) : (zeroValue 196).run Tryz.prog w = .ok (.agg #[]) w := by kernel_rfl
theorem wf_nat {y : Nat} (h : y < 1000) : (Lit.int .i64 (y : Int)).wf = true := WalkArith.wf_i64 (by omega)
theorem key_nat {y : Nat} (h : y < 1000) : keyOf Tryz.prog 3 (.int .i64 (y : Int)) = some (.int .i64 (y : Int)) := keyOf_int_mk Tryz.underlying3 (wf_nat h)

/-- Block B is the map of those that are done. -/
def DoneAt (w : World) (B n : Nat) (S : Nat → Bool) : Prop :=
  ∃ m D, w.ownsMap Tryz.prog 3 (unitElem (H := Unit)) B m D ∧ Maps.size D = m ∧ m + unseen S n = n ∧ ∀ x : Nat, x < n → Maps.has D (.int .i64 x) = S x
theorem DoneAt.of_block {w w' : World} {B n : Nat} {S : Nat → Bool} (h : DoneAt w B n S) (e : w'.heap[B]? = w.heap[B]?) : DoneAt w' B n S := by
  obtain ⟨m, D, ⟨es, clock, hb, r⟩, h1⟩ := h
  exact ⟨m, D, ⟨es, clock, e.trans hb, r⟩, h1⟩
theorem DoneAt.lt {w : World} {B n : Nat} {S : Nat → Bool} (h : DoneAt w B n S) : B < w.heap.size := by
  obtain ⟨m, D, h, _⟩ := h
  exact h.lt
theorem DoneAt.start (w : World) (n : Nat) : DoneAt (w.alloc (.map #[] 0)) w.heap.size n (fun _ => false) :=
  ⟨0, .map [], World.ownsMap_made _ _ _ _, rfl, by rw [unseen_none]; omega, fun x _ => rfl⟩

def joinRow (M A D n : Nat) : Nat → Value := fun k => if k = 0 then .slice (some ⟨M, 0, none⟩) n n else if k = 1 then .slice (some ⟨A, 0, none⟩) n n else .map (some D)

/-- The lists of those that need each task: a row of slices, each in a row of its own from block C on. -/
structure AftAt (C A n : Nat) (aft : Nat → List Nat) (av : Nat → Value) (w : World) : Prop where
  row : w.rowIs A 73 n av
  own : ∀ k, k < n → RowI C w (av k) (intsOf (aft k))
theorem AftAt.of_blocks {C A n : Nat} {aft : Nat → List Nat} {av : Nat → Value} {w w' : World} (h : AftAt C A n aft av w) (eA : w'.heap[A]? = w.heap[A]?) (eC : ∀ k, C ≤ k → k < w.heap.size → w'.heap[k]? = w.heap[k]?) : AftAt C A n aft av w' :=
  ⟨h.row.of_block eA, fun k hk => (h.own k hk).of_blocks (fun b e => eC b ((h.own k hk).low e).1 ((h.own k hk).low e).2)⟩

/-- A join of n tasks in block J: what is missing in block M, who comes after in block A, what is done in block D. -/
structure Jn (J M A D C n : Nat) (miss : Nat → Nat) (aft : Nat → List Nat) (S : Nat → Bool) (w : World) : Prop where
  row : w.rowIs J 106 3 (joinRow M A D n)
  miss : w.rowIs M 3 n (fun k => natV (miss k))
  aft : ∃ av, AftAt C A n aft av w
  done : DoneAt w D n S
  lt : J < C ∧ M < C ∧ A < C ∧ D < C
  ne : J ≠ M ∧ J ≠ A ∧ J ≠ D ∧ M ≠ A ∧ M ≠ D ∧ A ≠ D
  le : n ≤ 30

section
variable {J M A D C n : Nat} {miss : Nat → Nat} {aft : Nat → List Nat} {S : Nat → Bool} {w w' : World}
theorem Jn.of_blocks (h : Jn J M A D C n miss aft S w) (eJ : w'.heap[J]? = w.heap[J]?) (eM : w'.heap[M]? = w.heap[M]?) (eA : w'.heap[A]? = w.heap[A]?) (eD : w'.heap[D]? = w.heap[D]?)
    (eC : ∀ k, C ≤ k → k < w.heap.size → w'.heap[k]? = w.heap[k]?) : Jn J M A D C n miss aft S w' := by
  obtain ⟨av, ha⟩ := h.aft
  exact ⟨h.row.of_block eJ, h.miss.of_block eM, ⟨av, ha.of_blocks eA eC⟩, h.done.of_block eD, h.lt, h.ne, h.le⟩
theorem Jn.ltA (h : Jn J M A D C n miss aft S w) : A < w.heap.size := by
  obtain ⟨av, ha⟩ := h.aft
  exact ha.row.lt
theorem Jn.later (h : Jn J M A D C n miss aft S w) (hb : Below w.heap.size w w') : Jn J M A D C n miss aft S w' :=
  h.of_blocks (hb.block _ h.row.lt) (hb.block _ h.miss.lt) (hb.block _ h.ltA) (hb.block _ h.done.lt) (fun k _ hk => hb.block k hk)
theorem Jn.c0 (h : Jn J M A D C n miss aft S w) : w.cell? ⟨J, 0, none⟩ = some (.slice (some ⟨M, 0, none⟩) n n) := by
  have := h.row.cell (i := 0) (by omega)
  simpa [joinRow] using this
theorem Jn.c1 (h : Jn J M A D C n miss aft S w) : w.cell? ⟨J, 1, none⟩ = some (.slice (some ⟨A, 0, none⟩) n n) := by
  have := h.row.cell (i := 1) (by omega)
  simpa [joinRow] using this
theorem Jn.c2 (h : Jn J M A D C n miss aft S w) : w.cell? ⟨J, 2, none⟩ = some (.map (some D)) := by
  have := h.row.cell (i := 2) (by omega)
  simpa [joinRow] using this
theorem Jn.cM (h : Jn J M A D C n miss aft S w) {k : Nat} (hk : k < n) : w.cell? ⟨M, k, none⟩ = some (.int .i64 (miss k)) := h.miss.cell hk
end

/-- A join of the plan ts, of which the tasks of S are done. -/
def JnT (J M A D C : Nat) (ts : List (Int × List Int)) (S : Nat → Bool) (w : World) : Prop :=
  Jn J M A D C ts.length (missN ts S) (fun k => if S k then [] else aftTo ts ts.length k) S w

set_option maxHeartbeats 800000 in
theorem stateOf_any (J M A D C : Nat) (ts : List (Int × List Int)) (S : Nat → Bool) (k : Nat) (w : World) (h : JnT J M A D C ts S w) (hk : k < ts.length) :
    Calls Tryz.prog 84 #[.pointer (some ⟨J, 0, none⟩), .int .i64 k] w fun e w' => e = .returned (.int .i64 (stN ts S k)) ∧ Below w.heap.size w w' := by
  have h2 := Jn.later h ((Below.refl _ _).alloc (Nat.le_refl _) (.cells #[] 196))
  have hc2 := Jn.c2 h
  have hc0 := Jn.c0 h2
  have hcM := Jn.cM h2 hk
  obtain ⟨m, D', hown, _, _, hD⟩ := Jn.done h
  have hDk := hD k hk
  have hkey := key_nat (y := k) (by have := Jn.le h; omega)
  clear hD h2
  cases hS : S k
  · rw [hS] at hDk
    by_cases hz : missN ts S k = 0
    · rw [hz] at hcM
      have HE : Hid (stN ts S k = 1) := by unfold stN; rw [hS, hz]; rfl
      clear hS hz h
      go_enter Tryz.func84, Tryz.ntmps84
      go_wp2_with (at_lookup; refine wpList_lookup_own_unit _ rfl _ _ 104 rfl 3 196 keyed3 Tryz.underlying104 (zero48 _) D m D' rfl hown _ _ rfl hkey ?_; rw [hDk])
      go_ret
      exact ⟨by rw [HE.out]; rfl, (Below.refl _ _).alloc (Nat.le_refl _) _⟩
    · have hz2 : ((missN ts S k : Int) == 0) = false := by simp; omega
      have HE : Hid (stN ts S k = 0) := by unfold stN; rw [hS, if_neg hz]; rfl
      generalize missN ts S k = mi at *
      clear hS hz h
      go_enter Tryz.func84, Tryz.ntmps84
      go_wp2_with (at_lookup; refine wpList_lookup_own_unit _ rfl _ _ 104 rfl 3 196 keyed3 Tryz.underlying104 (zero48 _) D m D' rfl hown _ _ rfl hkey ?_; rw [hDk])
      go_ret
      exact ⟨by rw [HE.out]; rfl, (Below.refl _ _).alloc (Nat.le_refl _) _⟩
  · rw [hS] at hDk
    have HE : Hid (stN ts S k = 2) := by unfold stN; rw [hS]; rfl
    clear hS h
    go_enter Tryz.func84, Tryz.ntmps84
    go_wp2_with (at_lookup; refine wpList_lookup_own_unit _ rfl _ _ 104 rfl 3 196 keyed3 Tryz.underlying104 (zero48 _) D m D' rfl hown _ _ rfl hkey ?_; rw [hDk])
    go_ret
    exact ⟨by rw [HE.out]; rfl, (Below.refl _ _).alloc (Nat.le_refl _) _⟩

theorem state_bad (J M A D C : Nat) (ts : List (Int × List Int)) (S : Nat → Bool) (i : Int) (w : World) (h : JnT J M A D C ts S w) (hi : i < 0 ∨ (ts.length : Int) ≤ i) :
    Calls Tryz.prog 204 #[.pointer (some ⟨J, 0, none⟩), .int .i64 i] w fun e w' => e = .returned (.tuple #[.int .i64 0, errV 1]) ∧ w' = w := by
  have hc0 := Jn.c0 h
  clear h
  by_cases h1 : i < 0
  · go_enter Tryz.func204, Tryz.ntmps204
    go_wp2
    go_ret2
    exact ⟨rfl, rfl⟩
  · have h2 : (ts.length : Int) ≤ i := by omega
    go_enter Tryz.func204, Tryz.ntmps204
    go_wp2
    go_ret2
    exact ⟨rfl, rfl⟩

theorem state_good (J M A D C : Nat) (ts : List (Int × List Int)) (S : Nat → Bool) (k : Nat) (w : World) (h : JnT J M A D C ts S w) (hk : k < ts.length) :
    Calls Tryz.prog 204 #[.pointer (some ⟨J, 0, none⟩), .int .i64 k] w fun e w' => e = .returned (.tuple #[.int .i64 (stN ts S k), .nilIface]) ∧ Below w.heap.size w w' := by
  have hc0 := Jn.c0 h
  have hst := stateOf_any J M A D C ts S k w h hk
  have h1 : ¬ (k : Int) < 0 := by omega
  have h2 : ¬ (ts.length : Int) ≤ (k : Int) := by omega
  clear h
  generalize stN ts S k = st at *
  go_enter Tryz.func204, Tryz.ntmps204
  go_wp2_with (go_at_call 84; refine hst.mono ?_; clear hst; rintro e w' ⟨rfl, hb⟩)
  go_ret2
  exact ⟨rfl, hb⟩

theorem quiet_len_map {o : Oper} {a : Act} {w : World} {K : Act → Prop} {D clock : Nat} {es : Array MapEntry} (m : Operand) (ho : o.op = .call { callee := .builtin .len, args := #[m], argTypes := #[104] }) (hm : a.eval m = .map (some D))
    (hb : w.heap[D]? = some (.map es clock)) {E : Nat} (hE : Hid (es.size = E)) (h : K (a.put o.dst (.int .i64 E))) : o.quiet Tryz.prog a (fun w' => ∃ n, w' = w.drewN n) K := by
  refine ⟨_, fun w' hw => ?_, h⟩
  obtain ⟨n, rfl⟩ := hw
  have hE := hE.out
  subst hE
  have hb' : (w.drewN n).heap[D]? = some (.map es clock) := hb
  unfold Oper.quietAt
  simp [execOp, ho, resolve, invoke, builtin, hm, Builtin.len_, run_underlying Tryz.underlying104, MapKept.run_getObj_map hb', goInt, Result.andThen, Oper.quietUpon]

theorem left_any (J M A D C : Nat) (ts : List (Int × List Int)) (S : Nat → Bool) (w : World) (h : JnT J M A D C ts S w) :
    Calls Tryz.prog 14 #[.pointer (some ⟨J, 0, none⟩)] w fun e w' => e = .returned (.int .i64 (unseen S ts.length)) ∧ ∃ q, w' = w.drewN q := by
  have hc0 := Jn.c0 h
  have hc2 := Jn.c2 h
  obtain ⟨m, D', ⟨es, clock, hb, hF, hle, hD'⟩, hs, hm, _⟩ := Jn.done h
  have hsz : es.size = m := by
    rw [← hs, hD']
    exact (length_read es).symm
  have hn := Jn.le h
  have hun : ((unseen S ts.length : Nat) : Int) = (ts.length : Int) - (es.size : Int) := by omega
  rw [hun]
  have hes : es.size ≤ 30 := by omega
  clear h hF hD' hle hs hm hun hsz
  obtain ⟨E, hE⟩ : ∃ E, es.size = E := ⟨_, rfl⟩
  rw [hE] at hes ⊢
  have HE : Hid (es.size = E) := hE
  clear hE
  go_enter Tryz.func14, Tryz.ntmps14
  go_wp2
  refine wp_region_quiet_lit (by kernel_rfl) (by kernel_rfl) ?_
  repeat (go_big_quiet_step (fail))
  go_big_quiet_want
  refine quiet_len_map (.tmp 11) rfl rfl hb HE ?_
  go_big_quiet_on
  simp only [Act.put, List.setIfInBounds_toArray, List.set_cons_zero, List.set_cons_succ]
  repeat (go_big_quiet_step (fail))
  refine wpQuiet_nil ?_
  intro _ hw'
  obtain ⟨nq, rfl⟩ := hw'
  go_wp2
  go_ret
  exact ⟨rfl, _, rfl⟩
end Go.Proofs.YtlfbdjeojgbniaaGreatDoor

namespace Go.Proofs.YtlfbdjeojgbniaaGreatDoor
open Go.RowKit Go.Deep Go.Maps

theorem RowI.whole (w : World) (N n : Nat) (ys : List Int) (hn : ys.length = n) (h60 : n ≤ 60) (h : w.heap[N]? = some (.cells (ys.map (Value.int .i64)).toArray 3 (0, 0))) : RowI N w (.slice (some ⟨N, 0, none⟩) n n) ys := by
  subst hn
  exact ⟨by simp, Or.inr ⟨N, _, _, rfl, Nat.le_refl _, h, Nat.le_refl _, by unfold maxLen; omega, by simp, by simp [List.take_of_length_le]⟩⟩
theorem stN_ready {ts : List (Int × List Int)} {S : Nat → Bool} {k : Nat} (h : readyB ts S k = true) : stN ts S k = 1 := by
  obtain ⟨h1, h2⟩ := ready_parts h
  unfold stN
  rw [h1, h2]; rfl
theorem stN_not {ts : List (Int × List Int)} {S : Nat → Bool} {k : Nat} (h : readyB ts S k = false) : stN ts S k ≠ 1 := by
  unfold stN
  unfold readyB at h
  cases hs : S k with
  | true => simp
  | false =>
    rw [hs] at h
    simp at h
    simp [h]

set_option maxRecDepth 100000 in
set_option maxHeartbeats 2000000 in
theorem jready_any (J M A D C : Nat) (ts : List (Int × List Int)) (S : Nat → Bool) (w : World) (h : JnT J M A D C ts S w) :
    Calls Tryz.prog 46 #[.pointer (some ⟨J, 0, none⟩)] w fun e w' => (∃ v, e = .returned v ∧ RowI w.heap.size w' v (intsOf (readyTo ts S ts.length))) ∧ Below w.heap.size w w' := by
  have hc0 := Jn.c0 h
  have h30 := Jn.le h
  have HJ : Hid (JnT J M A D C ts S w) := h
  clear h
  go_enter Tryz.func46, Tryz.ntmps46
  go_wp2
  go_loopw [3, 10] (fun s3 s10 wr => ∃ k : Nat, k ≤ ts.length ∧ s10 = .int .i64 k ∧ Hid (RowI w.heap.size wr s3 (intsOf (readyTo ts S k))) ∧ Below w.heap.size w wr) (fun _ s10 _ => ts.length - (intOf s10).toNat)
  case atStart => exact ⟨0, Nat.zero_le _, rfl, RowI.nil _ _, Below.refl _ _⟩
  case round =>
    obtain ⟨k, hk, rfl, hR, hb⟩ := hrel
    obtain ⟨la, lc, rfl⟩ := hR.out.shape
    by_cases hkl : k < ts.length
    · have hst := stateOf_any J M A D C ts S k wr (Jn.later HJ.out hb) hkl
      have HT : Hid (readyTo ts S (k + 1) = readyTo ts S k ++ if readyB ts S k then [k] else []) := readyTo_succ ts S k
      cases hr : readyB ts S k
      · have hne : (((stN ts S k : Nat) : Int) == 1) = false := by have := stN_not hr; simp; omega
        rw [hr] at HT
        have HR2 : Hid (∀ wx, Below wr.heap.size wr wx → RowI w.heap.size wx (.slice la (intsOf (readyTo ts S k)).length lc) (intsOf (readyTo ts S (k + 1)))) := fun wx hx => by rw [HT.out]; simpa using hR.out.later hx
        generalize stN ts S k = st at *
        clear hr hR HT hc0
        go_wp2_with (go_at_call 84; refine hst.mono ?_; clear hst; rintro e w' ⟨rfl, hb1⟩)
        go_roundw
        case rel => exact ⟨k + 1, by omega, by go_num, HR2.out _ hb1, hb.trans (hb1.mono hb.size)⟩
        case measure => simp [intOf]; omega
      · rw [stN_ready hr] at hst
        rw [hr] at HT
        have hlen : (intsOf (readyTo ts S k)).length ≤ 30 := by rw [intsOf_length]; have := readyTo_len ts S k; omega
        have HT2 : Hid (intsOf (readyTo ts S (k + 1)) = intsOf (readyTo ts S k) ++ [(k : Int)]) := by show _ = _; rw [HT.out]; simp [intsOf]
        have HR : Hid (∀ wx, Below wr.heap.size wr wx → RowI w.heap.size wx (.slice la (intsOf (readyTo ts S k)).length lc) (intsOf (readyTo ts S k))) := fun wx hx => hR.out.later hx
        clear hr hR HT hc0
        generalize intsOf (readyTo ts S k) = l at *
        go_wp2_with fail
        refine hst.mono ?_
        clear hst
        rintro e w1 ⟨rfl, hb1⟩
        have HO : Hid (Rds (fun _ => True) (w1.alloc (.cells #[.int .i64 k] 3)) (.slice (some ⟨w1.heap.size, 0, none⟩) 1 1) [(k : Int)]) := one_rds w1 k
        have hoa := (HR.out w1 hb1).alloc (.cells #[.int .i64 k] 3)
        have hs1 := hb.size
        have hs2 := hb1.size
        go_wp2_with (first | (at_builtin; refine wpList_append_rows rfl (.tmp 17) (.tmp 19) rfl w.heap.size (fun _ => True) (.slice la l.length lc) (.slice (some ⟨w1.heap.size, 0, none⟩) 1 1) l [(k : Int)] rfl rfl hoa HO.out (by simp; omega) (by simp; omega) ?_; intro v2 w2 hown2 hgr2 hat2))
        have hb2 : Below w.heap.size w w2 := ((hb.trans (hb1.mono hs1)).alloc (by omega) _).grown hgr2 (by simp; omega) (fun j e => ((HR.out w1 hb1).low e).1)
        have HN : Hid (RowI w.heap.size w2 v2 (intsOf (readyTo ts S (k + 1)))) := by rw [HT2.out]; exact hown2
        clear hown2 hgr2 hat2 hoa HO HR
        go_wp2
        go_roundw
        case rel => exact ⟨k + 1, by omega, by go_num, HN, hb2⟩
        case measure => simp [intOf]; omega
    · have hke : k = ts.length := by omega
      have hkl' : ¬ (k : Int) < (ts.length : Int) := by omega
      have HE : Hid (RowI w.heap.size wr (.slice la (intsOf (readyTo ts S k)).length lc) (intsOf (readyTo ts S ts.length))) := by have := hR.out; rw [hke] at this ⊢; exact this
      clear hR hke
      go_wp2
      go_ret
      exact ⟨⟨_, rfl, HE.out⟩, hb⟩
end Go.Proofs.YtlfbdjeojgbniaaGreatDoor

/- Plain: what a gang holds: each task that is ready and not finished, once, and no other one. No word of the program. -/
import Derived.Test.YtiekhigjllbalaaGreatDoorGnga
namespace Go.Proofs.YtiekhigjllbalaaGreatDoor

theorem allH_none (xs : List Int) : allH (-1) xs = xs := by simp [allH]
theorem allH_some {n : Int} (h : n ≠ -1) (xs : List Int) : allH n xs = xs ++ [n] := by simp [allH, h]
theorem oneT_none : oneT (-1) = [] := by simp [oneT]
theorem oneT_some {t : Int} (h : 0 ≤ t) : oneT t = [t] := by simp [oneT, h]

theorem put_perm (room : Nat) (nr : Int) (xs : List Int) {n : Int} (hn : n ≠ -1) : (putO room nr xs ++ allH n (putR room nr xs)).Perm (allH nr xs ++ [n]) := by
  rw [allH_some hn]
  unfold putO putR
  by_cases h : nr = -1
  · subst h
    simp [allH_none]
  · rw [allH_some h]
    by_cases hl : xs.length < room
    · simp [h, hl]
    · simp only [h, hl, or_self, if_false]
      rw [← List.append_assoc, ← List.append_assoc, List.take_append_drop]
theorem put_len {room : Nat} (hr : 1 ≤ room) (nr : Int) {xs : List Int} (h : xs.length ≤ room) : (putR room nr xs).length ≤ room := by
  unfold putR
  split
  · exact h
  · split
    · simp; omega
    · simp; omega
theorem putAll_cons (room : Nat) (s : Hs) (n : Int) (l : List Int) : putAll room s (n :: l) = putAll room (putOne room s n) l := rfl
theorem putAll_perm (room : Nat) (l : List Int) : ∀ (s : Hs), (∀ n, n ∈ l → n ≠ -1) → ((putAll room s l).2.2 ++ allH (putAll room s l).1 (putAll room s l).2.1).Perm ((s.2.2 ++ allH s.1 s.2.1) ++ l) := by
  induction l with
  | nil => intro s _; simp [putAll]
  | cons n l ih =>
    intro s h
    rw [putAll_cons]
    refine (ih (putOne room s n) (fun m hm => h m (List.mem_cons_of_mem _ hm))).trans ?_
    have hp := put_perm room s.1 s.2.1 (h n (List.mem_cons_self ..))
    show ((s.2.2 ++ putO room s.1 s.2.1) ++ allH n (putR room s.1 s.2.1) ++ l).Perm _
    rw [List.append_assoc s.2.2]
    have : (s.2.2 ++ (putO room s.1 s.2.1 ++ allH n (putR room s.1 s.2.1)) ++ l).Perm (s.2.2 ++ (allH s.1 s.2.1 ++ [n]) ++ l) := (hp.append_left _).append_right _
    refine this.trans ?_
    simp
theorem putAll_len {room : Nat} (hr : 1 ≤ room) (l : List Int) : ∀ (s : Hs), s.2.1.length ≤ room → (putAll room s l).2.1.length ≤ room := by
  induction l with
  | nil => intro s h; exact h
  | cons n l ih => intro s h; rw [putAll_cons]; exact ih _ (put_len hr _ h)
/-- Where there is room nothing goes out. -/
theorem putAll_none (room : Nat) (l : List Int) : ∀ (s : Hs), s.2.1.length + l.length ≤ room → (putAll room s l).2.2 = s.2.2 := by
  induction l with
  | nil => intro s _; rfl
  | cons n l ih =>
    intro s h
    simp only [List.length_cons] at h
    have hl : s.2.1.length < room := by omega
    rw [putAll_cons, ih]
    · show s.2.2 ++ putO room s.1 s.2.1 = s.2.2
      simp [putO, hl]
    · have : (putR room s.1 s.2.1).length ≤ s.2.1.length + 1 := by
        unfold putR
        split
        · omega
        · simp
      show (putR room s.1 s.2.1).length + l.length ≤ room
      omega
theorem putAll_near (room : Nat) (l : List Int) : ∀ (s : Hs), (putAll room s l).1 = l.getLastD s.1 := by
  induction l with
  | nil => intro s; rfl
  | cons n l ih =>
    intro s
    rw [putAll_cons, ih]
    cases l with
    | nil => rfl
    | cons m l => rfl

/-- What stays so, whatever step is done. -/
structure Inv (ts : List (Int × List Int)) (room hands : Nat) (g : Gs) : Prop where
  held : (heldL g hands).Perm (intsOf (readyTo ts g.S ts.length))
  down : Down ts g.S
  zr : ∀ x, x ∈ g.zz → ∃ h, h < hands ∧ x = ((h : Nat) : Int) ∧ g.task h = -1 ∧ g.near h = -1 ∧ g.ring h = []
  znd : g.zz.Nodup
  awake : g.sp ≠ [] → ∃ h, h < hands ∧ ((h : Nat) : Int) ∉ g.zz
  ringLe : ∀ h, h < hands → (g.ring h).length ≤ room
  workOk : ∀ h, h < hands → 0 ≤ g.task h → 1 ≤ g.work h ∧ g.work h ≤ workOf ts (g.task h).toNat
  taskM : ∀ h, h < hands → -1 ≤ g.task h

theorem mem_ofAll {g : Gs} {n : Nat} {x : Int} : x ∈ ofAll g n ↔ ∃ h, h < n ∧ x ∈ ofH g h := by
  induction n with
  | zero => simp [ofAll]
  | succ n ih =>
    rw [ofAll, List.mem_append, ih]
    constructor
    · rintro (⟨h, hh, hx⟩ | hx)
      · exact ⟨h, by omega, hx⟩
      · exact ⟨n, by omega, hx⟩
    · rintro ⟨h, hh, hx⟩
      by_cases e : h = n
      · subst e; exact Or.inr hx
      · exact Or.inl ⟨h, by omega, hx⟩
variable {ts : List (Int × List Int)} {room hands : Nat} {g : Gs}
/-- Whatever is held is a task that is ready. -/
theorem Inv.rdy (hI : Inv ts room hands g) {x : Int} (hx : x ∈ heldL g hands) : ∃ k, x = ((k : Nat) : Int) ∧ k < ts.length ∧ readyB ts g.S k = true := by
  have := (hI.held.mem_iff).1 hx
  obtain ⟨k, hk, rfl⟩ := List.mem_map.1 this
  obtain ⟨h1, h2⟩ := mem_readyTo.1 hk
  exact ⟨k, rfl, h1, h2⟩
theorem held_task {h : Nat} (hh : h < hands) (ht : 0 ≤ g.task h) : g.task h ∈ heldL g hands := by
  refine List.mem_append.2 (Or.inl (mem_ofAll.2 ⟨h, hh, ?_⟩))
  simp [ofH, oneT_some ht]
theorem held_near {h : Nat} (hh : h < hands) (ht : g.near h ≠ -1) : g.near h ∈ heldL g hands := by
  refine List.mem_append.2 (Or.inl (mem_ofAll.2 ⟨h, hh, ?_⟩))
  simp [ofH, allH_some ht]
theorem held_ring {h : Nat} (hh : h < hands) {x : Int} (hx : x ∈ g.ring h) : x ∈ heldL g hands := by
  refine List.mem_append.2 (Or.inl (mem_ofAll.2 ⟨h, hh, ?_⟩))
  unfold ofH allH
  split <;> simp [hx]
theorem held_sp {x : Int} (hx : x ∈ g.sp) : x ∈ heldL g hands := List.mem_append.2 (Or.inr hx)
theorem Inv.held_le (hI : Inv ts room hands g) : (heldL g hands).length ≤ ts.length := by
  rw [hI.held.length_eq, intsOf_length]
  exact readyTo_len ts g.S ts.length
theorem Inv.sp_le (hI : Inv ts room hands g) : g.sp.length ≤ ts.length := by
  have := hI.held_le
  unfold heldL at this
  simp at this
  omega

theorem Inv.new (hh : 1 ≤ hands) : Inv ts room hands (gnew ts) := by
  have h0 : ∀ n, ofAll (gnew ts) n = [] := by
    intro n
    induction n with
    | zero => rfl
    | succ n ih => rw [ofAll, ih]; simp [ofH, gnew, oneT, allH]
  refine ⟨?_, Down.none ts, fun x hx => by simp [gnew] at hx, by simp [gnew], fun _ => ⟨0, by omega, by simp [gnew]⟩, fun h _ => by simp [gnew], fun h _ ht => by simp [gnew] at ht, fun h _ => by simp [gnew]⟩
  unfold heldL
  rw [h0]
  exact List.Perm.refl _
end Go.Proofs.YtiekhigjllbalaaGreatDoor

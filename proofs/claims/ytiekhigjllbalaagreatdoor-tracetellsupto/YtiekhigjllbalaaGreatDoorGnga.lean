/- Plain: a gang, step by step, as the document's chapter 13 says. No word of the program. -/
import Derived.Test.YtiekhigjllbalaaGreatDoorP
namespace Go.Proofs.YtiekhigjllbalaaGreatDoor

/-- What goes out of a hand when one more is put (nr is near, -1: none; xs the ring), and the ring behind it. -/
def putO (room : Nat) (nr : Int) (xs : List Int) : List Int := if nr = -1 ∨ xs.length < room then [] else xs.take ((xs.length + 1) / 2)
def putR (room : Nat) (nr : Int) (xs : List Int) : List Int := if nr = -1 then xs else if xs.length < room then xs ++ [nr] else xs.drop ((xs.length + 1) / 2) ++ [nr]
/-- All that a hand has beside its task. -/
def allH (nr : Int) (xs : List Int) : List Int := if nr = -1 then xs else xs ++ [nr]

def upd {α : Type} (f : Nat → α) (h : Nat) (x : α) : Nat → α := fun k => if k = h then x else f k
theorem upd_self {α : Type} (f : Nat → α) (h : Nat) (x : α) : upd f h x h = x := by simp [upd]
theorem upd_ne {α : Type} (f : Nat → α) {h k : Nat} (x : α) (e : k ≠ h) : upd f h x k = f k := by simp [upd, e]

/-- A gang: what is done; of each hand its task (-1: none) and how many units of it are left, what is near, its ring; the spill; those that sleep, in order. -/
structure Gs where
  S : Nat → Bool
  task : Nat → Int
  work : Nat → Int
  near : Nat → Int
  ring : Nat → List Int
  sp : List Int
  zz : List Int
/-- What, hand, task, other. -/
abbrev Deed := Int × Int × Int × Int
def wokeD (a : Int) : Deed := (6, a, 0, 0)

/-- A hand and the spill. -/
abbrev Hs := Int × List Int × List Int
def putOne (room : Nat) (s : Hs) (n : Int) : Hs := (n, putR room s.1 s.2.1, s.2.2 ++ putO room s.1 s.2.1)
def putAll (room : Nat) (s : Hs) (l : List Int) : Hs := l.foldl (putOne room) s

def workOf (ts : List (Int × List Int)) (x : Nat) : Int := (ts.getD x (0, [])).1

/-- A hand has a task. -/
def takes (ts : List (Int × List Int)) (g : Gs) (h : Nat) (i : Int) : Gs := { g with task := upd g.task h i, work := upd g.work h (workOf ts i.toNat) }
/-- Its last unit is done. -/
def ends (ts : List (Int × List Int)) (room : Nat) (g : Gs) (h : Nat) : Gs :=
  let l := newL ts g.S (g.task h).toNat
  let r := putAll room (g.near h, g.ring h, g.sp) (intsOf l)
  { S := mark g.S (g.task h).toNat, task := upd g.task h (-1), work := upd g.work h (g.work h - 1), near := upd g.near h r.1, ring := upd g.ring h r.2.1, sp := r.2.2, zz := g.zz.drop l.length }
def endsD (ts : List (Int × List Int)) (g : Gs) (h : Nat) : List Deed :=
  (4, (h : Int), g.task h, 0) :: (g.zz.take (newL ts g.S (g.task h).toNat).length).map (fun a => (6, a, 0, 0))
/-- It robs another one. -/
def robs (ts : List (Int × List Int)) (room : Nat) (g : Gs) (h o : Nat) : Gs :=
  let l := (g.ring o).take (((g.ring o).length + 1) / 2)
  let g1 : Gs := { g with ring := upd g.ring o ((g.ring o).drop (((g.ring o).length + 1) / 2)) }
  let r := putAll room (g1.near h, g1.ring h, []) l.tail
  takes ts { g1 with near := upd g1.near h r.1, ring := upd g1.ring h r.2.1 } h (l.headD 0)

/-- A step of a hand: what the gang is behind it. -/
def gstep (ts : List (Int × List Int)) (room hands : Nat) (g : Gs) (h pick : Nat) : Gs :=
  if (h : Int) ∈ g.zz then g
  else if 0 ≤ g.task h then
    if 1 < g.work h then { g with work := upd g.work h (g.work h - 1) } else ends ts room g h
  else if g.near h ≠ -1 then takes ts { g with near := upd g.near h (-1) } h (g.near h)
  else if g.ring h ≠ [] then takes ts { g with ring := upd g.ring h (g.ring h).dropLast } h ((g.ring h).getLastD 0)
  else if g.sp ≠ [] then takes ts { g with sp := g.sp.tail } h (g.sp.headD 0)
  else if pick % hands = h ∨ g.ring (pick % hands) = [] then { g with zz := g.zz ++ [(h : Int)] }
  else robs ts room g h (pick % hands)
/-- What it tells. -/
def gdeeds (ts : List (Int × List Int)) (hands : Nat) (g : Gs) (h pick : Nat) : List Deed :=
  if (h : Int) ∈ g.zz then []
  else if 0 ≤ g.task h then
    if 1 < g.work h then [] else endsD ts g h
  else if g.near h ≠ -1 then [(1, (h : Int), g.near h, 0)]
  else if g.ring h ≠ [] then [(1, (h : Int), (g.ring h).getLastD 0, 0)]
  else if g.sp ≠ [] then [(3, (h : Int), g.sp.headD 0, 0)]
  else if pick % hands = h ∨ g.ring (pick % hands) = [] then [(5, (h : Int), 0, 0)]
  else [(2, (h : Int), ((g.ring (pick % hands)).take (((g.ring (pick % hands)).length + 1) / 2)).headD 0, ((pick % hands : Nat) : Int))]

/-- At first. -/
def gnew (ts : List (Int × List Int)) : Gs := { S := fun _ => false, task := fun _ => -1, work := fun _ => 0, near := fun _ => -1, ring := fun _ => [], sp := intsOf (readyTo ts (fun _ => false) ts.length), zz := [] }

/-- A task that one has, as a list. -/
def oneT (t : Int) : List Int := if 0 ≤ t then [t] else []
/-- All that a hand has. -/
def ofH (g : Gs) (h : Nat) : List Int := oneT (g.task h) ++ allH (g.near h) (g.ring h)
/-- All that the first so many hands have. -/
def ofAll (g : Gs) : Nat → List Int
  | 0 => []
  | n + 1 => ofAll g n ++ ofH g n
/-- All that is held. -/
def heldL (g : Gs) (hands : Nat) : List Int := ofAll g hands ++ g.sp

theorem ofAll_congr {g g' : Gs} {n : Nat} (h : ∀ k, k < n → ofH g' k = ofH g k) : ofAll g' n = ofAll g n := by
  induction n with
  | zero => rfl
  | succ n ih => rw [ofAll, ofAll, ih (fun k hk => h k (by omega)), h n (by omega)]
/-- Where one hand alone differs. -/
theorem ofAll_one {g g' : Gs} {n h : Nat} (hh : h < n) (he : ∀ k, k ≠ h → ofH g' k = ofH g k) (l m : List Int) (hp : (l ++ ofH g' h).Perm (m ++ ofH g h)) : (l ++ ofAll g' n).Perm (m ++ ofAll g n) := by
  induction n with
  | zero => omega
  | succ n ih =>
    rw [ofAll, ofAll]
    by_cases e : n = h
    · subst e
      rw [ofAll_congr (fun k hk => he k (by omega))]
      refine (List.perm_append_comm_assoc _ _ _).trans ?_
      refine List.Perm.trans ?_ (List.perm_append_comm_assoc _ _ _)
      exact List.Perm.append_left _ hp
    · rw [he n e, ← List.append_assoc, ← List.append_assoc]
      exact (ih (by omega)).append_right _
end Go.Proofs.YtiekhigjllbalaaGreatDoor

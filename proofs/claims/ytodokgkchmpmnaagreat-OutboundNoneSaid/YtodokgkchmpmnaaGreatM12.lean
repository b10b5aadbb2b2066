/- Proved: lemmas of one statement's proof, merged by program: what each part proves stands ahead of it. Conditions: those that the lemmas name. -/
import Derived.Test.YtodokgkchmpmnaaGreatM9
import Derived.Test.YtodokgkchmpmnaaGreatM10
import Derived.Test.YtodokgkchmpmnaaGreatM11
import Derived.WalkMore
import Derived.ScopeJumps
import Derived.Deep.RegionWith
import Derived.Test.YtodokgkchmpmnaaGreatM7
import Derived.WalkSpells
import Derived.StillTactics
import Derived.OwnWalk
import Derived.Deep.RegionHeld3
import Derived.Deep.AppendLies
import Derived.Lib.AppendZerosOnto
import Derived.Test.YtodokgkchmpmnaaGreatM4

/- Plain lemmas on slices of ints in memory, and on the document's table of which any rows will do: its rows, its errors, its rank. No condition beyond those that each lemma names. -/
namespace Go.Proofs.YtodokgkchmpmnaaGreat
open Go.ChangeShapes Go.WideShapes Go.ChangeAt Go.RowKit

/-! ### the table -/
theorem xor_ne {a b : Nat} (h : a ≠ b) : a ^^^ b ≠ 0 := fun e => h (by
  have h1 : a ^^^ b ^^^ b = 0 ^^^ b := by rw [e]
  rwa [Nat.xor_assoc, Nat.xor_self, Nat.xor_zero, Nat.zero_xor] at h1)
/-- row i of the table of rows of k bytes. -/
def rowC (k i : Nat) : List Nat := if i < k then mk k (unitN i) else mk k fun j => ginv (i ^^^ j)
theorem rowC_unit {k i : Nat} (h : i < k) : rowC k i = mk k (unitN i) := if_pos h
theorem rowC_inv {k i : Nat} (h : k ≤ i) : rowC k i = mk k fun j => ginv (i ^^^ j) := if_neg (by omega)
theorem rowC_len (k i : Nat) : (rowC k i).length = k := by unfold rowC; split <;> exact mk_len _ _
theorem rowC_lt (k i : Nat) : ∀ j, (rowC k i).getD j 0 < 256 := by
  unfold rowC
  split
  · exact mk_lt _ _ fun j => unitN_lt i j
  · exact mk_lt _ _ fun j => ginv_lt _
/-- may there be no such table? -/
def NoTab (k n : Int) : Prop := ¬ (1 ≤ k ∧ k ≤ n ∧ n ≤ 255)
instance (k n : Int) : Decidable (NoTab k n) := by unfold NoTab; infer_instance
/-- Row's error. -/
def cErr (k n i : Int) : Nat := if NoTab k n then 1 else if 0 ≤ i ∧ i < n then 0 else 2
/-- Row's answer. -/
def cRow (k n i : Int) : List Nat := if cErr k n i = 0 then rowC k.toNat i.toNat else []
/-- the first error of some. -/
def fErr (k n : Int) : List Int → Nat
  | [] => 0
  | x :: r => if cErr k n x = 0 then fErr k n r else cErr k n x
/-- Pick's error and answer. -/
def pErr (k n : Int) (l : List Int) : Nat := if 1 ≤ l.length ∧ l.length ≤ 255 then fErr k n l else 1
def rowsC (k : Nat) (l : List Int) : List (List Nat) := l.map fun i => rowC k i.toNat
def pRows (k n : Int) (l : List Int) : List (List Nat) := if pErr k n l = 0 then rowsC k.toNat l else []

theorem cErr_bad {k n : Int} (h : NoTab k n) (i : Int) : cErr k n i = 1 := if_pos h
theorem cErr_out {k n i : Int} (h : ¬ NoTab k n) (g : ¬ (0 ≤ i ∧ i < n)) : cErr k n i = 2 := by unfold cErr; rw [if_neg h, if_neg g]
theorem cErr_in {k n i : Int} (h : ¬ NoTab k n) (g : 0 ≤ i ∧ i < n) : cErr k n i = 0 := by unfold cErr; rw [if_neg h, if_pos g]
theorem cRow_none {k n i : Int} (h : cErr k n i ≠ 0) : cRow k n i = [] := if_neg h
theorem cRow_some {k n i : Int} (h : cErr k n i = 0) : cRow k n i = rowC k.toNat i.toNat := if_pos h

/-- the first j have no error. -/
def NoErr (k n : Int) (l : List Int) (j : Nat) : Prop := ∀ i, i < j → cErr k n (l.getD i 0) = 0
theorem NoErr.start (k n : Int) (l : List Int) : NoErr k n l 0 := fun _ h => absurd h (by omega)
theorem NoErr.next {k n : Int} {l : List Int} {j : Nat} (h : NoErr k n l j) (g : cErr k n (l.getD j 0) = 0) : NoErr k n l (j + 1) := fun i hi => by
  rcases Nat.lt_or_ge i j with hlt | hge
  · exact h i hlt
  · rw [show i = j by omega]; exact g
theorem fErr_stop {k n : Int} {l : List Int} {j : Nat} (h : NoErr k n l j) (hj : j < l.length) (g : cErr k n (l.getD j 0) ≠ 0) : fErr k n l = cErr k n (l.getD j 0) := by
  induction l generalizing j with
  | nil => exact absurd hj (by simp)
  | cons x r ih =>
    rcases j with _ | j
    · have g' : cErr k n x ≠ 0 := g
      unfold fErr
      rw [if_neg g']; rfl
    · have h0 : cErr k n x = 0 := h 0 (by omega)
      unfold fErr
      rw [if_pos h0]
      exact ih (j := j) (fun i hi => h (i + 1) (by omega)) (by simpa using hj) g
theorem fErr_end {k n : Int} {l : List Int} (h : NoErr k n l l.length) : fErr k n l = 0 := by
  induction l with
  | nil => rfl
  | cons x r ih =>
    have h0 : cErr k n x = 0 := h 0 (by simp)
    unfold fErr
    rw [if_pos h0]
    exact ih fun i hi => h (i + 1) (by simpa using hi)
theorem rowsC_len (k : Nat) (l : List Int) : (rowsC k l).length = l.length := by unfold rowsC; rw [List.length_map]
theorem rowsC_at (k : Nat) (l : List Int) {j : Nat} (h : j < l.length) : rw_ (rowsC k l) j = rowC k (l.getD j 0).toNat := by
  unfold rowsC rw_
  rw [List.getD_eq_getElem?_getD, List.getElem?_map, List.getElem?_eq_getElem h, List.getD_eq_getElem?_getD, List.getElem?_eq_getElem h]; rfl
theorem rowsC_mk (k : Nat) (l : List Int) : rowsC k l = mkR l.length fun j => rowC k (l.getD j 0).toNat :=
  eq_mkR (rowsC_len k l) fun _ h => rowsC_at k l h
theorem rowsC_good (k : Nat) (l : List Int) : Good l.length k (rowsC k l) :=
  ⟨rowsC_len k l, fun r hr => by rw [rowsC_at k l hr]; exact rowC_len _ _, fun r hr => by rw [rowsC_at k l hr]; exact rowC_lt _ _⟩
theorem pRows_some {k n : Int} {l : List Int} (h : pErr k n l = 0) : pRows k n l = rowsC k.toNat l := if_pos h
theorem pRows_none {k n : Int} {l : List Int} (h : pErr k n l ≠ 0) : pRows k n l = [] := if_neg h
theorem pErr_len {k n : Int} {l : List Int} (h : 1 ≤ l.length ∧ l.length ≤ 255) : pErr k n l = fErr k n l := if_pos h
theorem pErr_no {k n : Int} {l : List Int} (h : ¬ (1 ≤ l.length ∧ l.length ≤ 255)) : pErr k n l = 1 := if_neg h

/-! ### any rows will do -/
end Go.Proofs.YtodokgkchmpmnaaGreat

/- Proved: what Row of package cauchy answers for every three ints. Conditions: those that the theorems name. -/
namespace Go.Proofs.YtodokgkchmpmnaaGreat
open Go.ChangeShapes Go.WideShapes Go.ChangeAt Go.RowKit

set_option maxHeartbeats 400000 in
theorem cfits_yes (k n : Int) (h : ¬ NoTab k n) (w : World) :
    Calls Tryz.prog 92 #[.int .i64 k, .int .i64 n] w fun e w' => e = .returned (.bool true) ∧ w = w' := by
  have h1 : k ≥ 1 := by unfold NoTab at h; omega
  have h2 : k ≤ n := by unfold NoTab at h; omega
  have h3 : n ≤ 255 := by unfold NoTab at h; omega
  clear h
  go_enter Tryz.func92, Tryz.ntmps92
  go_wp2_with fail
  go_ret
  exact ⟨rfl, rfl⟩
set_option maxHeartbeats 400000 in
theorem cfits_no (k n : Int) (h : NoTab k n) (w : World) :
    Calls Tryz.prog 92 #[.int .i64 k, .int .i64 n] w fun e w' => e = .returned (.bool false) ∧ w = w' := by
  unfold NoTab at h
  by_cases h1 : k ≥ 1
  · by_cases h2 : k ≤ n
    · have h3 : ¬ n ≤ 255 := by omega
      clear h
      go_enter Tryz.func92, Tryz.ntmps92
      go_wp2_with fail
      go_ret
      exact ⟨rfl, rfl⟩
    · clear h
      go_enter Tryz.func92, Tryz.ntmps92
      go_wp2_with fail
      go_ret
      exact ⟨rfl, rfl⟩
  · clear h
    go_enter Tryz.func92, Tryz.ntmps92
    go_wp2_with fail
    go_ret
    exact ⟨rfl, rfl⟩

theorem made_zero' {n k : Nat} (hk : k < n) : (madeCells #[.int .u8 0] n)[k]? = some (.int .u8 0) := by simp [madeCells, hk, Nat.mod_one]
theorem unit_new' (w : World) (n k : Nat) (hk : k < n) : Bs (w.alloc (.cells ((madeCells #[.int .u8 0] n).setIfInBounds k (.int .u8 1)) 5)) (some ⟨w.heap.size, 0, none⟩) n (mk n (unitN k)) := by
  rw [← World.setCell_alloc_at _ _ w.heap.size k _ rfl]
  have h1 := (own_new w n).set_ (x := 1) hk (by decide)
  rw [unit_of n k hk] at h1
  exact h1.bs

set_option maxHeartbeats 400000 in
theorem unit_any (k i : Nat) (hi : i < k) (hk : k ≤ 255) (w : World) :
    Calls Tryz.prog 118 #[.int .i64 (k : Nat), .int .i64 (i : Nat)] w (GivesC w k (rowC k i)) := by
  have hmR := run_make_row' (P := Tryz.prog) 128 5 (.int .u8 0) 1 Tryz.underlying128 Tryz.infoByte rfl .i64 .i64 k (by omega) (by omega)
  have hpos : (0 : Int) ≤ (i : Int) := by omega
  have hlt : (i : Int) < (k : Int) := by omega
  have hX := made_zero' hi
  have HB := Lib.hid (unit_new' w k i hi)
  go_enter Tryz.func118, Tryz.ntmps118
  go_wp2_with fail
  go_ret
  refine ⟨_, _, rfl, Nat.le_refl _, ?_, ?_⟩
  · rw [rowC_unit hi]; exact HB.out
  · exact (Below.refl _ _).alloc (Nat.le_refl _) _
end Go.Proofs.YtodokgkchmpmnaaGreat

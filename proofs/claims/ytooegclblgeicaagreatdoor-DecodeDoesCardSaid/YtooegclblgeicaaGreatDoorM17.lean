/- Proved: lemmas of one statement's proof, merged by program: what each part proves stands ahead of it. Conditions: those that the lemmas name. -/
import Derived.Test.YtooegclblgeicaaGreatDoorM16

/- Proved: the law's own first calls of package cauchy come out as they should. No condition. -/
namespace Go.Proofs.YtooegclblgeicaaGreatDoor
open Go.ChangeShapes Go.WideShapes Go.ChangeAt Go.RowKit

theorem is_two (w : World) (a b : Int) : Is (w.alloc (.cells #[.int .i64 a, .int .i64 b] 3)) (some ⟨w.heap.size, 0, none⟩) 2 [a, b] := by
  refine ⟨rfl, fun _ => ⟨_, rfl, by simp, fun j hj => ?_⟩⟩
  have e : (⟨w.heap.size, 0, none⟩ : Addr).add j = ⟨w.heap.size, j, none⟩ := by unfold Addr.add; split <;> simp_all
  rw [e, cell_of_row _ _ j _ _ (0, 0) (heap_alloc_new w _)]
  match j, hj with
  | 0, _ => rfl
  | 1, _ => rfl

theorem row_as (k n i : Int) (l : List Nat) (z : Nat) (hl : cRow k n i = l) (hz : cErr k n i = z) (w : World) :
    Calls Tryz.prog 56 #[.int .i64 k, .int .i64 n, .int .i64 i] w (GivesE w l z) := by
  rw [← hl, ← hz]; exact row_any k n i w
theorem pick_as (A : Option Addr) (m c : Nat) (k n : Int) (l : List Int) (t : List (List Nat)) (z : Nat) (ht : pRows k n l = t) (hz : pErr k n l = z) (w : World) (hl : Is w A m l) :
    Calls Tryz.prog 45 #[.int .i64 k, .int .i64 n, .slice A m c] w (GivesTE w t z) := by
  rw [← ht, ← hz]; exact pick_any A m c k n l w hl

end Go.Proofs.YtooegclblgeicaaGreatDoor

/- Proved: the walks of the laws on the table's rows, for every three ints and every slice of ints. Conditions: those that the theorems name. -/
namespace Go.Proofs.YtooegclblgeicaaGreatDoor
open Go.ChangeShapes Go.WideShapes Go.ChangeAt Go.RowKit

theorem cRow_len (k n i : Int) : (cRow k n i).length ≤ 255 := by
  unfold cRow
  split
  · rename_i h
    have := cErr_zero h
    rw [rowC_len]; omega
  · exact Nat.zero_le _
theorem rw_le (t : List (List Nat)) (m : Nat) (h : ∀ r, r < t.length → (rw_ t r).length ≤ m) : ∀ r, (rw_ t r).length ≤ m := fun r => by
  rcases Nat.lt_or_ge r t.length with hr | hr
  · exact h r hr
  · rw [rw_past t r hr]; exact Nat.zero_le _
theorem rowsC_row (k : Nat) (l : List Int) : ∀ r, (rw_ (rowsC k l) r).length ≤ k := rw_le _ _ fun r hr => by
  rw [rowsC_len] at hr
  rw [rowsC_at k l hr, rowC_len]
  exact Nat.le_refl _
theorem pRows_row (k n : Int) (l : List Int) : ∀ r, (rw_ (pRows k n l) r).length ≤ 140737488355328 := by
  unfold pRows
  split
  · rename_i h
    intro r
    by_cases h0 : 1 ≤ l.length ∧ l.length ≤ 255
    · rw [pErr_len h0] at h
      have h1 := fErr_zero h 0 (by omega)
      have h2 := cErr_zero h1
      have := rowsC_row k.toNat l r
      omega
    · rw [pErr_no h0] at h; exact absurd h (by decide)
  · intro r; rw [rw_past [] r (Nat.zero_le _)]; exact Nat.zero_le _
theorem pRows_len (k n : Int) (l : List Int) : (pRows k n l).length ≤ 255 := by
  unfold pRows
  split
  · rename_i h
    by_cases h0 : 1 ≤ l.length ∧ l.length ≤ 255
    · rw [rowsC_len]; exact h0.2
    · rw [pErr_no h0] at h; exact absurd h (by decide)
  · exact Nat.zero_le _
theorem aRows_len (k n : Int) : (aRows k n).length ≤ 255 := by
  unfold aRows
  split
  · exact Nat.zero_le _
  · rename_i h; unfold NoTab at h; rw [rowsC_len, upL_len]; omega
theorem aRows_row (k n : Int) : ∀ r, (rw_ (aRows k n) r).length ≤ 140737488355328 := by
  unfold aRows
  split
  · intro r; rw [rw_past [] r (Nat.zero_le _)]; exact Nat.zero_le _
  · rename_i h; unfold NoTab at h; intro r; have := rowsC_row k.toNat (upL n.toNat) r; omega

end Go.Proofs.YtooegclblgeicaaGreatDoor

/- Proved: what the law's own with leaves of a slice of ints. Conditions: those that the theorems name. -/
namespace Go.Proofs.YtooegclblgeicaaGreatDoor
open Go.ChangeShapes Go.WideShapes Go.ChangeAt Go.RowKit

/-- a number more, if it is not there. -/
def withL (l : List Int) (x : Int) : List Int := if x ∈ l then l else l ++ [x]
theorem withL_in {l : List Int} {x : Int} (h : x ∈ l) : withL l x = l := if_pos h
theorem withL_out {l : List Int} {x : Int} (h : ¬ x ∈ l) : withL l x = l ++ [x] := if_neg h
theorem withL_mem (l : List Int) (x y : Int) : y ∈ withL l x ↔ y ∈ l ∨ y = x := by
  unfold withL
  split
  · rename_i h
    constructor
    · exact Or.inl
    · rintro (h1 | rfl)
      · exact h1
      · exact h
  · simp
theorem withL_len (l : List Int) (x : Int) : l.length ≤ (withL l x).length ∧ (withL l x).length ≤ l.length + 1 := by
  unfold withL
  split <;> simp
theorem mem_at {l : List Int} {x : Int} (h : x ∈ l) : ∃ j, j < l.length ∧ l.getD j 0 = x := by
  obtain ⟨j, hj, e⟩ := List.getElem_of_mem h
  exact ⟨j, hj, by rw [List.getD_eq_getElem?_getD, List.getElem?_eq_getElem hj]; exact e⟩
theorem at_mem {l : List Int} {j : Nat} (h : j < l.length) : l.getD j 0 ∈ l := by
  rw [List.getD_eq_getElem?_getD, List.getElem?_eq_getElem h]
  exact List.getElem_mem h

/-- A slice of ints with l comes back; nothing that was there has turned. -/
def GivesI (W : World) (l : List Int) (e : Ending) (w' : World) : Prop :=
  ∃ A n c, e = .returned (.slice A n c) ∧ n ≤ c ∧ (A = none → n = 0 ∧ c = 0) ∧ Is w' A n l ∧ Below W.heap.size W w'
theorem is_of_none {w : World} {base n : Nat} {v : Value} {l : List Int} (h : w.ownsRow base 3 1 v n (icells l)) : ∃ A c, v = .slice A n c ∧ n ≤ c ∧ (A = none → n = 0 ∧ c = 0) ∧ Is w A n l := by
  obtain ⟨A, c, e, h1, h2⟩ := is_of h
  subst e
  refine ⟨A, c, rfl, h1, fun q => ?_, h2⟩
  subst q
  rcases h.2 with ⟨e, _⟩ | ⟨g, cap, cur, e, _⟩
  · injection e with e1 e2 e3
    exact ⟨e2, e3⟩
  · injection e with e1
    exact absurd e1 (by simp)
theorem icells_one (l : List Int) : ∀ u ∈ icells l, u.oneCell' = true := by
  intro u hu
  unfold icells at hu
  obtain ⟨x, _, rfl⟩ := List.mem_map.1 hu
  rfl
theorem Is.source {w : World} {ad : Addr} {n : Nat} {l : List Int} (h : Is w (some ad) n l) : ∀ j u, (icells l)[j]? = some u → w.cell? (ad.add j) = some u := by
  intro j u hu
  have hj : j < l.length := by
    have := (List.getElem?_eq_some_iff.1 hu).1
    rwa [icells_len] at this
  obtain ⟨ad', e, _, hc⟩ := h.2 (by rw [← h.1]; omega)
  injection e with e
  subst e
  rw [icells_at l j hj] at hu
  rw [← hu]
  exact hc j (by rw [← h.1]; exact hj)

end Go.Proofs.YtooegclblgeicaaGreatDoor

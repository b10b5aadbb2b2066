/- Proved: lemmas of one statement's proof, merged by program: what each part proves stands ahead of it. Conditions: those that the lemmas name. -/
import Derived.Test.YtnabhaehfmbkpaaM11
import Derived.Test.YtnabhaehfmbkpaaM1

/- Proved: what the document's Rows of chapter 4 answers for every two ints. Conditions: none. -/
namespace Go.Proofs.Ytnabhaehfmbkpaa
open Go.ChangeShapes Go.WideShapes Go.ChangeAt Go.RowKit

/-- ints as cells. -/
def icells (l : List Int) : List Value := l.map fun x => Value.int .i64 x
theorem icells_len (l : List Int) : (icells l).length = l.length := by unfold icells; rw [List.length_map]
theorem icells_at (l : List Int) (j : Nat) (hj : j < l.length) : (icells l)[j]? = some (.int .i64 (l.getD j 0)) := by
  unfold icells
  rw [List.getElem?_map, List.getElem?_eq_getElem hj, List.getD_eq_getElem?_getD, List.getElem?_eq_getElem hj]; rfl
theorem icells_snoc (l : List Int) (x : Int) : icells l ++ [Value.int .i64 x] = icells (l ++ [x]) := by unfold icells; rw [List.map_append]; rfl
/-- What was gathered, as a row that reads as a list. -/
theorem is_of {w : World} {base n : Nat} {v : Value} {l : List Int} (h : w.ownsRow base 3 1 v n (icells l)) : ∃ A c, v = .slice A n c ∧ n ≤ c ∧ Is w A n l := by
  obtain ⟨hl, hv⟩ := h
  rw [icells_len, Nat.mul_one] at hl
  rcases hv with ⟨rfl, h0⟩ | ⟨g, cap, cur, rfl, hg, hc, h1, h2, h3, h4⟩
  · have h0' : n = 0 := by simpa using h0
    subst h0'
    exact ⟨_, _, rfl, Nat.le_refl _, ⟨hl, fun h => absurd h (by omega)⟩⟩
  · refine ⟨_, _, rfl, h1, hl, fun _ => ⟨_, rfl, (Array.getElem?_eq_some_iff.1 hc).1, fun j hj => ?_⟩⟩
    have e : (⟨g, 0, none⟩ : Addr).add j = ⟨g, j, none⟩ := by unfold Addr.add; split <;> simp_all
    rw [Nat.mul_one] at h4
    have h5 := icells_at l j (by omega)
    rw [← h4, List.getElem?_take, if_pos hj] at h5
    rw [e, cell_of_row w g j cur _ (0, 0) hc]
    simpa using h5

end Go.Proofs.Ytnabhaehfmbkpaa

/- Plain lemmas on rows of bytes that are written out. No condition beyond those that each lemma names. -/
namespace Go.Proofs.Ytnabhaehfmbkpaa
open Go.ChangeShapes Go.WideShapes Go.ChangeAt Go.RowKit

theorem bs_new (w : World) (l : List Nat) (hl : ∀ j, l.getD j 0 < 256) : Bs (w.alloc (.cells (cells l).toArray 5)) (some ⟨w.heap.size, 0, none⟩) l.length l := by
  refine ⟨rfl, hl, fun _ => ⟨_, rfl, by simp, fun j hj => ?_⟩⟩
  have e : (⟨w.heap.size, 0, none⟩ : Addr).add j = ⟨w.heap.size, j, none⟩ := by unfold Addr.add; split <;> simp_all
  rw [e, cell_of_row _ _ j _ _ (0, 0) (heap_alloc_new w _)]
  have := cells_at l j hj
  simpa using this
theorem bs_one (w : World) (x : Nat) (hx : x < 256) : Bs (w.alloc (.cells #[.int .u8 (x : Nat)] 5)) (some ⟨w.heap.size, 0, none⟩) 1 [x] :=
  bs_new w [x] (getD_lt (fun y hy => by simp at hy; omega))
theorem bs_two (w : World) (x y : Nat) (hx : x < 256) (hy : y < 256) : Bs (w.alloc (.cells #[.int .u8 (x : Nat), .int .u8 (y : Nat)] 5)) (some ⟨w.heap.size, 0, none⟩) 2 [x, y] :=
  bs_new w [x, y] (getD_lt (fun z hz => by simp at hz; omega))
theorem bs_both (w : World) : Bs ((w.alloc (.cells #[.int .u8 1, .int .u8 2] 5)).alloc (.cells #[.int .u8 3, .int .u8 4] 5)) (some ⟨w.heap.size, 0, none⟩) 2 [1, 2] ∧
    Bs ((w.alloc (.cells #[.int .u8 1, .int .u8 2] 5)).alloc (.cells #[.int .u8 3, .int .u8 4] 5)) (some ⟨w.heap.size + 1, 0, none⟩) 2 [3, 4] := by
  have h := bs_two w 1 2 (by decide) (by decide)
  have g := bs_two (w.alloc (.cells #[.int .u8 1, .int .u8 2] 5)) 3 4 (by decide) (by decide)
  refine ⟨h.below ((Below.refl _ _).alloc (Nat.le_refl _) _), ?_⟩
  simpa using g
theorem below2 (w : World) (o p : Obj) : Below w.heap.size w ((w.alloc o).alloc p) := ((Below.refl _ _).alloc (Nat.le_refl _) _).alloc (by simp) _

end Go.Proofs.Ytnabhaehfmbkpaa

/- Proved: the law's own first calls of package cauchy come out as they should. No condition. -/
namespace Go.Proofs.Ytnabhaehfmbkpaa
open Go.ChangeShapes Go.WideShapes Go.ChangeAt Go.RowKit

theorem is_two (w : World) (a b : Int) : Is (w.alloc (.cells #[.int .i64 a, .int .i64 b] 3)) (some ⟨w.heap.size, 0, none⟩) 2 [a, b] := by
  refine ⟨rfl, fun _ => ⟨_, rfl, by simp, fun j hj => ?_⟩⟩
  have e : (⟨w.heap.size, 0, none⟩ : Addr).add j = ⟨w.heap.size, j, none⟩ := by unfold Addr.add; split <;> simp_all
  rw [e, cell_of_row _ _ j _ _ (0, 0) (heap_alloc_new w _)]
  match j, hj with
  | 0, _ => rfl
  | 1, _ => rfl

theorem row_as (k n i : Int) (l : List Nat) (z : Nat) (hl : cRow k n i = l) (hz : cErr k n i = z) (w : World) :
    Calls Try.prog 22 #[.int .i64 k, .int .i64 n, .int .i64 i] w (GivesE w l z) := by
  rw [← hl, ← hz]; exact row_any k n i w
theorem pick_as (A : Option Addr) (m c : Nat) (k n : Int) (l : List Int) (t : List (List Nat)) (z : Nat) (ht : pRows k n l = t) (hz : pErr k n l = z) (w : World) (hl : Is w A m l) :
    Calls Try.prog 25 #[.int .i64 k, .int .i64 n, .slice A m c] w (GivesTE w t z) := by
  rw [← ht, ← hz]; exact pick_any A m c k n l w hl

end Go.Proofs.Ytnabhaehfmbkpaa

/- Proved: the walks of the laws on the table's rows, for every three ints and every slice of ints. Conditions: those that the theorems name. -/
namespace Go.Proofs.Ytnabhaehfmbkpaa
open Go.ChangeShapes Go.WideShapes Go.ChangeAt Go.RowKit

theorem cRow_len (k n i : Int) : (cRow k n i).length ≤ 255 := by
  unfold cRow
  split
  · rename_i h
    have := cErr_zero h
    rw [rowC_len]; omega
  · exact Nat.zero_le _
theorem rw_le (t : List (List Nat)) (m : Nat) (h : ∀ r, r < t.length → (rw_ t r).length ≤ m) : ∀ r, (rw_ t r).length ≤ m := fun r => by
  rcases Nat.lt_or_ge r t.length with hr | hr
  · exact h r hr
  · rw [rw_past t r hr]; exact Nat.zero_le _
theorem rowsC_row (k : Nat) (l : List Int) : ∀ r, (rw_ (rowsC k l) r).length ≤ k := rw_le _ _ fun r hr => by
  rw [rowsC_len] at hr
  rw [rowsC_at k l hr, rowC_len]
  exact Nat.le_refl _
theorem pRows_row (k n : Int) (l : List Int) : ∀ r, (rw_ (pRows k n l) r).length ≤ 140737488355328 := by
  unfold pRows
  split
  · rename_i h
    intro r
    by_cases h0 : 1 ≤ l.length ∧ l.length ≤ 255
    · rw [pErr_len h0] at h
      have h1 := fErr_zero h 0 (by omega)
      have h2 := cErr_zero h1
      have := rowsC_row k.toNat l r
      omega
    · rw [pErr_no h0] at h; exact absurd h (by decide)
  · intro r; rw [rw_past [] r (Nat.zero_le _)]; exact Nat.zero_le _
theorem pRows_len (k n : Int) (l : List Int) : (pRows k n l).length ≤ 255 := by
  unfold pRows
  split
  · rename_i h
    by_cases h0 : 1 ≤ l.length ∧ l.length ≤ 255
    · rw [rowsC_len]; exact h0.2
    · rw [pErr_no h0] at h; exact absurd h (by decide)
  · exact Nat.zero_le _
theorem aRows_len (k n : Int) : (aRows k n).length ≤ 255 := by
  unfold aRows
  split
  · exact Nat.zero_le _
  · rename_i h; unfold NoTab at h; rw [rowsC_len, upL_len]; omega
theorem aRows_row (k n : Int) : ∀ r, (rw_ (aRows k n) r).length ≤ 140737488355328 := by
  unfold aRows
  split
  · intro r; rw [rw_past [] r (Nat.zero_le _)]; exact Nat.zero_le _
  · rename_i h; unfold NoTab at h; intro r; have := rowsC_row k.toNat (upL n.toNat) r; omega

end Go.Proofs.Ytnabhaehfmbkpaa

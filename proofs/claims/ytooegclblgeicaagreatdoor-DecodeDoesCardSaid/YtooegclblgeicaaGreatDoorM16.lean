/- Proved: lemmas of one statement's proof, merged by program: what each part proves stands ahead of it. Conditions: those that the lemmas name. -/
import Derived.Test.YtooegclblgeicaaGreatDoorM15
import Derived.Test.YtooegclblgeicaaGreatDoorM1

/- Proved: what the document's Pick and Rows of chapter 4 answer for every two ints and every slice of ints. Conditions: those that the theorems name. -/
namespace Go.Proofs.YtooegclblgeicaaGreatDoor
open Go.ChangeShapes Go.WideShapes Go.ChangeAt Go.RowKit

theorem ownsRow_below' {w w' : World} {base size n : Nat} {e : TypeId} {v : Value} {xs : List Value} (h : w.ownsRow base e size v n xs) (hb : Below w.heap.size w w') : w'.ownsRow base e size v n xs := by
  obtain ⟨h1, h2 | ⟨g, cap, cur, rfl, hg, hc, h3⟩⟩ := h
  · exact ⟨h1, Or.inl h2⟩
  · exact ⟨h1, Or.inr ⟨g, cap, cur, rfl, hg, (hb.block g (Array.getElem?_eq_some_iff.1 hc).1).trans hc, h3⟩⟩

end Go.Proofs.YtooegclblgeicaaGreatDoor

/- Proved: what the document's Rows of chapter 4 answers for every two ints. Conditions: none. -/
namespace Go.Proofs.YtooegclblgeicaaGreatDoor
open Go.ChangeShapes Go.WideShapes Go.ChangeAt Go.RowKit

/-- ints as cells. -/
def icells (l : List Int) : List Value := l.map fun x => Value.int .i64 x
theorem icells_len (l : List Int) : (icells l).length = l.length := by unfold icells; rw [List.length_map]
theorem icells_at (l : List Int) (j : Nat) (hj : j < l.length) : (icells l)[j]? = some (.int .i64 (l.getD j 0)) := by
  unfold icells
  rw [List.getElem?_map, List.getElem?_eq_getElem hj, List.getD_eq_getElem?_getD, List.getElem?_eq_getElem hj]; rfl
theorem icells_snoc (l : List Int) (x : Int) : icells l ++ [Value.int .i64 x] = icells (l ++ [x]) := by unfold icells; rw [List.map_append]; rfl
/-- What was gathered, as a row that reads as a list. -/
theorem is_of {w : World} {base n : Nat} {v : Value} {l : List Int} (h : w.ownsRow base 3 1 v n (icells l)) : ∃ A c, v = .slice A n c ∧ n ≤ c ∧ Is w A n l := by
  obtain ⟨hl, hv⟩ := h
  rw [icells_len, Nat.mul_one] at hl
  rcases hv with ⟨rfl, h0⟩ | ⟨g, cap, cur, rfl, hg, hc, h1, h2, h3, h4⟩
  · have h0' : n = 0 := by simpa using h0
    subst h0'
    exact ⟨_, _, rfl, Nat.le_refl _, ⟨hl, fun h => absurd h (by omega)⟩⟩
  · refine ⟨_, _, rfl, h1, hl, fun _ => ⟨_, rfl, (Array.getElem?_eq_some_iff.1 hc).1, fun j hj => ?_⟩⟩
    have e : (⟨g, 0, none⟩ : Addr).add j = ⟨g, j, none⟩ := by unfold Addr.add; split <;> simp_all
    rw [Nat.mul_one] at h4
    have h5 := icells_at l j (by omega)
    rw [← h4, List.getElem?_take, if_pos hj] at h5
    rw [e, cell_of_row w g j cur _ (0, 0) hc]
    simpa using h5

end Go.Proofs.YtooegclblgeicaaGreatDoor

/- Plain lemmas on rows of bytes that are written out. No condition beyond those that each lemma names. -/
namespace Go.Proofs.YtooegclblgeicaaGreatDoor
open Go.ChangeShapes Go.WideShapes Go.ChangeAt Go.RowKit

theorem bs_new (w : World) (l : List Nat) (hl : ∀ j, l.getD j 0 < 256) : Bs (w.alloc (.cells (cells l).toArray 5)) (some ⟨w.heap.size, 0, none⟩) l.length l := by
  refine ⟨rfl, hl, fun _ => ⟨_, rfl, by simp, fun j hj => ?_⟩⟩
  have e : (⟨w.heap.size, 0, none⟩ : Addr).add j = ⟨w.heap.size, j, none⟩ := by unfold Addr.add; split <;> simp_all
  rw [e, cell_of_row _ _ j _ _ (0, 0) (heap_alloc_new w _)]
  have := cells_at l j hj
  simpa using this
theorem bs_one (w : World) (x : Nat) (hx : x < 256) : Bs (w.alloc (.cells #[.int .u8 (x : Nat)] 5)) (some ⟨w.heap.size, 0, none⟩) 1 [x] :=
  bs_new w [x] (getD_lt (fun y hy => by simp at hy; omega))
theorem bs_two (w : World) (x y : Nat) (hx : x < 256) (hy : y < 256) : Bs (w.alloc (.cells #[.int .u8 (x : Nat), .int .u8 (y : Nat)] 5)) (some ⟨w.heap.size, 0, none⟩) 2 [x, y] :=
  bs_new w [x, y] (getD_lt (fun z hz => by simp at hz; omega))
theorem bs_both (w : World) : Bs ((w.alloc (.cells #[.int .u8 1, .int .u8 2] 5)).alloc (.cells #[.int .u8 3, .int .u8 4] 5)) (some ⟨w.heap.size, 0, none⟩) 2 [1, 2] ∧
    Bs ((w.alloc (.cells #[.int .u8 1, .int .u8 2] 5)).alloc (.cells #[.int .u8 3, .int .u8 4] 5)) (some ⟨w.heap.size + 1, 0, none⟩) 2 [3, 4] := by
  have h := bs_two w 1 2 (by decide) (by decide)
  have g := bs_two (w.alloc (.cells #[.int .u8 1, .int .u8 2] 5)) 3 4 (by decide) (by decide)
  refine ⟨h.below ((Below.refl _ _).alloc (Nat.le_refl _) _), ?_⟩
  simpa using g
theorem below2 (w : World) (o p : Obj) : Below w.heap.size w ((w.alloc o).alloc p) := ((Below.refl _ _).alloc (Nat.le_refl _) _).alloc (by simp) _

end Go.Proofs.YtooegclblgeicaaGreatDoor

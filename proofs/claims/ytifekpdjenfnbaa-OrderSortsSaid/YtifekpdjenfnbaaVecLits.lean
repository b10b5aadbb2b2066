/- Plain lemmas on rows of bytes that are written out. No condition beyond those that each lemma names. -/
import Derived.Test.YtifekpdjenfnbaaVecMem
namespace Go.Proofs.Ytifekpdjenfnbaa
open Go.ChangeShapes Go.WideShapes Go.ChangeAt Go.RowKit

theorem bs_new (w : World) (l : List Nat) (hl : ∀ j, l.getD j 0 < 256) : Bs (w.alloc (.cells (cells l).toArray 5)) (some ⟨w.heap.size, 0, none⟩) l.length l := by
  refine ⟨rfl, hl, fun _ => ⟨_, rfl, by simp, fun j hj => ?_⟩⟩
  have e : (⟨w.heap.size, 0, none⟩ : Addr).add j = ⟨w.heap.size, j, none⟩ := by unfold Addr.add; split <;> simp_all
  rw [e, cell_of_row _ _ j _ _ (0, 0) (heap_alloc_new w _)]
  have := cells_at l j hj
  simpa using this
theorem bs_one (w : World) (x : Nat) (hx : x < 256) : Bs (w.alloc (.cells #[.int .u8 (x : Nat)] 5)) (some ⟨w.heap.size, 0, none⟩) 1 [x] :=
  bs_new w [x] (getD_lt (fun y hy => by simp at hy; omega))
theorem bs_two (w : World) (x y : Nat) (hx : x < 256) (hy : y < 256) : Bs (w.alloc (.cells #[.int .u8 (x : Nat), .int .u8 (y : Nat)] 5)) (some ⟨w.heap.size, 0, none⟩) 2 [x, y] :=
  bs_new w [x, y] (getD_lt (fun z hz => by simp at hz; omega))
theorem bs_both (w : World) : Bs ((w.alloc (.cells #[.int .u8 1, .int .u8 2] 5)).alloc (.cells #[.int .u8 3, .int .u8 4] 5)) (some ⟨w.heap.size, 0, none⟩) 2 [1, 2] ∧
    Bs ((w.alloc (.cells #[.int .u8 1, .int .u8 2] 5)).alloc (.cells #[.int .u8 3, .int .u8 4] 5)) (some ⟨w.heap.size + 1, 0, none⟩) 2 [3, 4] := by
  have h := bs_two w 1 2 (by decide) (by decide)
  have g := bs_two (w.alloc (.cells #[.int .u8 1, .int .u8 2] 5)) 3 4 (by decide) (by decide)
  refine ⟨h.below ((Below.refl _ _).alloc (Nat.le_refl _) _), ?_⟩
  simpa using g
theorem below2 (w : World) (o p : Obj) : Below w.heap.size w ((w.alloc o).alloc p) := ((Below.refl _ _).alloc (Nat.le_refl _) _).alloc (by simp) _

end Go.Proofs.Ytifekpdjenfnbaa

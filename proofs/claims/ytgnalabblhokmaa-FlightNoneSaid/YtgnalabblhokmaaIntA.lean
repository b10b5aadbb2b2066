/- Plain lemmas on slices of ints that a call makes: new ones, and such that grow by append. No condition beyond those that each lemma names. -/
import Derived.Test.YtgnalabblhokmaaInts
import Derived.Deep.OwnRows
import Derived.Deep.AppendLies
namespace Go.Proofs.Ytgnalabblhokmaa
open Go.ChangeShapes Go.WideShapes Go.ChangeAt Go.RowKit

def zcells (l : List Int) : List Value := l.map fun x => Value.int .i64 x
theorem zcells_len (l : List Int) : (zcells l).length = l.length := by unfold zcells; rw [List.length_map]
theorem zcells_at (l : List Int) (j : Nat) (hj : j < l.length) : (zcells l)[j]? = some (.int .i64 (l.getD j 0)) := by
  unfold zcells
  rw [List.getElem?_map, List.getElem?_eq_getElem hj, List.getD_eq_getElem?_getD, List.getElem?_eq_getElem hj]; rfl
theorem zcells_snoc (l : List Int) (x : Int) : zcells l ++ [Value.int .i64 x] = zcells (l ++ [x]) := by unfold zcells; rw [List.map_append]; rfl
theorem is_znew (w : World) (l : List Int) : Is (w.alloc (.cells (zcells l).toArray 3)) (some ⟨w.heap.size, 0, none⟩) l.length l := by
  refine ⟨rfl, fun _ => ⟨_, rfl, by simp, fun j hj => ?_⟩⟩
  have e : (⟨w.heap.size, 0, none⟩ : Addr).add j = ⟨w.heap.size, j, none⟩ := by unfold Addr.add; split <;> simp_all
  rw [e, cell_of_row _ _ j _ _ (0, 0) (heap_alloc_new w _)]
  have := zcells_at l j hj
  simpa using this
theorem is_zone (w : World) (x : Int) : Is (w.alloc (.cells #[.int .i64 x] 3)) (some ⟨w.heap.size, 0, none⟩) 1 [x] := is_znew w [x]
theorem is_ztwo (w : World) (x y : Int) : Is (w.alloc (.cells #[.int .i64 x, .int .i64 y] 3)) (some ⟨w.heap.size, 0, none⟩) 2 [x, y] := is_znew w [x, y]
/-- What appends of ints leave, as a slice that reads as ints. -/
theorem is_zof {w : World} {base n : Nat} {v : Value} {l : List Int} (h : w.ownsRow base 3 1 v n (zcells l)) : ∃ A c, v = .slice A n c ∧ n ≤ c ∧ Is w A n l := by
  obtain ⟨hl, hv⟩ := h
  rw [zcells_len, Nat.mul_one] at hl
  rcases hv with ⟨rfl, h0⟩ | ⟨g, cap, cur, rfl, hg, hc, h1, h2, h3, h4⟩
  · have h0' : n = 0 := by simpa using h0
    subst h0'
    exact ⟨_, _, rfl, Nat.le_refl _, ⟨hl, fun h => absurd h (by omega)⟩⟩
  · refine ⟨_, _, rfl, h1, hl, fun _ => ⟨_, rfl, (Array.getElem?_eq_some_iff.1 hc).1, fun j hj => ?_⟩⟩
    have e : (⟨g, 0, none⟩ : Addr).add j = ⟨g, j, none⟩ := by unfold Addr.add; split <;> simp_all
    rw [Nat.mul_one] at h4
    have h5 := zcells_at l j (by omega)
    rw [← h4, List.getElem?_take, if_pos hj] at h5
    rw [e, cell_of_row w g j cur _ (0, 0) hc]
    simpa using h5
theorem Try.zInfo : (Try.prog.info? 3).map (fun i => (i.zero, i.size, i.bytes)) = some (some (.int .i64 0), 1, 8) := by kernel_rfl
/-- Ints come back; nothing that was there has turned. -/
def GivesL (W : World) (l : List Int) (e : Ending) (w' : World) : Prop :=
  ∃ A c, e = .returned (.slice A l.length c) ∧ Is w' A l.length l ∧ Below W.heap.size W w'
end Go.Proofs.Ytgnalabblhokmaa

/- Plain lemmas on a block of cells that is written whole. No condition beyond those that each lemma names. -/
import Derived.Test.YtamcpdhehipcfaaObj
import Derived.Deep.MidRow
namespace Go.Proofs.Ytamcpdhehipcfaa
open Go.ChangeShapes Go.WideShapes Go.ChangeAt Go.RowKit

/-- cells, stored behind one another. -/
theorem At.sets {w : World} {b : Nat} {t : TypeId} {pre old post vs : List Value} (h : At w b t (pre ++ old ++ post)) (hl : old.length = vs.length) : At (w.setCells b pre.length vs) b t (pre ++ vs ++ post) := by
  induction vs generalizing w pre old with
  | nil =>
    have : old = [] := List.eq_nil_of_length_eq_zero hl
    subst this
    exact h
  | cons v vs ih =>
    cases old with
    | nil => simp at hl
    | cons u old =>
      rw [World.setCells]
      have h1 := h.set_ pre.length v
      have e1 : (pre ++ u :: old ++ post).set pre.length v = (pre ++ [v]) ++ old ++ post := by
        rw [List.append_assoc, List.set_append_right _ _ (Nat.le_refl _), Nat.sub_self]
        simp
      rw [e1] at h1
      have h2 := ih (pre := pre ++ [v]) h1 (by simpa using hl)
      rw [List.length_append] at h2
      have e2 : pre ++ v :: vs ++ post = pre ++ [v] ++ vs ++ post := by simp
      rw [e2]
      exact h2
theorem At.all_ {w : World} {b : Nat} {t : TypeId} {old : List Value} (h : At w b t old) (vs : List Value) (hl : old.length = vs.length) : At (w.setCells b 0 vs) b t vs := by
  have := At.sets (pre := []) (post := []) (vs := vs) (old := old) (by simpa using h) hl
  simpa using this
theorem At.there {w : World} {b : Nat} {t : TypeId} {xs : List Value} (h : At w b t xs) {n : Nat} (hn : xs.length = n) : w.there b 0 n := fun j hj => by
  refine ⟨?_, ?_⟩
  · rw [Nat.zero_add, h.cell j (List.getElem?_eq_getElem (by omega))]; rfl
  · rw [Nat.zero_add]; exact h.free j
theorem At.range {w : World} {b : Nat} {t : TypeId} {xs : List Value} (h : At w b t xs) : w.rangeAt b 0 xs := fun j v hj => by
  rw [Nat.zero_add]; exact h.cell j hj

theorem grown_sets (w : World) (b : Nat) (vs : List Value) (o : Nat) : w.grownBy (w.setCells b o vs) (some b) := by
  induction vs generalizing w o with
  | nil => exact grown_refl _ _
  | cons v vs ih =>
    rw [World.setCells]
    exact grown_trans2 (grown_set w ⟨b, o, none⟩ v) (ih _ _)
theorem size_sets (w : World) (b : Nat) (vs : List Value) (o : Nat) : (w.setCells b o vs).heap.size = w.heap.size := by
  induction vs generalizing w o with
  | nil => rfl
  | cons v vs ih =>
    rw [World.setCells, ih]
    simp [World.setCell]
end Go.Proofs.Ytamcpdhehipcfaa

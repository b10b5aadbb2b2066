/- Proved: lemmas of one statement's proof, merged by program: what each part proves stands ahead of it. Conditions: those that the lemmas name. -/
import Derived.Test.YtodokgkchmpmnaaGreatM5
import Derived.Test.YtodokgkchmpmnaaGreatM7
import Derived.Deep.QuietTactic
import Derived.BigQuiet
import Derived.Test.YtodokgkchmpmnaaGreatM4
import Derived.WalkSpells
import Derived.StillTactics
import Derived.OwnWalk
import Derived.Deep.RegionHeld3
import Derived.Deep.AppendLies

/- Plain lemmas on tables as lists of lists of numbers: made by a function, read as tables over the field. No condition beyond those that each lemma names. -/
namespace Go.Proofs.YtodokgkchmpmnaaGreat

theorem ext_rows {t t' : List (List Nat)} {n : Nat} (h1 : t.length = n) (h2 : t'.length = n) (h : ∀ j, j < n → rw_ t j = rw_ t' j) : t = t' := by
  apply List.ext_getElem
  · rw [h1, h2]
  · intro j hj hj'
    have := h j (by omega)
    unfold rw_ at this
    rw [List.getD_eq_getElem?_getD, List.getD_eq_getElem?_getD, List.getElem?_eq_getElem hj, List.getElem?_eq_getElem hj'] at this
    exact this
/-- the rows f 0 .. f (n - 1). -/
def mkR (n : Nat) (f : Nat → List Nat) : List (List Nat) := (List.range n).map f
theorem mkR_len (n : Nat) (f : Nat → List Nat) : (mkR n f).length = n := by unfold mkR; rw [List.length_map, List.length_range]
theorem mkR_at (n : Nat) (f : Nat → List Nat) (j : Nat) (h : j < n) : rw_ (mkR n f) j = f j := by
  unfold mkR rw_
  rw [List.getD_eq_getElem?_getD, List.getElem?_map, List.getElem?_range h]; rfl
theorem eq_mkR {t : List (List Nat)} {n : Nat} {f : Nat → List Nat} (h1 : t.length = n) (h : ∀ j, j < n → rw_ t j = f j) : t = mkR n f :=
  ext_rows h1 (mkR_len n f) fun j hj => by rw [mkR_at n f j hj]; exact h j hj
/-- the first k rows are f's. -/
def UptoT (n k : Nat) (f : Nat → List Nat) (t : List (List Nat)) : Prop := t.length = n ∧ ∀ r, r < k → rw_ t r = f r
theorem UptoT.start {n : Nat} {f : Nat → List Nat} {t : List (List Nat)} (h : t.length = n) : UptoT n 0 f t := ⟨h, fun _ h => absurd h (by omega)⟩
theorem UptoT.next {n k : Nat} {f : Nat → List Nat} {t : List (List Nat)} (h : UptoT n k f t) (hk : k < n) : UptoT n (k + 1) f (t.set k (f k)) := by
  refine ⟨by rw [List.length_set]; exact h.1, fun r hr => ?_⟩
  rw [rw_set _ _ _ _ (by rw [h.1]; exact hk)]
  by_cases e : k = r
  · rw [if_pos e, e]
  · rw [if_neg e]; exact h.2 r (by omega)
theorem UptoT.done {n : Nat} {f : Nat → List Nat} {t : List (List Nat)} (h : UptoT n n f t) : t = mkR n f := eq_mkR h.1 h.2

/-- n rows of m numbers below 256. -/
structure Good (n m : Nat) (t : List (List Nat)) : Prop where
  len : t.length = n
  row : ∀ r, r < n → (rw_ t r).length = m
  lt : ∀ r, r < n → ∀ j, (rw_ t r).getD j 0 < 256
/-! ### identities -/
def unitN (i j : Nat) : Nat := if i = j then 1 else 0
theorem unitN_lt (i j : Nat) : unitN i j < 256 := by unfold unitN; split <;> decide
/-- zeros but for a 1 at place i. -/
theorem unit_of (n i : Nat) (hi : i < n) : (List.replicate n 0).set i 1 = mk n (unitN i) :=
  eq_mk (by rw [List.length_set, List.length_replicate]) fun j hj => by
    rw [set_at _ _ _ _ (by rw [List.length_replicate]; exact hi), rep_at]
    rfl

/-! ### products -/
/-- column j of a table's first k rows. -/
def colL (k : Nat) (b : List (List Nat)) (j : Nat) : List Nat := mk k fun r => (rw_ b r).getD j 0
def mulL (n k m : Nat) (a b : List (List Nat)) : List (List Nat) := mkR n fun i => mk m fun j => dotN k (rw_ a i) (colL k b j)
end Go.Proofs.YtodokgkchmpmnaaGreat

/- Proved: what Identity of package matrix and the document's Identity answer for every int. Conditions: those that the theorems name. -/
namespace Go.Proofs.YtodokgkchmpmnaaGreat
open Go.ChangeShapes Go.WideShapes Go.ChangeAt Go.RowKit

theorem Tryz.infoRow : (Tryz.prog.info? 128).map (fun i => (i.zero, i.size, i.bytes)) = some (some (.slice none 0 0), 1, 24) := by kernel_rfl
/-! ### the document's Identity -/
end Go.Proofs.YtodokgkchmpmnaaGreat

/- Plain lemmas on slices of ints in memory. No condition beyond those that each lemma names. -/
import Derived.Test.YtgnalabblhokmaaVecMem
namespace Go.Proofs.Ytgnalabblhokmaa
open Go.ChangeShapes Go.WideShapes Go.ChangeAt Go.RowKit

/-- The slice value with address A and length n holds the ints l, in memory that is there. -/
def Is (w : World) (A : Option Addr) (n : Nat) (l : List Int) : Prop :=
  l.length = n ∧ (0 < n → ∃ ad, A = some ad ∧ ad.block < w.heap.size ∧ ∀ j, j < n → w.cell? (ad.add j) = some (.int .i64 (l.getD j 0)))
theorem Is.nil (w : World) (A : Option Addr) : Is w A 0 [] := ⟨rfl, fun h => absurd h (by omega)⟩
theorem Is.len {w : World} {A : Option Addr} {n : Nat} {l : List Int} (h : Is w A n l) : l.length = n := h.1
theorem Is.at_ {w : World} {A : Option Addr} {n : Nat} {l : List Int} (h : Is w A n l) {k : Nat} (hk : k < n) :
    ∃ ad, A = some ad ∧ ad.block < w.heap.size ∧ w.cell? (ad.add k) = some (.int .i64 (l.getD k 0)) := by
  obtain ⟨ad, e, hb, hc⟩ := h.2 (by omega)
  exact ⟨ad, e, hb, hc k hk⟩
theorem Is.below {w w' : World} {A : Option Addr} {n : Nat} {l : List Int} (h : Is w A n l) (hb : Below w.heap.size w w') : Is w' A n l := by
  refine ⟨h.1, fun hn => ?_⟩
  obtain ⟨ad, e, hlt, hc⟩ := h.2 hn
  exact ⟨ad, e, Nat.lt_of_lt_of_le hlt hb.size, fun j hj => (hb.cell (p := ad.add j) (by rw [add_block]; exact hlt)).trans (hc j hj)⟩
end Go.Proofs.Ytgnalabblhokmaa

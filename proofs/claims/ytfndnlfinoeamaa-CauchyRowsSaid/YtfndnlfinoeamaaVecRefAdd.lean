/- Proved: what the document's Add, Scale and MulAdd of rows answer for every byte and rows of bytes. Conditions: those that the theorems name. -/
import Derived.Test.YtfndnlfinoeamaaVecAdd
import Derived.Test.YtfndnlfinoeamaaGfRefMul
import Derived.WalkSpells
import Derived.StillTactics
import Derived.OwnWalk
import Derived.Deep.RegionHeld3
import Derived.Deep.AppendLies
namespace Go.Proofs.Ytfndnlfinoeamaa
open Go.ChangeShapes Go.WideShapes Go.ChangeAt Go.RowKit

theorem cells_mk_succ (n : Nat) (f : Nat → Nat) : cells (mk n f) ++ [Value.int .u8 (f n : Nat)] = cells (mk (n + 1) f) := by
  unfold cells mk
  rw [List.range_succ, List.map_append, List.map_append]; rfl
/-- What was gathered, as a row that reads as a list. -/
theorem bs_of_cap {w : World} {base n : Nat} {v : Value} {l : List Nat} (h : w.ownsRow base 5 1 v n (cells l)) (hb : ∀ j, l.getD j 0 < 256) : ∃ A c, v = .slice A n c ∧ n ≤ c ∧ Bs w A n l := by
  by_cases hn : n = 0
  · subst hn
    have hl : l = [] := by
      have := h.1
      rw [cells_len, Nat.zero_mul] at this
      exact List.eq_nil_of_length_eq_zero this
    subst hl
    rcases h.2 with ⟨rfl, _⟩ | ⟨g, cap, cur, rfl, _⟩
    · exact ⟨_, _, rfl, Nat.zero_le _, Bs.nil _ _⟩
    · exact ⟨_, _, rfl, Nat.zero_le _, Bs.nil _ _⟩
  · obtain ⟨g, cap, rfl, _, hc, _, ho⟩ := own_of h hb (by omega)
    exact ⟨_, _, rfl, hc, ho.bs⟩
theorem bs_of {w : World} {base n : Nat} {v : Value} {l : List Nat} (h : w.ownsRow base 5 1 v n (cells l)) (hb : ∀ j, l.getD j 0 < 256) : ∃ A c, v = .slice A n c ∧ Bs w A n l := by
  obtain ⟨A, c, e, _, h2⟩ := bs_of_cap h hb
  exact ⟨A, c, e, h2⟩

end Go.Proofs.Ytfndnlfinoeamaa

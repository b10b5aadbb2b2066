/- Proved: what the document's Same answers for every two rows of bytes. Conditions: those that the theorems name. -/
import Derived.Test.YtfndnlfinoeamaaVecAdd
import Derived.Test.YtfndnlfinoeamaaGfRefMul
import Derived.Deep.QuietTactic
import Derived.BigQuiet
namespace Go.Proofs.Ytfndnlfinoeamaa
open Go.ChangeShapes Go.WideShapes Go.ChangeAt Go.RowKit

theorem below_drawn {B : Nat} {w w' : World} (h : ∃ m, w' = w.drewN m) : Below B w w' := by
  obtain ⟨m, rfl⟩ := h
  exact ⟨rfl, rfl, rfl, Nat.le_refl _, fun _ _ => rfl⟩

set_option maxHeartbeats 400000 in
theorem same_quiet (A B : Option Addr) (n c d : Nat) (a : List Nat) (w : World) (ha : Bs w A n a) (hb : Bs w B n a) (hm : n ≤ 140737488355328) :
    Calls Try.prog 11 #[.slice A n c, .slice B n d] w fun e w' => e = .returned (.bool true) ∧ ∃ m, w' = w.drewN m := by
  have HA := Lib.hid ha
  have HB := Lib.hid hb
  clear ha hb
  go_enter Try.func11, Try.ntmps11
  go_wp2_with fail
  go_loopw [5] (fun i wr => ∃ k q : Nat, k ≤ n ∧ i = .int .i64 k ∧ wr = w.drewN q) (fun i _ => n - (intOf i).toNat)
  case atStart => exact ⟨0, 0, by omega, rfl, rfl⟩
  case round =>
    obtain ⟨k, q, hk, rfl, rfl⟩ := hrel
    by_cases hlt : k < n
    · obtain ⟨ad, rfl, la, hac⟩ := HA.out.at_ hlt
      obtain ⟨bd, rfl, lb, hbc⟩ := HB.out.at_ hlt
      obtain ⟨x, ex⟩ : ∃ x, x = a.getD k 0 := ⟨_, rfl⟩
      rw [← ex] at hac hbc
      clear ex
      have hlt' : (k : Int) < (n : Int) := by omega
      have hk0 : (0 : Int) ≤ (k : Int) := Int.natCast_nonneg _
      go_wp2_with fail
      go_quiet (fail)
      go_wp2_with fail
      go_roundw
      case rel => exact ⟨k + 1, _, by omega, by go_num, rfl⟩
      case measure => simp [intOf]; omega
    · obtain rfl : k = n := by omega
      go_wp2_with fail
      go_ret
      exact ⟨rfl, _, rfl⟩
theorem same_yes (A B : Option Addr) (n c d : Nat) (a : List Nat) (w : World) (ha : Bs w A n a) (hb : Bs w B n a) (hm : n ≤ 140737488355328) :
    Calls Try.prog 11 #[.slice A n c, .slice B n d] w fun e w' => e = .returned (.bool true) ∧ Below w.heap.size w w' :=
  (same_quiet A B n c d a w ha hb hm).mono fun _ _ h => ⟨h.1, below_drawn h.2⟩
end Go.Proofs.Ytfndnlfinoeamaa

/- Proved: what the document's Inv answers for every byte. Conditions: those that the theorems name. -/
import Derived.Test.YtfndnlfinoeamaaGfExp
import Derived.Test.YtfndnlfinoeamaaGfRefMul
namespace Go.Proofs.Ytfndnlfinoeamaa
open Go.ChangeShapes Go.WideShapes Go.ChangeAt Go.RowKit

/-! ### the document's inverse: the first byte whose product is 1 -/
set_option maxRecDepth 100000 in
set_option maxHeartbeats 400000 in
theorem rinv_zero (w : World) :
    Calls Try.prog 21 #[.int .u8 0] w fun e w' => e = .returned (.tuple #[.int .u8 0, .int .i64 1]) ∧ w = w' := by
  have p0 : ∀ (k : Nat) (_ : k < 256) (w : World), Calls Try.prog 30 #[.int .u8 0, .int .u8 k] w fun e w' => e = .returned (.int .u8 0) ∧ w = w' := fun k hk w => by
    have := prod_any 0 k (by decide) hk w
    rwa [gmul_zero_left k hk] at this
  have P0 := Lib.hid p0
  clear p0
  go_enter Try.func21, Try.ntmps21
  go_wp2_with fail
  go_loop [4] (fun i => ∃ k : Nat, 1 ≤ k ∧ k ≤ 256 ∧ i = .int .i64 k) (fun i => 256 - (intOf i).toNat)
  case atStart => exact ⟨1, by omega, by omega, rfl⟩
  case round =>
    obtain ⟨k, hk1, hk, rfl⟩ := hrel
    by_cases hlt : k < 256
    · go_wp2_with (go_at_call 30; refine (P0.out k hlt _).mono ?_; rintro e w' ⟨rfl, rfl⟩)
      go_round
      case rel => exact ⟨k + 1, by omega, by omega, by go_num⟩
      case measure => simp [intOf]; omega
    · go_wp2_with fail
      go_ret2
      exact ⟨rfl, rfl⟩
set_option maxRecDepth 100000 in
set_option maxHeartbeats 400000 in
theorem rinv_any (a : Nat) (h0 : a ≠ 0) (ha : a < 256) (w : World) :
    Calls Try.prog 21 #[.int .u8 a] w fun e w' => e = .returned (.tuple #[.int .u8 (ginv a : Nat), .int .i64 0]) ∧ w = w' := by
  have hg : ginv a < 256 := gexp_lt _
  have hg0 : 1 ≤ ginv a := Nat.pos_of_ne_zero (gexp_ne _)
  have G := Lib.hid (gmul_ginv a h0 ha)
  have U := Lib.hid (ginv_only a)
  go_enter Try.func21, Try.ntmps21
  go_wp2_with fail
  go_loop [4] (fun i => ∃ k : Nat, 1 ≤ k ∧ k ≤ ginv a ∧ i = .int .i64 k) (fun i => 256 - (intOf i).toNat)
  case atStart => exact ⟨1, by omega, by omega, rfl⟩
  case round =>
    obtain ⟨k, hk1, hk, rfl⟩ := hrel
    by_cases hlt : k < ginv a
    · have hn : ((gmul a k : Int) == 1) = false := by
        have h1 : gmul a k ≠ 1 := by
          intro e
          have := U.out k h0 ha (by omega) e
          omega
        simpa using fun e => h1 (by exact_mod_cast e)
      go_wp2_with (go_at_call 30; refine (prod_any a k ha (by omega) _).mono ?_; rintro e w' ⟨rfl, rfl⟩)
      go_round
      case rel => exact ⟨k + 1, by omega, by omega, by go_num⟩
      case measure => simp [intOf]; omega
    · obtain rfl : k = ginv a := by omega
      have hn : ((gmul a (ginv a) : Int) == 1) = true := by
        rw [G.out]; rfl
      go_wp2_with (go_at_call 30; refine (prod_any a _ ha hg _).mono ?_; rintro e w' ⟨rfl, rfl⟩)
      go_ret2
      exact ⟨rfl, rfl⟩

end Go.Proofs.Ytfndnlfinoeamaa

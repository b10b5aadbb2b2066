/- Proved: what Exp of package gf answers for every int. Conditions: none but those that the theorems name. -/
import Derived.Test.YtfndnlfinoeamaaGfDouble
namespace Go.Proofs.Ytfndnlfinoeamaa
open Go.ChangeShapes Go.WideShapes Go.ChangeAt Go.RowKit

theorem tmod_down (n : Int) (h : n < 0) : -255 < n.tmod 255 ∧ n.tmod 255 ≤ 0 ∧ (n.tmod 255 < 0 → n % 255 = n.tmod 255 + 255) ∧ (n.tmod 255 = 0 → n % 255 = 0) := by
  obtain ⟨m, rfl⟩ : ∃ m : Nat, n = -(m : Int) := ⟨n.natAbs, by omega⟩
  rw [Int.neg_tmod, Int.tmod_eq_emod_of_nonneg (by omega)]
  omega

set_option maxHeartbeats 400000 in
theorem exp_up (n : Int) (h0 : 0 ≤ n) (w : World) :
    Calls Try.prog 36 #[.int .i64 n] w fun e w' => e = .returned (.int .u8 (gexp n : Nat)) ∧ w = w' := by
  go_enter Try.func36, Try.ntmps36
  go_wp2_with fail
  go_loop [3, 11] (fun x i => ∃ k : Nat, (k : Int) ≤ n % 255 ∧ i = .int .i64 k ∧ x = .int .u8 (pw k : Nat)) (fun _ i => (n % 255).toNat - (intOf i).toNat)
  case atStart => exact ⟨0, by omega, rfl, rfl⟩
  case round =>
    obtain ⟨k, hk, rfl, rfl⟩ := hrel
    have hl := pw_lt k
    by_cases hlt : (k : Int) < n % 255
    · go_wp2_with (go_at_call 41; refine (double_any _ hl _).mono ?_; rintro e w' ⟨rfl, rfl⟩)
      go_round
      case rel => exact ⟨k + 1, by omega, by go_num, rfl⟩
      case measure => simp [intOf]; omega
    · go_wp2_with fail
      go_ret
      refine ⟨ret_int ?_, rfl⟩
      unfold gexp
      congr 2
      omega

set_option maxHeartbeats 400000 in
theorem exp_down (n : Int) (h0 : n < 0) (w : World) :
    Calls Try.prog 36 #[.int .i64 n] w fun e w' => e = .returned (.int .u8 (gexp n : Nat)) ∧ w = w' := by
  obtain ⟨d1, d2, d3, d4⟩ := tmod_down n h0
  have D3 := Lib.hid d3
  have D4 := Lib.hid d4
  clear d3 d4
  by_cases hz : n.tmod 255 < 0
  · go_enter Try.func36, Try.ntmps36
    go_wp2_with fail
    go_loop [3, 11] (fun x i => ∃ k : Nat, (k : Int) ≤ n.tmod 255 + 255 ∧ i = .int .i64 k ∧ x = .int .u8 (pw k : Nat)) (fun _ i => (n.tmod 255 + 255).toNat - (intOf i).toNat)
    case atStart => exact ⟨0, by omega, rfl, rfl⟩
    case round =>
      obtain ⟨k, hk, rfl, rfl⟩ := hrel
      have hl := pw_lt k
      by_cases hlt : (k : Int) < n.tmod 255 + 255
      · go_wp2_with (go_at_call 41; refine (double_any _ hl _).mono ?_; rintro e w' ⟨rfl, rfl⟩)
        go_round
        case rel => exact ⟨k + 1, by omega, by go_num, rfl⟩
        case measure => simp [intOf]; omega
      · go_wp2_with fail
        go_ret
        refine ⟨ret_int ?_, rfl⟩
        unfold gexp
        have E := D3.out hz
        congr 2
        omega
  · go_enter Try.func36, Try.ntmps36
    go_wp2_with fail
    go_loop [3, 11] (fun x i => ∃ k : Nat, (k : Int) ≤ n.tmod 255 ∧ i = .int .i64 k ∧ x = .int .u8 (pw k : Nat)) (fun _ i => (n.tmod 255).toNat - (intOf i).toNat)
    case atStart => exact ⟨0, by omega, rfl, rfl⟩
    case round =>
      obtain ⟨k, hk, rfl, rfl⟩ := hrel
      have hl := pw_lt k
      by_cases hlt : (k : Int) < n.tmod 255
      · go_wp2_with (go_at_call 41; refine (double_any _ hl _).mono ?_; rintro e w' ⟨rfl, rfl⟩)
        go_round
        case rel => exact ⟨k + 1, by omega, by go_num, rfl⟩
        case measure => simp [intOf]; omega
      · go_wp2_with fail
        go_ret
        refine ⟨ret_int ?_, rfl⟩
        unfold gexp
        have E := D4.out (by omega)
        congr 2
        omega
theorem exp_any (n : Int) (w : World) :
    Calls Try.prog 36 #[.int .i64 n] w fun e w' => e = .returned (.int .u8 (gexp n : Nat)) ∧ w = w' := by
  by_cases h : 0 ≤ n
  · exact exp_up n h w
  · exact exp_down n (by omega) w
end Go.Proofs.Ytfndnlfinoeamaa

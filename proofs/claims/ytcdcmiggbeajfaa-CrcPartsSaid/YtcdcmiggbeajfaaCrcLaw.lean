/- Proved: the walks of the laws of package crc. Conditions: those that the theorems name. -/
import Derived.Test.YtcdcmiggbeajfaaCrcMoved
namespace Go.Proofs.Ytcdcmiggbeajfaa
open Go.ChangeShapes Go.WideShapes Go.ChangeAt Go.RowKit

theorem sum_as (s : ByteArray) (z : Nat) (w : World) (hs : s.size ≤ maxLen) (hz : crcS 0 s = z) :
    Calls Try.prog 9 #[.string s] w fun e w' => e = .returned (.int .u32 (z : Nat)) ∧ w = w' := by
  rw [← hz]; exact csum_any s hs w
theorem add_as (c : Nat) (s : ByteArray) (z : Nat) (w : World) (hc : c < 4294967296) (hs : s.size ≤ maxLen) (hz : crcS c s = z) :
    Calls Try.prog 7 #[.int .u32 (c : Nat), .string s] w fun e w' => e = .returned (.int .u32 (z : Nat)) ∧ w = w' := by
  rw [← hz]; exact cadd_any c s hc hs w
abbrev xNine : ByteArray := ⟨#[49, 50, 51, 52, 53, 54, 55, 56, 57]⟩
abbrev xFour : ByteArray := ⟨#[49, 50, 51, 52]⟩
abbrev xFive : ByteArray := ⟨#[53, 54, 55, 56, 57]⟩

set_option maxRecDepth 100000 in
set_option maxHeartbeats 800000 in
theorem cawake7_any (w : World) :
    Calls Try.prog 6 #[] w fun e w' => e = .returned (.bool true) ∧ w = w' := by
  go_enter Try.func6, Try.ntmps6
  go_wp2_with fail
  refine (sum_as xNine 3421780262 _ (by decide) (by decide +kernel)).mono ?_; rintro e w1 ⟨rfl, rfl⟩
  go_wp2_with fail
  refine (sum_as S0 0 _ (by decide) (by decide +kernel)).mono ?_; rintro e w1 ⟨rfl, rfl⟩
  go_wp2_with fail
  refine (sum_as xFour 2615402659 _ (by decide) (by decide +kernel)).mono ?_; rintro e w1 ⟨rfl, rfl⟩
  go_wp2_with fail
  refine (add_as 2615402659 xFive 3421780262 _ (by decide) (by decide) (by decide +kernel)).mono ?_; rintro e w1 ⟨rfl, rfl⟩
  go_wp2_with fail
  go_ret
  exact ⟨rfl, rfl⟩

set_option maxHeartbeats 800000 in
theorem sums_walk (a : Int) (s : ByteArray) (w : World) (wa : (Lit.int .u32 a).wf = true) (hs : s.size ≤ maxLen) :
    Calls Try.prog 3 #[.int .u32 a, .string s] w fun e w' => e = .returned (.bool true) ∧ Below w.heap.size w w' := by
  have ha : 0 ≤ a ∧ a ≤ 4294967295 := by simpa [Lit.wf, IntKind.min, IntKind.max, IntKind.signed, IntKind.bits] using wa
  obtain ⟨ha0, ha1⟩ := ha
  obtain ⟨c, rfl⟩ := Int.eq_ofNat_of_zero_le ha0
  have hc : c < 4294967296 := by omega
  have HA := Lib.hid (fun w => cadd_any c s hc hs w)
  have HB := Lib.hid (fun w => radd7_any c s hc hs w)
  have HC := Lib.hid (fun w => csum_any s hs w)
  have HD := Lib.hid (fun w => rsum7_any s hs w)
  clear wa ha0 ha1 hc
  generalize crcS c s = x at *
  generalize crcS 0 s = y at *
  by_cases h : (s.size : Int) > 3000
  · go_enter Try.func3, Try.ntmps3
    go_wp2_with fail
    refine (cawake7_any _).mono ?_; rintro e w1 ⟨rfl, rfl⟩
    go_wp2_with fail
    go_ret
    exact ⟨rfl, Below.refl _ _⟩
  · have h' : (s.size : Int) ≤ 3000 := by omega
    clear h hs
    go_enter Try.func3, Try.ntmps3
    go_wp2_with fail
    refine (HA.out _).mono ?_; rintro e w1 ⟨rfl, rfl⟩
    go_wp2_with fail
    refine (HB.out _).mono ?_; rintro e w1 ⟨rfl, rfl⟩
    go_wp2_with fail
    refine (HC.out _).mono ?_; rintro e w1 ⟨rfl, rfl⟩
    go_wp2_with fail
    refine (HD.out _).mono ?_; rintro e w1 ⟨rfl, rfl⟩
    go_wp2_with fail
    refine (cawake7_any _).mono ?_; rintro e w1 ⟨rfl, rfl⟩
    go_wp2_with fail
    go_ret
    exact ⟨rfl, Below.refl _ _⟩

set_option maxHeartbeats 800000 in
theorem parts_walk (s t : ByteArray) (w : World) (hs : s.size ≤ maxLen) (ht : t.size ≤ maxLen) :
    Calls Try.prog 4 #[.string s, .string t] w fun e w' => e = .returned (.bool true) ∧ Below w.heap.size w w' := by
  by_cases h : (s.size : Int) > 3000
  · go_enter Try.func4, Try.ntmps4
    go_wp2_with fail
    refine (cawake7_any _).mono ?_; rintro e w1 ⟨rfl, rfl⟩
    go_wp2_with fail
    go_ret
    exact ⟨rfl, Below.refl _ _⟩
  · have h' : (s.size : Int) ≤ 3000 := by omega
    by_cases g : (t.size : Int) > 3000
    · clear h
      go_enter Try.func4, Try.ntmps4
      go_wp2_with fail
      refine (cawake7_any _).mono ?_; rintro e w1 ⟨rfl, rfl⟩
      go_wp2_with fail
      go_ret
      exact ⟨rfl, Below.refl _ _⟩
    · have g' : (t.size : Int) ≤ 3000 := by omega
      have hov : (s.size : Int) + (t.size : Int) ≤ 6000 := by omega
      have HA := Lib.hid (fun w => csum_any s hs w)
      have HB := Lib.hid (fun w => cadd_any (crcS 0 s) t (crcS_lt (by decide) s) ht w)
      have HC := Lib.hid (fun w => csum_any (s ++ t) (by rw [ByteArray.size_append]; unfold maxLen; omega) w)
      rw [crcS_parts] at HB
      generalize crcS 0 s = x at *
      generalize crcS 0 (s ++ t) = y at *
      clear h g hs ht
      go_enter Try.func4, Try.ntmps4
      go_wp2_with fail
      refine (HA.out _).mono ?_; rintro e w1 ⟨rfl, rfl⟩
      go_wp2_with fail
      refine (HB.out _).mono ?_; rintro e w1 ⟨rfl, rfl⟩
      go_wp2_with fail
      refine (HC.out _).mono ?_; rintro e w1 ⟨rfl, rfl⟩
      go_wp2_with fail
      refine (cawake7_any _).mono ?_; rintro e w1 ⟨rfl, rfl⟩
      go_wp2_with fail
      go_ret
      exact ⟨rfl, Below.refl _ _⟩
end Go.Proofs.Ytcdcmiggbeajfaa

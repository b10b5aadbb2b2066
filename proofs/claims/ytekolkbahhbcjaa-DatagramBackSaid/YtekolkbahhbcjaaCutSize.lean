/- Proved: what Size answers, the program's and the document's, for every two numbers. Conditions: those that each lemma names. -/
import Derived.Test.YtekolkbahhbcjaaCutMath
import Derived.IntWalk
namespace Go.Proofs.Ytekolkbahhbcjaa
open Go.ChangeShapes Go.WideShapes Go.ChangeAt Go.RowKit

theorem i64_hi {a : Int} (h : (Lit.int .i64 a).wf = true) : -9223372036854775808 ≤ a ∧ a ≤ 9223372036854775807 := by
  simpa [Lit.wf, IntKind.min, IntKind.max, IntKind.signed, IntKind.bits] using h
theorem size_fits {a b : Int} (h : (Lit.int .i64 a).wf = true) (ha : 0 ≤ a) (hb : 1 ≤ b) (g : a % b ≠ 0) : wrap64 (a / b + 1) = a / b + 1 := by
  have h1 := (i64_hi h).2
  have h2 : 2 ≤ b := by
    rcases Int.lt_or_le b 2 with h3 | h3
    · have : b = 1 := by omega
      subst this; omega
    · exact h3
  have h5 : 2 * (a / b) ≤ b * (a / b) := Int.mul_le_mul_of_nonneg_right h2 (Int.ediv_nonneg ha (by omega))
  have h6 := Int.mul_ediv_add_emod a b
  have h7 := Int.emod_nonneg a (show b ≠ 0 by omega)
  have h4 : 0 ≤ a / b := Int.ediv_nonneg ha (by omega)
  exact IntWalk.wrap64_in _ ⟨by omega, by omega⟩
theorem quo_fits {a b : Int} (h : (Lit.int .i64 a).wf = true) (ha : 0 ≤ a) (hb : 1 ≤ b) : wrap64 (a.tdiv b) = a / b := by
  have h1 := (i64_hi h).2
  have h4 : 0 ≤ a / b := Int.ediv_nonneg ha (by omega)
  have h5 : 1 * (a / b) ≤ b * (a / b) := Int.mul_le_mul_of_nonneg_right hb h4
  have h6 := Int.mul_ediv_add_emod a b
  have h7 := Int.emod_nonneg a (show b ≠ 0 by omega)
  rw [Int.tdiv_eq_ediv_of_nonneg ha]
  exact IntWalk.wrap64_in _ ⟨by omega, by omega⟩
set_option maxHeartbeats 400000 in
theorem rsize_any (a b : Int) (w : World) (wa : (Lit.int .i64 a).wf = true) :
    Calls Try.prog 35 #[.int .i64 a, .int .i64 b] w fun e w' => e = .returned (.int .i64 (sizeZ a b)) ∧ w = w' := by
  have W := Lib.hid wa
  clear wa
  by_cases ha : a < 0
  · go_enter Try.func35, Try.ntmps35
    go_wp2
    go_ret
    exact ⟨ret_int (sizeZ_none (Or.inl ha)).symm, rfl⟩
  · have ha' : 0 ≤ a := by omega
    by_cases hb : b < 1
    · go_enter Try.func35, Try.ntmps35
      go_wp2
      go_ret
      exact ⟨ret_int (sizeZ_none (Or.inr hb)).symm, rfl⟩
    · have hb' : 1 ≤ b := by omega
      clear hb ha
      by_cases hr : a % b = 0
      · have HE := Lib.hid (sizeZ_even ha' hb' hr)
        have hr2 : a % b ≤ 0 := by omega
        go_enter Try.func35, Try.ntmps35
        go_wp2
        go_ret
        exact ⟨ret_int (by rw [quo_fits W.out ha' hb', HE.out]), rfl⟩
      · have HE := Lib.hid (sizeZ_odd ha' hb' hr)
        have HF := Lib.hid (size_fits W.out ha' hb' hr)
        have hr2 : 0 < a % b := by have := Int.emod_nonneg a (show b ≠ 0 by omega); omega
        go_enter Try.func35, Try.ntmps35
        go_wp2
        go_ret
        exact ⟨ret_int (by rw [quo_fits W.out ha' hb', HF.out, HE.out]), rfl⟩
end Go.Proofs.Ytekolkbahhbcjaa

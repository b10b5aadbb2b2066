/- Proved: what the small helpers of package rto, and of the document's answers for it, answer for all numbers. Conditions: those that the theorems name. -/
import Derived.Test.YtnnedfpbkfopfaaObj
import Derived.WalkKit
import Derived.ProofKit
import Derived.LoopTactic
import Derived.Laws.BitsAllLaws
import Derived.Laws.StructEq
import Derived.Lib.Hide
import Derived.Lib.MinMax
namespace Go.Proofs.Ytnnedfpbkfopfaa
open Go.ChangeShapes Go.WideShapes Go.ChangeAt Go.RowKit

/-- what is known of how long answers take. -/
structure Rt where
  m : Int
  v : Int
  n : Int
def Rt.val (r : Rt) : Value := .agg #[.int .i64 r.m, .int .i64 r.v, .int .i64 r.n]
def Rt.cells (r : Rt) : List Value := [.int .i64 r.m, .int .i64 r.v, .int .i64 r.n]

/-- may a number be? -/
def inB (n : Int) : Bool := decide (0 ≤ n) && decide (n ≤ 1073741824)
theorem mayBe_any (n : Int) (w : World) : Calls Try.prog 13 #[.int .i64 n] w fun e w' => e = .returned (.bool (inB n)) ∧ w = w' := by
  unfold inB
  by_cases h : 0 ≤ n
  · rw [decide_eq_true h, Bool.true_and]
    go_enter Try.func13, Try.ntmps13
    go_wp2_with fail
    go_ret
    exact ⟨rfl, rfl⟩
  · rw [decide_eq_false h, Bool.false_and]
    go_enter Try.func13, Try.ntmps13
    go_wp2_with fail
    go_ret
    exact ⟨rfl, rfl⟩
/-- a number, but 1 at least and 2^20 at most. -/
def wi (n : Int) : Int := min (max n 1) 1048576
theorem within_any (n : Int) (w : World) : Calls Try.prog 15 #[.int .i64 n] w fun e w' => e = .returned (.int .i64 (wi n)) ∧ w = w' := by
  unfold wi
  go_enter Try.func15, Try.ntmps15
  go_wp2_with fail
  go_ret
  exact ⟨rfl, rfl⟩
theorem atLeast_any (n : Int) (w : World) : Calls Try.prog 16 #[.int .i64 n] w fun e w' => e = .returned (.int .i64 (wi n)) ∧ w = w' := by
  have he : wi n = max 1 (min n 1048576) := by unfold wi; omega
  rw [he]
  go_enter Try.func16, Try.ntmps16
  go_wp2_with fail
  go_ret
  exact ⟨rfl, rfl⟩
theorem by_any (n : Int) (w : World) (h0 : 0 ≤ n) (h1 : n ≤ 9223372036854775807) : Calls Try.prog 17 #[.int .i64 n, .int .i64 8] w fun e w' => e = .returned (.int .i64 (n / 8)) ∧ w = w' := by
  go_enter Try.func17, Try.ntmps17
  go_wp2_with fail
  go_ret
  exact ⟨rfl, rfl⟩
/-- what is known of one sample more. -/
def knownR (m v n : Int) : Rt := ⟨min m 1073741824, min v 1073741824, min n 1073741823 + 1⟩
theorem known_any (m v n : Int) (w : World) (h0 : 0 ≤ n) : Calls Try.prog 14 #[.int .i64 m, .int .i64 v, .int .i64 n] w fun e w' => e = .returned (knownR m v n).val ∧ Below w.heap.size w w' := by
  have hn : 0 ≤ min n 1073741823 := by omega
  have hn1 : min n 1073741823 ≤ 1073741823 := by omega
  unfold knownR Rt.val
  go_enter Try.func14, Try.ntmps14
  go_wp2_with fail
  refine bodyPost_ret (v := .agg #[.int .i64 (min m 1073741824), .int .i64 (min v 1073741824), .int .i64 (min n 1073741823 + 1)]) (by simp [results, Try.results14, go_sem]) rfl ⟨rfl, ?_⟩
  exact (Below.refl _ _).alloc (Nat.le_refl _) _
theorem eq_rt (a b : Rt) (w : World) : (binOp .eql 23 a.val b.val).run Try.prog w = .ok (.bool (decide (a.m = b.m ∧ a.v = b.v ∧ a.n = b.n))) w := by
  unfold Rt.val
  rw [run_eql_struct, run_equalIn_agg w _ 23 _ _ (by kernel_rfl) (by kernel_rfl)]
  obtain ⟨a0, a1, a2⟩ := a
  obtain ⟨b0, b1, b2⟩ := b
  simp [go_sem, Try.underlying23]
  by_cases h : a0 = b0 <;> by_cases g : a1 = b1 <;> by_cases f : a2 = b2 <;> simp [h, g, f]
end Go.Proofs.Ytnnedfpbkfopfaa

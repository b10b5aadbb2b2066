/- Proved: what each function of package serial, and its twin of the document, answers for all numbers. Conditions: the bounds that the theorems name. -/
import Derived.Test.YtifekpdjenfnbaaRows
import Derived.WalkKit
import Derived.ProofKit
import Derived.LoopTactic
import Derived.Laws.BitsAllLaws
import Derived.Lib.Hide
namespace Go.Proofs.Ytifekpdjenfnbaa
open Go.ChangeShapes Go.WideShapes Go.ChangeAt Go.RowKit

/-- how far b is ahead of a. -/
def ah (a b : Int) : Int := if b - a < -2147483648 then b - a + 4294967296 else if b - a ≥ 2147483648 then b - a - 4294967296 else b - a
def U32 (a : Int) : Prop := 0 ≤ a ∧ a ≤ 4294967295
theorem u32_of {a : Int} (h : (Lit.int .u32 a).wf = true) : U32 a := by
  unfold U32
  simpa [Lit.wf, IntKind.min, IntKind.max, IntKind.signed, IntKind.bits] using h
theorem ser_int {k : IntKind} {a b : Int} (h : a = b) : Ending.returned (.int k a) = .returned (.int k b) := by rw [h]
theorem ser_u32 {x : Int} (h : U32 x) : x % 4294967296 = x := by unfold U32 at h; omega
theorem ah_wraps {a b : Int} (ha : U32 a) (hb : U32 b) : wrap64 (wrap32 ((b - a) % 4294967296)) = ah a b := by
  unfold U32 at ha hb
  unfold wrap64 wrap32 ah
  omega
theorem ah_low (a b : Int) (ha : U32 a) (hb : U32 b) : -2147483648 ≤ ah a b ∧ ah a b < 2147483648 := by
  unfold U32 at ha hb; unfold ah; omega

set_option maxHeartbeats 400000 in
theorem nahead_any (a b : Int) (ha : U32 a) (hb : U32 b) (w : World) :
    Calls Try.prog 27 #[.int .u32 a, .int .u32 b] w fun e w' => e = .returned (.int .i64 (ah a b)) ∧ w = w' := by
  have HA := Lib.hid ha
  have HB := Lib.hid hb
  clear ha hb
  go_enter Try.func27, Try.ntmps27
  go_wp2_with fail
  go_ret
  exact ⟨ser_int (ah_wraps HA.out HB.out), rfl⟩
set_option maxHeartbeats 400000 in
theorem rahead_any (a b : Int) (ha : U32 a) (hb : U32 b) (w : World) :
    Calls Try.prog 26 #[.int .u32 a, .int .u32 b] w fun e w' => e = .returned (.int .i64 (ah a b)) ∧ w = w' := by
  unfold U32 at ha hb
  by_cases h1 : b - a < 0
  · by_cases h2 : b - a + 4294967296 ≥ 2147483648
    · have he : ah a b = b - a := by unfold ah; omega
      rw [he]
      go_enter Try.func26, Try.ntmps26
      go_wp2_with fail
      go_ret
      exact ⟨rfl, rfl⟩
    · have he : ah a b = b - a + 4294967296 := by unfold ah; omega
      rw [he]
      go_enter Try.func26, Try.ntmps26
      go_wp2_with fail
      go_ret
      exact ⟨rfl, rfl⟩
  · by_cases h2 : b - a ≥ 2147483648
    · have he : ah a b = b - a - 4294967296 := by unfold ah; omega
      rw [he]
      go_enter Try.func26, Try.ntmps26
      go_wp2_with fail
      go_ret
      exact ⟨rfl, rfl⟩
    · have he : ah a b = b - a := by unfold ah; omega
      rw [he]
      go_enter Try.func26, Try.ntmps26
      go_wp2_with fail
      go_ret
      exact ⟨rfl, rfl⟩
theorem ahead_any (a b : Int) (ha : U32 a) (hb : U32 b) (w : World) :
    Calls Try.prog 21 #[.int .u32 a, .int .u32 b] w fun e w' => e = .returned (.int .i64 (ah a b)) ∧ w = w' := by
  have HH := Lib.hid (fun w => nahead_any a b ha hb w)
  clear ha hb
  go_enter Try.func21, Try.ntmps21
  go_wp2_with fail
  refine (HH.out _).mono ?_; rintro e w1 ⟨rfl, rfl⟩
  go_wp2_with fail
  go_ret
  exact ⟨rfl, rfl⟩
theorem less_any (a b : Int) (ha : U32 a) (hb : U32 b) (w : World) :
    Calls Try.prog 18 #[.int .u32 a, .int .u32 b] w fun e w' => e = .returned (.bool (decide (0 < ah a b))) ∧ w = w' := by
  have HH := Lib.hid (fun w => ahead_any a b ha hb w)
  clear ha hb
  go_enter Try.func18, Try.ntmps18
  go_wp2_with fail
  refine (HH.out _).mono ?_; rintro e w1 ⟨rfl, rfl⟩
  go_wp2_with fail
  go_ret
  exact ⟨rfl, rfl⟩
theorem rless_any (a b : Int) (ha : U32 a) (hb : U32 b) (w : World) :
    Calls Try.prog 16 #[.int .u32 a, .int .u32 b] w fun e w' => e = .returned (.bool (decide (0 < ah a b))) ∧ w = w' := by
  have HH := Lib.hid (fun w => rahead_any a b ha hb w)
  clear ha hb
  go_enter Try.func16, Try.ntmps16
  go_wp2_with fail
  refine (HH.out _).mono ?_; rintro e w1 ⟨rfl, rfl⟩
  go_wp2_with fail
  go_ret
  exact ⟨rfl, rfl⟩
/-- is x one of the n from base on? -/
def inZ (x base n : Int) : Bool := decide (0 ≤ ah base x) && decide (ah base x < n)
theorem within_any (x base n : Int) (hx : U32 x) (hb : U32 base) (w : World) :
    Calls Try.prog 19 #[.int .u32 x, .int .u32 base, .int .i64 n] w fun e w' => e = .returned (.bool (inZ x base n)) ∧ w = w' := by
  have HH := Lib.hid (fun w => ahead_any base x hb hx w)
  clear hx hb
  unfold inZ
  generalize ah base x = d at *
  by_cases h : 0 ≤ d
  · rw [decide_eq_true h, Bool.true_and]
    go_enter Try.func19, Try.ntmps19
    go_wp2_with fail
    refine (HH.out _).mono ?_; rintro e w1 ⟨rfl, rfl⟩
    go_wp2_with fail
    go_ret
    exact ⟨rfl, rfl⟩
  · rw [decide_eq_false h, Bool.false_and]
    go_enter Try.func19, Try.ntmps19
    go_wp2_with fail
    refine (HH.out _).mono ?_; rintro e w1 ⟨rfl, rfl⟩
    go_wp2_with fail
    go_ret
    exact ⟨rfl, rfl⟩
theorem rwithin_any (x base n : Int) (hx : U32 x) (hb : U32 base) (w : World) :
    Calls Try.prog 17 #[.int .u32 x, .int .u32 base, .int .i64 n] w fun e w' => e = .returned (.bool (inZ x base n)) ∧ w = w' := by
  have HH := Lib.hid (fun w => rahead_any base x hb hx w)
  clear hx hb
  unfold inZ
  generalize ah base x = d at *
  by_cases h : 0 ≤ d
  · rw [decide_eq_true h, Bool.true_and]
    go_enter Try.func17, Try.ntmps17
    go_wp2_with fail
    refine (HH.out _).mono ?_; rintro e w1 ⟨rfl, rfl⟩
    go_wp2_with fail
    go_ret
    exact ⟨rfl, rfl⟩
  · rw [decide_eq_false h, Bool.false_and]
    go_enter Try.func17, Try.ntmps17
    go_wp2_with fail
    refine (HH.out _).mono ?_; rintro e w1 ⟨rfl, rfl⟩
    go_wp2_with fail
    go_ret
    exact ⟨rfl, rfl⟩
/-- the greater one. -/
def maxZ (a b : Int) : Int := if 0 < ah a b then b else a
end Go.Proofs.Ytifekpdjenfnbaa

/- Proved: what each function of package serial, and its twin of the document, answers for all numbers. Conditions: the bounds that the theorems name. -/
import Derived.Test.YtgnalabblhokmaaRows
import Derived.WalkKit
import Derived.ProofKit
import Derived.LoopTactic
import Derived.Laws.BitsAllLaws
import Derived.Lib.Hide
namespace Go.Proofs.Ytgnalabblhokmaa
open Go.ChangeShapes Go.WideShapes Go.ChangeAt Go.RowKit

/-- how far b is ahead of a. -/
def ah (a b : Int) : Int := if b - a < -2147483648 then b - a + 4294967296 else if b - a ≥ 2147483648 then b - a - 4294967296 else b - a
def U32 (a : Int) : Prop := 0 ≤ a ∧ a ≤ 4294967295
theorem u32_of {a : Int} (h : (Lit.int .u32 a).wf = true) : U32 a := by
  unfold U32
  simpa [Lit.wf, IntKind.min, IntKind.max, IntKind.signed, IntKind.bits] using h
theorem ser_int {k : IntKind} {a b : Int} (h : a = b) : Ending.returned (.int k a) = .returned (.int k b) := by rw [h]
theorem ser_u32 {x : Int} (h : U32 x) : x % 4294967296 = x := by unfold U32 at h; omega
theorem ah_wraps {a b : Int} (ha : U32 a) (hb : U32 b) : wrap64 (wrap32 ((b - a) % 4294967296)) = ah a b := by
  unfold U32 at ha hb
  unfold wrap64 wrap32 ah
  omega
theorem ah_low (a b : Int) (ha : U32 a) (hb : U32 b) : -2147483648 ≤ ah a b ∧ ah a b < 2147483648 := by
  unfold U32 at ha hb; unfold ah; omega

set_option maxHeartbeats 400000 in
theorem nahead_any (a b : Int) (ha : U32 a) (hb : U32 b) (w : World) :
    Calls Try.prog 29 #[.int .u32 a, .int .u32 b] w fun e w' => e = .returned (.int .i64 (ah a b)) ∧ w = w' := by
  have HA := Lib.hid ha
  have HB := Lib.hid hb
  clear ha hb
  go_enter Try.func29, Try.ntmps29
  go_wp2_with fail
  go_ret
  exact ⟨ser_int (ah_wraps HA.out HB.out), rfl⟩
theorem ahead_any (a b : Int) (ha : U32 a) (hb : U32 b) (w : World) :
    Calls Try.prog 24 #[.int .u32 a, .int .u32 b] w fun e w' => e = .returned (.int .i64 (ah a b)) ∧ w = w' := by
  have HH := Lib.hid (fun w => nahead_any a b ha hb w)
  clear ha hb
  go_enter Try.func24, Try.ntmps24
  go_wp2_with fail
  refine (HH.out _).mono ?_; rintro e w1 ⟨rfl, rfl⟩
  go_wp2_with fail
  go_ret
  exact ⟨rfl, rfl⟩
theorem less_any (a b : Int) (ha : U32 a) (hb : U32 b) (w : World) :
    Calls Try.prog 15 #[.int .u32 a, .int .u32 b] w fun e w' => e = .returned (.bool (decide (0 < ah a b))) ∧ w = w' := by
  have HH := Lib.hid (fun w => ahead_any a b ha hb w)
  clear ha hb
  go_enter Try.func15, Try.ntmps15
  go_wp2_with fail
  refine (HH.out _).mono ?_; rintro e w1 ⟨rfl, rfl⟩
  go_wp2_with fail
  go_ret
  exact ⟨rfl, rfl⟩
/-- is x one of the n from base on? -/
def inZ (x base n : Int) : Bool := decide (0 ≤ ah base x) && decide (ah base x < n)
/-- the greater one. -/
def maxZ (a b : Int) : Int := if 0 < ah a b then b else a
end Go.Proofs.Ytgnalabblhokmaa

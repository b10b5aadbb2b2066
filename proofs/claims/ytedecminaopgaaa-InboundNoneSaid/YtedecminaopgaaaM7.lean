/- Proved: lemmas of one statement's proof, merged by program: what each part proves stands ahead of it. Conditions: those that the lemmas name. -/
import Derived.Test.YtedecminaopgaaaRows
import Derived.WalkKit
import Derived.ProofKit
import Derived.LoopTactic
import Derived.Laws.BitsAllLaws
import Derived.Lib.Hide

/- Proved: what each function of package serial, and its twin of the document, answers for all numbers. Conditions: the bounds that the theorems name. -/
namespace Go.Proofs.Ytedecminaopgaaa
open Go.ChangeShapes Go.WideShapes Go.ChangeAt Go.RowKit

/-- how far b is ahead of a. -/
def ah (a b : Int) : Int := if b - a < -2147483648 then b - a + 4294967296 else if b - a ≥ 2147483648 then b - a - 4294967296 else b - a
def U32 (a : Int) : Prop := 0 ≤ a ∧ a ≤ 4294967295
theorem u32_of {a : Int} (h : (Lit.int .u32 a).wf = true) : U32 a := by
  unfold U32
  simpa [Lit.wf, IntKind.min, IntKind.max, IntKind.signed, IntKind.bits] using h
theorem ser_int {k : IntKind} {a b : Int} (h : a = b) : Ending.returned (.int k a) = .returned (.int k b) := by rw [h]
theorem ah_wraps {a b : Int} (ha : U32 a) (hb : U32 b) : wrap64 (wrap32 ((b - a) % 4294967296)) = ah a b := by
  unfold U32 at ha hb
  unfold wrap64 wrap32 ah
  omega
set_option maxHeartbeats 400000 in
theorem nahead_any (a b : Int) (ha : U32 a) (hb : U32 b) (w : World) :
    Calls Try.prog 71 #[.int .u32 a, .int .u32 b] w fun e w' => e = .returned (.int .i64 (ah a b)) ∧ w = w' := by
  have HA := Lib.hid ha
  have HB := Lib.hid hb
  clear ha hb
  go_enter Try.func71, Try.ntmps71
  go_wp2_with fail
  go_ret
  exact ⟨ser_int (ah_wraps HA.out HB.out), rfl⟩
set_option maxHeartbeats 400000 in
theorem rahead_any (a b : Int) (ha : U32 a) (hb : U32 b) (w : World) :
    Calls Try.prog 39 #[.int .u32 a, .int .u32 b] w fun e w' => e = .returned (.int .i64 (ah a b)) ∧ w = w' := by
  unfold U32 at ha hb
  by_cases h1 : b - a < 0
  · by_cases h2 : b - a + 4294967296 ≥ 2147483648
    · have he : ah a b = b - a := by unfold ah; omega
      rw [he]
      go_enter Try.func39, Try.ntmps39
      go_wp2_with fail
      go_ret
      exact ⟨rfl, rfl⟩
    · have he : ah a b = b - a + 4294967296 := by unfold ah; omega
      rw [he]
      go_enter Try.func39, Try.ntmps39
      go_wp2_with fail
      go_ret
      exact ⟨rfl, rfl⟩
  · by_cases h2 : b - a ≥ 2147483648
    · have he : ah a b = b - a - 4294967296 := by unfold ah; omega
      rw [he]
      go_enter Try.func39, Try.ntmps39
      go_wp2_with fail
      go_ret
      exact ⟨rfl, rfl⟩
    · have he : ah a b = b - a := by unfold ah; omega
      rw [he]
      go_enter Try.func39, Try.ntmps39
      go_wp2_with fail
      go_ret
      exact ⟨rfl, rfl⟩
theorem ahead_any (a b : Int) (ha : U32 a) (hb : U32 b) (w : World) :
    Calls Try.prog 64 #[.int .u32 a, .int .u32 b] w fun e w' => e = .returned (.int .i64 (ah a b)) ∧ w = w' := by
  have HH := Lib.hid (fun w => nahead_any a b ha hb w)
  clear ha hb
  go_enter Try.func64, Try.ntmps64
  go_wp2_with fail
  refine (HH.out _).mono ?_; rintro e w1 ⟨rfl, rfl⟩
  go_wp2_with fail
  go_ret
  exact ⟨rfl, rfl⟩
theorem less_any (a b : Int) (ha : U32 a) (hb : U32 b) (w : World) :
    Calls Try.prog 63 #[.int .u32 a, .int .u32 b] w fun e w' => e = .returned (.bool (decide (0 < ah a b))) ∧ w = w' := by
  have HH := Lib.hid (fun w => ahead_any a b ha hb w)
  clear ha hb
  go_enter Try.func63, Try.ntmps63
  go_wp2_with fail
  refine (HH.out _).mono ?_; rintro e w1 ⟨rfl, rfl⟩
  go_wp2_with fail
  go_ret
  exact ⟨rfl, rfl⟩
/-- is x one of the n from base on? -/
def inZ (x base n : Int) : Bool := decide (0 ≤ ah base x) && decide (ah base x < n)
theorem within_any (x base n : Int) (hx : U32 x) (hb : U32 base) (w : World) :
    Calls Try.prog 44 #[.int .u32 x, .int .u32 base, .int .i64 n] w fun e w' => e = .returned (.bool (inZ x base n)) ∧ w = w' := by
  have HH := Lib.hid (fun w => ahead_any base x hb hx w)
  clear hx hb
  unfold inZ
  generalize ah base x = d at *
  by_cases h : 0 ≤ d
  · rw [decide_eq_true h, Bool.true_and]
    go_enter Try.func44, Try.ntmps44
    go_wp2_with fail
    refine (HH.out _).mono ?_; rintro e w1 ⟨rfl, rfl⟩
    go_wp2_with fail
    go_ret
    exact ⟨rfl, rfl⟩
  · rw [decide_eq_false h, Bool.false_and]
    go_enter Try.func44, Try.ntmps44
    go_wp2_with fail
    refine (HH.out _).mono ?_; rintro e w1 ⟨rfl, rfl⟩
    go_wp2_with fail
    go_ret
    exact ⟨rfl, rfl⟩
/-- the greater one. -/
def maxZ (a b : Int) : Int := if 0 < ah a b then b else a
theorem smax_any (a b : Int) (ha : U32 a) (hb : U32 b) (w : World) :
    Calls Try.prog 65 #[.int .u32 a, .int .u32 b] w fun e w' => e = .returned (.int .u32 (maxZ a b)) ∧ w = w' := by
  have HH := Lib.hid (fun w => less_any a b ha hb w)
  clear ha hb
  unfold maxZ
  generalize ah a b = d at *
  by_cases h : 0 < d
  · rw [if_pos h]
    rw [decide_eq_true h] at HH
    go_enter Try.func65, Try.ntmps65
    go_wp2_with fail
    refine (HH.out _).mono ?_; rintro e w1 ⟨rfl, rfl⟩
    go_wp2_with fail
    go_ret
    exact ⟨rfl, rfl⟩
  · rw [if_neg h]
    rw [decide_eq_false h] at HH
    go_enter Try.func65, Try.ntmps65
    go_wp2_with fail
    refine (HH.out _).mono ?_; rintro e w1 ⟨rfl, rfl⟩
    go_wp2_with fail
    go_ret
    exact ⟨rfl, rfl⟩
end Go.Proofs.Ytedecminaopgaaa

/- Plain lemmas on windows of numbers that go round. No condition beyond those that each lemma names. -/
namespace Go.Proofs.Ytedecminaopgaaa
open Go.ChangeShapes Go.WideShapes Go.ChangeAt Go.RowKit

/-- how far x is from base B on. -/
def off (B x : Int) : Int := (x - B) % 4294967296
/-- the number that is so far from base B on. -/
def wpl (B : Int) (i : Nat) : Int := (B + (i : Int)) % 4294967296
theorem wpl_u32 (B : Int) (i : Nat) : U32 (wpl B i) := by unfold wpl U32; omega
theorem off_wpl {B : Int} {i : Nat} (h : i < 4294967296) : off B (wpl B i) = i := by unfold off wpl; omega
theorem wpl_zero {B : Int} (h : U32 B) : wpl B 0 = B := by unfold wpl U32 at *; omega
theorem wpl_next (B : Int) (i : Nat) : (wpl B i + 1) % 4294967296 = wpl B (i + 1) := by unfold wpl; omega
theorem wpl_wpl (B : Int) (i j : Nat) : wpl (wpl B i) j = wpl B (i + j) := by unfold wpl; omega
theorem wpl_inj {B : Int} {i j : Nat} (hi : i < 4294967296) (hj : j < 4294967296) (h : wpl B i = wpl B j) : i = j := by unfold wpl at h; omega
theorem ah_wpl {B : Int} {i j : Nat} (hi : i < 1000) (hj : j < 1000) : ah (wpl B i) (wpl B j) = (j : Int) - i := by unfold ah wpl; omega
theorem max_wpl {B : Int} {i j : Nat} (hi : i < 1000) (hj : j < 1000) : maxZ (wpl B i) (wpl B j) = wpl B (max i j) := by
  unfold maxZ
  rw [ah_wpl hi hj]
  split
  · rw [Nat.max_eq_right (by omega)]
  · rw [Nat.max_eq_left (by omega)]
/-! ### a mark -/
/-! ### a slide -/
/-! ### those that are missing -/
end Go.Proofs.Ytedecminaopgaaa

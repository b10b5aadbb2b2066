/- Proved: lemmas of one statement's proof, merged by program: what each part proves stands ahead of it. Conditions: those that the lemmas name. -/
import Derived.Test.YtmnbkghihdbepaaM18
import Derived.Test.YtmnbkghihdbepaaRows
import Derived.WalkKit
import Derived.ProofKit
import Derived.LoopTactic
import Derived.Laws.BitsAllLaws
import Derived.Lib.Hide

/- Proved: what Check and Size of package datagram answer. Conditions: those that the theorems name. -/
namespace Go.Proofs.Ytmnbkghihdbepaa
open Go.ChangeShapes Go.WideShapes Go.ChangeAt Go.RowKit

set_option maxHeartbeats 1600000 in
theorem dcheck_any (d : Dg) (w : World) (hb : d.body.size ≤ maxLen) : Calls Try.prog 28 #[d.val] w (GivesZ w (chk d)) := by
  have HC := Lib.hid (fun w => checked_any d w hb)
  unfold layT at HC
  generalize grpOf d.kind = g at *
  generalize chk d = z at *
  obtain ⟨a0, a1, a2, a3, a4, a5, a6, a7, a8, a9⟩ := d
  unfold Dg.val at HC ⊢
  simp only at HC ⊢
  clear hb
  by_cases h : z = 0
  · rw [if_pos h] at HC
    unfold layV at HC
    clear h
    go_enter Try.func28, Try.ntmps28
    go_wp2_with fail
    refine (HC.out _).mono ?_; rintro e w1 ⟨rfl, g1⟩
    have B1 : Hid (Below w.heap.size w w1) := Lib.hid (((Below.refl _ _).alloc (Nat.le_refl _) _).trans (g1.mono (by simp)))
    clear g1
    go_wp2_with fail
    go_ret
    exact ⟨rfl, B1.out.alloc B1.out.size _⟩
  · rw [if_neg h] at HC
    unfold layNone at HC
    clear h
    go_enter Try.func28, Try.ntmps28
    go_wp2_with fail
    refine (HC.out _).mono ?_; rintro e w1 ⟨rfl, g1⟩
    have B1 : Hid (Below w.heap.size w w1) := Lib.hid (((Below.refl _ _).alloc (Nat.le_refl _) _).trans (g1.mono (by simp)))
    clear g1
    go_wp2_with fail
    go_ret
    exact ⟨rfl, B1.out.alloc B1.out.size _⟩
theorem sizeT_ok {d : Dg} (h : chk d = 0) : sizeT d = 12 + (grpSz (grpOf d.kind) : Nat) + (d.body.size : Nat) := by
  obtain ⟨_, _, h3, h4⟩ := chk_zero h
  unfold sizeT
  rw [if_pos h, fullS_size, headS_size, ownS_size h3 h4]
  omega
theorem sizeT_no {d : Dg} (h : chk d ≠ 0) : sizeT d = 0 := if_neg h
theorem body_le {d : Dg} (h : chk d = 0) : d.body.size ≤ 1024 := by
  obtain ⟨_, _, h3, h4⟩ := chk_zero h
  generalize grpOf d.kind = g at *
  cases g with
  | shard => exact (shardE_zero (show shardE d = 0 from h3)).2.2.2
  | _ => rw [sub_body h4 (by simp)]; decide
theorem grpSz_le (g : Grp) : grpSz g ≤ 32 := by cases g <;> decide
end Go.Proofs.Ytmnbkghihdbepaa

/- Proved: what each function of package serial, and its twin of the document, answers for all numbers. Conditions: the bounds that the theorems name. -/
namespace Go.Proofs.Ytmnbkghihdbepaa
open Go.ChangeShapes Go.WideShapes Go.ChangeAt Go.RowKit

/-- how far b is ahead of a. -/
def ah (a b : Int) : Int := if b - a < -2147483648 then b - a + 4294967296 else if b - a ≥ 2147483648 then b - a - 4294967296 else b - a
def U32 (a : Int) : Prop := 0 ≤ a ∧ a ≤ 4294967295
theorem u32_of {a : Int} (h : (Lit.int .u32 a).wf = true) : U32 a := by
  unfold U32
  simpa [Lit.wf, IntKind.min, IntKind.max, IntKind.signed, IntKind.bits] using h
theorem ser_int {k : IntKind} {a b : Int} (h : a = b) : Ending.returned (.int k a) = .returned (.int k b) := by rw [h]
theorem ser_u32 {x : Int} (h : U32 x) : x % 4294967296 = x := by unfold U32 at h; omega
theorem ah_wraps {a b : Int} (ha : U32 a) (hb : U32 b) : wrap64 (wrap32 ((b - a) % 4294967296)) = ah a b := by
  unfold U32 at ha hb
  unfold wrap64 wrap32 ah
  omega
theorem ah_low (a b : Int) (ha : U32 a) (hb : U32 b) : -2147483648 ≤ ah a b ∧ ah a b < 2147483648 := by
  unfold U32 at ha hb; unfold ah; omega

set_option maxHeartbeats 400000 in
theorem nahead_any (a b : Int) (ha : U32 a) (hb : U32 b) (w : World) :
    Calls Try.prog 36 #[.int .u32 a, .int .u32 b] w fun e w' => e = .returned (.int .i64 (ah a b)) ∧ w = w' := by
  have HA := Lib.hid ha
  have HB := Lib.hid hb
  clear ha hb
  go_enter Try.func36, Try.ntmps36
  go_wp2_with fail
  go_ret
  exact ⟨ser_int (ah_wraps HA.out HB.out), rfl⟩
set_option maxHeartbeats 400000 in
theorem rahead_any (a b : Int) (ha : U32 a) (hb : U32 b) (w : World) :
    Calls Try.prog 29 #[.int .u32 a, .int .u32 b] w fun e w' => e = .returned (.int .i64 (ah a b)) ∧ w = w' := by
  unfold U32 at ha hb
  by_cases h1 : b - a < 0
  · by_cases h2 : b - a + 4294967296 ≥ 2147483648
    · have he : ah a b = b - a := by unfold ah; omega
      rw [he]
      go_enter Try.func29, Try.ntmps29
      go_wp2_with fail
      go_ret
      exact ⟨rfl, rfl⟩
    · have he : ah a b = b - a + 4294967296 := by unfold ah; omega
      rw [he]
      go_enter Try.func29, Try.ntmps29
      go_wp2_with fail
      go_ret
      exact ⟨rfl, rfl⟩
  · by_cases h2 : b - a ≥ 2147483648
    · have he : ah a b = b - a - 4294967296 := by unfold ah; omega
      rw [he]
      go_enter Try.func29, Try.ntmps29
      go_wp2_with fail
      go_ret
      exact ⟨rfl, rfl⟩
    · have he : ah a b = b - a := by unfold ah; omega
      rw [he]
      go_enter Try.func29, Try.ntmps29
      go_wp2_with fail
      go_ret
      exact ⟨rfl, rfl⟩
theorem ahead_any (a b : Int) (ha : U32 a) (hb : U32 b) (w : World) :
    Calls Try.prog 32 #[.int .u32 a, .int .u32 b] w fun e w' => e = .returned (.int .i64 (ah a b)) ∧ w = w' := by
  have HH := Lib.hid (fun w => nahead_any a b ha hb w)
  clear ha hb
  go_enter Try.func32, Try.ntmps32
  go_wp2_with fail
  refine (HH.out _).mono ?_; rintro e w1 ⟨rfl, rfl⟩
  go_wp2_with fail
  go_ret
  exact ⟨rfl, rfl⟩
theorem less_any (a b : Int) (ha : U32 a) (hb : U32 b) (w : World) :
    Calls Try.prog 24 #[.int .u32 a, .int .u32 b] w fun e w' => e = .returned (.bool (decide (0 < ah a b))) ∧ w = w' := by
  have HH := Lib.hid (fun w => ahead_any a b ha hb w)
  clear ha hb
  go_enter Try.func24, Try.ntmps24
  go_wp2_with fail
  refine (HH.out _).mono ?_; rintro e w1 ⟨rfl, rfl⟩
  go_wp2_with fail
  go_ret
  exact ⟨rfl, rfl⟩
theorem rless_any (a b : Int) (ha : U32 a) (hb : U32 b) (w : World) :
    Calls Try.prog 21 #[.int .u32 a, .int .u32 b] w fun e w' => e = .returned (.bool (decide (0 < ah a b))) ∧ w = w' := by
  have HH := Lib.hid (fun w => rahead_any a b ha hb w)
  clear ha hb
  go_enter Try.func21, Try.ntmps21
  go_wp2_with fail
  refine (HH.out _).mono ?_; rintro e w1 ⟨rfl, rfl⟩
  go_wp2_with fail
  go_ret
  exact ⟨rfl, rfl⟩
/-- is x one of the n from base on? -/
def inZ (x base n : Int) : Bool := decide (0 ≤ ah base x) && decide (ah base x < n)
/-- the greater one. -/
def maxZ (a b : Int) : Int := if 0 < ah a b then b else a
end Go.Proofs.Ytmnbkghihdbepaa

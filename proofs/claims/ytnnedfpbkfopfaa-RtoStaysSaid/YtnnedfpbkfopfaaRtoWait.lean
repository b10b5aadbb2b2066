/- Proved: what Timeout and Backoff of package rto, and the document's answers for them, answer for all numbers. Conditions: those that the theorems name. -/
import Derived.Test.YtnnedfpbkfopfaaRtoTake
import Derived.Deep.QuietTactic
import Derived.RegionTactic
namespace Go.Proofs.Ytnnedfpbkfopfaa
open Go.ChangeShapes Go.WideShapes Go.ChangeAt Go.RowKit

/-- do the numbers tell how long one waits? -/
def toldB (r : Rt) : Bool := decide (0 < r.n) && (decide (0 ≤ r.m) && decide (0 ≤ r.v))
def waitZ (r : Rt) (l : Int) : Int := if toldB r = true then max (wi l) (wi (min (r.m / 8) 1048576 + min r.v 1048576)) else wi l
theorem told_no {r : Rt} (h : ¬ toldB r = true) : r.n ≤ 0 ∨ (0 < r.n ∧ r.m < 0) ∨ (0 < r.n ∧ 0 ≤ r.m ∧ r.v < 0) := by
  unfold toldB at h
  simp only [Bool.and_eq_true, decide_eq_true_eq] at h
  omega
theorem told_yes {r : Rt} (h : toldB r = true) : 0 < r.n ∧ 0 ≤ r.m ∧ 0 ≤ r.v := by
  unfold toldB at h
  simpa only [Bool.and_eq_true, decide_eq_true_eq] using h
/-- A number comes back; nothing that was there has turned. -/
def GivesN (W : World) (z : Int) (e : Ending) (w' : World) : Prop := e = .returned (.int .i64 z) ∧ Below W.heap.size W w'
theorem box (r : Rt) (w : World) : ∃ W, W = w.alloc (.cells #[.int .i64 r.m, .int .i64 r.v, .int .i64 r.n] 23) ∧ At W w.heap.size 23 r.cells ∧ Below w.heap.size w W :=
  ⟨_, rfl, At.new w 23 r.cells, (Below.refl _ _).alloc (Nat.le_refl _) _⟩

set_option maxRecDepth 100000 in
set_option maxHeartbeats 1600000 in
theorem timeout_any (r : Rt) (l : Int) (w : World) (hm : r.m ≤ 9223372036854775807) (hv : r.v ≤ 9223372036854775807) : Calls Try.prog 8 #[r.val, .int .i64 l] w (GivesN w (waitZ r l)) := by
  obtain ⟨W, HW, A, B⟩ := box r w
  have HB := Lib.hid B
  have c0 := A.cell 0 rfl
  have c1 := A.cell 1 rfl
  have c2 := A.cell 2 rfl
  have H := Lib.hid within_any
  clear A B
  by_cases h : toldB r = true
  · have e : waitZ r l = max (wi l) (wi (min (r.m / 8) 1048576 + min r.v 1048576)) := if_pos h
    rw [e]
    obtain ⟨h0, h1, h2⟩ := told_yes h
    obtain ⟨m, v, n⟩ := r
    dsimp only at *
    unfold Rt.val
    have b0 : 0 ≤ min (m / 8) 1048576 := by omega
    have b1 : min (m / 8) 1048576 ≤ 1048576 := by omega
    have b2 : 0 ≤ min v 1048576 := by omega
    have b3 : min v 1048576 ≤ 1048576 := by omega
    clear h e
    go_enter Try.func8, Try.ntmps8
    go_wp2_with fail
    rw [← HW]; clear HW
    refine (H.out _ _).mono ?_; rintro e w1 ⟨rfl, rfl⟩
    generalize wi l = L at *
    go_wp2_with fail
    refine (H.out _ _).mono ?_; rintro e w1 ⟨rfl, rfl⟩
    go_wp2_with fail
    go_ret
    exact ⟨rfl, HB.out⟩
  · have e : waitZ r l = wi l := if_neg h
    rw [e]
    have hc := told_no h
    obtain ⟨m, v, n⟩ := r
    dsimp only at *
    unfold Rt.val
    clear h e hm hv
    rcases hc with h0 | ⟨h0, h1⟩ | ⟨h0, h1, h2⟩
    all_goals
      go_enter Try.func8, Try.ntmps8
      go_wp2_with fail
      rw [← HW]; clear HW
      refine (H.out _ _).mono ?_; rintro e w1 ⟨rfl, rfl⟩
      generalize wi l = L at *
      go_wp2_with fail
      go_ret
      exact ⟨rfl, HB.out⟩

theorem wait_same {m v l : Int} (h1 : 0 ≤ m) (h2 : 0 ≤ v) : min (max (min (m / 8) 1073741824 + min v 1073741824) (wi l)) 1048576 = max (wi l) (wi (min (m / 8) 1048576 + min v 1048576)) := by
  unfold wi; omega
set_option maxRecDepth 100000 in
set_option maxHeartbeats 1600000 in
theorem rtimeout_any (r : Rt) (l : Int) (w : World) (hm : r.m ≤ 9223372036854775807) (hv : r.v ≤ 9223372036854775807) : Calls Try.prog 9 #[r.val, .int .i64 l] w (GivesN w (waitZ r l)) := by
  obtain ⟨W, HW, A, B⟩ := box r w
  have HB := Lib.hid B
  have c0 := A.cell 0 rfl
  have c1 := A.cell 1 rfl
  have c2 := A.cell 2 rfl
  have H := Lib.hid atLeast_any
  clear A B
  by_cases h : toldB r = true
  · obtain ⟨h0, h1, h2⟩ := told_yes h
    have e : waitZ r l = min (max (min (r.m / 8) 1073741824 + min r.v 1073741824) (wi l)) 1048576 := by rw [wait_same h1 h2]; exact if_pos h
    rw [e]
    have HY : Hid (∀ w, Calls Try.prog 17 #[.int .i64 r.m, .int .i64 8] w fun e w' => e = .returned (.int .i64 (r.m / 8)) ∧ w = w') := Lib.hid (fun w => by_any r.m w h1 hm)
    have hq : 0 ≤ r.m / 8 := by omega
    obtain ⟨m, v, n⟩ := r
    dsimp only at *
    unfold Rt.val
    generalize m / 8 = q at *
    have b0 : 0 ≤ min q 1073741824 := by omega
    have b1 : min q 1073741824 ≤ 1073741824 := by omega
    have b2 : 0 ≤ min v 1073741824 := by omega
    have b3 : min v 1073741824 ≤ 1073741824 := by omega
    clear h e
    subst HW
    go_enter Try.func9, Try.ntmps9
    go_wp2_with fail
    generalize w.alloc (.cells #[.int .i64 m, .int .i64 v, .int .i64 n] 23) = W at *
    go_quiet ((go_at_call 17; exact Calls.quiet_of_same ((HY.out _).mono fun _ _ h => ⟨h.1, h.2.symm⟩)))
    go_wp2_with fail
    refine (H.out _ _).mono ?_; rintro e w1 ⟨rfl, rfl⟩
    generalize wi l = L at *
    go_wp2_with fail
    go_ret
    exact ⟨rfl, HB.out.grown (grown_drewN _ _ none) HB.out.size (by simp)⟩
  · have e : waitZ r l = wi l := if_neg h
    rw [e]
    have hc := told_no h
    obtain ⟨m, v, n⟩ := r
    dsimp only at *
    unfold Rt.val
    clear h e hm hv
    rcases hc with h0 | ⟨h0, h1⟩ | ⟨h0, h1, h2⟩
    all_goals
      go_enter Try.func9, Try.ntmps9
      go_wp2_with fail
      rw [← HW]; clear HW
      refine (H.out _ _).mono ?_; rintro e w1 ⟨rfl, rfl⟩
      generalize wi l = L at *
      go_wp2_with fail
      go_ret
      exact ⟨rfl, HB.out⟩
end Go.Proofs.Ytnnedfpbkfopfaa

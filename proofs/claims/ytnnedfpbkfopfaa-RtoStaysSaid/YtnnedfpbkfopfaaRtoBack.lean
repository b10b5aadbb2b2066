/- Proved: what Backoff of package rto, and the document's answer for it, answer for all numbers. No condition. -/
import Derived.Test.YtnnedfpbkfopfaaRtoTake
namespace Go.Proofs.Ytnnedfpbkfopfaa
open Go.ChangeShapes Go.WideShapes Go.ChangeAt Go.RowKit

/-- doubled so many times, 2^20 at most. -/
def bo (x : Int) : Nat → Int
  | 0 => x
  | k + 1 => bo (min (2 * x) 1048576) k
theorem bo_top (k : Nat) : bo 1048576 k = 1048576 := by
  induction k with
  | zero => rfl
  | succ k ih => show bo (min (2 * 1048576) 1048576) k = _; exact ih
theorem bo_bounds (x : Int) (k : Nat) (h0 : 1 ≤ x) (h1 : x ≤ 1048576) : x ≤ bo x k ∧ bo x k ≤ 1048576 := by
  induction k generalizing x with
  | zero => exact ⟨Int.le_refl _, h1⟩
  | succ k ih =>
    have := ih (min (2 * x) 1048576) (by omega) (by omega)
    show x ≤ bo (min (2 * x) 1048576) k ∧ bo (min (2 * x) 1048576) k ≤ _
    omega
theorem wi_two {x : Int} (h : 1 ≤ x) : wi (2 * x) = min (2 * x) 1048576 := by unfold wi; omega
theorem wi_bounds (l : Int) : 1 ≤ wi l ∧ wi l ≤ 1048576 := by unfold wi; omega
def boZ (l t : Int) : Int := bo (wi l) t.toNat
/-- so many times more make R. -/
def Goes (R x : Int) (k : Nat) : Prop := 1 ≤ x ∧ x ≤ 1048576 ∧ bo x k = R
theorem Goes.next {R x : Int} {k : Nat} (h : Goes R x (k + 1)) : Goes R (wi (2 * x)) k := by
  obtain ⟨a, b, c⟩ := h
  refine ⟨(wi_bounds _).1, (wi_bounds _).2, ?_⟩
  rw [wi_two a]; exact c
theorem Goes.next' {R x : Int} {k : Nat} (h : Goes R x (k + 1)) : Goes R (min (2 * x) 1048576) k := by
  have := h.next
  rwa [wi_two h.1] at this
theorem Goes.done {R x : Int} (h : Goes R x 0) : x = R := h.2.2
theorem Goes.top {R x : Int} {k : Nat} (h : Goes R x k) (g : ¬ x < 1048576) : x = R := by
  obtain ⟨a, b, c⟩ := h
  obtain rfl : x = 1048576 := by omega
  rw [← c, bo_top]

set_option maxRecDepth 100000 in
set_option maxHeartbeats 1600000 in
theorem backoff_any (l t : Int) (w : World) (ht : t ≤ 9223372036854775807) : Calls Try.prog 11 #[.int .i64 l, .int .i64 t] w fun e w' => e = .returned (.int .i64 (boZ l t)) ∧ w = w' := by
  have H := Lib.hid within_any
  have HG : Hid (Goes (boZ l t) (wi l) t.toNat) := Lib.hid ⟨(wi_bounds l).1, (wi_bounds l).2, rfl⟩
  generalize boZ l t = R at *
  by_cases h : 0 < t
  · obtain ⟨k, rfl⟩ := Int.eq_ofNat_of_zero_le (Int.le_of_lt h)
    rw [show ((k : Int)).toNat = k from Int.toNat_natCast k] at HG
    clear h
    go_enter Try.func11, Try.ntmps11
    go_wp2_with fail
    refine (H.out _ _).mono ?_; rintro e w1 ⟨rfl, rfl⟩
    generalize wi l = L at *
    go_wp2_with fail
    go_loopw [1, 5] (fun i x wr => ∃ (j : Nat) (y : Int), j ≤ k ∧ i = .int .i64 j ∧ x = .int .i64 y ∧ Goes R y j ∧ wr = w) (fun i _ _ => (intOf i).toNat)
    case atStart => exact ⟨k, L, Nat.le_refl _, rfl, rfl, HG.out, rfl⟩
    case round =>
      obtain ⟨j, y, hjk, rfl, rfl, hg, rfl⟩ := hrel
      have HGG := Lib.hid hg
      have hy1 : 1 ≤ y := hg.1
      have hy2 : y ≤ 1048576 := hg.2.1
      clear HG hg
      cases j with
      | zero =>
        have h0 : ¬ (0 : Int) < ((0 : Nat) : Int) := by omega
        have e := HGG.out.done
        subst e
        go_wp2_with fail
        go_ret
        exact ⟨rfl, rfl⟩
      | succ j =>
        have hj : (0 : Int) < ((j + 1 : Nat) : Int) := by omega
        have hj1 : ((j + 1 : Nat) : Int) - 1 = (j : Int) := by omega
        have hj2 : (j : Int) ≤ 9223372036854775807 := by omega
        have hj3 : (0 : Int) ≤ (j : Int) := by omega
        have HN := Lib.hid HGG.out.next
        by_cases hlt : y < 1048576
        · go_wp2_with fail
          refine (H.out _ _).mono ?_; rintro e w1 ⟨rfl, rfl⟩
          generalize wi (2 * y) = Y at *
          go_wp2_with fail
          go_roundw
          case rel => exact ⟨j, Y, by omega, by go_num, rfl, HN.out, trivial⟩
          case measure => simp [intOf]
        · have e := HGG.out.top hlt
          subst e
          go_wp2_with fail
          go_ret
          exact ⟨rfl, rfl⟩
  · have e : t.toNat = 0 := by omega
    rw [e] at HG
    have e2 := HG.out.done
    subst e2
    clear HG e H
    have H := Lib.hid (fun w => within_any l w)
    generalize wi l = L at *
    go_enter Try.func11, Try.ntmps11
    go_wp2_with fail
    refine (H.out _).mono ?_; rintro e w1 ⟨rfl, rfl⟩
    go_wp2_with fail
    go_loopw [1, 5] (fun i x wr => i = .int .i64 t ∧ x = .int .i64 L ∧ wr = w) (fun i _ _ => 0)
    case atStart => exact ⟨rfl, rfl, rfl⟩
    case round =>
      obtain ⟨rfl, rfl, rfl⟩ := hrel
      go_wp2_with fail
      go_ret
      exact ⟨rfl, rfl⟩

set_option maxRecDepth 100000 in
set_option maxHeartbeats 1600000 in
theorem rbackoff_any (l t : Int) (w : World) (ht : t ≤ 9223372036854775807) : Calls Try.prog 12 #[.int .i64 l, .int .i64 t] w fun e w' => e = .returned (.int .i64 (boZ l t)) ∧ w = w' := by
  have H := Lib.hid atLeast_any
  have HG : Hid (Goes (boZ l t) (wi l) t.toNat) := Lib.hid ⟨(wi_bounds l).1, (wi_bounds l).2, rfl⟩
  generalize boZ l t = R at *
  by_cases h : 0 < t
  · obtain ⟨k, rfl⟩ := Int.eq_ofNat_of_zero_le (Int.le_of_lt h)
    rw [show ((k : Int)).toNat = k from Int.toNat_natCast k] at HG
    clear h
    have HT := Lib.hid ht
    clear ht
    go_enter Try.func12, Try.ntmps12
    go_wp2_with fail
    refine (H.out _ _).mono ?_; rintro e w1 ⟨rfl, rfl⟩
    generalize wi l = L at *
    go_wp2_with fail
    go_loopw [5, 6] (fun x i wr => ∃ (j : Nat) (y : Int), j ≤ k ∧ i = .int .i64 j ∧ x = .int .i64 y ∧ Goes R y (k - j) ∧ wr = w) (fun _ i _ => k - (intOf i).toNat)
    case atStart => exact ⟨0, L, by omega, rfl, rfl, HG.out, rfl⟩
    case round =>
      obtain ⟨j, y, hj, rfl, rfl, hg, rfl⟩ := hrel
      have HGG := Lib.hid hg
      have hy1 : 1 ≤ y := hg.1
      have hy2 : y ≤ 1048576 := hg.2.1
      clear HG hg
      rcases Nat.lt_or_ge j k with hl | hl
      · have hlt' : (j : Int) < (k : Int) := by omega
        have HN : Hid (Goes R (min (2 * y) 1048576) (k - (j + 1))) := Lib.hid (by
          have h := HGG.out
          rw [show k - j = (k - (j + 1)) + 1 by omega] at h
          exact h.next')
        have hj0 : (0 : Int) ≤ (j : Int) := Int.natCast_nonneg _
        have hj2 : (j : Int) < 9223372036854775807 := by have := HT.out; omega
        have HJ := Lib.hid hl
        clear hl hj
        by_cases hlt : y < 1048576
        · go_wp2_with fail
          go_roundw
          case rel => exact ⟨j + 1, min (2 * y) 1048576, HJ.out, by go_num, rfl, HN.out, trivial⟩
          case measure => have := HJ.out; simp [intOf]; omega
        · have e := HGG.out.top hlt
          subst e
          go_wp2_with fail
          go_ret
          exact ⟨rfl, rfl⟩
      · obtain rfl : j = k := by omega
        have e : j - j = 0 := by omega
        rw [e] at HGG
        have e := HGG.out.done
        subst e
        go_wp2_with fail
        go_ret
        exact ⟨rfl, rfl⟩
  · have e : t.toNat = 0 := by omega
    rw [e] at HG
    have e2 := HG.out.done
    subst e2
    clear HG e H
    have H := Lib.hid (fun w => atLeast_any l w)
    generalize wi l = L at *
    go_enter Try.func12, Try.ntmps12
    go_wp2_with fail
    refine (H.out _).mono ?_; rintro e w1 ⟨rfl, rfl⟩
    go_wp2_with fail
    go_loopw [5, 6] (fun x i wr => x = .int .i64 L ∧ i = .int .i64 0 ∧ wr = w) (fun i _ _ => 0)
    case atStart => exact ⟨rfl, rfl, rfl⟩
    case round =>
      obtain ⟨rfl, rfl, rfl⟩ := hrel
      go_wp2_with fail
      go_ret
      exact ⟨rfl, rfl⟩
end Go.Proofs.Ytnnedfpbkfopfaa

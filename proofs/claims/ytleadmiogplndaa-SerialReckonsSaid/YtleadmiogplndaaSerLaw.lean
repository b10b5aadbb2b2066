/- Proved: the walks of the laws of package serial. Conditions: those that the theorems name. -/
import Derived.Test.YtleadmiogplndaaSerMath
namespace Go.Proofs.Ytleadmiogplndaa
open Go.ChangeShapes Go.WideShapes Go.ChangeAt Go.RowKit

theorem ahead_as (a b d : Int) (w : World) (ha : U32 a) (hb : U32 b) (hd : ah a b = d) :
    Calls Try.prog 5 #[.int .u32 a, .int .u32 b] w fun e w' => e = .returned (.int .i64 d) ∧ w = w' := hd ▸ ahead_any a b ha hb w
theorem less_as (a b : Int) (t : Bool) (w : World) (ha : U32 a) (hb : U32 b) (hd : decide (0 < ah a b) = t) :
    Calls Try.prog 7 #[.int .u32 a, .int .u32 b] w fun e w' => e = .returned (.bool t) ∧ w = w' := hd ▸ less_any a b ha hb w
theorem within_as (x base n : Int) (t : Bool) (w : World) (ha : U32 x) (hb : U32 base) (hd : inZ x base n = t) :
    Calls Try.prog 9 #[.int .u32 x, .int .u32 base, .int .i64 n] w fun e w' => e = .returned (.bool t) ∧ w = w' := hd ▸ within_any x base n ha hb w
theorem max_as (a b d : Int) (w : World) (ha : U32 a) (hb : U32 b) (hd : maxZ a b = d) :
    Calls Try.prog 11 #[.int .u32 a, .int .u32 b] w fun e w' => e = .returned (.int .u32 d) ∧ w = w' := hd ▸ smax_any a b ha hb w

set_option maxRecDepth 100000 in
set_option maxHeartbeats 800000 in
theorem sawake8_any (w : World) :
    Calls Try.prog 13 #[] w fun e w' => e = .returned (.bool true) ∧ w = w' := by
  go_enter Try.func13, Try.ntmps13
  go_wp2_with fail
  refine (ahead_as 4294967295 1 2 _ (by unfold U32; omega) (by unfold U32; omega) (by decide)).mono ?_; rintro e w1 ⟨rfl, rfl⟩
  go_wp2_with fail
  refine (ahead_as 1 4294967295 (-2) _ (by unfold U32; omega) (by unfold U32; omega) (by decide)).mono ?_; rintro e w1 ⟨rfl, rfl⟩
  go_wp2_with fail
  refine (less_as 4294967295 0 true _ (by unfold U32; omega) (by unfold U32; omega) (by decide)).mono ?_; rintro e w1 ⟨rfl, rfl⟩
  go_wp2_with fail
  refine (less_as 0 0 false _ (by unfold U32; omega) (by unfold U32; omega) (by decide)).mono ?_; rintro e w1 ⟨rfl, rfl⟩
  go_wp2_with fail
  refine (within_as 1 4294967295 3 true _ (by unfold U32; omega) (by unfold U32; omega) (by decide)).mono ?_; rintro e w1 ⟨rfl, rfl⟩
  go_wp2_with fail
  refine (within_as 2 4294967295 3 false _ (by unfold U32; omega) (by unfold U32; omega) (by decide)).mono ?_; rintro e w1 ⟨rfl, rfl⟩
  go_wp2_with fail
  refine (max_as 5 3 5 _ (by unfold U32; omega) (by unfold U32; omega) (by decide)).mono ?_; rintro e w1 ⟨rfl, rfl⟩
  go_wp2_with fail
  refine (ahead_as 0 2147483648 (-2147483648) _ (by unfold U32; omega) (by unfold U32; omega) (by decide)).mono ?_; rintro e w1 ⟨rfl, rfl⟩
  go_wp2_with fail
  go_ret
  exact ⟨rfl, rfl⟩

set_option maxHeartbeats 800000 in
theorem sreckons_walk (a b n : Int) (w : World) (wa : (Lit.int .u32 a).wf = true) (wb : (Lit.int .u32 b).wf = true) :
    Calls Try.prog 3 #[.int .u32 a, .int .u32 b, .int .i64 n] w fun e w' => e = .returned (.bool true) ∧ Below w.heap.size w w' := by
  have ha := u32_of wa
  have hb := u32_of wb
  have H1 := Lib.hid (fun w => ahead_any a b ha hb w)
  have H2 := Lib.hid (fun w => rahead_any a b ha hb w)
  have H3 := Lib.hid (fun w => less_any a b ha hb w)
  have H4 := Lib.hid (fun w => rless_any a b ha hb w)
  have H5 := Lib.hid (fun w => within_any a b n ha hb w)
  have H6 := Lib.hid (fun w => rwithin_any a b n ha hb w)
  have H7 := Lib.hid (fun w => smax_any a b ha hb w)
  have H8 := Lib.hid (fun w => rmax_any a b ha hb w)
  clear wa wb ha hb
  generalize decide (0 < ah a b) = l at *
  generalize ah a b = d at *
  generalize inZ a b n = i at *
  generalize maxZ a b = m at *
  go_enter Try.func3, Try.ntmps3
  go_wp2_with fail
  refine (H1.out _).mono ?_; rintro e w1 ⟨rfl, rfl⟩
  go_wp2_with fail
  refine (H2.out _).mono ?_; rintro e w1 ⟨rfl, rfl⟩
  go_wp2_with fail
  refine (H3.out _).mono ?_; rintro e w1 ⟨rfl, rfl⟩
  go_wp2_with fail
  refine (H4.out _).mono ?_; rintro e w1 ⟨rfl, rfl⟩
  go_wp2_with fail
  refine (H5.out _).mono ?_; rintro e w1 ⟨rfl, rfl⟩
  go_wp2_with fail
  refine (H6.out _).mono ?_; rintro e w1 ⟨rfl, rfl⟩
  go_wp2_with fail
  refine (H7.out _).mono ?_; rintro e w1 ⟨rfl, rfl⟩
  go_wp2_with fail
  refine (H8.out _).mono ?_; rintro e w1 ⟨rfl, rfl⟩
  go_wp2_with fail
  refine (sawake8_any _).mono ?_; rintro e w1 ⟨rfl, rfl⟩
  go_wp2_with fail
  go_ret
  exact ⟨rfl, Below.refl _ _⟩

theorem ah_back {a b : Int} (ha : U32 a) (hb : U32 b) : (a + ah a b % 4294967296) % 4294967296 = b := by
  unfold U32 at ha hb; unfold ah; omega
theorem ah_moves {a b y : Int} (ha : U32 a) (hb : U32 b) (_hy : U32 y) : ah ((a + y) % 4294967296) ((b + y) % 4294967296) = ah a b := by
  unfold U32 at ha hb; unfold ah; omega
theorem ah_turn {a b : Int} (_ha : U32 a) (_hb : U32 b) (h : ah a b ≠ -2147483648) : ah b a = 0 - ah a b := by
  unfold ah at *; omega
theorem ah_both {a b : Int} (ha : U32 a) (hb : U32 b) (h : 0 < ah a b) : ¬ 0 < ah b a := by
  unfold U32 at ha hb; unfold ah at *; omega
theorem u32_add (a y : Int) : U32 ((a + y) % 4294967296) := by unfold U32; omega

set_option maxRecDepth 100000 in
set_option maxHeartbeats 1600000 in
theorem smoves_walk (a b y : Int) (w : World) (wa : (Lit.int .u32 a).wf = true) (wb : (Lit.int .u32 b).wf = true) (wy : (Lit.int .u32 y).wf = true) :
    Calls Try.prog 4 #[.int .u32 a, .int .u32 b, .int .u32 y] w fun e w' => e = .returned (.bool true) ∧ Below w.heap.size w w' := by
  have ha := u32_of wa
  have hb := u32_of wb
  have hy := u32_of wy
  have H1 := Lib.hid (fun w => ahead_any a b ha hb w)
  have H2 := fun w => ahead_any _ _ (u32_add a y) (u32_add b y) w
  rw [ah_moves ha hb hy] at H2
  have H2' := Lib.hid H2
  clear H2
  have hbk := ah_back ha hb
  have H4 := Lib.hid (fun w => less_any a b ha hb w)
  have H5 := Lib.hid (fun w => less_any b a hb ha w)
  obtain ⟨hd0, hd1⟩ := ah_low a b ha hb
  have HB := Lib.hid (fun h => ah_both (a := a) (b := b) ha hb h)
  have H3 := Lib.hid (fun h w => ah_turn (a := a) (b := b) ha hb h ▸ ahead_any b a hb ha w)
  clear wa wb wy ha hb hy
  generalize ah a b = d at *
  generalize ah b a = d' at *
  by_cases hm : d = -2147483648
  · subst hm
    have hf : decide ((0 : Int) < -2147483648) = false := by decide
    rw [hf] at H4
    go_enter Try.func4, Try.ntmps4
    go_wp2_with fail
    refine (H1.out _).mono ?_; rintro e w1 ⟨rfl, rfl⟩
    go_wp2_with fail
    refine (H2'.out _).mono ?_; rintro e w1 ⟨rfl, rfl⟩
    go_wp2_with fail
    refine (H4.out _).mono ?_; rintro e w1 ⟨rfl, rfl⟩
    go_wp2_with fail
    refine (sawake8_any _).mono ?_; rintro e w1 ⟨rfl, rfl⟩
    go_wp2_with fail
    go_ret
    exact ⟨rfl, Below.refl _ _⟩
  · have HD := Lib.hid (H3.out hm)
    by_cases hl : 0 < d
    · rw [decide_eq_true hl] at H4
      rw [decide_eq_false (HB.out hl)] at H5
      go_enter Try.func4, Try.ntmps4
      go_wp2_with fail
      refine (H1.out _).mono ?_; rintro e w1 ⟨rfl, rfl⟩
      go_wp2_with fail
      refine (H2'.out _).mono ?_; rintro e w1 ⟨rfl, rfl⟩
      go_wp2_with fail
      refine (HD.out _).mono ?_; rintro e w1 ⟨rfl, rfl⟩
      go_wp2_with fail
      refine (H4.out _).mono ?_; rintro e w1 ⟨rfl, rfl⟩
      go_wp2_with fail
      refine (H5.out _).mono ?_; rintro e w1 ⟨rfl, rfl⟩
      go_wp2_with fail
      refine (sawake8_any _).mono ?_; rintro e w1 ⟨rfl, rfl⟩
      go_wp2_with fail
      go_ret
      exact ⟨rfl, Below.refl _ _⟩
    · rw [decide_eq_false hl] at H4
      go_enter Try.func4, Try.ntmps4
      go_wp2_with fail
      refine (H1.out _).mono ?_; rintro e w1 ⟨rfl, rfl⟩
      go_wp2_with fail
      refine (H2'.out _).mono ?_; rintro e w1 ⟨rfl, rfl⟩
      go_wp2_with fail
      refine (HD.out _).mono ?_; rintro e w1 ⟨rfl, rfl⟩
      go_wp2_with fail
      refine (H4.out _).mono ?_; rintro e w1 ⟨rfl, rfl⟩
      go_wp2_with fail
      refine (sawake8_any _).mono ?_; rintro e w1 ⟨rfl, rfl⟩
      go_wp2_with fail
      go_ret
      exact ⟨rfl, Below.refl _ _⟩
end Go.Proofs.Ytleadmiogplndaa

/- Proved: what Row of package cauchy answers for every three ints. Conditions: none. -/
import Derived.Test.YtfndnlfinoeamaaCauRow2
namespace Go.Proofs.Ytfndnlfinoeamaa
open Go.ChangeShapes Go.WideShapes Go.ChangeAt Go.RowKit

/-- A row with l comes back, and the error k; nothing that was there has turned. -/
def GivesE (W : World) (l : List Nat) (k : Nat) (e : Ending) (w' : World) : Prop :=
  ∃ A n c, e = .returned (.tuple #[.slice A n c, .int .i64 (k : Nat)]) ∧ n ≤ c ∧ Bs w' A n l ∧ Below W.heap.size W w'

set_option maxHeartbeats 400000 in
theorem row_bad (k n i : Int) (h : NoTab k n) (w : World) :
    Calls Try.prog 7 #[.int .i64 k, .int .i64 n, .int .i64 i] w (GivesE w [] 1) := by
  have H := Lib.hid h
  clear h
  go_enter Try.func7, Try.ntmps7
  go_wp2_with fail
  refine (cfits_no k n H.out _).mono ?_; rintro e w' ⟨rfl, rfl⟩
  go_wp2_with fail
  go_ret2
  exact ⟨_, _, _, rfl, Nat.le_refl _, Bs.nil _ _, Below.refl _ _⟩
set_option maxHeartbeats 400000 in
theorem row_out (k n i : Int) (h : ¬ NoTab k n) (g : ¬ (0 ≤ i ∧ i < n)) (w : World) :
    Calls Try.prog 7 #[.int .i64 k, .int .i64 n, .int .i64 i] w (GivesE w [] 2) := by
  have H := Lib.hid h
  clear h
  by_cases h1 : i < 0
  · clear g
    go_enter Try.func7, Try.ntmps7
    go_wp2_with fail
    refine (cfits_yes k n H.out _).mono ?_; rintro e w' ⟨rfl, rfl⟩
    go_wp2_with fail
    go_ret2
    exact ⟨_, _, _, rfl, Nat.le_refl _, Bs.nil _ _, Below.refl _ _⟩
  · have h2 : i ≥ n := by omega
    clear g
    go_enter Try.func7, Try.ntmps7
    go_wp2_with fail
    refine (cfits_yes k n H.out _).mono ?_; rintro e w' ⟨rfl, rfl⟩
    go_wp2_with fail
    go_ret2
    exact ⟨_, _, _, rfl, Nat.le_refl _, Bs.nil _ _, Below.refl _ _⟩
set_option maxHeartbeats 800000 in
theorem row_in (k n i : Nat) (h : ¬ NoTab k n) (g : i < n) (w : World) :
    Calls Try.prog 7 #[.int .i64 (k : Nat), .int .i64 (n : Nat), .int .i64 (i : Nat)] w (GivesE w (rowC k i) 0) := by
  have H := Lib.hid h
  have hk : 1 ≤ k ∧ k ≤ n ∧ n ≤ 255 := by unfold NoTab at h; omega
  obtain ⟨hk1, hk2, hk3⟩ := hk
  clear h
  have h1 : ¬ (i : Int) < 0 := by omega
  have h2 : ¬ (i : Int) ≥ (n : Int) := by omega
  by_cases hik : i < k
  · have h3 : (i : Int) < (k : Int) := by omega
    go_enter Try.func7, Try.ntmps7
    go_wp2_with fail
    refine (cfits_yes k n H.out _).mono ?_; rintro e w' ⟨rfl, rfl⟩
    go_wp2_with (go_at_call 18; refine (unit_any k i hik (by omega) _).mono ?_; rintro e w' ⟨A, c, rfl, hc, hb, hw⟩; have HB := Lib.hid hb; have HW := Lib.hid hw; clear hb hw)
    go_ret2
    exact ⟨_, _, _, rfl, hc, HB.out, HW.out⟩
  · have h3 : ¬ (i : Int) < (k : Int) := by omega
    go_enter Try.func7, Try.ntmps7
    go_wp2_with fail
    refine (cfits_yes k n H.out _).mono ?_; rintro e w' ⟨rfl, rfl⟩
    go_wp2_with (go_at_call 19; refine (inverses_any k i hk1 (by omega) (by omega) _).mono ?_; rintro e w' ⟨A, c, rfl, hc, hb, hw⟩; have HB := Lib.hid hb; have HW := Lib.hid hw; clear hb hw)
    go_ret2
    exact ⟨_, _, _, rfl, hc, HB.out, HW.out⟩
theorem row_any (k n i : Int) (w : World) :
    Calls Try.prog 7 #[.int .i64 k, .int .i64 n, .int .i64 i] w (GivesE w (cRow k n i) (cErr k n i)) := by
  by_cases h : NoTab k n
  · have e := cErr_bad h i
    rw [cRow_none (by omega), e]
    exact row_bad k n i h w
  · by_cases g : 0 ≤ i ∧ i < n
    · have e := cErr_in h g
      rw [cRow_some e, e]
      have hk : 1 ≤ k ∧ k ≤ n ∧ n ≤ 255 := by unfold NoTab at h; omega
      obtain ⟨k', rfl⟩ := Int.eq_ofNat_of_zero_le (show 0 ≤ k by omega)
      obtain ⟨n', rfl⟩ := Int.eq_ofNat_of_zero_le (show 0 ≤ n by omega)
      obtain ⟨i', rfl⟩ := Int.eq_ofNat_of_zero_le g.1
      exact row_in k' n' i' h (by omega) w
    · have e := cErr_out h g
      rw [cRow_none (by omega), e]
      exact row_out k n i h g w
end Go.Proofs.Ytfndnlfinoeamaa

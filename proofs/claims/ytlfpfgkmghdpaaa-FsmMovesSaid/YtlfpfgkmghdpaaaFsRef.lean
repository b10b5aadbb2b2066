/- Proved: what the document's Next and May answer of whatever ints. Conditions: those that the theorems name. -/
import Derived.Test.YtlfpfgkmghdpaaaFsNext
namespace Go.Proofs.Ytlfpfgkmghdpaaa
open Go.ChangeShapes Go.WideShapes Go.ChangeAt Go.RowKit

theorem rends1 (s : Int) (h : 0 ≤ s ∧ s ≤ 5) (w : World) : Calls Try.prog 13 #[.int .i64 s, .int .i64 2, .int .i64 3, .int .i64 11] w (St2 (nxtS s 1) (nxtE s 1) w) := by
  rcases six h with rfl | rfl | rfl | rfl | rfl | rfl <;>
    (go_enter Try.func13, Try.ntmps13; go_wp2_with fail; go_ret2; exact ⟨rfl, rfl⟩)
theorem rends2 (s : Int) (h : 0 ≤ s ∧ s ≤ 5) (w : World) : Calls Try.prog 13 #[.int .i64 s, .int .i64 3, .int .i64 2, .int .i64 8] w (St2 (nxtS s 2) (nxtE s 2) w) := by
  rcases six h with rfl | rfl | rfl | rfl | rfl | rfl <;>
    (go_enter Try.func13, Try.ntmps13; go_wp2_with fail; go_ret2; exact ⟨rfl, rfl⟩)
theorem rnext_in (s e : Int) (h : 0 ≤ s ∧ s ≤ 5) (he : 0 ≤ e ∧ e ≤ 5) (w : World) : Calls Try.prog 6 #[.int .i64 s, .int .i64 e] w (St2 (nxtS s e) (nxtE s e) w) := by
  rcases six he with rfl | rfl | rfl | rfl | rfl | rfl
  · rcases six h with rfl | rfl | rfl | rfl | rfl | rfl <;>
    (go_enter Try.func6, Try.ntmps6; go_wp2_with fail; go_ret2; exact ⟨rfl, rfl⟩)
  · rcases six h with rfl | rfl | rfl | rfl | rfl | rfl <;>
    (go_enter Try.func6, Try.ntmps6; go_wp2_with fail; refine (rends1 _ (by decide) _).mono ?_; rintro e w2 ⟨rfl, rfl⟩; go_wp2_with fail; go_ret2; exact ⟨rfl, rfl⟩)
  · rcases six h with rfl | rfl | rfl | rfl | rfl | rfl <;>
    (go_enter Try.func6, Try.ntmps6; go_wp2_with fail; refine (rends2 _ (by decide) _).mono ?_; rintro e w2 ⟨rfl, rfl⟩; go_wp2_with fail; go_ret2; exact ⟨rfl, rfl⟩)
  · rcases six h with rfl | rfl | rfl | rfl | rfl | rfl <;>
    (go_enter Try.func6, Try.ntmps6; go_wp2_with fail; go_ret2; exact ⟨rfl, rfl⟩)
  · rcases six h with rfl | rfl | rfl | rfl | rfl | rfl <;>
    (go_enter Try.func6, Try.ntmps6; go_wp2_with fail; go_ret2; exact ⟨rfl, rfl⟩)
  · rcases six h with rfl | rfl | rfl | rfl | rfl | rfl <;>
    (go_enter Try.func6, Try.ntmps6; go_wp2_with fail; go_ret2; exact ⟨rfl, rfl⟩)
theorem rnext_out (s e : Int) (h : ¬((0 ≤ s ∧ s ≤ 5) ∧ (0 ≤ e ∧ e ≤ 5))) (w : World) : Calls Try.prog 6 #[.int .i64 s, .int .i64 e] w (St2 0 1 w) := by
  by_cases h0 : s < 0
  · have d0 : decide (s < 0) = true := decide_eq_true h0
    go_enter Try.func6, Try.ntmps6; go_wp2_with fail; go_ret2; exact ⟨rfl, rfl⟩
  · have d0 : decide (s < 0) = false := decide_eq_false h0
    by_cases h1 : 5 < s
    · have d1 : decide (5 < s) = true := decide_eq_true h1
      go_enter Try.func6, Try.ntmps6; go_wp2_with fail; go_ret2; exact ⟨rfl, rfl⟩
    · have d1 : decide (5 < s) = false := decide_eq_false h1
      by_cases h2 : e < 0
      · have d2 : decide (e < 0) = true := decide_eq_true h2
        go_enter Try.func6, Try.ntmps6; go_wp2_with fail; go_ret2; exact ⟨rfl, rfl⟩
      · have d2 : decide (e < 0) = false := decide_eq_false h2
        have d3 : decide (5 < e) = true := decide_eq_true (by omega)
        go_enter Try.func6, Try.ntmps6; go_wp2_with fail; go_ret2; exact ⟨rfl, rfl⟩
theorem rnext_any (s e : Int) (w : World) : Calls Try.prog 6 #[.int .i64 s, .int .i64 e] w (St2 (nxtS s e) (nxtE s e) w) := by
  by_cases h : (0 ≤ s ∧ s ≤ 5) ∧ (0 ≤ e ∧ e ≤ 5)
  · exact rnext_in s e h.1 h.2 w
  · obtain ⟨e1, e2⟩ := nxt_out h
    rw [e1, e2]
    exact rnext_out s e h w
theorem rmay_in (s e : Int) (h : 0 ≤ s ∧ s ≤ 5) (he : 1 ≤ e ∧ e ≤ 5) (w : World) : Calls Try.prog 8 #[.int .i64 s, .int .i64 e] w (St1 (mayE s e) w) := by
  rcases (show e = 1 ∨ e = 2 ∨ e = 3 ∨ e = 4 ∨ e = 5 by omega) with rfl | rfl | rfl | rfl | rfl
  · rcases six h with rfl | rfl | rfl | rfl | rfl | rfl <;>
    (go_enter Try.func8, Try.ntmps8; go_wp2_with fail; go_ret; exact ⟨rfl, rfl⟩)
  · rcases six h with rfl | rfl | rfl | rfl | rfl | rfl <;>
    (go_enter Try.func8, Try.ntmps8; go_wp2_with fail; go_ret; exact ⟨rfl, rfl⟩)
  · rcases six h with rfl | rfl | rfl | rfl | rfl | rfl <;>
    (go_enter Try.func8, Try.ntmps8; go_wp2_with fail; go_ret; exact ⟨rfl, rfl⟩)
  · rcases six h with rfl | rfl | rfl | rfl | rfl | rfl <;>
    (go_enter Try.func8, Try.ntmps8; go_wp2_with fail; go_ret; exact ⟨rfl, rfl⟩)
  · rcases six h with rfl | rfl | rfl | rfl | rfl | rfl <;>
    (go_enter Try.func8, Try.ntmps8; go_wp2_with fail; go_ret; exact ⟨rfl, rfl⟩)
theorem rmay_out (s e : Int) (h : ¬((0 ≤ s ∧ s ≤ 5) ∧ (1 ≤ e ∧ e ≤ 5))) (w : World) : Calls Try.prog 8 #[.int .i64 s, .int .i64 e] w (St1 1 w) := by
  by_cases h0 : s < 0
  · have d0 : decide (s < 0) = true := decide_eq_true h0
    go_enter Try.func8, Try.ntmps8; go_wp2_with fail; go_ret; exact ⟨rfl, rfl⟩
  · have d0 : decide (s < 0) = false := decide_eq_false h0
    by_cases h1 : 5 < s
    · have d1 : decide (5 < s) = true := decide_eq_true h1
      go_enter Try.func8, Try.ntmps8; go_wp2_with fail; go_ret; exact ⟨rfl, rfl⟩
    · have d1 : decide (5 < s) = false := decide_eq_false h1
      by_cases h2 : e < 1
      · have d2 : decide (e < 1) = true := decide_eq_true h2
        go_enter Try.func8, Try.ntmps8; go_wp2_with fail; go_ret; exact ⟨rfl, rfl⟩
      · have d2 : decide (e < 1) = false := decide_eq_false h2
        have d3 : decide (5 < e) = true := decide_eq_true (by omega)
        go_enter Try.func8, Try.ntmps8; go_wp2_with fail; go_ret; exact ⟨rfl, rfl⟩
theorem rmay_any (s e : Int) (w : World) : Calls Try.prog 8 #[.int .i64 s, .int .i64 e] w (St1 (mayE s e) w) := by
  by_cases h : (0 ≤ s ∧ s ≤ 5) ∧ (1 ≤ e ∧ e ≤ 5)
  · exact rmay_in s e h.1 h.2 w
  · rw [may_out h]
    exact rmay_out s e h w
end Go.Proofs.Ytlfpfgkmghdpaaa

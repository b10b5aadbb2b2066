/- Proved: what Next and May of package fsm, and the document's, answer of whatever ints. Conditions: those that the theorems name. -/
import Derived.Test.YtlfpfgkmghdpaaaFsBase
namespace Go.Proofs.Ytlfpfgkmghdpaaa
open Go.ChangeShapes Go.WideShapes Go.ChangeAt Go.RowKit

theorem nxt_out {s e : Int} (h : ¬((0 ≤ s ∧ s ≤ 5) ∧ (0 ≤ e ∧ e ≤ 5))) : nxtS s e = 0 ∧ nxtE s e = 1 := by
  have : (fsIn s && fsIn e) = false := by
    by_cases hs : 0 ≤ s ∧ s ≤ 5
    · rw [fs_out (fun he => h ⟨hs, he⟩), Bool.and_false]
    · rw [fs_out hs, Bool.false_and]
  unfold nxtS nxtE
  rw [this]
  exact ⟨rfl, rfl⟩
theorem may_out {s k : Int} (h : ¬((0 ≤ s ∧ s ≤ 5) ∧ (1 ≤ k ∧ k ≤ 5))) : mayE s k = 1 := by
  have : (fsIn s && (decide (1 ≤ k) && decide (k ≤ 5))) = false := by
    by_cases hs : 0 ≤ s ∧ s ≤ 5
    · by_cases hk : 1 ≤ k
      · rw [show decide (k ≤ 5) = false from decide_eq_false fun h1 => h ⟨hs, hk, h1⟩, Bool.and_false, Bool.and_false]
      · rw [decide_eq_false hk, Bool.false_and, Bool.and_false]
    · rw [fs_out hs, Bool.false_and]
  unfold mayE
  rw [this]
  rfl
theorem next_any (s e : Int) (w : World) : Calls Try.prog 5 #[.int .i64 s, .int .i64 e] w (Gv2 (nxtS s e) (nxtE s e) w) := by
  by_cases hs : 0 ≤ s ∧ s ≤ 5
  · by_cases he : 0 ≤ e ∧ e ≤ 5
    · exact next_in s e hs he w
    · obtain ⟨e1, e2⟩ := nxt_out (s := s) (fun h => he h.2)
      rw [e1, e2]
      have HI := Lib.hid (fs_in hs)
      clear e1 e2
      by_cases h0 : e < 0
      · have d0 : decide (e < 0) = true := decide_eq_true h0
        go_enter Try.func5, Try.ntmps5
        go_wp2_with fail
        refine (fs_state s _).mono ?_; rintro e w1 ⟨rfl, rfl⟩
        rw [HI.out]
        go_wp2_with fail
        go_ret2
        exact ⟨rfl, Below.refl _ _⟩
      · have d0 : decide (e < 0) = false := decide_eq_false h0
        have d1 : decide (5 < e) = true := decide_eq_true (by omega)
        go_enter Try.func5, Try.ntmps5
        go_wp2_with fail
        refine (fs_state s _).mono ?_; rintro e w1 ⟨rfl, rfl⟩
        rw [HI.out]
        go_wp2_with fail
        go_ret2
        exact ⟨rfl, Below.refl _ _⟩
  · obtain ⟨e1, e2⟩ := nxt_out (e := e) (fun h => hs h.1)
    rw [e1, e2]
    have HI := Lib.hid (fs_out hs)
    clear e1 e2
    go_enter Try.func5, Try.ntmps5
    go_wp2_with fail
    refine (fs_state s _).mono ?_; rintro e w1 ⟨rfl, rfl⟩
    rw [HI.out]
    go_wp2_with fail
    go_ret2
    exact ⟨rfl, Below.refl _ _⟩
theorem leave_at1 (w : World) : (Instr.index 42 leavesV (.int .i64 1)).run Try.prog w = .ok (.func (.func 20) #[] #[]) w := by kernel_rfl
theorem leave_at2 (w : World) : (Instr.index 42 leavesV (.int .i64 2)).run Try.prog w = .ok (.func (.func 21) #[] #[]) w := by kernel_rfl
theorem leave_at3 (w : World) : (Instr.index 42 leavesV (.int .i64 3)).run Try.prog w = .ok (.func (.func 22) #[] #[]) w := by kernel_rfl
theorem leave_at4 (w : World) : (Instr.index 42 leavesV (.int .i64 4)).run Try.prog w = .ok (.func (.func 21) #[] #[]) w := by kernel_rfl
theorem leave_at5 (w : World) : (Instr.index 42 leavesV (.int .i64 5)).run Try.prog w = .ok (.func (.func 23) #[] #[]) w := by kernel_rfl
theorem may_in (s e : Int) (h : 0 ≤ s ∧ s ≤ 5) (he : 1 ≤ e ∧ e ≤ 5) (w : World) : Calls Try.prog 7 #[.int .i64 s, .int .i64 e] w (Gv1 (mayE s e) w) := by
  have HI := Lib.hid (fs_in h)
  rcases (show e = 1 ∨ e = 2 ∨ e = 3 ∨ e = 4 ∨ e = 5 by omega) with rfl | rfl | rfl | rfl | rfl
  · have hix := leave_at1
    go_enter Try.func7, Try.ntmps7
    go_wp2_with fail
    refine (fs_state s _).mono ?_; rintro e w1 ⟨rfl, rfl⟩
    rw [HI.out]
    go_wp2_with fail
    refine (fs_leaves _).mono ?_; rintro e w2 ⟨rfl, g2⟩
    have G2 := Lib.hid g2
    clear g2
    generalize leavesV = V at *
    go_wp2_with fail
    refine (fs_mayOpen s h _).mono ?_; rintro e w3 ⟨rfl, rfl⟩
    go_wp2_with fail
    go_ret
    exact ⟨rfl, G2.out⟩
  · have hix := leave_at2
    go_enter Try.func7, Try.ntmps7
    go_wp2_with fail
    refine (fs_state s _).mono ?_; rintro e w1 ⟨rfl, rfl⟩
    rw [HI.out]
    go_wp2_with fail
    refine (fs_leaves _).mono ?_; rintro e w2 ⟨rfl, g2⟩
    have G2 := Lib.hid g2
    clear g2
    generalize leavesV = V at *
    go_wp2_with fail
    refine (fs_mayWrite s h _).mono ?_; rintro e w3 ⟨rfl, rfl⟩
    go_wp2_with fail
    go_ret
    exact ⟨rfl, G2.out⟩
  · have hix := leave_at3
    go_enter Try.func7, Try.ntmps7
    go_wp2_with fail
    refine (fs_state s _).mono ?_; rintro e w1 ⟨rfl, rfl⟩
    rw [HI.out]
    go_wp2_with fail
    refine (fs_leaves _).mono ?_; rintro e w2 ⟨rfl, g2⟩
    have G2 := Lib.hid g2
    clear g2
    generalize leavesV = V at *
    go_wp2_with fail
    refine (fs_lives s h _).mono ?_; rintro e w3 ⟨rfl, rfl⟩
    go_wp2_with fail
    go_ret
    exact ⟨rfl, G2.out⟩
  · have hix := leave_at4
    go_enter Try.func7, Try.ntmps7
    go_wp2_with fail
    refine (fs_state s _).mono ?_; rintro e w1 ⟨rfl, rfl⟩
    rw [HI.out]
    go_wp2_with fail
    refine (fs_leaves _).mono ?_; rintro e w2 ⟨rfl, g2⟩
    have G2 := Lib.hid g2
    clear g2
    generalize leavesV = V at *
    go_wp2_with fail
    refine (fs_mayWrite s h _).mono ?_; rintro e w3 ⟨rfl, rfl⟩
    go_wp2_with fail
    go_ret
    exact ⟨by rw [← mayE_close s h]; rfl, G2.out⟩
  · have hix := leave_at5
    go_enter Try.func7, Try.ntmps7
    go_wp2_with fail
    refine (fs_state s _).mono ?_; rintro e w1 ⟨rfl, rfl⟩
    rw [HI.out]
    go_wp2_with fail
    refine (fs_leaves _).mono ?_; rintro e w2 ⟨rfl, g2⟩
    have G2 := Lib.hid g2
    clear g2
    generalize leavesV = V at *
    go_wp2_with fail
    refine (fs_mayAbort s h _).mono ?_; rintro e w3 ⟨rfl, rfl⟩
    go_wp2_with fail
    go_ret
    exact ⟨rfl, G2.out⟩
theorem may_any (s e : Int) (w : World) : Calls Try.prog 7 #[.int .i64 s, .int .i64 e] w (Gv1 (mayE s e) w) := by
  by_cases hs : 0 ≤ s ∧ s ≤ 5
  · by_cases he : 1 ≤ e ∧ e ≤ 5
    · exact may_in s e hs he w
    · rw [may_out (s := s) (fun h => he h.2)]
      have HI := Lib.hid (fs_in hs)
      by_cases h0 : e < 1
      · have d0 : decide (e < 1) = true := decide_eq_true h0
        go_enter Try.func7, Try.ntmps7
        go_wp2_with fail
        refine (fs_state s _).mono ?_; rintro e w1 ⟨rfl, rfl⟩
        rw [HI.out]
        go_wp2_with fail
        go_ret
        exact ⟨rfl, Below.refl _ _⟩
      · have d0 : decide (e < 1) = false := decide_eq_false h0
        have d1 : decide (5 < e) = true := decide_eq_true (by omega)
        go_enter Try.func7, Try.ntmps7
        go_wp2_with fail
        refine (fs_state s _).mono ?_; rintro e w1 ⟨rfl, rfl⟩
        rw [HI.out]
        go_wp2_with fail
        go_ret
        exact ⟨rfl, Below.refl _ _⟩
  · rw [may_out (k := e) (fun h => hs h.1)]
    have HI := Lib.hid (fs_out hs)
    go_enter Try.func7, Try.ntmps7
    go_wp2_with fail
    refine (fs_state s _).mono ?_; rintro e w1 ⟨rfl, rfl⟩
    rw [HI.out]
    go_wp2_with fail
    go_ret
    exact ⟨rfl, Below.refl _ _⟩
end Go.Proofs.Ytlfpfgkmghdpaaa

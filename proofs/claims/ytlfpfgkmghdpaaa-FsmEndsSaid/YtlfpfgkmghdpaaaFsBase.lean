/- Proved: what the rules of package fsm answer in each state, and what Next, May and Done answer of whatever ints. Conditions: those that the theorems name. -/
import Derived.Test.YtlfpfgkmghdpaaaObj
import Derived.Laws.EntriesVeiled
namespace Go.Proofs.Ytlfpfgkmghdpaaa
open Go.ChangeShapes Go.WideShapes Go.ChangeAt Go.RowKit

/-! ### what the chapter says, as tables -/
/-- the errors and the states, a row for each event, in it the states. -/
def fsE : List Int := [0, 8, 8, 8, 8, 8,  7, 0, 11, 0, 11, 12,  7, 0, 0, 8, 8, 12,  7, 0, 0, 0, 10, 10,  7, 0, 0, 0, 10, 10,  10, 10, 10, 10, 0, 0]
def fsS : List Int := [1, 0, 0, 0, 0, 0,  0, 2, 0, 4, 0, 0,  0, 3, 4, 0, 0, 0,  0, 5, 5, 5, 0, 0,  0, 5, 5, 5, 0, 0,  0, 0, 0, 0, 0, 0]
def fsM : List Int := [0, 8, 8, 8, 8, 8,  7, 0, 11, 0, 11, 12,  7, 0, 0, 0, 0, 12,  7, 0, 11, 0, 11, 12,  7, 0, 0, 0, 11, 12]
def fsIn (s : Int) : Bool := decide (0 ≤ s) && decide (s ≤ 5)
/-- Next's error, and the state. -/
def nxtE (s e : Int) : Int := if fsIn s && fsIn e then fsE.getD (e.toNat * 6 + s.toNat) 0 else 1
def nxtS (s e : Int) : Int := if fsIn s && fsIn e then fsS.getD (e.toNat * 6 + s.toNat) 0 else 0
/-- May's error. -/
def mayE (s k : Int) : Int := if fsIn s && (decide (1 ≤ k) && decide (k ≤ 5)) then fsM.getD ((k - 1).toNat * 6 + s.toNat) 0 else 1
def fsDone (s : Int) : Bool := s == 4 || s == 5
theorem six {s : Int} (h : 0 ≤ s ∧ s ≤ 5) : s = 0 ∨ s = 1 ∨ s = 2 ∨ s = 3 ∨ s = 4 ∨ s = 5 := by omega

/-! ### the rules -/
abbrev St2 (a e : Int) (w : World) (x : Ending) (w' : World) : Prop := x = .returned (.tuple #[.int .i64 a, .int .i64 e]) ∧ w' = w
abbrev St1 (e : Int) (w : World) (x : Ending) (w' : World) : Prop := x = .returned (.int .i64 e) ∧ w' = w
theorem fs_lives (s : Int) (h : 0 ≤ s ∧ s ≤ 5) (w : World) : Calls Try.prog 22 #[.int .i64 s] w (St1 (mayE s 3) w) := by
  rcases six h with rfl | rfl | rfl | rfl | rfl | rfl <;>
    (go_enter Try.func22, Try.ntmps22; go_wp2_with fail; go_ret; exact ⟨rfl, rfl⟩)
theorem fs_open (s : Int) (h : 0 ≤ s ∧ s ≤ 5) (w : World) : Calls Try.prog 15 #[.int .i64 s] w (St2 (nxtS s 0) (nxtE s 0) w) := by
  rcases six h with rfl | rfl | rfl | rfl | rfl | rfl <;>
    (go_enter Try.func15, Try.ntmps15; go_wp2_with fail; go_ret2; exact ⟨rfl, rfl⟩)
theorem fs_done (s : Int) (w : World) : Calls Try.prog 9 #[.int .i64 s] w fun e w' => e = .returned (.bool (fsDone s)) ∧ w' = w := by
  by_cases h4 : s = 4
  · subst h4
    go_enter Try.func9, Try.ntmps9; go_wp2_with fail; go_ret; exact ⟨rfl, rfl⟩
  · have d4 : decide (s = 4) = false := decide_eq_false h4
    go_enter Try.func9, Try.ntmps9; go_wp2_with fail; go_ret; exact ⟨rfl, rfl⟩
theorem fs_state (s : Int) (w : World) : Calls Try.prog 11 #[.int .i64 s] w fun e w' => e = .returned (.bool (fsIn s)) ∧ w' = w := by
  unfold fsIn
  by_cases h4 : 0 ≤ s
  · have d4 : decide (0 ≤ s) = true := decide_eq_true h4
    go_enter Try.func11, Try.ntmps11; go_wp2_with fail; go_ret; exact ⟨by rw [d4]; rfl, rfl⟩
  · have d4 : decide (0 ≤ s) = false := decide_eq_false h4
    go_enter Try.func11, Try.ntmps11; go_wp2_with fail; go_ret; exact ⟨rfl, rfl⟩
/-- the rules of the events. -/
def stepsV : Value := .agg #[.func (.func 15) #[] #[], .func (.func 16) #[] #[], .func (.func 17) #[] #[], .func (.func 18) #[] #[], .func (.func 18) #[] #[], .func (.func 19) #[] #[]]
theorem fs_steps (w : World) : Calls Try.prog 12 #[] w fun e w' => e = .returned stepsV ∧ Below w.heap.size w w' := by
  go_enter Try.func12, Try.ntmps12
  go_wp2_with fail
  exact bodyPost_ret (v := stepsV) (by simp [results, Try.results12, stepsV, go_sem]) rfl ⟨rfl, (Below.refl _ _).alloc (Nat.le_refl _) _⟩
/-- one side has said all. -/
theorem fs_end1 (s : Int) (h : 0 ≤ s ∧ s ≤ 5) (w : World) : Calls Try.prog 24 #[.int .i64 s, .int .i64 2, .int .i64 3, .int .i64 11] w (St2 (nxtS s 1) (nxtE s 1) w) := by
  rcases six h with rfl | rfl | rfl | rfl | rfl | rfl <;>
    (go_enter Try.func24, Try.ntmps24; go_wp2_with fail; refine (fs_lives _ (by decide) _).mono ?_; rintro e w2 ⟨rfl, rfl⟩; simp only [show mayE 0 3 = 7 from rfl, show mayE 1 3 = 0 from rfl, show mayE 2 3 = 0 from rfl, show mayE 3 3 = 0 from rfl, show mayE 4 3 = 0 from rfl, show mayE 5 3 = 12 from rfl]; go_wp2_with fail; go_ret2; exact ⟨rfl, rfl⟩)
theorem fs_end2 (s : Int) (h : 0 ≤ s ∧ s ≤ 5) (w : World) : Calls Try.prog 24 #[.int .i64 s, .int .i64 3, .int .i64 2, .int .i64 8] w (St2 (nxtS s 2) (nxtE s 2) w) := by
  rcases six h with rfl | rfl | rfl | rfl | rfl | rfl <;>
    (go_enter Try.func24, Try.ntmps24; go_wp2_with fail; refine (fs_lives _ (by decide) _).mono ?_; rintro e w2 ⟨rfl, rfl⟩; simp only [show mayE 0 3 = 7 from rfl, show mayE 1 3 = 0 from rfl, show mayE 2 3 = 0 from rfl, show mayE 3 3 = 0 from rfl, show mayE 4 3 = 0 from rfl, show mayE 5 3 = 12 from rfl]; go_wp2_with fail; go_ret2; exact ⟨rfl, rfl⟩)
theorem fs_close (s : Int) (h : 0 ≤ s ∧ s ≤ 5) (w : World) : Calls Try.prog 16 #[.int .i64 s] w (St2 (nxtS s 1) (nxtE s 1) w) := by
  go_enter Try.func16, Try.ntmps16; go_wp2_with fail; refine (fs_end1 s h _).mono ?_; rintro e w2 ⟨rfl, rfl⟩; go_wp2_with fail; go_ret2; exact ⟨rfl, rfl⟩
theorem fs_fin (s : Int) (h : 0 ≤ s ∧ s ≤ 5) (w : World) : Calls Try.prog 17 #[.int .i64 s] w (St2 (nxtS s 2) (nxtE s 2) w) := by
  go_enter Try.func17, Try.ntmps17; go_wp2_with fail; refine (fs_end2 s h _).mono ?_; rintro e w2 ⟨rfl, rfl⟩; go_wp2_with fail; go_ret2; exact ⟨rfl, rfl⟩
theorem fs_abort (s : Int) (h : 0 ≤ s ∧ s ≤ 5) (w : World) : Calls Try.prog 18 #[.int .i64 s] w (St2 (nxtS s 3) (nxtE s 3) w) := by
  rcases six h with rfl | rfl | rfl | rfl | rfl | rfl <;>
    (go_enter Try.func18, Try.ntmps18; go_wp2_with fail; go_ret2; exact ⟨rfl, rfl⟩)
theorem fs_forget (s : Int) (h : 0 ≤ s ∧ s ≤ 5) (w : World) : Calls Try.prog 19 #[.int .i64 s] w (St2 (nxtS s 5) (nxtE s 5) w) := by
  rcases six h with rfl | rfl | rfl | rfl | rfl | rfl <;>
    (go_enter Try.func19, Try.ntmps19; go_wp2_with fail; refine (fs_done _ _).mono ?_; rintro e w2 ⟨rfl, rfl⟩; simp only [show fsDone 0 = false from rfl, show fsDone 1 = false from rfl, show fsDone 2 = false from rfl, show fsDone 3 = false from rfl, show fsDone 4 = true from rfl, show fsDone 5 = true from rfl]; go_wp2_with fail; go_ret2; exact ⟨rfl, rfl⟩)
theorem nxtE_open (s : Int) (h : 0 ≤ s ∧ s ≤ 5) : nxtE s 0 = mayE s 1 := by rcases six h with rfl | rfl | rfl | rfl | rfl | rfl <;> rfl
theorem nxtE_close (s : Int) (h : 0 ≤ s ∧ s ≤ 5) : nxtE s 1 = mayE s 2 := by rcases six h with rfl | rfl | rfl | rfl | rfl | rfl <;> rfl
theorem mayE_close (s : Int) (h : 0 ≤ s ∧ s ≤ 5) : mayE s 2 = mayE s 4 := by rcases six h with rfl | rfl | rfl | rfl | rfl | rfl <;> rfl
theorem nxt_rst (s : Int) (h : 0 ≤ s ∧ s ≤ 5) : nxtS s 3 = nxtS s 4 ∧ nxtE s 3 = nxtE s 4 := by rcases six h with rfl | rfl | rfl | rfl | rfl | rfl <;> exact ⟨rfl, rfl⟩
theorem fs_mayOpen (s : Int) (h : 0 ≤ s ∧ s ≤ 5) (w : World) : Calls Try.prog 20 #[.int .i64 s] w (St1 (mayE s 1) w) := by
  go_enter Try.func20, Try.ntmps20; go_wp2_with fail; refine (fs_open s h _).mono ?_; rintro e w2 ⟨rfl, rfl⟩; go_wp2_with fail; go_ret; exact ⟨by rw [← nxtE_open s h]; rfl, rfl⟩
theorem fs_mayWrite (s : Int) (h : 0 ≤ s ∧ s ≤ 5) (w : World) : Calls Try.prog 21 #[.int .i64 s] w (St1 (mayE s 2) w) := by
  go_enter Try.func21, Try.ntmps21; go_wp2_with fail; refine (fs_close s h _).mono ?_; rintro e w2 ⟨rfl, rfl⟩; go_wp2_with fail; go_ret; exact ⟨by rw [← nxtE_close s h]; rfl, rfl⟩
theorem fs_mayAbort (s : Int) (h : 0 ≤ s ∧ s ≤ 5) (w : World) : Calls Try.prog 23 #[.int .i64 s] w (St1 (mayE s 5) w) := by
  rcases six h with rfl | rfl | rfl | rfl | rfl | rfl
  · go_enter Try.func23, Try.ntmps23; go_wp2_with fail; refine (fs_lives _ (by decide) _).mono ?_; rintro e w2 ⟨rfl, rfl⟩; go_wp2_with fail; go_ret; exact ⟨rfl, rfl⟩
  · go_enter Try.func23, Try.ntmps23; go_wp2_with fail; refine (fs_lives _ (by decide) _).mono ?_; rintro e w2 ⟨rfl, rfl⟩; go_wp2_with fail; go_ret; exact ⟨rfl, rfl⟩
  · go_enter Try.func23, Try.ntmps23; go_wp2_with fail; refine (fs_lives _ (by decide) _).mono ?_; rintro e w2 ⟨rfl, rfl⟩; go_wp2_with fail; go_ret; exact ⟨rfl, rfl⟩
  · go_enter Try.func23, Try.ntmps23; go_wp2_with fail; refine (fs_lives _ (by decide) _).mono ?_; rintro e w2 ⟨rfl, rfl⟩; go_wp2_with fail; go_ret; exact ⟨rfl, rfl⟩
  · go_enter Try.func23, Try.ntmps23; go_wp2_with fail; go_ret; exact ⟨rfl, rfl⟩
  · go_enter Try.func23, Try.ntmps23; go_wp2_with fail; refine (fs_lives _ (by decide) _).mono ?_; rintro e w2 ⟨rfl, rfl⟩; go_wp2_with fail; go_ret; exact ⟨rfl, rfl⟩
/-- the rules of the kinds of calls. -/
def leavesV : Value := .agg #[.nilFunc, .func (.func 20) #[] #[], .func (.func 21) #[] #[], .func (.func 22) #[] #[], .func (.func 21) #[] #[], .func (.func 23) #[] #[]]
theorem fs_leaves (w : World) : Calls Try.prog 14 #[] w fun e w' => e = .returned leavesV ∧ Below w.heap.size w w' := by
  go_enter Try.func14, Try.ntmps14
  go_wp2_with fail
  exact bodyPost_ret (v := leavesV) (by simp [results, Try.results14, leavesV, go_sem]) rfl ⟨rfl, (Below.refl _ _).alloc (Nat.le_refl _) _⟩

/-! ### Next and May -/
theorem fs_in {s : Int} (h : 0 ≤ s ∧ s ≤ 5) : fsIn s = true := by rcases six h with rfl | rfl | rfl | rfl | rfl | rfl <;> rfl
theorem fs_out {s : Int} (h : ¬(0 ≤ s ∧ s ≤ 5)) : fsIn s = false := by
  unfold fsIn
  by_cases h0 : 0 ≤ s
  · rw [show decide (s ≤ 5) = false from decide_eq_false fun h1 => h ⟨h0, h1⟩, Bool.and_false]
  · rw [decide_eq_false h0, Bool.false_and]
abbrev Gv2 (a e : Int) (w : World) (x : Ending) (w' : World) : Prop := x = .returned (.tuple #[.int .i64 a, .int .i64 e]) ∧ Below w.heap.size w w'
abbrev Gv1 (e : Int) (w : World) (x : Ending) (w' : World) : Prop := x = .returned (.int .i64 e) ∧ Below w.heap.size w w'
theorem step_at0 (w : World) : (Instr.index 36 stepsV (.int .i64 0)).run Try.prog w = .ok (.func (.func 15) #[] #[]) w := by kernel_rfl
theorem step_at1 (w : World) : (Instr.index 36 stepsV (.int .i64 1)).run Try.prog w = .ok (.func (.func 16) #[] #[]) w := by kernel_rfl
theorem step_at2 (w : World) : (Instr.index 36 stepsV (.int .i64 2)).run Try.prog w = .ok (.func (.func 17) #[] #[]) w := by kernel_rfl
theorem step_at3 (w : World) : (Instr.index 36 stepsV (.int .i64 3)).run Try.prog w = .ok (.func (.func 18) #[] #[]) w := by kernel_rfl
theorem step_at4 (w : World) : (Instr.index 36 stepsV (.int .i64 4)).run Try.prog w = .ok (.func (.func 18) #[] #[]) w := by kernel_rfl
theorem step_at5 (w : World) : (Instr.index 36 stepsV (.int .i64 5)).run Try.prog w = .ok (.func (.func 19) #[] #[]) w := by kernel_rfl
theorem next_in (s e : Int) (h : 0 ≤ s ∧ s ≤ 5) (he : 0 ≤ e ∧ e ≤ 5) (w : World) : Calls Try.prog 5 #[.int .i64 s, .int .i64 e] w (Gv2 (nxtS s e) (nxtE s e) w) := by
  have HI := Lib.hid (fs_in h)
  rcases six he with rfl | rfl | rfl | rfl | rfl | rfl
  · have hix := step_at0
    go_enter Try.func5, Try.ntmps5
    go_wp2_with fail
    refine (fs_state s _).mono ?_; rintro e w1 ⟨rfl, rfl⟩
    rw [HI.out]
    go_wp2_with fail
    refine (fs_steps _).mono ?_; rintro e w2 ⟨rfl, g2⟩
    have G2 := Lib.hid g2
    clear g2
    generalize stepsV = V at *
    go_wp2_with fail
    refine (fs_open s h _).mono ?_; rintro e w3 ⟨rfl, rfl⟩
    go_wp2_with fail
    go_ret2
    exact ⟨rfl, G2.out⟩
  · have hix := step_at1
    go_enter Try.func5, Try.ntmps5
    go_wp2_with fail
    refine (fs_state s _).mono ?_; rintro e w1 ⟨rfl, rfl⟩
    rw [HI.out]
    go_wp2_with fail
    refine (fs_steps _).mono ?_; rintro e w2 ⟨rfl, g2⟩
    have G2 := Lib.hid g2
    clear g2
    generalize stepsV = V at *
    go_wp2_with fail
    refine (fs_close s h _).mono ?_; rintro e w3 ⟨rfl, rfl⟩
    go_wp2_with fail
    go_ret2
    exact ⟨rfl, G2.out⟩
  · have hix := step_at2
    go_enter Try.func5, Try.ntmps5
    go_wp2_with fail
    refine (fs_state s _).mono ?_; rintro e w1 ⟨rfl, rfl⟩
    rw [HI.out]
    go_wp2_with fail
    refine (fs_steps _).mono ?_; rintro e w2 ⟨rfl, g2⟩
    have G2 := Lib.hid g2
    clear g2
    generalize stepsV = V at *
    go_wp2_with fail
    refine (fs_fin s h _).mono ?_; rintro e w3 ⟨rfl, rfl⟩
    go_wp2_with fail
    go_ret2
    exact ⟨rfl, G2.out⟩
  · have hix := step_at3
    go_enter Try.func5, Try.ntmps5
    go_wp2_with fail
    refine (fs_state s _).mono ?_; rintro e w1 ⟨rfl, rfl⟩
    rw [HI.out]
    go_wp2_with fail
    refine (fs_steps _).mono ?_; rintro e w2 ⟨rfl, g2⟩
    have G2 := Lib.hid g2
    clear g2
    generalize stepsV = V at *
    go_wp2_with fail
    refine (fs_abort s h _).mono ?_; rintro e w3 ⟨rfl, rfl⟩
    go_wp2_with fail
    go_ret2
    exact ⟨rfl, G2.out⟩
  · have hix := step_at4
    go_enter Try.func5, Try.ntmps5
    go_wp2_with fail
    refine (fs_state s _).mono ?_; rintro e w1 ⟨rfl, rfl⟩
    rw [HI.out]
    go_wp2_with fail
    refine (fs_steps _).mono ?_; rintro e w2 ⟨rfl, g2⟩
    have G2 := Lib.hid g2
    clear g2
    generalize stepsV = V at *
    go_wp2_with fail
    refine (fs_abort s h _).mono ?_; rintro e w3 ⟨rfl, rfl⟩
    go_wp2_with fail
    go_ret2
    exact ⟨by rw [← (nxt_rst s h).1, ← (nxt_rst s h).2]; rfl, G2.out⟩
  · have hix := step_at5
    go_enter Try.func5, Try.ntmps5
    go_wp2_with fail
    refine (fs_state s _).mono ?_; rintro e w1 ⟨rfl, rfl⟩
    rw [HI.out]
    go_wp2_with fail
    refine (fs_steps _).mono ?_; rintro e w2 ⟨rfl, g2⟩
    have G2 := Lib.hid g2
    clear g2
    generalize stepsV = V at *
    go_wp2_with fail
    refine (fs_forget s h _).mono ?_; rintro e w3 ⟨rfl, rfl⟩
    go_wp2_with fail
    go_ret2
    exact ⟨rfl, G2.out⟩
end Go.Proofs.Ytlfpfgkmghdpaaa

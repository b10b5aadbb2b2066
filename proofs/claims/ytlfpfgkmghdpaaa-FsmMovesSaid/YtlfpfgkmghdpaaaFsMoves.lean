/- Proved: the walk of the law that Next and May answer as the document's. Conditions: those that the theorems name. -/
import Derived.Test.YtlfpfgkmghdpaaaFsAwake
namespace Go.Proofs.Ytlfpfgkmghdpaaa
open Go.ChangeShapes Go.WideShapes Go.ChangeAt Go.RowKit

theorem fs_moves_walk (s ev k : Int) (w : World) : Calls Try.prog 3 #[.int .i64 s, .int .i64 ev, .int .i64 k] w fun e w' => e = .returned (.bool true) ∧ Below w.heap.size w w' := by
  by_cases h4 : s = 4
  · subst h4
    go_enter Try.func3, Try.ntmps3
    go_wp2_with fail
    refine (next_any 4 ev _).mono ?_; rintro e w1 ⟨rfl, g1⟩
    have G1 := Lib.hid g1
    clear g1
    go_wp2_with fail
    refine (rnext_any 4 ev _).mono ?_; rintro e w2 ⟨rfl, rfl⟩
    generalize nxtS 4 ev = a at *
    generalize nxtE 4 ev = x at *
    go_wp2_with fail
    refine (may_any 4 k _).mono ?_; rintro e w3 ⟨rfl, g3⟩
    have G3 := Lib.hid (G1.out.trans (g3.mono G1.out.size))
    clear g3
    go_wp2_with fail
    refine (rmay_any 4 k _).mono ?_; rintro e w4 ⟨rfl, rfl⟩
    generalize mayE 4 k = y at *
    go_wp2_with fail
    refine (done_is (b := true) rfl _).mono ?_; rintro e w5 ⟨rfl, rfl⟩
    go_wp2_with fail
    refine (fs_awake _).mono ?_; rintro e w6 ⟨rfl, g6⟩
    have G6 := Lib.hid (G3.out.trans (g6.mono G3.out.size))
    clear g6
    go_wp2_with fail
    go_ret
    exact ⟨rfl, G6.out⟩
  · have d4 : decide (s = 4) = false := decide_eq_false h4
    have hd : fsDone s = (s == 5) := by unfold fsDone; rw [show (s == 4) = false from d4, Bool.false_or]
    have HD := Lib.hid hd
    have HE : Hid ((s == 4) = false) := Lib.hid d4
    clear hd
    go_enter Try.func3, Try.ntmps3
    go_wp2_with fail
    refine (next_any s ev _).mono ?_; rintro e w1 ⟨rfl, g1⟩
    have G1 := Lib.hid g1
    clear g1
    go_wp2_with fail
    refine (rnext_any s ev _).mono ?_; rintro e w2 ⟨rfl, rfl⟩
    generalize nxtS s ev = a at *
    generalize nxtE s ev = x at *
    go_wp2_with fail
    refine (may_any s k _).mono ?_; rintro e w3 ⟨rfl, g3⟩
    have G3 := Lib.hid (G1.out.trans (g3.mono G1.out.size))
    clear g3
    go_wp2_with fail
    refine (rmay_any s k _).mono ?_; rintro e w4 ⟨rfl, rfl⟩
    generalize mayE s k = y at *
    go_wp2_with fail
    refine (done_is (b := s == 5) HD.out _).mono ?_; rintro e w5 ⟨rfl, rfl⟩
    go_wp2_with fail
    refine (fs_awake _).mono ?_; rintro e w6 ⟨rfl, g6⟩
    have G6 := Lib.hid (G3.out.trans (g6.mono G3.out.size))
    clear g6
    go_wp2_with fail
    go_ret
    refine ⟨?_, G6.out⟩
    show Ending.returned (.bool ((s == 5) == (s == 4 || s == 5))) = _
    rw [HE.out, Bool.false_or, beq_self_eq_true]
end Go.Proofs.Ytlfpfgkmghdpaaa

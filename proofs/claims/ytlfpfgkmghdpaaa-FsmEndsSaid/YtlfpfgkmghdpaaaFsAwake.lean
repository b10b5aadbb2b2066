/- Proved: the chapter's example, and others: the laws' first calls. Conditions: those that the theorems name. -/
import Derived.Test.YtlfpfgkmghdpaaaFsRef
namespace Go.Proofs.Ytlfpfgkmghdpaaa
open Go.ChangeShapes Go.WideShapes Go.ChangeAt Go.RowKit

theorem next_is {s e a x : Int} (h1 : nxtS s e = a) (h2 : nxtE s e = x) (w : World) : Calls Try.prog 5 #[.int .i64 s, .int .i64 e] w (Gv2 a x w) := by
  have h := next_any s e w
  rwa [h1, h2] at h
theorem may_is {s k x : Int} (h1 : mayE s k = x) (w : World) : Calls Try.prog 7 #[.int .i64 s, .int .i64 k] w (Gv1 x w) := by
  have h := may_any s k w
  rwa [h1] at h
theorem done_is {s : Int} {b : Bool} (h1 : fsDone s = b) (w : World) : Calls Try.prog 9 #[.int .i64 s] w fun e w' => e = .returned (.bool b) ∧ w' = w := by
  have h := fs_done s w
  rwa [h1] at h
theorem fs_awake (w : World) : Calls Try.prog 10 #[] w fun e w' => e = .returned (.bool true) ∧ Below w.heap.size w w' := by
  go_enter Try.func10, Try.ntmps10
  go_wp2_with fail
  refine (next_is (a := 2) (x := 0) rfl rfl _).mono ?_; rintro e w1 ⟨rfl, g1⟩
  have G1 := Lib.hid g1
  clear g1
  go_wp2_with fail
  refine (next_is (a := 4) (x := 0) rfl rfl _).mono ?_; rintro e w2 ⟨rfl, g2⟩
  have G2 := Lib.hid (G1.out.trans (g2.mono G1.out.size))
  clear g2
  go_wp2_with fail
  refine (next_is (a := 0) (x := 11) rfl rfl _).mono ?_; rintro e w3 ⟨rfl, g3⟩
  have G3 := Lib.hid (G2.out.trans (g3.mono G2.out.size))
  clear g3
  go_wp2_with fail
  refine (next_is (a := 0) (x := 1) rfl rfl _).mono ?_; rintro e w4 ⟨rfl, g4⟩
  have G4 := Lib.hid (G3.out.trans (g4.mono G3.out.size))
  clear g4
  go_wp2_with fail
  refine (next_is (a := 0) (x := 0) rfl rfl _).mono ?_; rintro e w5 ⟨rfl, g5⟩
  have G5 := Lib.hid (G4.out.trans (g5.mono G4.out.size))
  clear g5
  go_wp2_with fail
  refine (may_is (x := 7) rfl _).mono ?_; rintro e w6 ⟨rfl, g6⟩
  have G6 := Lib.hid (G5.out.trans (g6.mono G5.out.size))
  clear g6
  go_wp2_with fail
  refine (may_is (x := 0) rfl _).mono ?_; rintro e w7 ⟨rfl, g7⟩
  have G7 := Lib.hid (G6.out.trans (g7.mono G6.out.size))
  clear g7
  go_wp2_with fail
  refine (done_is (b := true) rfl _).mono ?_; rintro e w8 ⟨rfl, rfl⟩
  go_wp2_with fail
  refine (done_is (b := false) rfl _).mono ?_; rintro e w9 ⟨rfl, rfl⟩
  go_wp2_with fail
  go_ret
  exact ⟨rfl, G7.out⟩
end Go.Proofs.Ytlfpfgkmghdpaaa

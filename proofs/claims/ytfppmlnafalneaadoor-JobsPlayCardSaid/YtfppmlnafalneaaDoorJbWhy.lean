/- Proved: what refusal and number of package jobs answer. Conditions: those that the theorems name. -/
import Derived.Test.YtfppmlnafalneaaDoorJbMem
import Derived.Deep.RegionHeld3
import Derived.Deep.RegionWith
import Derived.Deep.QuietTactic
import Derived.Deep.DeepCutAuto
import Derived.BigQuiet
import Derived.WalkSpells
import Derived.IntWalk
import Derived.StillTailTactics
namespace Go.Proofs.YtfppmlnafalneaaDoor
open Go.ChangeShapes Go.WideShapes Go.ChangeAt Go.RowKit Go.MuLone

section
variable {w : World} {b : Nat} {r : Option Nat} {room : Int} {S : List Jb} {cl : Bool} {ls : Int} {v : Value} {B : Nat} {a0 a1 : Addr}
set_option maxRecDepth 100000 in
theorem jb_refusal (h : Qe w b r room S cl ls v) (e : Er w B a0 a1) :
    Calls Tryd.prog 15 #[ptv b] w fun e w' => e = .returned (whyV cl (decide ((S.length : Int) = room)) a0 a1) ∧ Tn Nil w w' := by
  obtain ⟨A, cap, rfl⟩ := h.row.form
  have c2 := h.at_.cell 2 rfl
  have c3 := h.at_.cell 3 rfl
  have c4 := h.at_.cell 4 rfl
  have g0 := e.c0
  have g1 := e.c1
  have HE := Lib.hid e
  clear h e
  cases cl with
  | true =>
    go_enter Tryd.func15, Tryd.ntmps15
    go_wp2_with fail
    go_ret
    exact ⟨rfl, Tn.refl _ _⟩
  | false =>
    generalize hm : (S.length : Int) = m at *
    by_cases hf : m = room
    · have hd : (m == room) = true := by simp [hf]
      rw [decide_eq_true hf]
      clear hf
      go_enter Tryd.func15, Tryd.ntmps15
      go_wp2_with fail
      go_quiet (fail)
      have TD : Tn Nil w (w.drewN nq) := (Tn.refl Nil w).drewN nq
      have g1' := (HE.out.free TD).c1
      have HT := Lib.hid TD
      clear TD c2 c3 c4 g0 g1
      generalize w.drewN nq = w1 at *
      go_wp2_with fail
      go_ret
      exact ⟨rfl, HT.out⟩
    · have hd : (m == room) = false := by simp [hf]
      rw [decide_eq_false hf]
      clear hf
      go_enter Tryd.func15, Tryd.ntmps15
      go_wp2_with fail
      go_quiet (fail)
      have TD : Tn Nil w (w.drewN nq) := (Tn.refl Nil w).drewN nq
      have HT := Lib.hid TD
      clear TD c2 c3 c4 g0 g1
      generalize w.drewN nq = w1 at *
      go_wp2_with fail
      go_ret
      exact ⟨rfl, HT.out⟩
theorem jb_number (e : Er w B a0 a1) (full : Bool) :
    Calls Tryd.prog 14 #[whyV cl full a0 a1] w fun e w' => e = .returned (.int .i64 (whyE cl full)) ∧ w' = w := by
  have g0 := e.c0
  have g1 := e.c1
  obtain ⟨c, ty, h0⟩ := e.h0
  obtain ⟨c', ty', h1⟩ := e.h1
  have hne := e.ne
  cases cl with
  | true =>
    show Calls Tryd.prog 14 #[erv a0] w fun e w' => e = .returned (.int .i64 11) ∧ w' = w
    go_enter Tryd.func14, Tryd.ntmps14
    go_wp2_with fail
    refine (is_same a0 _).mono ?_; rintro e w' ⟨rfl, rfl⟩
    go_wp2_with fail
    go_ret
    exact ⟨rfl, rfl⟩
  | false =>
    cases full with
    | true =>
      show Calls Tryd.prog 14 #[erv a1] w fun e w' => e = .returned (.int .i64 9) ∧ w' = w
      go_enter Tryd.func14, Tryd.ntmps14
      go_wp2_with fail
      refine (is_other a1 a0 c' c ty' ty _ (fun e => hne e.symm) h1 h0).mono ?_; rintro e w' ⟨rfl, rfl⟩
      go_wp2_with fail
      refine (is_same a1 _).mono ?_; rintro e w' ⟨rfl, rfl⟩
      go_wp2_with fail
      go_ret
      exact ⟨rfl, rfl⟩
    | false =>
      show Calls Tryd.prog 14 #[.nilIface] w fun e w' => e = .returned (.int .i64 0) ∧ w' = w
      go_enter Tryd.func14, Tryd.ntmps14
      go_wp2_with fail
      refine (is_nil a0 _).mono ?_; rintro e w' ⟨rfl, rfl⟩
      go_wp2_with fail
      refine (is_nil a1 _).mono ?_; rintro e w' ⟨rfl, rfl⟩
      go_wp2_with fail
      go_ret
      exact ⟨rfl, rfl⟩
end
end Go.Proofs.YtfppmlnafalneaaDoor

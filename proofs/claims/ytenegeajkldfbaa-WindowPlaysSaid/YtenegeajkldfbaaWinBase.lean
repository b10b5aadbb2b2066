/- Proved: what New, Base, Has and Mark of package window answer, and what a window that is none answers. Conditions: those that the theorems name. -/
import Derived.Test.YtenegeajkldfbaaWinMap
import Derived.Deep.QuietTactic
import Derived.BigQuiet
import Derived.WalkSpells
import Derived.Carry
import Derived.StillTailTactics
namespace Go.Proofs.Ytenegeajkldfbaa
open Go.ChangeShapes Go.WideShapes Go.ChangeAt Go.RowKit

/-- Block b is a window, whose marks stand in the map in block m. -/
def Wn (w : World) (b m : Nat) (B : Int) (n : Nat) (L : List Int) : Prop := At w b 50 [.int .u32 B, .int .i64 (n : Nat), .map (some m)] ∧ Wm w m L ∧ WOk B n L
theorem Wn.ne {w : World} {b m n : Nat} {B : Int} {L : List Int} (h : Wn w b m B n L) : b ≠ m := h.2.1.ne h.1
theorem Wn.ok {w : World} {b m n : Nat} {B : Int} {L : List Int} (h : Wn w b m B n L) : WOk B n L := h.2.2
theorem Wn.below {w w' : World} {b m n : Nat} {B : Int} {L : List Int} (h : Wn w b m B n L) (k : Below w.heap.size w w') : Wn w' b m B n L := ⟨h.1.below k h.1.lt, h.2.1.below k h.2.1.lt, h.2.2⟩
theorem Wn.kept {w w' : World} {b m n : Nat} {B : Int} {L : List Int} {row : Option Nat} (h : Wn w b m B n L) (k : w.grownBy w' row) (hb : row ≠ some b) (hm : row ≠ some m) : Wn w' b m B n L := ⟨h.1.kept k hb, h.2.1.kept k hm, h.2.2⟩

/-! ### New -/
theorem wn_new (B : Int) (n : Nat) (w : World) (h1 : 1 ≤ n) (h2 : n ≤ 64) :
    Calls Try.prog 7 #[.int .u32 B, .int .i64 (n : Nat)] w fun e w' => e = .returned (.tuple #[.pointer (some ⟨w.heap.size + 1, 0, none⟩), .int .i64 0]) ∧ w' = (w.alloc (.map #[] 0)).alloc (.cells [.int .u32 B, .int .i64 (n : Nat), .map (some w.heap.size)].toArray 50) := by
  have hmm := @run_makeMap Try.prog
  have g1 : ¬ (n : Int) < 1 := by omega
  have g2 : ¬ (64 : Int) < (n : Int) := by omega
  clear h1 h2
  go_enter Try.func7, Try.ntmps7
  go_wp2_with fail
  go_ret2
  exact ⟨rfl, rfl⟩
theorem wn_new_bad (B z : Int) (w : World) (h : z < 1 ∨ 64 < z) :
    Calls Try.prog 7 #[.int .u32 B, .int .i64 z] w fun e w' => e = .returned (.tuple #[.pointer none, .int .i64 1]) ∧ w = w' := by
  rcases h with h | h
  · go_enter Try.func7, Try.ntmps7
    go_wp2_with fail
    go_ret2
    exact ⟨rfl, rfl⟩
  · have g1 : ¬ z < 1 := by omega
    go_enter Try.func7, Try.ntmps7
    go_wp2_with fail
    go_ret2
    exact ⟨rfl, rfl⟩
theorem wn_made (B : Int) (n : Nat) (w : World) (hB : U32 B) (h1 : 1 ≤ n) (h2 : n ≤ 64) : Wn ((w.alloc (.map #[] 0)).alloc (.cells [.int .u32 B, .int .i64 (n : Nat), .map (some w.heap.size)].toArray 50)) (w.heap.size + 1) w.heap.size B n [] := by
  refine ⟨?_, (Wm.new w).below ((Below.refl _ _).alloc (Nat.le_refl _) _) (by simp), WOk.new hB h1 h2⟩
  have := At.new (w.alloc (.map #[] 0)) 50 [.int .u32 B, .int .i64 (n : Nat), .map (some w.heap.size)]
  rwa [show (w.alloc (.map #[] 0)).heap.size = w.heap.size + 1 by simp] at this

/-! ### Base -/
theorem wn_base {b m n : Nat} {B : Int} {L : List Int} {w : World} (h : Wn w b m B n L) :
    Calls Try.prog 12 #[.pointer (some ⟨b, 0, none⟩)] w fun e w' => e = .returned (.int .u32 B) ∧ w = w' := by
  have hc := h.1.cell 0 rfl
  clear h
  go_enter Try.func12, Try.ntmps12
  go_wp2_with fail
  go_ret
  exact ⟨rfl, rfl⟩
theorem wn_base_nil (w : World) :
    Calls Try.prog 12 #[.pointer none] w fun e w' => e = .returned (.int .u32 0) ∧ w = w' := by
  go_enter Try.func12, Try.ntmps12
  go_wp2_with fail
  go_ret
  exact ⟨rfl, rfl⟩

/-! ### Has -/
/-- .. in words of the map alone: a window's methods ask it between two stores, too. -/
theorem wn_has_at {b m : Nat} {v0 v1 : Value} {L : List Int} {w : World} (h : At w b 50 [v0, v1, .map (some m)]) (hm : Wm w m L) {x : Int} (hx : U32 x) :
    Calls Try.prog 13 #[.pointer (some ⟨b, 0, none⟩), .int .u32 x] w fun e w' => e = .returned (.bool (decide (x ∈ L))) ∧ Below w.heap.size w w' := by
  have hc := h.cell 2 rfl
  have hl := wm_look hm hx
  have HB := Lib.hid ((Below.refl w.heap.size w).alloc (Nat.le_refl _) (.cells #[] 53))
  clear h hm hx
  generalize decide (x ∈ L) = s at *
  go_enter Try.func13, Try.ntmps13
  go_wp2_with fail
  go_ret
  exact ⟨rfl, HB.out⟩
theorem wn_has {b m n : Nat} {B : Int} {L : List Int} {w : World} (h : Wn w b m B n L) {x : Int} (hx : U32 x) :
    Calls Try.prog 13 #[.pointer (some ⟨b, 0, none⟩), .int .u32 x] w fun e w' => e = .returned (.bool (decide (x ∈ L))) ∧ Below w.heap.size w w' := wn_has_at h.1 h.2.1 hx
theorem wn_has_nil (x : Int) (w : World) :
    Calls Try.prog 13 #[.pointer none, .int .u32 x] w fun e w' => e = .returned (.bool false) ∧ w = w' := by
  go_enter Try.func13, Try.ntmps13
  go_wp2_with fail
  go_ret
  exact ⟨rfl, rfl⟩

/-! ### Mark -/
theorem wn_mark_nil (x : Int) (w : World) :
    Calls Try.prog 9 #[.pointer none, .int .u32 x] w fun e w' => e = .returned (.int .i64 0) ∧ w = w' := by
  go_enter Try.func9, Try.ntmps9
  go_wp2_with fail
  go_ret
  exact ⟨rfl, rfl⟩
set_option maxRecDepth 100000 in
set_option maxHeartbeats 1600000 in
theorem wn_mark_any {b m n : Nat} {B : Int} {L : List Int} {w : World} (h : Wn w b m B n L) (hn : L.length < 1000) {x : Int} (hx : U32 x) :
    Calls Try.prog 9 #[.pointer (some ⟨b, 0, none⟩), .int .u32 x] w fun e w' => e = .returned (.int .i64 (mkE B n L x)) ∧ Wm w' m (mkL B n L x) ∧ w.grownBy w' (some m) := by
  have hc0 := h.1.cell 0 rfl
  have hc1 := h.1.cell 1 rfl
  have HL := Lib.hid (fun w => less_any x B hx h.ok.base w)
  have HI := Lib.hid (fun w => within_any x B n hx h.ok.base w)
  have HH := Lib.hid (fun w (g : Wn w b m B n L) => wn_has g hx)
  have HW := Lib.hid h
  have HP := Lib.hid (fun (hnew : x ∉ L) W (g : Wm W m L) => wm_put g hn hx hnew)
  clear h hx hn
  by_cases h1 : 0 < ah x B
  · obtain ⟨e1, e2⟩ := mk_less (n := n) (L := L) h1
    rw [decide_eq_true h1] at HL
    rw [e1, e2]
    clear e1 e2 h1
    have HM : Hid (Wm w m L) := Lib.hid HW.out.2.1
    go_enter Try.func9, Try.ntmps9
    go_wp2_with fail
    refine (HL.out _).mono ?_; rintro e w1 ⟨rfl, rfl⟩
    go_wp2_with fail
    go_ret
    exact ⟨rfl, HM.out, grown_refl _ _⟩
  · rw [decide_eq_false h1] at HL
    cases h2 : inZ x B n
    · obtain ⟨e1, e2⟩ := mk_past (n := n) (L := L) h1 h2
      rw [h2] at HI
      rw [e1, e2]
      clear e1 e2 h1 h2
      have HM : Hid (Wm w m L) := Lib.hid HW.out.2.1
      go_enter Try.func9, Try.ntmps9
      go_wp2_with fail
      refine (HL.out _).mono ?_; rintro e w1 ⟨rfl, rfl⟩
      go_wp2_with fail
      go_quiet ((go_at_call 21; exact Calls.quiet_of_same ((HI.out _).mono fun _ _ h => ⟨h.1, h.2.symm⟩)))
      go_wp2_with fail
      go_ret
      exact ⟨rfl, HM.out.kept (grown_drewN _ _ none) (by simp), grown_drewN _ _ _⟩
    · rw [h2] at HI
      by_cases h3 : x ∈ L
      · obtain ⟨e1, e2⟩ := mk_old (n := n) (L := L) h1 h2 h3
        rw [decide_eq_true h3] at HH
        rw [e1, e2]
        clear e1 e2 h1 h2 h3 HP
        go_enter Try.func9, Try.ntmps9
        go_wp2_with fail
        refine (HL.out _).mono ?_; rintro e w1 ⟨rfl, rfl⟩
        go_wp2_with fail
        go_quiet ((go_at_call 21; exact Calls.quiet_of_same ((HI.out _).mono fun _ _ h => ⟨h.1, h.2.symm⟩)))
        have HW2 := Lib.hid (HW.out.kept (grown_drewN w nq none) (by simp) (by simp))
        have HG2 := Lib.hid (grown_drewN w nq (some m))
        clear HW hc0 hc1
        generalize w.drewN nq = w2 at *
        go_wp2_with fail
        refine (HH.out _ HW2.out).mono ?_; rintro e w3 ⟨rfl, g3⟩
        have HM : Hid (Wm w3 m L) := Lib.hid (HW2.out.below g3).2.1
        have HG3 := Lib.hid (grown_trans2 HG2.out (grown_below g3 _))
        clear g3
        go_wp2_with fail
        go_ret
        exact ⟨rfl, HM.out, HG3.out⟩
      · obtain ⟨e1, e2⟩ := mk_new (n := n) (L := L) h1 h2 h3
        have HPP := Lib.hid (HP.out h3)
        rw [decide_eq_false h3] at HH
        rw [e1, e2]
        clear e1 e2 h1 h2 h3 HP
        go_enter Try.func9, Try.ntmps9
        go_wp2_with fail
        refine (HL.out _).mono ?_; rintro e w1 ⟨rfl, rfl⟩
        go_wp2_with fail
        go_quiet ((go_at_call 21; exact Calls.quiet_of_same ((HI.out _).mono fun _ _ h => ⟨h.1, h.2.symm⟩)))
        have HW2 := Lib.hid (HW.out.kept (grown_drewN w nq none) (by simp) (by simp))
        have HG2 := Lib.hid (grown_drewN w nq (some m))
        clear HW hc0 hc1
        generalize w.drewN nq = w2 at *
        go_wp2_with fail
        refine (HH.out _ HW2.out).mono ?_; rintro e w3 ⟨rfl, g3⟩
        have HW3 := Lib.hid (HW2.out.below g3)
        have HG3 := Lib.hid (grown_trans2 HG2.out (grown_below g3 _))
        have hc2 := HW3.out.1.cell 2 rfl
        obtain ⟨w4, hrun, hm4, hg4⟩ := HPP.out w3 HW3.out.2.1
        have HM4 := Lib.hid hm4
        have HG4 := Lib.hid (grown_trans2 HG3.out hg4)
        clear g3 hm4 hg4 HW2 HG2 HG3 HPP HH HI HL HW3
        go_wp2_with fail
        go_ret
        exact ⟨rfl, HM4.out, HG4.out⟩
end Go.Proofs.Ytenegeajkldfbaa

/- Proved: lemmas of one statement's proof, merged by program: what each part proves stands ahead of it. Conditions: those that the lemmas name. -/
import Derived.Test.YtedecminaopgaaaM28
import Derived.Test.YtedecminaopgaaaM29

/- Proved: the walk of the law on streams that are none, and on which streams may be. Conditions: those that the theorem names. -/
namespace Go.Proofs.Ytedecminaopgaaa
open Go.ChangeShapes Go.WideShapes Go.ChangeAt Go.RowKit

set_option maxRecDepth 100000 in
set_option maxHeartbeats 6400000 in
theorem ib_none_walk (d : Di) (st : Int) (w : World) :
    Calls Try.prog 4 #[d.val, .int .i64 st] w fun e w' => e = .returned (.bool true) ∧ Below w.heap.size w w' := by
  obtain ⟨k, x, s, n⟩ := d
  show Calls Try.prog 4 #[.agg #[.int .i64 k, .int .u32 x, .string s, .int .i64 n], .int .i64 st] w _
  have HX := Lib.hid (At.new w tD (dCells k x s n))
  have HB := Lib.hid ((Below.refl w.heap.size w).alloc (Nat.le_refl _) (.cells #[.int .i64 k, .int .u32 x, .string s, .int .i64 n] tD))
  obtain ⟨W0, hW0⟩ : ∃ W0, W0 = w.alloc (.cells #[.int .i64 k, .int .u32 x, .string s, .int .i64 n] tD) := ⟨_, rfl⟩
  rw [← hW0] at HB
  have HX : Hid (At W0 w.heap.size tD (dCells k x s n)) := Lib.hid (by rw [hW0]; exact HX.out)
  have HP := Lib.hid (fun W => cf_rplain W)
  have HG := Lib.hid (fun W (h : 0 ≤ st ∧ st < 256) => ib_new plainC st W (by decide) h.1 h.2)
  have HO := Lib.hid (fun W (h : st < 0 ∨ 256 ≤ st) => ib_new_out plainC st W (by decide) h)
  unfold GivesCf at HP
  generalize plainC.val = pv at *
  have c3 := HX.out.cell 3 rfl
  have s0 : (S0.toList == S0.toList) = true := by simp
  by_cases hin : 0 ≤ st ∧ st < 256
  · have HN := Lib.hid (fun W => HG.out W hin)
    have g0 : st ≥ 0 := hin.1
    have g1 : st ≤ 255 := by omega
    have g2 : ¬ st < 0 := by omega
    have g3 : ¬ st > 255 := by omega
    clear HG HO hin
    go_enter Try.func4, Try.ntmps4
    go_upto_region 1 with fail
    rw [← hW0]; clear hW0
    go_wp2_with fail
    refine (ib_read_nil n _).mono ?_; rintro e w1 ⟨rfl, rfl⟩
    go_wp2_with fail
    refine (ib_ack_nil _).mono ?_; rintro e w1 ⟨rfl, rfl⟩
    go_wp2_with fail
    refine (HP.out _).mono ?_; rintro e w2 ⟨rfl, b2⟩
    have X2 := Lib.hid (HX.out.below b2 HX.out.lt)
    have B2 := Lib.hid (HB.out.trans (b2.mono HB.out.size))
    clear b2 HX HB c3
    go_wp2_with fail
    refine (HN.out _).mono ?_; rintro e w3 ⟨Y, rfl, _, b3, _⟩
    have X3 := Lib.hid (X2.out.below b3 X2.out.lt)
    have B3 := Lib.hid (B2.out.trans (b3.mono B2.out.size))
    clear b3 X2 B2
    have c1 := X3.out.cell 1 rfl
    have c2 := X3.out.cell 2 rfl
    go_wp2_with fail
    refine (ib_saw_nil x _).mono ?_; rintro e w4 ⟨rfl, rfl⟩
    go_wp2_with fail
    refine (ib_put_nil x s _).mono ?_; rintro e w4 ⟨rfl, rfl⟩
    go_wp2_with fail
    refine (ib_fin_nil x _).mono ?_; rintro e w4 ⟨rfl, rfl⟩
    go_wp2_with fail
    refine (ib_deliver_nil _).mono ?_; rintro e w4 ⟨rfl, rfl⟩
    go_wp2_with fail
    refine (ib_lacks_nil _).mono ?_; rintro e w4 ⟨rfl, rfl⟩
    go_wp2_with fail
    refine (ib_ended_nil _).mono ?_; rintro e w4 ⟨rfl, q, hq⟩
    have B4 : Hid (Below w.heap.size w w4) := Lib.hid (by rw [hq]; exact bel_drewN B3.out (Nat.le_refl _) q)
    clear hq c1 c2
    go_wp2_with fail
    refine (ib_held_nil _).mono ?_; rintro e w5 ⟨rfl, rfl⟩
    go_wp2_with fail
    refine (ib_awake_any _).mono ?_; rintro e w6 ⟨rfl, g6⟩
    have B6 := Lib.hid (B4.out.trans (g6.mono B4.out.size))
    clear g6
    go_wp2_with fail
    go_ret
    exact ⟨rfl, B6.out⟩
  · have HN := Lib.hid (fun W => HO.out W (by omega))
    have key : st < 0 ∨ (st ≥ 0 ∧ decide (st ≤ 255) = false) := by
      rcases Int.lt_or_le st 0 with a | a
      · exact .inl a
      · exact .inr ⟨a, decide_eq_false (by omega)⟩
    clear HG HO hin
    rcases key with g0 | ⟨g0, g1⟩
    all_goals
      go_enter Try.func4, Try.ntmps4
      go_upto_region 1 with fail
      rw [← hW0]; clear hW0
      go_wp2_with fail
      refine (ib_read_nil n _).mono ?_; rintro e w1 ⟨rfl, rfl⟩
      go_wp2_with fail
      refine (ib_ack_nil _).mono ?_; rintro e w1 ⟨rfl, rfl⟩
      go_wp2_with fail
      refine (HP.out _).mono ?_; rintro e w2 ⟨rfl, b2⟩
      have X2 := Lib.hid (HX.out.below b2 HX.out.lt)
      have B2 := Lib.hid (HB.out.trans (b2.mono HB.out.size))
      clear b2 HX HB c3
      go_wp2_with fail
      refine (HN.out _).mono ?_; rintro e w3 ⟨rfl, b3⟩
      have X3 := Lib.hid (X2.out.below b3 X2.out.lt)
      have B3 := Lib.hid (B2.out.trans (b3.mono B2.out.size))
      clear b3 X2 B2
      have c1 := X3.out.cell 1 rfl
      have c2 := X3.out.cell 2 rfl
      go_wp2_with fail
      refine (ib_saw_nil x _).mono ?_; rintro e w4 ⟨rfl, rfl⟩
      go_wp2_with fail
      refine (ib_put_nil x s _).mono ?_; rintro e w4 ⟨rfl, rfl⟩
      go_wp2_with fail
      refine (ib_fin_nil x _).mono ?_; rintro e w4 ⟨rfl, rfl⟩
      go_wp2_with fail
      refine (ib_deliver_nil _).mono ?_; rintro e w4 ⟨rfl, rfl⟩
      go_wp2_with fail
      refine (ib_lacks_nil _).mono ?_; rintro e w4 ⟨rfl, rfl⟩
      go_wp2_with fail
      refine (ib_ended_nil _).mono ?_; rintro e w4 ⟨rfl, q, hq⟩
      have B4 : Hid (Below w.heap.size w w4) := Lib.hid (by rw [hq]; exact bel_drewN B3.out (Nat.le_refl _) q)
      clear hq c1 c2
      go_wp2_with fail
      refine (ib_held_nil _).mono ?_; rintro e w5 ⟨rfl, rfl⟩
      go_wp2_with fail
      refine (ib_awake_any _).mono ?_; rintro e w6 ⟨rfl, g6⟩
      have B6 := Lib.hid (B4.out.trans (g6.mono B4.out.size))
      clear g6
      go_wp2_with fail
      go_ret
      exact ⟨rfl, B6.out⟩
end Go.Proofs.Ytedecminaopgaaa

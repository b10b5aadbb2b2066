/- Proved: the first calls of the laws of package order. Conditions: those that the theorems name. -/
import Derived.Test.YtifekpdjenfnbaaOrLaw
namespace Go.Proofs.Ytifekpdjenfnbaa
open Go.ChangeShapes Go.WideShapes Go.ChangeAt Go.RowKit

abbrev ora : ByteArray := ⟨#[97, 97]⟩
abbrev orb : ByteArray := ⟨#[98]⟩
abbrev orc : ByteArray := ⟨#[99]⟩
abbrev orz : ByteArray := ⟨#[122]⟩
theorem em_a : emB ora = false := by unfold emB; rw [ByteArray.toList_eq]; rfl
theorem em_b : emB orb = false := by unfold emB; rw [ByteArray.toList_eq]; rfl
theorem or_in {x B n : Int} (p : Int) (h : ah B x = p) (h0 : 0 ≤ p) (h1 : p < n) : inZ x B n = true := by
  unfold inZ
  rw [h, decide_eq_true h0, decide_eq_true h1]; rfl
theorem or_out {x B n : Int} (p : Int) (h : ah B x = p) (h1 : n ≤ p) : inZ x B n = false := by
  unfold inZ
  rw [h, decide_eq_false (by omega : ¬ p < n), Bool.and_false]
theorem or_hasn {B x : Int} {L : List ByteArray} (p : Nat) (h : ah B x = p) : hasO B L x = !emB (st_ L p) := by
  unfold hasO atO
  rw [h, atZ_nat]
/-- (4294967295, 2), Put(0, b): it waits at place 1. -/
theorem oa1 : putE 4294967295 2 [] 0 orb = 3 ∧ putO 4294967295 2 [] 0 orb = [S0, orb] :=
  pt_new (by decide) (or_in 1 (by decide) (by decide) (by decide)) (by rw [or_hasn 1 (by decide)]; show (!emB S0) = false; rw [em_S0]; rfl) em_b
theorem oa2 : putE 4294967295 2 [S0, orb] 1 orc = 1 ∧ putO 4294967295 2 [S0, orb] 1 orc = [S0, orb] := pt_past (by decide) (or_out 2 (by decide) (by decide))
theorem oa3 : putE 4294967295 2 [S0, orb] 4294967294 orz = 0 ∧ putO 4294967295 2 [S0, orb] 4294967294 orz = [S0, orb] := pt_less (by decide)
theorem oa4 : putE 4294967295 2 [S0, orb] 0 orb = 2 ∧ putO 4294967295 2 [S0, orb] 0 orb = [S0, orb] :=
  pt_old (by decide) (or_in 1 (by decide) (by decide) (by decide)) (by rw [or_hasn 1 (by decide)]; show (!emB orb) = true; rw [em_b]; rfl)
theorem oa5 : nxO [S0, orb] 9 = false ∧ nxS [S0, orb] 9 = S0 ∧ nxL [S0, orb] 9 = [S0, orb] ∧ nxBs 4294967295 [S0, orb] 9 = 4294967295 := nx_no (.inl em_S0)
theorem oa6 : putE 4294967295 2 [S0, orb] 4294967295 S0 = 4 ∧ putO 4294967295 2 [S0, orb] 4294967295 S0 = [S0, orb] :=
  pt_none (by decide) (or_in 0 (by decide) (by decide) (by decide)) (by rw [or_hasn 0 (by decide)]; show (!emB S0) = false; rw [em_S0]; rfl) em_S0
theorem oa7 : putE 4294967295 2 [S0, orb] 4294967295 ora = 3 ∧ putO 4294967295 2 [S0, orb] 4294967295 ora = [ora, orb] :=
  pt_new (by decide) (or_in 0 (by decide) (by decide) (by decide)) (by rw [or_hasn 0 (by decide)]; show (!emB S0) = false; rw [em_S0]; rfl) em_a
theorem oa8 : nxO [ora, orb] 1 = false ∧ nxS [ora, orb] 1 = S0 ∧ nxL [ora, orb] 1 = [ora, orb] ∧ nxBs 4294967295 [ora, orb] 1 = 4294967295 := nx_no (.inr (by decide))
theorem oa9 : nxO [ora, orb] 2 = true ∧ nxS [ora, orb] 2 = ora ∧ nxL [ora, orb] 2 = [orb] ∧ nxBs 4294967295 [ora, orb] 2 = 0 := nx_yes em_a (by decide)
theorem oa10 : nxO [orb] 2 = true ∧ nxS [orb] 2 = orb ∧ nxL [orb] 2 = [] ∧ nxBs 0 [orb] 2 = 1 := nx_yes em_b (by decide)
theorem oa11 : hasO 1 [] 0 = false := by
  unfold hasO atO
  rw [show ah 1 0 = -1 by decide, atZ_out (.inl (by decide)), em_S0]; rfl
theorem oa12 : cntO [] = 0 := rfl

set_option maxRecDepth 100000 in
set_option maxHeartbeats 3200000 in
theorem or_awake_any (w : World) :
    Calls Try.prog 6 #[] w fun e w' => e = .returned (.bool true) ∧ Below w.heap.size w w' := by
  have sa : (ora.toList == ora.toList) = true := by simp
  have sb : (orb.toList == orb.toList) = true := by simp
  have HN := Lib.hid (ob_new w w 4294967295 2 (Below.refl _ _) ⟨by decide, by decide⟩ (by decide) (by decide))
  go_enter Try.func6, Try.ntmps6
  go_wp2_with fail
  refine HN.out.mono ?_; rintro e w1 ⟨b, rfl, r1⟩
  have R1 := Lib.hid r1
  clear r1 HN
  go_wp2_with fail
  refine (or_new_bad 0 65 _ (.inr (by decide))).mono ?_; rintro e w2 ⟨rfl, rfl⟩
  go_wp2_with fail
  refine (ob_put R1.out 0 orb ⟨by decide, by decide⟩).mono ?_; rintro e w3 ⟨rfl, r3, _⟩
  rw [oa1.1]; rw [oa1.2] at r3
  have R3 := Lib.hid r3
  clear r3 R1
  go_wp2_with fail
  refine (ob_put R3.out 1 orc ⟨by decide, by decide⟩).mono ?_; rintro e w4 ⟨rfl, r4, _⟩
  rw [oa2.1]; rw [oa2.2] at r4
  have R4 := Lib.hid r4
  clear r4 R3
  go_wp2_with fail
  refine (ob_put R4.out 4294967294 orz ⟨by decide, by decide⟩).mono ?_; rintro e w5 ⟨rfl, r5, _⟩
  rw [oa3.1]; rw [oa3.2] at r5
  have R5 := Lib.hid r5
  clear r5 R4
  go_wp2_with fail
  refine (ob_put R5.out 0 orb ⟨by decide, by decide⟩).mono ?_; rintro e w6 ⟨rfl, r6, _⟩
  rw [oa4.1]; rw [oa4.2] at r6
  have R6 := Lib.hid r6
  clear r6 R5
  go_wp2_with fail
  refine (ob_next R6.out 9).mono ?_; rintro e w7 ⟨rfl, r7, _⟩
  rw [oa5.1, oa5.2.1]; rw [oa5.2.2.1, oa5.2.2.2] at r7
  have R7 := Lib.hid r7
  clear r7 R6
  go_wp2_with fail
  refine (ob_put R7.out 4294967295 S0 ⟨by decide, by decide⟩).mono ?_; rintro e w8 ⟨rfl, r8, _⟩
  rw [oa6.1]; rw [oa6.2] at r8
  have R8 := Lib.hid r8
  clear r8 R7
  go_wp2_with fail
  refine (ob_put R8.out 4294967295 ora ⟨by decide, by decide⟩).mono ?_; rintro e w9 ⟨rfl, r9, _⟩
  rw [oa7.1]; rw [oa7.2] at r9
  have R9 := Lib.hid r9
  clear r9 R8
  go_wp2_with fail
  refine (ob_next R9.out 1).mono ?_; rintro e w10 ⟨rfl, r10, _⟩
  rw [oa8.1, oa8.2.1]; rw [oa8.2.2.1, oa8.2.2.2] at r10
  have R10 := Lib.hid r10
  clear r10 R9
  go_wp2_with fail
  refine (ob_next R10.out 2).mono ?_; rintro e w11 ⟨rfl, r11, _⟩
  rw [oa9.1, oa9.2.1]; rw [oa9.2.2.1, oa9.2.2.2] at r11
  have R11 := Lib.hid r11
  clear r11 R10
  go_wp2_with fail
  refine (ob_next R11.out 2).mono ?_; rintro e w12 ⟨rfl, r12, _⟩
  rw [oa10.1, oa10.2.1]; rw [oa10.2.2.1, oa10.2.2.2] at r12
  have R12 := Lib.hid r12
  clear r12 R11
  go_wp2_with fail
  refine (ob_base R12.out).mono ?_; rintro e w13 ⟨rfl, rfl⟩
  go_wp2_with fail
  refine (ob_len R12.out).mono ?_; rintro e w14 ⟨rfl, rfl⟩
  rw [oa12]
  go_wp2_with fail
  refine (ob_has R12.out 0 ⟨by decide, by decide⟩).mono ?_; rintro e w15 ⟨rfl, q, rfl⟩
  rw [oa11]
  go_wp2_with fail
  go_ret
  exact ⟨rfl, below_drawn_of R12.out.bel q⟩
end Go.Proofs.Ytifekpdjenfnbaa

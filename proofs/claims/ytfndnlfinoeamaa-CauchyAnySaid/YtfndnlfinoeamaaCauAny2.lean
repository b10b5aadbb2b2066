/- Proved: the walk of the law that any k unlike rows have an inverse, for every two bytes and every row of bytes. Conditions: those that the theorems name. -/
import Derived.Test.YtfndnlfinoeamaaCauAny
namespace Go.Proofs.Ytfndnlfinoeamaa
open Go.ChangeShapes Go.WideShapes Go.ChangeAt Go.RowKit

set_option maxRecDepth 100000 in
set_option maxHeartbeats 1600000 in
theorem any_early (A : Option Addr) (m c : Nat) (k n : Nat) (w : World) (hn : n ≤ 255) (hk : k ≤ 255) (h : ¬ (1 ≤ n ∧ 1 ≤ k ∧ k ≤ n ∧ k ≤ 12 ∧ m ≤ 60)) :
    Calls Try.prog 5 #[.int .u8 (k : Nat), .int .u8 (n : Nat), .slice A m c] w fun e w' => e = .returned (.bool true) ∧ Below w.heap.size w w' := by
  have key : (n : Int) < 1 ∨ ¬ (n : Int) < 1 ∧ (k : Int) < 1 ∨ ¬ (n : Int) < 1 ∧ ¬ (k : Int) < 1 ∧ (k : Int) > (n : Int) ∨ ¬ (n : Int) < 1 ∧ ¬ (k : Int) < 1 ∧ ¬ (k : Int) > (n : Int) ∧ (k : Int) > 12 ∨ ¬ (n : Int) < 1 ∧ ¬ (k : Int) < 1 ∧ ¬ (k : Int) > (n : Int) ∧ ¬ (k : Int) > 12 ∧ (m : Int) > 60 := by omega
  clear h
  have wn : wrap64 (n : Int) = n := IntWalk.wrap64_in _ (by omega)
  have wk : wrap64 (k : Int) = k := IntWalk.wrap64_in _ (by omega)
  rcases key with h1 | ⟨h1, h2⟩ | ⟨h1, h2, h3⟩ | ⟨h1, h2, h3, h4⟩ | ⟨h1, h2, h3, h4, h5⟩
  all_goals
    go_enter Try.func5, Try.ntmps5
    go_wp2_with fail
    refine (cawake_any _).mono ?_; rintro e w4 ⟨rfl, g4⟩
    have G4 := Lib.hid g4; clear g4
    go_wp2_with fail
    go_ret
    exact ⟨rfl, G4.out⟩

set_option maxRecDepth 100000 in
set_option maxHeartbeats 3200000 in
theorem any_main (A : Option Addr) (m c : Nat) (k n : Nat) (l : List Nat) (w : World) (hl : Bs w A m l) (hn : n ≤ 255) (h1 : 1 ≤ n) (h2 : 1 ≤ k) (h3 : k ≤ n) (h4 : k ≤ 12) (h5 : m ≤ 60) :
    Calls Try.prog 5 #[.int .u8 (k : Nat), .int .u8 (n : Nat), .slice A m c] w fun e w' => e = .returned (.bool true) ∧ Below w.heap.size w w' := by
  have HL := Lib.hid hl
  clear hl
  have wn : wrap64 (n : Int) = n := IntWalk.wrap64_in _ (by omega)
  have wk : wrap64 (k : Int) = k := IntWalk.wrap64_in _ (by omega)
  have e1 : ¬ (n : Int) < 1 := by omega
  have e2 : ¬ (k : Int) < 1 := by omega
  have e3 : ¬ (k : Int) > (n : Int) := by omega
  have e4 : ¬ (k : Int) > 12 := by omega
  have e5 : ¬ (m : Int) > 60 := by omega
  go_enter Try.func5, Try.ntmps5
  go_wp2_with fail
  go_loopw [8, 9] (fun v i wr => ∃ j : Nat, j ≤ m ∧ i = .int .i64 j ∧ ∃ (a : List Int) (q : Nat) (B : Option Addr) (d : Nat), v = .slice B q d ∧ q ≤ d ∧ (B = none → q = 0 ∧ d = 0) ∧ Is wr B q a ∧ Sel k n a ∧ Below w.heap.size w wr) (fun _ i _ => m - (intOf i).toNat)
  case atStart => exact ⟨0, by omega, rfl, [], 0, none, 0, rfl, Nat.le_refl _, fun _ => ⟨rfl, rfl⟩, Is.nil _ _, Sel.nil _ _, Below.refl _ _⟩
  case round =>
    obtain ⟨j, hj, rfl, a, q, B, d, rfl, hqd, hB, ha, hs, hbel⟩ := hrel
    have HA := Lib.hid ha
    have HS := Lib.hid hs
    have HW := Lib.hid hbel
    have HB := Lib.hid hB
    have hqk : q ≤ k := by rw [← ha.len]; exact hs.len
    clear ha hs hbel hB
    by_cases hgo : j < m ∧ q < k
    · obtain ⟨hlt, hqlt⟩ := hgo
      obtain ⟨ad, rfl, had, hac⟩ := HL.out.at_ hlt
      have hac' : wr.cell? (ad.add j) = some (.int .u8 (l.getD j 0 : Nat)) := (HW.out.cell (by rw [add_block]; omega)).trans hac
      have hx := HL.out.lt j
      clear hac
      generalize l.getD j 0 = x at *
      have hlt' : (j : Int) < (m : Int) := by omega
      have hqlt' : (q : Int) < (k : Int) := by omega
      have hj0 : (0 : Int) ≤ (j : Int) := Int.natCast_nonneg _
      have wx : wrap64 (x : Int) = x := IntWalk.wrap64_in _ (by omega)
      have hn0 : ¬ (n : Int) = 0 := by omega
      have hr : (x : Int).tmod (n : Int) = ((x % n : Nat) : Int) := by
        rw [Int.tmod_eq_emod_of_nonneg (Int.natCast_nonneg _)]; rfl
      have hy : x % n < n := Nat.mod_lt _ (by omega)
      generalize x % n = y at *
      have hw1 := fun W h => with_any B q d a (y : Nat) W h hqd (by omega) HB.out
      have HW1 := Lib.hid hw1
      have HSW := Lib.hid (HS.out.with (x := (y : Nat)) ⟨by omega, by omega⟩ (by rw [HA.out.len]; exact hqlt))
      have HSL := Lib.hid (withL_len a (y : Nat))
      generalize withL a (y : Nat) = a' at *
      clear hw1
      have NUM := Lib.hid (show (1 ≤ n ∧ 1 ≤ k ∧ k ≤ n ∧ k ≤ 12 ∧ m ≤ 60) ∧ j ≤ m ∧ j < m ∧ q ≤ k from ⟨⟨h1, h2, h3, h4, h5⟩, hj, hlt, hqk⟩)
      clear h1 h2 h3 h4 h5 hj hlt hqlt hqk hqd had hx
      go_wp2_with (go_at_call 15; refine (HW1.out _ HA.out).mono ?_; rintro e w2 ⟨B2, q2, d2, rfl, hd2, hB2, hi2, hw2⟩; have HI2 := Lib.hid hi2; have HB2 := Lib.hid hB2; have HD2 := Lib.hid hd2; have HW2 := Lib.hid (HW.out.trans (hw2.mono HW.out.size)); clear hi2 hB2 hw2 hd2)
      go_roundw
      case rel => exact ⟨j + 1, NUM.out.2.2.1, by go_num, a', q2, B2, d2, rfl, HD2.out, HB2.out, HI2.out, HSW.out, HW2.out⟩
      case measure => have := NUM.out.2.2.1; simp [intOf]; omega
    · have hend : (¬ (j : Int) < (m : Int)) ∨ ((j : Int) < (m : Int) ∧ ¬ (q : Int) < (k : Int)) := by omega
      clear hgo
      have NUM := Lib.hid (show (1 ≤ n ∧ 1 ≤ k ∧ k ≤ n ∧ k ≤ 12 ∧ m ≤ 60) ∧ q ≤ k from ⟨⟨h1, h2, h3, h4, h5⟩, hqk⟩)
      have HD := Lib.hid hqd
      clear h1 h2 h3 h4 h5 hqk hqd hj
      rcases hend with hx1 | ⟨hx1, hx2⟩
      all_goals
        go_wp2_with fail
        go_loopw [8, 10] (fun v i wr => ∃ j : Nat, j ≤ n ∧ i = .int .i64 j ∧ ∃ (a : List Int) (q : Nat) (B : Option Addr) (d : Nat), v = .slice B q d ∧ q ≤ d ∧ (B = none → q = 0 ∧ d = 0) ∧ Is wr B q a ∧ Sel k n a ∧ Has a j ∧ Below w.heap.size w wr) (fun _ i _ => n - (intOf i).toNat)
        case atStart => exact ⟨0, by omega, rfl, a, q, B, d, rfl, HD.out, HB.out, HA.out, HS.out, fun _ h => absurd h (by omega), HW.out⟩
        case round =>
          clear HA HS HW HB HD hx1
          try clear hx2
          obtain ⟨j2, hj2, rfl, a2, q2, B2, d2, rfl, hqd2, hB2, ha2, hs2, hh2, hbel2⟩ := hrel
          have HA2 := Lib.hid ha2
          have HS2 := Lib.hid hs2
          have HH2 := Lib.hid hh2
          have HW2 := Lib.hid hbel2
          have HB2 := Lib.hid hB2
          have HD2 := Lib.hid hqd2
          have hqk2 : q2 ≤ k := by rw [← ha2.len]; exact hs2.len
          clear ha2 hs2 hh2 hbel2 hB2 hqd2
          by_cases hgo2 : j2 < n ∧ q2 < k
          · obtain ⟨hlt2, hqlt2⟩ := hgo2
            have hlt' : (j2 : Int) < (n : Int) := by omega
            have hqlt' : (q2 : Int) < (k : Int) := by omega
            have hj0 : (0 : Int) ≤ (j2 : Int) := Int.natCast_nonneg _
            have HWI := Lib.hid (fun W h => with_any B2 q2 d2 a2 (j2 : Nat) W h HD2.out (by have := NUM.out; omega) HB2.out)
            have HSW := Lib.hid (HS2.out.with (x := (j2 : Nat)) ⟨by omega, by omega⟩ (by rw [HA2.out.len]; exact hqlt2))
            have HHW := Lib.hid HH2.out.with
            generalize withL a2 (j2 : Nat) = a' at *
            have NUM2 := Lib.hid hlt2
            clear hj2 hlt2 hqlt2 hqk2
            go_wp2_with (go_at_call 15; refine (HWI.out _ HA2.out).mono ?_; rintro e w3 ⟨B3, q3, d3, rfl, hd3, hB3, hi3, hw3⟩; have HI3 := Lib.hid hi3; have HB3 := Lib.hid hB3; have HD3 := Lib.hid hd3; have HW3 := Lib.hid (HW2.out.trans (hw3.mono HW2.out.size)); clear hi3 hB3 hw3 hd3)
            go_roundw
            case rel => exact ⟨j2 + 1, NUM2.out, by go_num, a', q3, B3, d3, rfl, HD3.out, HB3.out, HI3.out, HSW.out, HHW.out, HW3.out⟩
            case measure => have := NUM2.out; simp [intOf]; omega
          · have hlen : Hid (a2.length = k) := Lib.hid (by
              have h := HA2.out.len
              by_cases hjn : j2 < n
              · omega
              · have hle : n ≤ a2.length := Has.le (by rw [show n = j2 by omega]; exact HH2.out)
                have := NUM.out
                omega)
            have hq : q2 = k := HA2.out.len.symm.trans hlen.out
            subst hq
            have hend2 : (¬ (j2 : Int) < (n : Int)) ∨ ((j2 : Int) < (n : Int) ∧ ¬ (q2 : Int) < (q2 : Int)) := by omega
            have HE2 := Lib.hid (HS2.out.err NUM.out.1.2.1 NUM.out.1.2.2.1 hn hlen.out)
            have HP := Lib.hid (fun W h => pick_as B2 q2 d2 (q2 : Nat) (n : Nat) a2 (rowsC q2 a2) 0 (by rw [pRows_some HE2.out, Int.toNat_natCast]) HE2.out W h)
            clear hgo2 hqk2 hj2
            rcases hend2 with hy1 | ⟨hy1, hy2⟩
            all_goals
              go_wp2_with fail
              refine (HP.out _ HA2.out).mono ?_; rintro e w3 ⟨A3, n3, c3, rfl, hr3, hb3⟩
              have HR3 := Lib.hid hr3
              have HW3 := Lib.hid (HW2.out.trans (hb3.mono HW2.out.size))
              clear hr3 hb3
              go_wp2_with fail
              refine (invert_any A3 n3 c3 (rowsC q2 a2) _ HR3.out).mono ?_; rintro e w4 ⟨A4, c4, q4, z4, rfl, _, hi4, hb4⟩
              obtain ⟨rfl, hq4⟩ := HS2.out.inv NUM.out.1.2.1 (by have := NUM.out; omega) (by omega) hlen.out hi4
              rw [hq4]
              clear hi4 hq4
              have HW4 := Lib.hid (HW3.out.trans (hb4.mono HW3.out.size))
              clear hb4
              go_wp2_with fail
              refine (cawake_any _).mono ?_; rintro e w5 ⟨rfl, g5⟩
              have HW5 := Lib.hid (HW4.out.trans (g5.mono HW4.out.size)); clear g5
              go_wp2_with fail
              go_ret
              exact ⟨rfl, HW5.out⟩
end Go.Proofs.Ytfndnlfinoeamaa

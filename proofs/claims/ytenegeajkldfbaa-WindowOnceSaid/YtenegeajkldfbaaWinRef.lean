/- Proved: what the document's In and Same of windows answer. Conditions: those that the theorems name. -/
import Derived.Test.YtenegeajkldfbaaWinBase
namespace Go.Proofs.Ytenegeajkldfbaa
open Go.ChangeShapes Go.WideShapes Go.ChangeAt Go.RowKit

theorem getD_mem {l : List Int} {j : Nat} (h : j < l.length) : l.getD j 0 ∈ l := by
  rw [List.getD_eq_getElem?_getD, List.getElem?_eq_getElem h]
  exact List.getElem_mem h
theorem mem_getD {l : List Int} {x : Int} (h : x ∈ l) : ∃ j, j < l.length ∧ l.getD j 0 = x := by
  obtain ⟨j, hj, rfl⟩ := List.getElem_of_mem h
  exact ⟨j, hj, by rw [List.getD_eq_getElem?_getD, List.getElem?_eq_getElem hj]; rfl⟩
theorem not_in {l : List Int} {x : Int} {n : Nat} (hn : l.length = n) (h : ∀ p, p < n → l.getD p 0 ≠ x) : decide (x ∈ l) = false := by
  refine decide_eq_false fun hx => ?_
  obtain ⟨j, hj, e⟩ := mem_getD hx
  exact h j (by omega) e
set_option maxRecDepth 100000 in
set_option maxHeartbeats 800000 in
theorem rin_any (A : Option Addr) (n c : Nat) (l : List Int) (x : Int) (w : World) (hl : Uw w A n l) (hn : n ≤ 1000) :
    Calls Try.prog 14 #[.slice A n c, .int .u32 x] w fun e w' => e = .returned (.bool (decide (x ∈ l))) ∧ w = w' := by
  have HL := Lib.hid hl
  clear hl
  go_enter Try.func14, Try.ntmps14
  go_wp2_with fail
  go_loopw [5] (fun i wr => ∃ j : Nat, j ≤ n ∧ i = .int .i64 j ∧ (∀ p, p < j → l.getD p 0 ≠ x) ∧ wr = w) (fun i _ => n - (intOf i).toNat)
  case atStart => exact ⟨0, by omega, rfl, fun p hp => absurd hp (by omega), rfl⟩
  case round =>
    obtain ⟨j, hj, rfl, hne, rfl⟩ := hrel
    have HN := Lib.hid hne
    clear hne
    have hj0 : (0 : Int) ≤ (j : Int) := Int.natCast_nonneg _
    by_cases hlt : j < n
    · obtain ⟨ad, rfl, had, c0⟩ := HL.out.at_ hlt
      have hlt' : (j : Int) < (n : Int) := by omega
      have HM : Hid (l.getD j 0 ∈ l) := Lib.hid (getD_mem (by rw [HL.out.len]; exact hlt))
      have HX := Lib.hid (show l.getD j 0 = l.getD j 0 from rfl)
      generalize hy : l.getD j 0 = y at c0 HM HX
      have HY := Lib.hid hy
      clear hy HX
      by_cases e : y = x
      · subst e
        have HD := Lib.hid (decide_eq_true HM.out)
        go_wp2_with fail
        go_ret
        rw [HD.out]
        exact ⟨rfl, rfl⟩
      · have e2 : (y == x) = false := by simpa using e
        have HE := Lib.hid e
        clear e
        go_wp2_with fail
        go_roundw
        case rel =>
          refine ⟨j + 1, by omega, by go_num, fun p hp => ?_, trivial⟩
          rcases Nat.lt_or_ge p j with q | q
          · exact HN.out p q
          · obtain rfl : p = j := by omega
            rw [HY.out]; exact HE.out
        case measure => simp [intOf]; omega
    · obtain rfl : j = n := by omega
      have HD := Lib.hid (not_in HL.out.len HN.out)
      go_wp2_with fail
      go_ret
      rw [HD.out]
      exact ⟨rfl, rfl⟩
set_option maxRecDepth 100000 in
set_option maxHeartbeats 800000 in
theorem rsame15 (A B : Option Addr) (n c c' : Nat) (l : List Int) (w : World) (hl : Uw w A n l) (hr : Uw w B n l) (hn : n ≤ 1000) :
    Calls Try.prog 15 #[.slice A n c, .slice B n c'] w fun e w' => e = .returned (.bool true) ∧ Below w.heap.size w w' := by
  have HL := Lib.hid hl
  have HR := Lib.hid hr
  clear hl hr
  go_enter Try.func15, Try.ntmps15
  go_wp2_with fail
  go_loopw [5] (fun i wr => ∃ j : Nat, j ≤ n ∧ i = .int .i64 j ∧ Below w.heap.size w wr) (fun i _ => n - (intOf i).toNat)
  case atStart => exact ⟨0, by omega, rfl, Below.refl _ _⟩
  case round =>
    obtain ⟨j, hj, rfl, hbel⟩ := hrel
    have HB := Lib.hid hbel
    have HT := Lib.hid (HL.out.below hbel)
    have HU := Lib.hid (HR.out.below hbel)
    clear hbel
    have hj0 : (0 : Int) ≤ (j : Int) := Int.natCast_nonneg _
    by_cases hlt : j < n
    · obtain ⟨ad, rfl, had, c0⟩ := HT.out.at_ hlt
      obtain ⟨bd, rfl, hbd, d0⟩ := HU.out.at_ hlt
      have hlt' : (j : Int) < (n : Int) := by omega
      generalize l.getD j 0 = x at c0 d0
      go_wp2_with fail
      go_quiet (fail)
      go_wp2_with fail
      go_roundw
      case rel => exact ⟨j + 1, by omega, by go_num, HB.out.grown (grown_drewN wr nq none) HB.out.size (by simp)⟩
      case measure => simp [intOf]; omega
    · have hlt' : ¬ (j : Int) < (n : Int) := by omega
      go_wp2_with fail
      go_ret
      exact ⟨rfl, HB.out⟩
end Go.Proofs.Ytenegeajkldfbaa

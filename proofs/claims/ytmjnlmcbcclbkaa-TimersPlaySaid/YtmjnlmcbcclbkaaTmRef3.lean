/- Proved: what the document's Due and Same of timers answer. Conditions: those that the theorems name. -/
import Derived.Test.YtmjnlmcbcclbkaaTmRef2
namespace Go.Proofs.Ytmjnlmcbcclbkaa
open Go.ChangeShapes Go.WideShapes Go.ChangeAt Go.RowKit

theorem rset_any (A : Option Addr) (n c : Nat) (l : List Tm) (k : Ky) (z : Int) (w : World) (hl : Ts w A n l) (hc : n ≤ c) (hn : n ≤ 99) :
    Calls Try.prog 16 #[.slice A n c, kyV k, .int .i64 z] w (Gives13 w (setT l k z) (setTE z)) := by
  by_cases h : BadAt z
  · exact rset_bad A n c l k z w hl hc h
  · exact rset_good A n c l k z w hl hn h

/-! ### Due -/
set_option maxRecDepth 100000 in
set_option maxHeartbeats 1600000 in
theorem rdue_any (A : Option Addr) (n c : Nat) (l : List Tm) (z : Int) (w : World) (hl : Ts w A n l) (hc : n ≤ c) (hn : n ≤ 1000) :
    Calls Try.prog 18 #[.slice A n c, .int .i64 z] w fun e w' => ∃ j A2, e = .returned (.tuple #[.slice A j c, .slice A2 (n - j) (c - j)]) ∧ Ts w' A j (dueT l z) ∧ Ts w' A2 (n - j) (stayT l z) ∧ n - j ≤ c - j ∧ Below w.heap.size w w' := by
  have HL := Lib.hid hl
  have HC := Lib.hid hc
  clear hl hc
  go_enter Try.func18, Try.ntmps18
  go_wp2_with fail
  go_loopw [6] (fun i wr => ∃ j : Nat, j ≤ n ∧ i = .int .i64 j ∧ (∀ q, q < j → decide ((tm_ l q).2 ≤ z) = true) ∧ Below w.heap.size w wr) (fun i _ => n - (intOf i).toNat)
  case atStart => exact ⟨0, by omega, rfl, fun q hq => absurd hq (by omega), Below.refl _ _⟩
  case round =>
    obtain ⟨j, hj, rfl, hls, hbel⟩ := hrel
    have HS := Lib.hid hls
    have HB := Lib.hid hbel
    have HT := Lib.hid (HL.out.below HB.out)
    clear hls hbel
    have hj0 : (0 : Int) ≤ (j : Int) := Int.natCast_nonneg _
    have hj' : j ≤ c := Nat.le_trans hj HC.out
    by_cases hlt : j < n
    · obtain ⟨ad, rfl, had, c0, c1, c3⟩ := HT.out.at_ hlt
      have hlt' : (j : Int) < (n : Int) := by omega
      have HX := Lib.hid (show tm_ l j = tm_ l j from rfl)
      generalize hx : tm_ l j = x at c0 c1 c3 HX
      have HXX := Lib.hid hx
      clear hx HX
      obtain ⟨⟨x0, x1⟩, x2⟩ := x
      dsimp only at c0 c1 c3
      by_cases hls : x2 ≤ z
      · have HLL := Lib.hid (show decide (x2 ≤ z) = true from decide_eq_true hls)
        clear c0 c1
        go_wp2_with fail
        go_roundw
        case rel =>
          refine ⟨j + 1, by omega, by go_num, fun q hq => ?_, HB.out⟩
          rcases Nat.lt_or_ge q j with h | h
          · exact HS.out q h
          · obtain rfl : q = j := by omega
            rw [HXX.out]; exact HLL.out
        case measure => simp [intOf]; omega
      · have HDn : Hid (l.takeWhile (fun y => decide (y.2 ≤ z)) = l.take j ∧ l.dropWhile (fun y => decide (y.2 ≤ z)) = l.drop j) := Lib.hid (take_is (by rw [HL.out.len]; exact hj) HS.out fun _ => by rw [HXX.out]; simpa using hls)
        have hh := tm_head_run (some ad) n c j hj'
        have hr := tm_rest_run (some ad) n c j hj
        clear c0 c1
        go_wp2_with fail
        go_quiet (fail)
        go_wp2_with fail
        go_ret2
        have hb := below_grown (grown_drewN wr nq none) (Nat.le_refl wr.heap.size) (by simp)
        have ht := HT.out.below hb
        refine ⟨j, _, rfl, ?_, ?_, by have := HC.out; omega, HB.out.grown (grown_drewN wr nq none) HB.out.size (by simp)⟩
        · rw [dueT, HDn.out.1]; exact ht.cut hj
        · rw [stayT, HDn.out.2]; exact ht.rest HC.out hj
    · have hlt' : ¬ (j : Int) < (n : Int) := by omega
      have HDn : Hid (l.takeWhile (fun y => decide (y.2 ≤ z)) = l.take j ∧ l.dropWhile (fun y => decide (y.2 ≤ z)) = l.drop j) := Lib.hid (take_is (by rw [HL.out.len]; exact hj) HS.out fun h => absurd h (by rw [HL.out.len]; exact hlt))
      have hh := tm_head_run A n c j hj'
      have hr := tm_rest_run A n c j hj
      go_wp2_with fail
      go_quiet (fail)
      go_wp2_with fail
      go_ret2
      have hb := below_grown (grown_drewN wr nq none) (Nat.le_refl wr.heap.size) (by simp)
      have ht := HT.out.below hb
      refine ⟨j, _, rfl, ?_, ?_, by have := HC.out; omega, HB.out.grown (grown_drewN wr nq none) HB.out.size (by simp)⟩
      · rw [dueT, HDn.out.1]; exact ht.cut hj
      · rw [stayT, HDn.out.2]; exact ht.rest HC.out hj

/-! ### Same -/
set_option maxRecDepth 100000 in
set_option maxHeartbeats 1600000 in
theorem rsame13 (A B : Option Addr) (n c c' : Nat) (l : List Tm) (w : World) (hl : Ts w A n l) (hr : Ts w B n l) (hn : n ≤ 1000) :
    Calls Try.prog 19 #[.slice A n c, .slice B n c'] w fun e w' => e = .returned (.bool true) ∧ Below w.heap.size w w' := by
  have HL := Lib.hid hl
  have HR := Lib.hid hr
  have HE := Lib.hid (fun (x : Tm) W => neq_tm x x W)
  clear hl hr
  go_enter Try.func19, Try.ntmps19
  go_wp2_with fail
  go_loopw [5] (fun i wr => ∃ j : Nat, j ≤ n ∧ i = .int .i64 j ∧ Below w.heap.size w wr) (fun i _ => n - (intOf i).toNat)
  case atStart => exact ⟨0, by omega, rfl, Below.refl _ _⟩
  case round =>
    obtain ⟨j, hj, rfl, hbel⟩ := hrel
    have HB := Lib.hid hbel
    have HT := Lib.hid (HL.out.below hbel)
    have HU := Lib.hid (HR.out.below hbel)
    clear hbel
    have hj0 : (0 : Int) ≤ (j : Int) := Int.natCast_nonneg _
    by_cases hlt : j < n
    · obtain ⟨ad, rfl, had, c0, c1, c3⟩ := HT.out.at_ hlt
      obtain ⟨bd, rfl, hbd, d0, d1, d3⟩ := HU.out.at_ hlt
      have hlt' : (j : Int) < (n : Int) := by omega
      generalize tm_ l j = x at c0 c1 c3 d0 d1 d3
      have he := fun W => HE.out x W
      simp only [decide_true, Bool.not_true] at he
      obtain ⟨⟨x0, x1⟩, x2⟩ := x
      dsimp only at c0 c1 c3 d0 d1 d3 he
      go_wp2_with fail
      go_quiet (fail)
      go_wp2_with fail
      go_roundw
      case rel => exact ⟨j + 1, by omega, by go_num, HB.out.grown (grown_drewN wr nq none) HB.out.size (by simp)⟩
      case measure => simp [intOf]; omega
    · have hlt' : ¬ (j : Int) < (n : Int) := by omega
      go_wp2_with fail
      go_ret
      exact ⟨rfl, HB.out⟩
end Go.Proofs.Ytmjnlmcbcclbkaa

/- Proved: the walks of the three laws of package cut, for all their arguments. Conditions: those that the theorems name. -/
import Derived.Test.YtddgnheahphikaaDoorCutAwake
namespace Go.Proofs.YtddgnheahphikaaDoor
open Go.ChangeShapes Go.WideShapes Go.ChangeAt Go.RowKit

theorem cOut_len (s : ByteArray) (k : Int) : (cOut s k).length ≤ 140737488355328 := by
  unfold cOut
  split
  · rename_i h
    rw [mkS_len]
    unfold cErrZ at h
    split at h
    · omega
    · omega
  · exact (by decide : 0 ≤ 140737488355328)
set_option maxRecDepth 100000 in
set_option maxHeartbeats 1600000 in
theorem cuts_walk (s : ByteArray) (k n : Int) (w : World) (hs : s.size ≤ maxLen) (wn : (Lit.int .i64 n).wf = true) :
    Calls Tryd.prog 3 #[.string s, .int .i64 k, .int .i64 n] w fun e w' => e = .returned (.bool true) ∧ Below w.heap.size w w' := by
  by_cases h : (s.size : Int) > 40000
  · go_enter Tryd.func3, Tryd.ntmps3
    go_wp2_with fail
    refine (wawake_any _).mono ?_; rintro e w1 ⟨rfl, g1⟩
    go_wp2_with fail
    go_ret
    exact ⟨rfl, g1⟩
  · have h' : (s.size : Int) ≤ 40000 := by omega
    have HS := Lib.hid hs
    have HW := Lib.hid wn
    have HO := Lib.hid (cOut_len s k)
    clear hs wn h
    go_enter Tryd.func3, Tryd.ntmps3
    go_wp2_with fail
    refine (cut_any s k _ HS.out).mono ?_; rintro e w1 ⟨A1, n1, c1, rfl, h1, g1⟩
    have H1 := Lib.hid h1; have G1 := Lib.hid g1
    clear h1 g1
    go_wp2_with fail
    refine (rcut_any s k _ HS.out).mono ?_; rintro e w2 ⟨A2, n2, c2, rfl, h2, g2⟩
    obtain rfl : n1 = n2 := H1.out.len.symm.trans h2.len
    have H2 := Lib.hid h2; have F1 := Lib.hid (H1.out.below g2); have G2 := Lib.hid (G1.out.trans (g2.mono G1.out.size))
    have HN := Lib.hid (show n1 ≤ 140737488355328 by rw [← h2.len]; exact HO.out)
    clear h2 g2 H1 G1
    generalize cOut s k = o at *
    generalize cErrZ s.size k = z at *
    go_wp2_with fail
    refine (texts_yes A1 A2 n1 c1 c2 o _ F1.out H2.out HN.out).mono ?_; rintro e w3 ⟨rfl, q3⟩
    have G3 := Lib.hid (G2.out.trans ((two_drawn (B := w2.heap.size) q3).mono G2.out.size))
    clear q3 F1 H2 G2 HN
    go_wp2_with fail
    refine (size_any n k _ HW.out).mono ?_; rintro e w4 ⟨rfl, rfl⟩
    go_wp2_with fail
    refine (rsize_any n k _ HW.out).mono ?_; rintro e w5 ⟨rfl, rfl⟩
    generalize sizeZ n k = y at *
    go_wp2_with fail
    refine (wawake_any _).mono ?_; rintro e w6 ⟨rfl, g6⟩
    have G6 := Lib.hid (G3.out.trans (g6.mono G3.out.size))
    clear g6 G3
    go_wp2_with fail
    go_ret
    exact ⟨rfl, G6.out⟩

set_option maxRecDepth 100000 in
set_option maxHeartbeats 1600000 in
theorem joins_walk (A : Option Addr) (m c : Nat) (l : List ByteArray) (n : Int) (w : World) (hl : Ss w A m l) :
    Calls Tryd.prog 4 #[.slice A m c, .int .i64 n] w fun e w' => e = .returned (.bool true) ∧ Below w.heap.size w w' := by
  by_cases h : (m : Int) > 40
  · go_enter Tryd.func4, Tryd.ntmps4
    go_wp2_with fail
    refine (wawake_any _).mono ?_; rintro e w1 ⟨rfl, g1⟩
    go_wp2_with fail
    go_ret
    exact ⟨rfl, g1⟩
  · have h' : (m : Int) ≤ 40 := by omega
    have HL := Lib.hid hl
    have HM := Lib.hid (show m ≤ 40 by omega)
    clear hl h
    go_enter Tryd.func4, Tryd.ntmps4
    go_wp2_with fail
    go_loop [5] (fun v => ∃ q : Nat, q ≤ m ∧ v = .int .i64 q ∧ ∀ j, j < q → (st_ l j).size ≤ 200) (fun v => m - (intOf v).toNat)
    case atStart => exact ⟨0, by omega, rfl, fun j hj => absurd hj (by omega)⟩
    case round =>
      obtain ⟨q, hq, rfl, hs⟩ := hrel
      have HS := Lib.hid hs
      clear hs
      by_cases hlt : q < m
      · obtain ⟨ad, rfl, _, hc⟩ := HL.out.at_ hlt
        have hlt' : (q : Int) < (m : Int) := by omega
        have hq0 : (0 : Int) ≤ (q : Int) := Int.natCast_nonneg _
        have HSn := Lib.hid (fun (g : (st_ l q).size ≤ 200) j (hj : j < q + 1) => show (st_ l j).size ≤ 200 by
          rcases Nat.lt_or_ge j q with h1 | h1
          · exact HS.out j h1
          · rw [show j = q by omega]; exact g)
        generalize st_ l q = t at *
        by_cases hk : (t.size : Int) > 200
        · go_wp2_with fail
          refine (wawake_any _).mono ?_; rintro e w1 ⟨rfl, g1⟩
          go_wp2_with fail
          go_ret
          exact ⟨rfl, g1⟩
        · have hk' : (t.size : Int) ≤ 200 := by omega
          have hk2 := Lib.hid (HSn.out (by omega))
          go_wp2_with fail
          go_round
          case rel => exact ⟨q + 1, by omega, by go_num, hk2.out⟩
          case measure => simp [intOf]; omega
      · obtain rfl : q = m := by omega
        go_wp2_with fail
        refine (join_any A q c l n _ HL.out HM.out (fun j hj => Nat.le_trans (HS.out j hj) (by decide))).mono ?_; rintro e w1 ⟨rfl, g1⟩
        have HL1 := Lib.hid (HL.out.below g1); have G1 := Lib.hid g1
        clear g1
        go_wp2_with fail
        refine (rjoin_any A q c l n _ HL1.out HM.out (fun j hj => Nat.le_trans (HS.out j hj) (by decide))).mono ?_; rintro e w2 ⟨rfl, g2⟩
        have G2 := Lib.hid (G1.out.trans (g2.mono G1.out.size))
        clear g2 HL1 G1
        generalize jOut l n = t at *
        generalize jErr l n = z at *
        go_wp2_with fail
        refine (wawake_any _).mono ?_; rintro e w3 ⟨rfl, g3⟩
        have G3 := Lib.hid (G2.out.trans (g3.mono G2.out.size))
        clear g3 G2
        go_wp2_with fail
        go_ret
        exact ⟨rfl, G3.out⟩
end Go.Proofs.YtddgnheahphikaaDoor

/- Proved: the walks of the laws on the table's rows, for every three ints and every slice of ints. Conditions: those that the theorems name. -/
import Derived.Test.YtfndnlfinoeamaaCauAwake
namespace Go.Proofs.Ytfndnlfinoeamaa
open Go.ChangeShapes Go.WideShapes Go.ChangeAt Go.RowKit

theorem cRow_len (k n i : Int) : (cRow k n i).length ≤ 255 := by
  unfold cRow
  split
  · rename_i h
    have := cErr_zero h
    rw [rowC_len]; omega
  · exact Nat.zero_le _
theorem rw_le (t : List (List Nat)) (m : Nat) (h : ∀ r, r < t.length → (rw_ t r).length ≤ m) : ∀ r, (rw_ t r).length ≤ m := fun r => by
  rcases Nat.lt_or_ge r t.length with hr | hr
  · exact h r hr
  · rw [rw_past t r hr]; exact Nat.zero_le _
theorem rowsC_row (k : Nat) (l : List Int) : ∀ r, (rw_ (rowsC k l) r).length ≤ k := rw_le _ _ fun r hr => by
  rw [rowsC_len] at hr
  rw [rowsC_at k l hr, rowC_len]
  exact Nat.le_refl _
theorem pRows_row (k n : Int) (l : List Int) : ∀ r, (rw_ (pRows k n l) r).length ≤ 140737488355328 := by
  unfold pRows
  split
  · rename_i h
    intro r
    by_cases h0 : 1 ≤ l.length ∧ l.length ≤ 255
    · rw [pErr_len h0] at h
      have h1 := fErr_zero h 0 (by omega)
      have h2 := cErr_zero h1
      have := rowsC_row k.toNat l r
      omega
    · rw [pErr_no h0] at h; exact absurd h (by decide)
  · intro r; rw [rw_past [] r (Nat.zero_le _)]; exact Nat.zero_le _
theorem pRows_len (k n : Int) (l : List Int) : (pRows k n l).length ≤ 255 := by
  unfold pRows
  split
  · rename_i h
    by_cases h0 : 1 ≤ l.length ∧ l.length ≤ 255
    · rw [rowsC_len]; exact h0.2
    · rw [pErr_no h0] at h; exact absurd h (by decide)
  · exact Nat.zero_le _
theorem aRows_len (k n : Int) : (aRows k n).length ≤ 255 := by
  unfold aRows
  split
  · exact Nat.zero_le _
  · rename_i h; unfold NoTab at h; rw [rowsC_len, upL_len]; omega
theorem aRows_row (k n : Int) : ∀ r, (rw_ (aRows k n) r).length ≤ 140737488355328 := by
  unfold aRows
  split
  · intro r; rw [rw_past [] r (Nat.zero_le _)]; exact Nat.zero_le _
  · rename_i h; unfold NoTab at h; intro r; have := rowsC_row k.toNat (upL n.toNat) r; omega

set_option maxRecDepth 100000 in
set_option maxHeartbeats 1600000 in
theorem cauchyAll_walk (k n : Int) (w : World) :
    Calls Try.prog 4 #[.int .i64 k, .int .i64 n] w fun e w' => e = .returned (.bool true) ∧ Below w.heap.size w w' := by
  have HA := fun w => rows_any k n w
  have HB := fun w => rrows_any k n w
  have HL := Lib.hid (aRows_len k n)
  have HR := Lib.hid (aRows_row k n)
  generalize aRows k n = t at *
  generalize aErr k n = z at *
  have HA' := Lib.hid HA
  have HB' := Lib.hid HB
  clear HA HB
  go_enter Try.func4, Try.ntmps4
  go_wp2_with fail
  refine (HA'.out _).mono ?_; rintro e w1 ⟨A1, n1, c1, rfl, h1, g1⟩
  obtain rfl : t.length = n1 := h1.len
  have H1 := Lib.hid h1; have G1 := Lib.hid g1
  clear h1 g1
  go_wp2_with fail
  refine (HB'.out _).mono ?_; rintro e w2 ⟨A2, n2, c2, rfl, h2, g2⟩
  obtain rfl : t.length = n2 := h2.len
  have H2 := Lib.hid h2; have F1 := Lib.hid (H1.out.below g2); have G2 := Lib.hid (G1.out.trans (g2.mono G1.out.size))
  clear h2 g2 H1 G1
  go_wp2_with fail
  refine (rsame_any A1 A2 t.length c1 c2 t _ F1.out H2.out (by have := HL.out; omega) HR.out).mono ?_; rintro e w3 ⟨rfl, q3⟩
  have G3 := Lib.hid (G2.out.trans ((below_drawn (B := w2.heap.size) q3).mono G2.out.size)); clear q3
  go_wp2_with fail
  refine (cawake_any _).mono ?_; rintro e w4 ⟨rfl, g4⟩
  have G4 := Lib.hid (G3.out.trans (g4.mono G3.out.size)); clear g4
  go_wp2_with fail
  go_ret
  exact ⟨rfl, G4.out⟩

set_option maxRecDepth 100000 in
set_option maxHeartbeats 1600000 in
theorem cauchyRows_many (A : Option Addr) (m c : Nat) (k n : Int) (w : World) (hm : ¬ m ≤ 300) :
    Calls Try.prog 3 #[.int .i64 k, .int .i64 n, .slice A m c] w fun e w' => e = .returned (.bool true) ∧ Below w.heap.size w w' := by
  have hm' : (m : Int) > 300 := by omega
  clear hm
  go_enter Try.func3, Try.ntmps3
  go_wp2_with fail
  refine (cawake_any _).mono ?_; rintro e w4 ⟨rfl, g4⟩
  have G4 := Lib.hid g4; clear g4
  go_wp2_with fail
  go_ret
  exact ⟨rfl, G4.out⟩

set_option maxRecDepth 100000 in
set_option maxHeartbeats 3200000 in
theorem cauchyRows_few (A : Option Addr) (m c : Nat) (k n : Int) (l : List Int) (w : World) (hl : Is w A m l) (hm : m ≤ 300) :
    Calls Try.prog 3 #[.int .i64 k, .int .i64 n, .slice A m c] w fun e w' => e = .returned (.bool true) ∧ Below w.heap.size w w' := by
  have HX := Lib.hid hl
  have hm' : ¬ (m : Int) > 300 := by omega
  clear hl hm
  have HP := fun w h => pick_any A m c k n l w h
  have HQ := fun w h => rpick_any A m c k n l w h
  have HPL := Lib.hid (pRows_len k n l)
  have HPR := Lib.hid (pRows_row k n l)
  generalize pRows k n l = t at *
  generalize pErr k n l = z at *
  have HP' := Lib.hid HP
  have HQ' := Lib.hid HQ
  clear HP HQ
  have key : ∀ i : Int, Hid ((∀ w, Calls Try.prog 7 #[.int .i64 k, .int .i64 n, .int .i64 i] w (GivesE w (cRow k n i) (cErr k n i))) ∧ (∀ w, Calls Try.prog 8 #[.int .i64 k, .int .i64 n, .int .i64 i] w (GivesE w (cRow k n i) (cErr k n i))) ∧ (cRow k n i).length ≤ 255) :=
    fun i => Lib.hid ⟨fun w => row_any k n i w, fun w => (rrow_any k n i w).mono fun _ _ h => h.e, cRow_len k n i⟩
  by_cases h0 : m = 0
  · subst h0
    have HK := key 0
    clear key
    generalize cRow k n 0 = r at *
    generalize cErr k n 0 = y at *
    go_enter Try.func3, Try.ntmps3
    go_wp2_with fail
    refine (HK.out.1 _).mono ?_; rintro e w1 ⟨A1, n1, c1, rfl, _, h1, g1⟩
    obtain rfl : r.length = n1 := h1.len
    have H1 := Lib.hid h1; have G1 := Lib.hid g1
    clear h1 g1
    go_wp2_with fail
    refine (HK.out.2.1 _).mono ?_; rintro e w2 ⟨A2, n2, c2, rfl, _, h2, g2⟩
    obtain rfl : r.length = n2 := h2.len
    have H2 := Lib.hid h2; have F2 := Lib.hid (H1.out.below g2); have G2 := Lib.hid (G1.out.trans (g2.mono G1.out.size))
    clear h2 g2 H1 G1
    go_wp2_with fail
    refine (HP'.out _ (HX.out.below G2.out)).mono ?_; rintro e w3 ⟨A3, n3, c3, rfl, h3, g3⟩
    obtain rfl : t.length = n3 := h3.len
    have H3 := Lib.hid h3; have E3 := Lib.hid (F2.out.below g3); have F3 := Lib.hid (H2.out.below g3); have G3 := Lib.hid (G2.out.trans (g3.mono G2.out.size))
    clear h3 g3 H2 F2 G2
    go_wp2_with fail
    refine (HQ'.out _ (HX.out.below G3.out)).mono ?_; rintro e w4 ⟨A4, n4, c4, rfl, h4, g4⟩
    obtain rfl : t.length = n4 := h4.len
    have H4 := Lib.hid h4; have D4 := Lib.hid (H3.out.below g4); have E4 := Lib.hid (E3.out.below g4); have F4 := Lib.hid (F3.out.below g4); have G4 := Lib.hid (G3.out.trans (g4.mono G3.out.size))
    clear h4 g4 H3 E3 F3 G3
    go_wp2_with fail
    refine (same_yes A1 A2 r.length c1 c2 r _ E4.out F4.out (by have := HK.out.2.2; omega)).mono ?_; rintro e w5 ⟨rfl, g5⟩
    have H5 := Lib.hid (H4.out.below g5); have D5 := Lib.hid (D4.out.below g5); have G5 := Lib.hid (G4.out.trans (g5.mono G4.out.size))
    clear g5 H4 D4 E4 F4 G4
    go_wp2_with fail
    refine (rsame_any A3 A4 t.length c3 c4 t _ D5.out H5.out (by have := HPL.out; omega) HPR.out).mono ?_; rintro e w6 ⟨rfl, q6⟩
    have G6 := Lib.hid (G5.out.trans ((below_drawn (B := w5.heap.size) q6).mono G5.out.size)); clear q6 D5 H5 G5
    go_wp2_with fail
    refine (cawake_any _).mono ?_; rintro e w7 ⟨rfl, g7⟩
    have G7 := Lib.hid (G6.out.trans (g7.mono G6.out.size)); clear g7
    go_wp2_with fail
    go_ret
    exact ⟨rfl, G7.out⟩
  · obtain ⟨ad, rfl, had, hac⟩ := HX.out.at_ (k := 0) (by omega)
    rw [Addr.add_zero' ad] at hac
    have hpos : (m : Int) > 0 := by omega
    have HK := key (l.getD 0 0)
    clear key h0
    generalize l.getD 0 0 = i at *
    generalize cRow k n i = r at *
    generalize cErr k n i = y at *
    go_enter Try.func3, Try.ntmps3
    go_wp2_with fail
    refine (HK.out.1 _).mono ?_; rintro e w1 ⟨A1, n1, c1, rfl, _, h1, g1⟩
    obtain rfl : r.length = n1 := h1.len
    have H1 := Lib.hid h1; have G1 := Lib.hid g1
    clear h1 g1
    go_wp2_with fail
    refine (HK.out.2.1 _).mono ?_; rintro e w2 ⟨A2, n2, c2, rfl, _, h2, g2⟩
    obtain rfl : r.length = n2 := h2.len
    have H2 := Lib.hid h2; have F2 := Lib.hid (H1.out.below g2); have G2 := Lib.hid (G1.out.trans (g2.mono G1.out.size))
    clear h2 g2 H1 G1
    go_wp2_with fail
    refine (HP'.out _ (HX.out.below G2.out)).mono ?_; rintro e w3 ⟨A3, n3, c3, rfl, h3, g3⟩
    obtain rfl : t.length = n3 := h3.len
    have H3 := Lib.hid h3; have E3 := Lib.hid (F2.out.below g3); have F3 := Lib.hid (H2.out.below g3); have G3 := Lib.hid (G2.out.trans (g3.mono G2.out.size))
    clear h3 g3 H2 F2 G2
    go_wp2_with fail
    refine (HQ'.out _ (HX.out.below G3.out)).mono ?_; rintro e w4 ⟨A4, n4, c4, rfl, h4, g4⟩
    obtain rfl : t.length = n4 := h4.len
    have H4 := Lib.hid h4; have D4 := Lib.hid (H3.out.below g4); have E4 := Lib.hid (E3.out.below g4); have F4 := Lib.hid (F3.out.below g4); have G4 := Lib.hid (G3.out.trans (g4.mono G3.out.size))
    clear h4 g4 H3 E3 F3 G3
    go_wp2_with fail
    refine (same_yes A1 A2 r.length c1 c2 r _ E4.out F4.out (by have := HK.out.2.2; omega)).mono ?_; rintro e w5 ⟨rfl, g5⟩
    have H5 := Lib.hid (H4.out.below g5); have D5 := Lib.hid (D4.out.below g5); have G5 := Lib.hid (G4.out.trans (g5.mono G4.out.size))
    clear g5 H4 D4 E4 F4 G4
    go_wp2_with fail
    refine (rsame_any A3 A4 t.length c3 c4 t _ D5.out H5.out (by have := HPL.out; omega) HPR.out).mono ?_; rintro e w6 ⟨rfl, q6⟩
    have G6 := Lib.hid (G5.out.trans ((below_drawn (B := w5.heap.size) q6).mono G5.out.size)); clear q6 D5 H5 G5
    go_wp2_with fail
    refine (cawake_any _).mono ?_; rintro e w7 ⟨rfl, g7⟩
    have G7 := Lib.hid (G6.out.trans (g7.mono G6.out.size)); clear g7
    go_wp2_with fail
    go_ret
    exact ⟨rfl, G7.out⟩
theorem cauchyRows_walk (A : Option Addr) (m c : Nat) (k n : Int) (l : List Int) (w : World) (hl : Is w A m l) :
    Calls Try.prog 3 #[.int .i64 k, .int .i64 n, .slice A m c] w fun e w' => e = .returned (.bool true) ∧ Below w.heap.size w w' := by
  by_cases hm : m ≤ 300
  · exact cauchyRows_few A m c k n l w hl hm
  · exact cauchyRows_many A m c k n w hm
end Go.Proofs.Ytfndnlfinoeamaa

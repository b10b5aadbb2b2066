/- Proved: the law DatagramBit, for whatever datagram and place. Conditions: those that the theorem names. -/
import Derived.Test.YtekolkbahhbcjaaDgAwake
namespace Go.Proofs.Ytekolkbahhbcjaa
open Go.ChangeShapes Go.WideShapes Go.ChangeAt Go.RowKit

set_option maxRecDepth 100000 in
set_option maxHeartbeats 3200000 in
theorem dbit_yes (d c : Dg) (A T : ByteArray) (n j r x y : Nat) (w : World) (hn : n < 8 * A.size) (hA : A.size ≤ 6000) (hj : j = n / 8) (hr : r = n % 8)
    (HF : Hid (∀ w, Calls Try.prog 7 #[d.val] w fun e w' => e = .returned (.bool true) ∧ Below w.heap.size w w'))
    (H1 : Hid (∀ w, Calls Try.prog 9 #[d.val] w (GivesSE9 w A 0)))
    (H2 : Hid (∀ w, Calls Try.prog 14 #[.string T] w (GivesDZ w c 6)))
    (hx : (bts A).getD j 0 = x) (hxy : bits BinOp.xor IntKind.u8 (x : Int) ((2 : Int) ^ r % 256) = (y : Int)) (hy : y < 256) (hT : tx ((bts A).set j y) = T) :
    Calls Try.prog 6 #[d.val, .int .i64 n] w fun e w' => e = .returned (.bool true) ∧ Below w.heap.size w w' := by
  have h0 : (0 : Int) ≤ (n : Int) := Int.natCast_nonneg _
  have h1 : (n : Int) < 8 * (A.size : Int) := by omega
  have h2 : (A.size : Int) ≤ 6000 := by omega
  have h3 : decide ((n : Int) < 0) = false := decide_eq_false (by omega)
  have h4 : decide (8 * (A.size : Int) ≤ (n : Int)) = false := decide_eq_false (by omega)
  have hjl := Lib.hid (show j < A.size by omega)
  clear hn hA
  obtain ⟨a0, a1, a2, a3, a4, a5, a6, a7, a8, a9⟩ := d
  unfold Dg.val at *
  obtain ⟨c0, c1, c2, c3, c4, c5, c6, c7, c8, c9⟩ := c
  unfold GivesDZ at H2
  unfold Dg.val at H2
  simp only at HF H1 H2 ⊢
  go_enter Try.func6, Try.ntmps6
  go_wp2_with fail
  refine (HF.out _).mono ?_; rintro e w1 ⟨rfl, g1⟩
  have B1 : Hid (Below w.heap.size w w1) := Lib.hid (((Below.refl _ _).alloc (Nat.le_refl _) _).trans (g1.mono (by simp)))
  have D1 := Lib.hid ((At.new w 24 [.int .i64 a0, .int .i64 a1, .int .u32 (a2 : Nat), .int .i64 a3, .int .i64 a4, .int .i64 a5, .int .i64 a6, .int .i64 a7, .string a8, .string a9]).below g1 (by simp))
  clear g1
  obtain ⟨k0, k1, k2, k3, k4, k5, k6, k7, k8, k9⟩ : w1.cell? ⟨w.heap.size, 0, none⟩ = some (.int .i64 a0) ∧ w1.cell? ⟨w.heap.size, 1, none⟩ = some (.int .i64 a1) ∧ w1.cell? ⟨w.heap.size, 2, none⟩ = some (.int .u32 (a2 : Nat)) ∧ w1.cell? ⟨w.heap.size, 3, none⟩ = some (.int .i64 a3) ∧ w1.cell? ⟨w.heap.size, 4, none⟩ = some (.int .i64 a4) ∧ w1.cell? ⟨w.heap.size, 5, none⟩ = some (.int .i64 a5) ∧ w1.cell? ⟨w.heap.size, 6, none⟩ = some (.int .i64 a6) ∧ w1.cell? ⟨w.heap.size, 7, none⟩ = some (.int .i64 a7) ∧ w1.cell? ⟨w.heap.size, 8, none⟩ = some (.string a8) ∧ w1.cell? ⟨w.heap.size, 9, none⟩ = some (.string a9) := by have d := D1.out; exact ⟨d.cell 0 rfl, d.cell 1 rfl, d.cell 2 rfl, d.cell 3 rfl, d.cell 4 rfl, d.cell 5 rfl, d.cell 6 rfl, d.cell 7 rfl, d.cell 8 rfl, d.cell 9 rfl⟩
  go_wp2_with fail
  clear k0 k1 k2 k3 k4 k5 k6 k7 k8 k9
  refine (H1.out _).mono ?_; rintro e w2 ⟨rfl, g2⟩
  have B2 := Lib.hid (B1.out.trans (g2.mono B1.out.size))
  clear g2 B1 D1
  obtain ⟨cap, w3, hcap, hcv, hown, hbel⟩ := convert_own w2 A
  have B3 := Lib.hid (B2.out.trans (hbel.mono B2.out.size))
  have HO := Lib.hid hown
  have HBB := B2.out.size
  clear hown hbel B2
  generalize w2.heap.size = bb at *
  have e1 : (n : Int) / 8 = (j : Int) := by omega
  have e2 : (n : Int) % 8 = (r : Int) := by omega
  have h5 : (n : Int) ≤ 48000 := by omega
  have hj0 : (0 : Int) ≤ (j : Int) := Int.natCast_nonneg _
  have hj1 : (j : Int) < (A.size : Int) := by omega
  have hr0 : (0 : Int) ≤ (r : Int) := Int.natCast_nonneg _
  have hr1 : (r : Int) < 8 := by omega
  have hc := HO.out.cell (j := j) hjl.out
  rw [hx] at hc
  have hf := HO.out.frozen (j := j) hjl.out
  have O4 := Lib.hid (HO.out.set_ (j := j) (x := y) hjl.out hy)
  have B4 := Lib.hid (B3.out.setCell (p := ⟨bb, j, none⟩) (by simpa using HBB) (.int .u8 (y : Nat)))
  have hcb := convert_back (w3.setCell ⟨bb, j, none⟩ (.int .u8 (y : Nat))) (some ⟨bb, 0, none⟩) A.size cap _ O4.out.bs (by omega)
  rw [hT] at hcb
  have HL := Lib.hid HBB
  clear hj hr hcap B3 HO HBB hy hx hT
  go_wp2_with fail
  refine (H2.out _).mono ?_; rintro e w5 ⟨rfl, g5⟩
  have B5 := Lib.hid (B4.out.trans (g5.mono B4.out.size))
  clear g5 B4
  go_wp2_with fail
  refine (awake10_any _).mono ?_; rintro e w6 ⟨rfl, g6⟩
  have B6 := Lib.hid ((B5.out.alloc B5.out.size (.cells #[.int .i64 c0, .int .i64 c1, .int .u32 (c2 : Nat), .int .i64 c3, .int .i64 c4, .int .i64 c5, .int .i64 c6, .int .i64 c7, .string c8, .string c9] 24)).trans (g6.mono (Nat.le_trans B5.out.size (by simp))))
  clear g6 B5
  go_wp2_with fail
  go_ret
  exact ⟨rfl, B6.out⟩
set_option maxRecDepth 100000 in
set_option maxHeartbeats 3200000 in
theorem dbit_no (d : Dg) (A : ByteArray) (z m : Int) (w : World) (hA : (A.size : Int) ≤ 6000)
    (HF : Hid (∀ w, Calls Try.prog 7 #[d.val] w fun e w' => e = .returned (.bool true) ∧ Below w.heap.size w w'))
    (H1 : Hid (∀ w, Calls Try.prog 9 #[d.val] w (GivesSE9 w A z)))
    (h : z ≠ 0 ∨ z = 0 ∧ m < 0 ∨ z = 0 ∧ 0 ≤ m ∧ 8 * (A.size : Int) ≤ m) :
    Calls Try.prog 6 #[d.val, .int .i64 m] w fun e w' => e = .returned (.bool true) ∧ Below w.heap.size w w' := by
  have h0 : (0 : Int) ≤ (A.size : Int) := Int.natCast_nonneg _
  obtain ⟨a0, a1, a2, a3, a4, a5, a6, a7, a8, a9⟩ := d
  unfold Dg.val at *
  simp only at HF H1 ⊢
  rcases h with h | ⟨rfl, h⟩ | ⟨rfl, h, h'⟩
  · have hz : (z != 0) = true := by simpa using h
    have hz' : (z == 0) = false := by simpa using h
    clear h
    go_enter Try.func6, Try.ntmps6
    go_wp2_with fail
    refine (HF.out _).mono ?_; rintro e w1 ⟨rfl, g1⟩
    have B1 : Hid (Below w.heap.size w w1) := Lib.hid (((Below.refl _ _).alloc (Nat.le_refl _) _).trans (g1.mono (by simp)))
    have D1 := Lib.hid ((At.new w 24 [.int .i64 a0, .int .i64 a1, .int .u32 (a2 : Nat), .int .i64 a3, .int .i64 a4, .int .i64 a5, .int .i64 a6, .int .i64 a7, .string a8, .string a9]).below g1 (by simp))
    clear g1
    obtain ⟨k0, k1, k2, k3, k4, k5, k6, k7, k8, k9⟩ : w1.cell? ⟨w.heap.size, 0, none⟩ = some (.int .i64 a0) ∧ w1.cell? ⟨w.heap.size, 1, none⟩ = some (.int .i64 a1) ∧ w1.cell? ⟨w.heap.size, 2, none⟩ = some (.int .u32 (a2 : Nat)) ∧ w1.cell? ⟨w.heap.size, 3, none⟩ = some (.int .i64 a3) ∧ w1.cell? ⟨w.heap.size, 4, none⟩ = some (.int .i64 a4) ∧ w1.cell? ⟨w.heap.size, 5, none⟩ = some (.int .i64 a5) ∧ w1.cell? ⟨w.heap.size, 6, none⟩ = some (.int .i64 a6) ∧ w1.cell? ⟨w.heap.size, 7, none⟩ = some (.int .i64 a7) ∧ w1.cell? ⟨w.heap.size, 8, none⟩ = some (.string a8) ∧ w1.cell? ⟨w.heap.size, 9, none⟩ = some (.string a9) := by have d := D1.out; exact ⟨d.cell 0 rfl, d.cell 1 rfl, d.cell 2 rfl, d.cell 3 rfl, d.cell 4 rfl, d.cell 5 rfl, d.cell 6 rfl, d.cell 7 rfl, d.cell 8 rfl, d.cell 9 rfl⟩
    go_wp2_with fail
    clear k0 k1 k2 k3 k4 k5 k6 k7 k8 k9
    refine (H1.out _).mono ?_; rintro e w2 ⟨rfl, g2⟩
    have B2 := Lib.hid (B1.out.trans (g2.mono B1.out.size))
    clear g2 B1 D1
    go_wp2_with fail
    refine (awake10_any _).mono ?_; rintro e w6 ⟨rfl, g6⟩
    have B6 := Lib.hid (B2.out.trans (g6.mono B2.out.size))
    clear g6 B2
    go_wp2_with fail
    go_ret
    exact ⟨rfl, B6.out⟩
  · have hd : decide (m < 0) = true := decide_eq_true h
    go_enter Try.func6, Try.ntmps6
    go_wp2_with fail
    refine (HF.out _).mono ?_; rintro e w1 ⟨rfl, g1⟩
    have B1 : Hid (Below w.heap.size w w1) := Lib.hid (((Below.refl _ _).alloc (Nat.le_refl _) _).trans (g1.mono (by simp)))
    have D1 := Lib.hid ((At.new w 24 [.int .i64 a0, .int .i64 a1, .int .u32 (a2 : Nat), .int .i64 a3, .int .i64 a4, .int .i64 a5, .int .i64 a6, .int .i64 a7, .string a8, .string a9]).below g1 (by simp))
    clear g1
    obtain ⟨k0, k1, k2, k3, k4, k5, k6, k7, k8, k9⟩ : w1.cell? ⟨w.heap.size, 0, none⟩ = some (.int .i64 a0) ∧ w1.cell? ⟨w.heap.size, 1, none⟩ = some (.int .i64 a1) ∧ w1.cell? ⟨w.heap.size, 2, none⟩ = some (.int .u32 (a2 : Nat)) ∧ w1.cell? ⟨w.heap.size, 3, none⟩ = some (.int .i64 a3) ∧ w1.cell? ⟨w.heap.size, 4, none⟩ = some (.int .i64 a4) ∧ w1.cell? ⟨w.heap.size, 5, none⟩ = some (.int .i64 a5) ∧ w1.cell? ⟨w.heap.size, 6, none⟩ = some (.int .i64 a6) ∧ w1.cell? ⟨w.heap.size, 7, none⟩ = some (.int .i64 a7) ∧ w1.cell? ⟨w.heap.size, 8, none⟩ = some (.string a8) ∧ w1.cell? ⟨w.heap.size, 9, none⟩ = some (.string a9) := by have d := D1.out; exact ⟨d.cell 0 rfl, d.cell 1 rfl, d.cell 2 rfl, d.cell 3 rfl, d.cell 4 rfl, d.cell 5 rfl, d.cell 6 rfl, d.cell 7 rfl, d.cell 8 rfl, d.cell 9 rfl⟩
    go_wp2_with fail
    clear k0 k1 k2 k3 k4 k5 k6 k7 k8 k9
    refine (H1.out _).mono ?_; rintro e w2 ⟨rfl, g2⟩
    have B2 := Lib.hid (B1.out.trans (g2.mono B1.out.size))
    clear g2 B1 D1
    go_wp2_with fail
    refine (awake10_any _).mono ?_; rintro e w6 ⟨rfl, g6⟩
    have B6 := Lib.hid (B2.out.trans (g6.mono B2.out.size))
    clear g6 B2
    go_wp2_with fail
    go_ret
    exact ⟨rfl, B6.out⟩
  · have hd : decide (m < 0) = false := decide_eq_false (by omega)
    have hd2 : decide (8 * (A.size : Int) ≤ m) = true := decide_eq_true h'
    go_enter Try.func6, Try.ntmps6
    go_wp2_with fail
    refine (HF.out _).mono ?_; rintro e w1 ⟨rfl, g1⟩
    have B1 : Hid (Below w.heap.size w w1) := Lib.hid (((Below.refl _ _).alloc (Nat.le_refl _) _).trans (g1.mono (by simp)))
    have D1 := Lib.hid ((At.new w 24 [.int .i64 a0, .int .i64 a1, .int .u32 (a2 : Nat), .int .i64 a3, .int .i64 a4, .int .i64 a5, .int .i64 a6, .int .i64 a7, .string a8, .string a9]).below g1 (by simp))
    clear g1
    obtain ⟨k0, k1, k2, k3, k4, k5, k6, k7, k8, k9⟩ : w1.cell? ⟨w.heap.size, 0, none⟩ = some (.int .i64 a0) ∧ w1.cell? ⟨w.heap.size, 1, none⟩ = some (.int .i64 a1) ∧ w1.cell? ⟨w.heap.size, 2, none⟩ = some (.int .u32 (a2 : Nat)) ∧ w1.cell? ⟨w.heap.size, 3, none⟩ = some (.int .i64 a3) ∧ w1.cell? ⟨w.heap.size, 4, none⟩ = some (.int .i64 a4) ∧ w1.cell? ⟨w.heap.size, 5, none⟩ = some (.int .i64 a5) ∧ w1.cell? ⟨w.heap.size, 6, none⟩ = some (.int .i64 a6) ∧ w1.cell? ⟨w.heap.size, 7, none⟩ = some (.int .i64 a7) ∧ w1.cell? ⟨w.heap.size, 8, none⟩ = some (.string a8) ∧ w1.cell? ⟨w.heap.size, 9, none⟩ = some (.string a9) := by have d := D1.out; exact ⟨d.cell 0 rfl, d.cell 1 rfl, d.cell 2 rfl, d.cell 3 rfl, d.cell 4 rfl, d.cell 5 rfl, d.cell 6 rfl, d.cell 7 rfl, d.cell 8 rfl, d.cell 9 rfl⟩
    go_wp2_with fail
    clear k0 k1 k2 k3 k4 k5 k6 k7 k8 k9
    refine (H1.out _).mono ?_; rintro e w2 ⟨rfl, g2⟩
    have B2 := Lib.hid (B1.out.trans (g2.mono B1.out.size))
    clear g2 B1 D1
    go_wp2_with fail
    refine (awake10_any _).mono ?_; rintro e w6 ⟨rfl, g6⟩
    have B6 := Lib.hid (B2.out.trans (g6.mono B2.out.size))
    clear g6 B2
    go_wp2_with fail
    go_ret
    exact ⟨rfl, B6.out⟩
set_option maxRecDepth 100000 in
set_option maxHeartbeats 1600000 in
theorem dbit_many (d : Dg) (m : Int) (w : World) (h : ¬ ((d.body.size : Int) ≤ 1100 ∧ (d.has.size : Int) ≤ 100)) :
    Calls Try.prog 6 #[d.val, .int .i64 m] w fun e w' => e = .returned (.bool true) ∧ Below w.heap.size w w' := by
  have HF := Lib.hid (fun w => few_no d w h)
  clear h
  obtain ⟨a0, a1, a2, a3, a4, a5, a6, a7, a8, a9⟩ := d
  unfold Dg.val at *
  simp only at HF ⊢
  go_enter Try.func6, Try.ntmps6
  go_wp2_with fail
  refine (HF.out _).mono ?_; rintro e w1 ⟨rfl, g1⟩
  have B1 : Hid (Below w.heap.size w w1) := Lib.hid (((Below.refl _ _).alloc (Nat.le_refl _) _).trans (g1.mono (by simp)))
  clear g1
  go_wp2_with fail
  refine (awake10_any _).mono ?_; rintro e w2 ⟨rfl, g2⟩
  have B2 := Lib.hid (B1.out.trans (g2.mono B1.out.size))
  clear g2 B1
  go_wp2_with fail
  go_ret
  exact ⟨rfl, B2.out⟩
theorem turned_bit (x r : Nat) (hx : x < 256) (hr : r < 8) : x ^^^ 2 ^ r < 256 ∧ x ≠ x ^^^ 2 ^ r ∧ bits BinOp.xor IntKind.u8 (x : Int) ((2 : Int) ^ r % 256) = ((x ^^^ 2 ^ r : Nat) : Int) := by
  have h2 : 2 ^ r < 256 := by
    have : 2 ^ r < 2 ^ 8 := Nat.pow_lt_pow_right (by decide) hr
    exact this
  have h3 : (2 : Int) ^ r % 256 = ((2 ^ r : Nat) : Int) := by
    push_cast
    have : ((2 ^ r : Nat) : Int) < 256 := by omega
    push_cast at this
    have h0 : (0 : Int) ≤ 2 ^ r := by
      have := Int.natCast_nonneg (2 ^ r)
      push_cast at this
      exact this
    omega
  refine ⟨Nat.xor_lt_two_pow (n := 8) hx h2, fun e => ?_, ?_⟩
  · have h4 : x ^^^ (x ^^^ 2 ^ r) = x ^^^ x := by rw [← e]
    rw [← Nat.xor_assoc, Nat.xor_self, Nat.zero_xor] at h4
    have : 0 < 2 ^ r := Nat.pow_pos (by decide)
    omega
  · rw [h3]
    exact u8_xor_nat _ _ hx h2
theorem putT_le {d : Dg} (h : chk d = 0) : (fullS d).size ≤ 6000 := by
  rw [fullS_size, headS_size]
  have := ownS_le h
  omega
theorem dbit_walk (d : Dg) (m : Int) (w : World) (hd : d.In) : Calls Try.prog 6 #[d.val, .int .i64 m] w fun e w' => e = .returned (.bool true) ∧ Below w.heap.size w w' := by
  by_cases hf : (d.body.size : Int) ≤ 1100 ∧ (d.has.size : Int) ≤ 100
  · have HF := Lib.hid (fun w => few_yes d w hf.1 hf.2)
    by_cases hz : chk d = 0
    · have H1 := Lib.hid (fun w => dput_good d w hz hd.1)
      have hle := putT_le hz
      by_cases hm : 0 ≤ m ∧ m < 8 * ((fullS d).size : Int)
      · obtain ⟨n, rfl⟩ := Int.eq_ofNat_of_zero_le hm.1
        have hn : n < 8 * (fullS d).size := by omega
        have hx : (bts (fullS d)).getD (n / 8) 0 < 256 := bts_lt _ _
        obtain ⟨t1, t2, t3⟩ := turned_bit _ (n % 8) hx (by omega)
        have hb : bts (tx ((bts (fullS d)).set (n / 8) ((bts (fullS d)).getD (n / 8) 0 ^^^ 2 ^ (n % 8)))) = (bts (fullS d)).set (n / 8) ((bts (fullS d)).getD (n / 8) 0 ^^^ 2 ^ (n % 8)) := bts_tx fun i => by
          rw [List.getD_eq_getElem?_getD, List.getElem?_set]
          split
          · split
            · exact t1
            · exact Nat.zero_lt_succ _
          · rw [← List.getD_eq_getElem?_getD]; exact bts_lt _ _
        have h6 := bit_found (put_read hz hd.1).1 (show n / 8 < (fullS d).size by omega) t1 t2 hb
        have hs : (tx ((bts (fullS d)).set (n / 8) ((bts (fullS d)).getD (n / 8) 0 ^^^ 2 ^ (n % 8)))).size = (fullS d).size := by rw [tx_size, List.length_set, bts_len]
        have H2 := Lib.hid (fun w => dread_any (tx ((bts (fullS d)).set (n / 8) ((bts (fullS d)).getD (n / 8) 0 ^^^ 2 ^ (n % 8)))) w (by rw [hs]; omega))
        rw [h6] at H2
        exact dbit_yes d _ _ _ n (n / 8) (n % 8) _ _ w hn hle rfl rfl HF H1 H2 rfl t3 t1 rfl
      · refine dbit_no d (fullS d) 0 m w (by omega) HF H1 (Or.inr ?_)
        by_cases h0 : m < 0
        · exact Or.inl ⟨rfl, h0⟩
        · exact Or.inr ⟨rfl, by omega, by omega⟩
    · have H1 := Lib.hid (fun w => dput_bad d w hz hd.2.2)
      exact dbit_no d _ _ m w (by decide) HF H1 (Or.inl hz)
  · exact dbit_many d m w hf
end Go.Proofs.Ytekolkbahhbcjaa

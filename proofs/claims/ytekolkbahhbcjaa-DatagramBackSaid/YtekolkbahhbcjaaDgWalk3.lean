/- Proved: the law DatagramBack, for whatever datagram and text. Conditions: those that the theorem names. -/
import Derived.Test.YtekolkbahhbcjaaDgAwake
namespace Go.Proofs.Ytekolkbahhbcjaa
open Go.ChangeShapes Go.WideShapes Go.ChangeAt Go.RowKit

theorem putT_size (d : Dg) : (putT d).size ≤ 281474976710656 := by
  unfold putT
  split
  · rename_i h
    rw [fullS_size, headS_size]
    have := ownS_le h
    omega
  · decide
theorem rD_body (s : ByteArray) : (rD s).body.size ≤ s.size := by
  by_cases h : rE s = 0
  · rw [rD_good h]
    have hf := front_size s
    generalize grpOf (cutN (front s) 2 3 : Nat) = g
    cases g with
    | shard =>
      show ((front s).extract 13 (front s).size).size ≤ s.size
      rw [ByteArray.size_extract]; omega
    | _ => exact Nat.zero_le _
  · rw [rD_bad h]; exact Nat.zero_le _
theorem back_one (d : Dg) (hb : d.block < 4294967296) : chk d ≠ 0 ∨ (chk d = 0 ∧ rD (putT d) = d ∧ rE (putT d) = 0) := by
  by_cases h : chk d = 0
  · right
    have e := put_read h hb
    have hp : putT d = fullS d := if_pos h
    exact ⟨h, by rw [hp]; exact e.2, by rw [hp]; exact e.1⟩
  · exact Or.inl h
theorem back_two (s : ByteArray) : rE s ≠ 0 ∨ (rE s = 0 ∧ putT (rD s) = s ∧ chk (rD s) = 0) := by
  by_cases h : rE s = 0
  · right
    have e := read_put h
    exact ⟨h, (if_pos e.1).trans e.2, e.1⟩
  · exact Or.inl h
set_option maxRecDepth 100000 in
set_option maxHeartbeats 3200000 in
theorem dback_yy (d b c : Dg) (z1 z2 z3 z4 : Int) (A s t : ByteArray) (w : World) (hs : (s.size : Int) ≤ 2000)
    (HF : Hid (∀ w, Calls Try.prog 7 #[d.val] w fun e w' => e = .returned (.bool true) ∧ Below w.heap.size w w'))
    (H1 : Hid (∀ w, Calls Try.prog 9 #[d.val] w (GivesSE9 w A z1)))
    (H2 : Hid (∀ w, Calls Try.prog 14 #[.string A] w (GivesDZ w b z2)))
    (H3 : Hid (∀ w, Calls Try.prog 14 #[.string s] w (GivesDZ w c z3)))
    (H4 : Hid (∀ w, Calls Try.prog 9 #[c.val] w (GivesSE9 w t z4)))
    (hz1 : z1 = 0) (hb : b = d) (hz2 : z2 = 0) (hz3 : z3 = 0) (ht : t = s) (hz4 : z4 = 0) :
    Calls Try.prog 5 #[d.val, .string s] w fun e w' => e = .returned (.bool true) ∧ Below w.heap.size w w' := by
  subst hz1 hz2
  have HE := Lib.hid (fun W => eq_dg d d W)
  rw [eqB_refl] at HE
  subst hb
  subst hz3 ht hz4
  have hle : decide (2000 < (t.size : Int)) = false := decide_eq_false (by omega)
  clear hs
  obtain ⟨a0, a1, a2, a3, a4, a5, a6, a7, a8, a9⟩ := b
  obtain ⟨c0, c1, c2, c3, c4, c5, c6, c7, c8, c9⟩ := c
  unfold GivesDZ at H2 H3
  unfold Dg.val at *
  simp only at HF H1 H2 H3 H4
  have heq : ∀ W, (binOp .eql 24 (.agg #[.int .i64 a0, .int .i64 a1, .int .u32 (a2 : Nat), .int .i64 a3, .int .i64 a4, .int .i64 a5, .int .i64 a6, .int .i64 a7, .string a8, .string a9]) (.agg #[.int .i64 a0, .int .i64 a1, .int .u32 (a2 : Nat), .int .i64 a3, .int .i64 a4, .int .i64 a5, .int .i64 a6, .int .i64 a7, .string a8, .string a9])).run Try.prog W = .ok (.bool true) W := HE.out
  clear HE
  simp only
  go_enter Try.func5, Try.ntmps5
  go_wp2_with fail
  refine (HF.out _).mono ?_; rintro e w1 ⟨rfl, g1⟩
  have B1 : Hid (Below w.heap.size w w1) := Lib.hid (((Below.refl _ _).alloc (Nat.le_refl _) _).trans (g1.mono (by simp)))
  have D1 := Lib.hid ((At.new w 24 [.int .i64 a0, .int .i64 a1, .int .u32 (a2 : Nat), .int .i64 a3, .int .i64 a4, .int .i64 a5, .int .i64 a6, .int .i64 a7, .string a8, .string a9]).below g1 (by simp))
  clear g1
  obtain ⟨k0, k1, k2, k3, k4, k5, k6, k7, k8, k9⟩ : w1.cell? ⟨w.heap.size, 0, none⟩ = some (.int .i64 a0) ∧ w1.cell? ⟨w.heap.size, 1, none⟩ = some (.int .i64 a1) ∧ w1.cell? ⟨w.heap.size, 2, none⟩ = some (.int .u32 (a2 : Nat)) ∧ w1.cell? ⟨w.heap.size, 3, none⟩ = some (.int .i64 a3) ∧ w1.cell? ⟨w.heap.size, 4, none⟩ = some (.int .i64 a4) ∧ w1.cell? ⟨w.heap.size, 5, none⟩ = some (.int .i64 a5) ∧ w1.cell? ⟨w.heap.size, 6, none⟩ = some (.int .i64 a6) ∧ w1.cell? ⟨w.heap.size, 7, none⟩ = some (.int .i64 a7) ∧ w1.cell? ⟨w.heap.size, 8, none⟩ = some (.string a8) ∧ w1.cell? ⟨w.heap.size, 9, none⟩ = some (.string a9) := by have d := D1.out; exact ⟨d.cell 0 rfl, d.cell 1 rfl, d.cell 2 rfl, d.cell 3 rfl, d.cell 4 rfl, d.cell 5 rfl, d.cell 6 rfl, d.cell 7 rfl, d.cell 8 rfl, d.cell 9 rfl⟩
  go_wp2_with fail
  clear k0 k1 k2 k3 k4 k5 k6 k7 k8 k9
  refine (H1.out _).mono ?_; rintro e w2 ⟨rfl, g2⟩
  have B2 := Lib.hid (B1.out.trans (g2.mono B1.out.size))
  have D2 := Lib.hid (D1.out.below g2 D1.out.lt)
  clear g2 B1 D1
  go_wp2_with fail
  refine (H2.out _).mono ?_; rintro e w3 ⟨rfl, g3⟩
  have B3 := Lib.hid (B2.out.trans (g3.mono B2.out.size))
  have D3 := Lib.hid (D2.out.below g3 D2.out.lt)
  clear g3 B2 D2
  go_wp2_with fail
  refine (H3.out _).mono ?_; rintro e w4 ⟨rfl, g4⟩
  have D4 := Lib.hid ((D3.out.alloc (.cells #[.int .i64 a0, .int .i64 a1, .int .u32 (a2 : Nat), .int .i64 a3, .int .i64 a4, .int .i64 a5, .int .i64 a6, .int .i64 a7, .string a8, .string a9] 24)).below g4 (Nat.lt_of_lt_of_le D3.out.lt (by simp)))
  have E4 : Hid (At w4 w3.heap.size 24 [.int .i64 a0, .int .i64 a1, .int .u32 (a2 : Nat), .int .i64 a3, .int .i64 a4, .int .i64 a5, .int .i64 a6, .int .i64 a7, .string a8, .string a9]) := Lib.hid ((At.new w3 24 [.int .i64 a0, .int .i64 a1, .int .u32 (a2 : Nat), .int .i64 a3, .int .i64 a4, .int .i64 a5, .int .i64 a6, .int .i64 a7, .string a8, .string a9]).below g4 (by simp))
  have B4 := Lib.hid ((B3.out.alloc B3.out.size (.cells #[.int .i64 a0, .int .i64 a1, .int .u32 (a2 : Nat), .int .i64 a3, .int .i64 a4, .int .i64 a5, .int .i64 a6, .int .i64 a7, .string a8, .string a9] 24)).trans (g4.mono (Nat.le_trans B3.out.size (by simp))))
  clear g4 B3 D3
  have D5 := Lib.hid (D4.out.alloc (.cells #[.int .i64 c0, .int .i64 c1, .int .u32 (c2 : Nat), .int .i64 c3, .int .i64 c4, .int .i64 c5, .int .i64 c6, .int .i64 c7, .string c8, .string c9] 24))
  have E5 := Lib.hid (E4.out.alloc (.cells #[.int .i64 c0, .int .i64 c1, .int .u32 (c2 : Nat), .int .i64 c3, .int .i64 c4, .int .i64 c5, .int .i64 c6, .int .i64 c7, .string c8, .string c9] 24))
  have F5 : Hid (At (w4.alloc (.cells #[.int .i64 c0, .int .i64 c1, .int .u32 (c2 : Nat), .int .i64 c3, .int .i64 c4, .int .i64 c5, .int .i64 c6, .int .i64 c7, .string c8, .string c9] 24)) w4.heap.size 24 [.int .i64 c0, .int .i64 c1, .int .u32 (c2 : Nat), .int .i64 c3, .int .i64 c4, .int .i64 c5, .int .i64 c6, .int .i64 c7, .string c8, .string c9]) := Lib.hid (At.new w4 24 [.int .i64 c0, .int .i64 c1, .int .u32 (c2 : Nat), .int .i64 c3, .int .i64 c4, .int .i64 c5, .int .i64 c6, .int .i64 c7, .string c8, .string c9])
  have B5 := Lib.hid (B4.out.alloc B4.out.size (.cells #[.int .i64 c0, .int .i64 c1, .int .u32 (c2 : Nat), .int .i64 c3, .int .i64 c4, .int .i64 c5, .int .i64 c6, .int .i64 c7, .string c8, .string c9] 24))
  clear D4 E4 B4
  obtain ⟨j0, j1, j2, j3, j4, j5, j6, j7, j8, j9⟩ : (w4.alloc (.cells #[.int .i64 c0, .int .i64 c1, .int .u32 (c2 : Nat), .int .i64 c3, .int .i64 c4, .int .i64 c5, .int .i64 c6, .int .i64 c7, .string c8, .string c9] 24)).cell? ⟨w4.heap.size, 0, none⟩ = some (.int .i64 c0) ∧ (w4.alloc (.cells #[.int .i64 c0, .int .i64 c1, .int .u32 (c2 : Nat), .int .i64 c3, .int .i64 c4, .int .i64 c5, .int .i64 c6, .int .i64 c7, .string c8, .string c9] 24)).cell? ⟨w4.heap.size, 1, none⟩ = some (.int .i64 c1) ∧ (w4.alloc (.cells #[.int .i64 c0, .int .i64 c1, .int .u32 (c2 : Nat), .int .i64 c3, .int .i64 c4, .int .i64 c5, .int .i64 c6, .int .i64 c7, .string c8, .string c9] 24)).cell? ⟨w4.heap.size, 2, none⟩ = some (.int .u32 (c2 : Nat)) ∧ (w4.alloc (.cells #[.int .i64 c0, .int .i64 c1, .int .u32 (c2 : Nat), .int .i64 c3, .int .i64 c4, .int .i64 c5, .int .i64 c6, .int .i64 c7, .string c8, .string c9] 24)).cell? ⟨w4.heap.size, 3, none⟩ = some (.int .i64 c3) ∧ (w4.alloc (.cells #[.int .i64 c0, .int .i64 c1, .int .u32 (c2 : Nat), .int .i64 c3, .int .i64 c4, .int .i64 c5, .int .i64 c6, .int .i64 c7, .string c8, .string c9] 24)).cell? ⟨w4.heap.size, 4, none⟩ = some (.int .i64 c4) ∧ (w4.alloc (.cells #[.int .i64 c0, .int .i64 c1, .int .u32 (c2 : Nat), .int .i64 c3, .int .i64 c4, .int .i64 c5, .int .i64 c6, .int .i64 c7, .string c8, .string c9] 24)).cell? ⟨w4.heap.size, 5, none⟩ = some (.int .i64 c5) ∧ (w4.alloc (.cells #[.int .i64 c0, .int .i64 c1, .int .u32 (c2 : Nat), .int .i64 c3, .int .i64 c4, .int .i64 c5, .int .i64 c6, .int .i64 c7, .string c8, .string c9] 24)).cell? ⟨w4.heap.size, 6, none⟩ = some (.int .i64 c6) ∧ (w4.alloc (.cells #[.int .i64 c0, .int .i64 c1, .int .u32 (c2 : Nat), .int .i64 c3, .int .i64 c4, .int .i64 c5, .int .i64 c6, .int .i64 c7, .string c8, .string c9] 24)).cell? ⟨w4.heap.size, 7, none⟩ = some (.int .i64 c7) ∧ (w4.alloc (.cells #[.int .i64 c0, .int .i64 c1, .int .u32 (c2 : Nat), .int .i64 c3, .int .i64 c4, .int .i64 c5, .int .i64 c6, .int .i64 c7, .string c8, .string c9] 24)).cell? ⟨w4.heap.size, 8, none⟩ = some (.string c8) ∧ (w4.alloc (.cells #[.int .i64 c0, .int .i64 c1, .int .u32 (c2 : Nat), .int .i64 c3, .int .i64 c4, .int .i64 c5, .int .i64 c6, .int .i64 c7, .string c8, .string c9] 24)).cell? ⟨w4.heap.size, 9, none⟩ = some (.string c9) := by have d := F5.out; exact ⟨d.cell 0 rfl, d.cell 1 rfl, d.cell 2 rfl, d.cell 3 rfl, d.cell 4 rfl, d.cell 5 rfl, d.cell 6 rfl, d.cell 7 rfl, d.cell 8 rfl, d.cell 9 rfl⟩
  go_wp2_with fail
  clear j0 j1 j2 j3 j4 j5 j6 j7 j8 j9
  refine (H4.out _).mono ?_; rintro e w6 ⟨rfl, g6⟩
  have D6 := Lib.hid (D5.out.below g6 D5.out.lt)
  have E6 := Lib.hid (E5.out.below g6 E5.out.lt)
  have B6 := Lib.hid (B5.out.trans (g6.mono B5.out.size))
  clear g6 B5 D5 E5 F5
  obtain ⟨k0, k1, k2, k3, k4, k5, k6, k7, k8, k9⟩ : w6.cell? ⟨w.heap.size, 0, none⟩ = some (.int .i64 a0) ∧ w6.cell? ⟨w.heap.size, 1, none⟩ = some (.int .i64 a1) ∧ w6.cell? ⟨w.heap.size, 2, none⟩ = some (.int .u32 (a2 : Nat)) ∧ w6.cell? ⟨w.heap.size, 3, none⟩ = some (.int .i64 a3) ∧ w6.cell? ⟨w.heap.size, 4, none⟩ = some (.int .i64 a4) ∧ w6.cell? ⟨w.heap.size, 5, none⟩ = some (.int .i64 a5) ∧ w6.cell? ⟨w.heap.size, 6, none⟩ = some (.int .i64 a6) ∧ w6.cell? ⟨w.heap.size, 7, none⟩ = some (.int .i64 a7) ∧ w6.cell? ⟨w.heap.size, 8, none⟩ = some (.string a8) ∧ w6.cell? ⟨w.heap.size, 9, none⟩ = some (.string a9) := by have d := D6.out; exact ⟨d.cell 0 rfl, d.cell 1 rfl, d.cell 2 rfl, d.cell 3 rfl, d.cell 4 rfl, d.cell 5 rfl, d.cell 6 rfl, d.cell 7 rfl, d.cell 8 rfl, d.cell 9 rfl⟩
  obtain ⟨j0, j1, j2, j3, j4, j5, j6, j7, j8, j9⟩ : w6.cell? ⟨w3.heap.size, 0, none⟩ = some (.int .i64 a0) ∧ w6.cell? ⟨w3.heap.size, 1, none⟩ = some (.int .i64 a1) ∧ w6.cell? ⟨w3.heap.size, 2, none⟩ = some (.int .u32 (a2 : Nat)) ∧ w6.cell? ⟨w3.heap.size, 3, none⟩ = some (.int .i64 a3) ∧ w6.cell? ⟨w3.heap.size, 4, none⟩ = some (.int .i64 a4) ∧ w6.cell? ⟨w3.heap.size, 5, none⟩ = some (.int .i64 a5) ∧ w6.cell? ⟨w3.heap.size, 6, none⟩ = some (.int .i64 a6) ∧ w6.cell? ⟨w3.heap.size, 7, none⟩ = some (.int .i64 a7) ∧ w6.cell? ⟨w3.heap.size, 8, none⟩ = some (.string a8) ∧ w6.cell? ⟨w3.heap.size, 9, none⟩ = some (.string a9) := by have d := E6.out; exact ⟨d.cell 0 rfl, d.cell 1 rfl, d.cell 2 rfl, d.cell 3 rfl, d.cell 4 rfl, d.cell 5 rfl, d.cell 6 rfl, d.cell 7 rfl, d.cell 8 rfl, d.cell 9 rfl⟩
  go_wp2_with fail
  clear k0 k1 k2 k3 k4 k5 k6 k7 k8 k9 j0 j1 j2 j3 j4 j5 j6 j7 j8 j9
  refine (awake10_any _).mono ?_; rintro e w7 ⟨rfl, g7⟩
  have B7 := Lib.hid (B6.out.trans (g7.mono B6.out.size))
  clear g7 B6
  go_wp2_with fail
  go_ret
  exact ⟨rfl, B7.out⟩
set_option maxRecDepth 100000 in
set_option maxHeartbeats 3200000 in
theorem dback_yn (d b c : Dg) (z1 z2 z3 z4 : Int) (A s t : ByteArray) (w : World) (hs : (s.size : Int) ≤ 2000)
    (HF : Hid (∀ w, Calls Try.prog 7 #[d.val] w fun e w' => e = .returned (.bool true) ∧ Below w.heap.size w w'))
    (H1 : Hid (∀ w, Calls Try.prog 9 #[d.val] w (GivesSE9 w A z1)))
    (H2 : Hid (∀ w, Calls Try.prog 14 #[.string A] w (GivesDZ w b z2)))
    (H3 : Hid (∀ w, Calls Try.prog 14 #[.string s] w (GivesDZ w c z3)))
    (H4 : Hid (∀ w, Calls Try.prog 9 #[c.val] w (GivesSE9 w t z4)))
    (hz1 : z1 = 0) (hb : b = d) (hz2 : z2 = 0) (hz3 : (z3 != 0) = true) :
    Calls Try.prog 5 #[d.val, .string s] w fun e w' => e = .returned (.bool true) ∧ Below w.heap.size w w' := by
  subst hz1 hz2
  have HE := Lib.hid (fun W => eq_dg d d W)
  rw [eqB_refl] at HE
  subst hb
  have hz3' : (z3 == 0) = false := by simpa using hz3
  have hle : decide (2000 < (s.size : Int)) = false := decide_eq_false (by omega)
  clear hs
  obtain ⟨a0, a1, a2, a3, a4, a5, a6, a7, a8, a9⟩ := b
  obtain ⟨c0, c1, c2, c3, c4, c5, c6, c7, c8, c9⟩ := c
  unfold GivesDZ at H2 H3
  unfold Dg.val at *
  simp only at HF H1 H2 H3 H4
  have heq : ∀ W, (binOp .eql 24 (.agg #[.int .i64 a0, .int .i64 a1, .int .u32 (a2 : Nat), .int .i64 a3, .int .i64 a4, .int .i64 a5, .int .i64 a6, .int .i64 a7, .string a8, .string a9]) (.agg #[.int .i64 a0, .int .i64 a1, .int .u32 (a2 : Nat), .int .i64 a3, .int .i64 a4, .int .i64 a5, .int .i64 a6, .int .i64 a7, .string a8, .string a9])).run Try.prog W = .ok (.bool true) W := HE.out
  clear HE
  simp only
  go_enter Try.func5, Try.ntmps5
  go_wp2_with fail
  refine (HF.out _).mono ?_; rintro e w1 ⟨rfl, g1⟩
  have B1 : Hid (Below w.heap.size w w1) := Lib.hid (((Below.refl _ _).alloc (Nat.le_refl _) _).trans (g1.mono (by simp)))
  have D1 := Lib.hid ((At.new w 24 [.int .i64 a0, .int .i64 a1, .int .u32 (a2 : Nat), .int .i64 a3, .int .i64 a4, .int .i64 a5, .int .i64 a6, .int .i64 a7, .string a8, .string a9]).below g1 (by simp))
  clear g1
  obtain ⟨k0, k1, k2, k3, k4, k5, k6, k7, k8, k9⟩ : w1.cell? ⟨w.heap.size, 0, none⟩ = some (.int .i64 a0) ∧ w1.cell? ⟨w.heap.size, 1, none⟩ = some (.int .i64 a1) ∧ w1.cell? ⟨w.heap.size, 2, none⟩ = some (.int .u32 (a2 : Nat)) ∧ w1.cell? ⟨w.heap.size, 3, none⟩ = some (.int .i64 a3) ∧ w1.cell? ⟨w.heap.size, 4, none⟩ = some (.int .i64 a4) ∧ w1.cell? ⟨w.heap.size, 5, none⟩ = some (.int .i64 a5) ∧ w1.cell? ⟨w.heap.size, 6, none⟩ = some (.int .i64 a6) ∧ w1.cell? ⟨w.heap.size, 7, none⟩ = some (.int .i64 a7) ∧ w1.cell? ⟨w.heap.size, 8, none⟩ = some (.string a8) ∧ w1.cell? ⟨w.heap.size, 9, none⟩ = some (.string a9) := by have d := D1.out; exact ⟨d.cell 0 rfl, d.cell 1 rfl, d.cell 2 rfl, d.cell 3 rfl, d.cell 4 rfl, d.cell 5 rfl, d.cell 6 rfl, d.cell 7 rfl, d.cell 8 rfl, d.cell 9 rfl⟩
  go_wp2_with fail
  clear k0 k1 k2 k3 k4 k5 k6 k7 k8 k9
  refine (H1.out _).mono ?_; rintro e w2 ⟨rfl, g2⟩
  have B2 := Lib.hid (B1.out.trans (g2.mono B1.out.size))
  have D2 := Lib.hid (D1.out.below g2 D1.out.lt)
  clear g2 B1 D1
  go_wp2_with fail
  refine (H2.out _).mono ?_; rintro e w3 ⟨rfl, g3⟩
  have B3 := Lib.hid (B2.out.trans (g3.mono B2.out.size))
  have D3 := Lib.hid (D2.out.below g3 D2.out.lt)
  clear g3 B2 D2
  go_wp2_with fail
  refine (H3.out _).mono ?_; rintro e w4 ⟨rfl, g4⟩
  have D4 := Lib.hid ((D3.out.alloc (.cells #[.int .i64 a0, .int .i64 a1, .int .u32 (a2 : Nat), .int .i64 a3, .int .i64 a4, .int .i64 a5, .int .i64 a6, .int .i64 a7, .string a8, .string a9] 24)).below g4 (Nat.lt_of_lt_of_le D3.out.lt (by simp)))
  have E4 : Hid (At w4 w3.heap.size 24 [.int .i64 a0, .int .i64 a1, .int .u32 (a2 : Nat), .int .i64 a3, .int .i64 a4, .int .i64 a5, .int .i64 a6, .int .i64 a7, .string a8, .string a9]) := Lib.hid ((At.new w3 24 [.int .i64 a0, .int .i64 a1, .int .u32 (a2 : Nat), .int .i64 a3, .int .i64 a4, .int .i64 a5, .int .i64 a6, .int .i64 a7, .string a8, .string a9]).below g4 (by simp))
  have B4 := Lib.hid ((B3.out.alloc B3.out.size (.cells #[.int .i64 a0, .int .i64 a1, .int .u32 (a2 : Nat), .int .i64 a3, .int .i64 a4, .int .i64 a5, .int .i64 a6, .int .i64 a7, .string a8, .string a9] 24)).trans (g4.mono (Nat.le_trans B3.out.size (by simp))))
  clear g4 B3 D3
  have D5 := Lib.hid (D4.out.alloc (.cells #[.int .i64 c0, .int .i64 c1, .int .u32 (c2 : Nat), .int .i64 c3, .int .i64 c4, .int .i64 c5, .int .i64 c6, .int .i64 c7, .string c8, .string c9] 24))
  have E5 := Lib.hid (E4.out.alloc (.cells #[.int .i64 c0, .int .i64 c1, .int .u32 (c2 : Nat), .int .i64 c3, .int .i64 c4, .int .i64 c5, .int .i64 c6, .int .i64 c7, .string c8, .string c9] 24))
  have F5 : Hid (At (w4.alloc (.cells #[.int .i64 c0, .int .i64 c1, .int .u32 (c2 : Nat), .int .i64 c3, .int .i64 c4, .int .i64 c5, .int .i64 c6, .int .i64 c7, .string c8, .string c9] 24)) w4.heap.size 24 [.int .i64 c0, .int .i64 c1, .int .u32 (c2 : Nat), .int .i64 c3, .int .i64 c4, .int .i64 c5, .int .i64 c6, .int .i64 c7, .string c8, .string c9]) := Lib.hid (At.new w4 24 [.int .i64 c0, .int .i64 c1, .int .u32 (c2 : Nat), .int .i64 c3, .int .i64 c4, .int .i64 c5, .int .i64 c6, .int .i64 c7, .string c8, .string c9])
  have B5 := Lib.hid (B4.out.alloc B4.out.size (.cells #[.int .i64 c0, .int .i64 c1, .int .u32 (c2 : Nat), .int .i64 c3, .int .i64 c4, .int .i64 c5, .int .i64 c6, .int .i64 c7, .string c8, .string c9] 24))
  clear D4 E4 B4
  obtain ⟨j0, j1, j2, j3, j4, j5, j6, j7, j8, j9⟩ : (w4.alloc (.cells #[.int .i64 c0, .int .i64 c1, .int .u32 (c2 : Nat), .int .i64 c3, .int .i64 c4, .int .i64 c5, .int .i64 c6, .int .i64 c7, .string c8, .string c9] 24)).cell? ⟨w4.heap.size, 0, none⟩ = some (.int .i64 c0) ∧ (w4.alloc (.cells #[.int .i64 c0, .int .i64 c1, .int .u32 (c2 : Nat), .int .i64 c3, .int .i64 c4, .int .i64 c5, .int .i64 c6, .int .i64 c7, .string c8, .string c9] 24)).cell? ⟨w4.heap.size, 1, none⟩ = some (.int .i64 c1) ∧ (w4.alloc (.cells #[.int .i64 c0, .int .i64 c1, .int .u32 (c2 : Nat), .int .i64 c3, .int .i64 c4, .int .i64 c5, .int .i64 c6, .int .i64 c7, .string c8, .string c9] 24)).cell? ⟨w4.heap.size, 2, none⟩ = some (.int .u32 (c2 : Nat)) ∧ (w4.alloc (.cells #[.int .i64 c0, .int .i64 c1, .int .u32 (c2 : Nat), .int .i64 c3, .int .i64 c4, .int .i64 c5, .int .i64 c6, .int .i64 c7, .string c8, .string c9] 24)).cell? ⟨w4.heap.size, 3, none⟩ = some (.int .i64 c3) ∧ (w4.alloc (.cells #[.int .i64 c0, .int .i64 c1, .int .u32 (c2 : Nat), .int .i64 c3, .int .i64 c4, .int .i64 c5, .int .i64 c6, .int .i64 c7, .string c8, .string c9] 24)).cell? ⟨w4.heap.size, 4, none⟩ = some (.int .i64 c4) ∧ (w4.alloc (.cells #[.int .i64 c0, .int .i64 c1, .int .u32 (c2 : Nat), .int .i64 c3, .int .i64 c4, .int .i64 c5, .int .i64 c6, .int .i64 c7, .string c8, .string c9] 24)).cell? ⟨w4.heap.size, 5, none⟩ = some (.int .i64 c5) ∧ (w4.alloc (.cells #[.int .i64 c0, .int .i64 c1, .int .u32 (c2 : Nat), .int .i64 c3, .int .i64 c4, .int .i64 c5, .int .i64 c6, .int .i64 c7, .string c8, .string c9] 24)).cell? ⟨w4.heap.size, 6, none⟩ = some (.int .i64 c6) ∧ (w4.alloc (.cells #[.int .i64 c0, .int .i64 c1, .int .u32 (c2 : Nat), .int .i64 c3, .int .i64 c4, .int .i64 c5, .int .i64 c6, .int .i64 c7, .string c8, .string c9] 24)).cell? ⟨w4.heap.size, 7, none⟩ = some (.int .i64 c7) ∧ (w4.alloc (.cells #[.int .i64 c0, .int .i64 c1, .int .u32 (c2 : Nat), .int .i64 c3, .int .i64 c4, .int .i64 c5, .int .i64 c6, .int .i64 c7, .string c8, .string c9] 24)).cell? ⟨w4.heap.size, 8, none⟩ = some (.string c8) ∧ (w4.alloc (.cells #[.int .i64 c0, .int .i64 c1, .int .u32 (c2 : Nat), .int .i64 c3, .int .i64 c4, .int .i64 c5, .int .i64 c6, .int .i64 c7, .string c8, .string c9] 24)).cell? ⟨w4.heap.size, 9, none⟩ = some (.string c9) := by have d := F5.out; exact ⟨d.cell 0 rfl, d.cell 1 rfl, d.cell 2 rfl, d.cell 3 rfl, d.cell 4 rfl, d.cell 5 rfl, d.cell 6 rfl, d.cell 7 rfl, d.cell 8 rfl, d.cell 9 rfl⟩
  go_wp2_with fail
  clear j0 j1 j2 j3 j4 j5 j6 j7 j8 j9
  refine (H4.out _).mono ?_; rintro e w6 ⟨rfl, g6⟩
  have D6 := Lib.hid (D5.out.below g6 D5.out.lt)
  have E6 := Lib.hid (E5.out.below g6 E5.out.lt)
  have B6 := Lib.hid (B5.out.trans (g6.mono B5.out.size))
  clear g6 B5 D5 E5 F5
  obtain ⟨k0, k1, k2, k3, k4, k5, k6, k7, k8, k9⟩ : w6.cell? ⟨w.heap.size, 0, none⟩ = some (.int .i64 a0) ∧ w6.cell? ⟨w.heap.size, 1, none⟩ = some (.int .i64 a1) ∧ w6.cell? ⟨w.heap.size, 2, none⟩ = some (.int .u32 (a2 : Nat)) ∧ w6.cell? ⟨w.heap.size, 3, none⟩ = some (.int .i64 a3) ∧ w6.cell? ⟨w.heap.size, 4, none⟩ = some (.int .i64 a4) ∧ w6.cell? ⟨w.heap.size, 5, none⟩ = some (.int .i64 a5) ∧ w6.cell? ⟨w.heap.size, 6, none⟩ = some (.int .i64 a6) ∧ w6.cell? ⟨w.heap.size, 7, none⟩ = some (.int .i64 a7) ∧ w6.cell? ⟨w.heap.size, 8, none⟩ = some (.string a8) ∧ w6.cell? ⟨w.heap.size, 9, none⟩ = some (.string a9) := by have d := D6.out; exact ⟨d.cell 0 rfl, d.cell 1 rfl, d.cell 2 rfl, d.cell 3 rfl, d.cell 4 rfl, d.cell 5 rfl, d.cell 6 rfl, d.cell 7 rfl, d.cell 8 rfl, d.cell 9 rfl⟩
  obtain ⟨j0, j1, j2, j3, j4, j5, j6, j7, j8, j9⟩ : w6.cell? ⟨w3.heap.size, 0, none⟩ = some (.int .i64 a0) ∧ w6.cell? ⟨w3.heap.size, 1, none⟩ = some (.int .i64 a1) ∧ w6.cell? ⟨w3.heap.size, 2, none⟩ = some (.int .u32 (a2 : Nat)) ∧ w6.cell? ⟨w3.heap.size, 3, none⟩ = some (.int .i64 a3) ∧ w6.cell? ⟨w3.heap.size, 4, none⟩ = some (.int .i64 a4) ∧ w6.cell? ⟨w3.heap.size, 5, none⟩ = some (.int .i64 a5) ∧ w6.cell? ⟨w3.heap.size, 6, none⟩ = some (.int .i64 a6) ∧ w6.cell? ⟨w3.heap.size, 7, none⟩ = some (.int .i64 a7) ∧ w6.cell? ⟨w3.heap.size, 8, none⟩ = some (.string a8) ∧ w6.cell? ⟨w3.heap.size, 9, none⟩ = some (.string a9) := by have d := E6.out; exact ⟨d.cell 0 rfl, d.cell 1 rfl, d.cell 2 rfl, d.cell 3 rfl, d.cell 4 rfl, d.cell 5 rfl, d.cell 6 rfl, d.cell 7 rfl, d.cell 8 rfl, d.cell 9 rfl⟩
  go_wp2_with fail
  clear k0 k1 k2 k3 k4 k5 k6 k7 k8 k9 j0 j1 j2 j3 j4 j5 j6 j7 j8 j9
  refine (awake10_any _).mono ?_; rintro e w7 ⟨rfl, g7⟩
  have B7 := Lib.hid (B6.out.trans (g7.mono B6.out.size))
  clear g7 B6
  go_wp2_with fail
  go_ret
  exact ⟨rfl, B7.out⟩
set_option maxRecDepth 100000 in
set_option maxHeartbeats 3200000 in
theorem dback_ny (d b c : Dg) (z1 z2 z3 z4 : Int) (A s t : ByteArray) (w : World) (hs : (s.size : Int) ≤ 2000)
    (HF : Hid (∀ w, Calls Try.prog 7 #[d.val] w fun e w' => e = .returned (.bool true) ∧ Below w.heap.size w w'))
    (H1 : Hid (∀ w, Calls Try.prog 9 #[d.val] w (GivesSE9 w A z1)))
    (H2 : Hid (∀ w, Calls Try.prog 14 #[.string A] w (GivesDZ w b z2)))
    (H3 : Hid (∀ w, Calls Try.prog 14 #[.string s] w (GivesDZ w c z3)))
    (H4 : Hid (∀ w, Calls Try.prog 9 #[c.val] w (GivesSE9 w t z4)))
    (hz1 : (z1 != 0) = true) (hz3 : z3 = 0) (ht : t = s) (hz4 : z4 = 0) :
    Calls Try.prog 5 #[d.val, .string s] w fun e w' => e = .returned (.bool true) ∧ Below w.heap.size w w' := by
  have hz1' : (z1 == 0) = false := by simpa using hz1
  subst hz3 ht hz4
  have hle : decide (2000 < (t.size : Int)) = false := decide_eq_false (by omega)
  clear hs
  obtain ⟨a0, a1, a2, a3, a4, a5, a6, a7, a8, a9⟩ := d
  obtain ⟨b0, b1, b2, b3, b4, b5, b6, b7, b8, b9⟩ := b
  obtain ⟨c0, c1, c2, c3, c4, c5, c6, c7, c8, c9⟩ := c
  unfold GivesDZ at H2 H3
  unfold Dg.val at *
  simp only at HF H1 H2 H3 H4
  simp only
  go_enter Try.func5, Try.ntmps5
  go_wp2_with fail
  refine (HF.out _).mono ?_; rintro e w1 ⟨rfl, g1⟩
  have B1 : Hid (Below w.heap.size w w1) := Lib.hid (((Below.refl _ _).alloc (Nat.le_refl _) _).trans (g1.mono (by simp)))
  have D1 := Lib.hid ((At.new w 24 [.int .i64 a0, .int .i64 a1, .int .u32 (a2 : Nat), .int .i64 a3, .int .i64 a4, .int .i64 a5, .int .i64 a6, .int .i64 a7, .string a8, .string a9]).below g1 (by simp))
  clear g1
  obtain ⟨k0, k1, k2, k3, k4, k5, k6, k7, k8, k9⟩ : w1.cell? ⟨w.heap.size, 0, none⟩ = some (.int .i64 a0) ∧ w1.cell? ⟨w.heap.size, 1, none⟩ = some (.int .i64 a1) ∧ w1.cell? ⟨w.heap.size, 2, none⟩ = some (.int .u32 (a2 : Nat)) ∧ w1.cell? ⟨w.heap.size, 3, none⟩ = some (.int .i64 a3) ∧ w1.cell? ⟨w.heap.size, 4, none⟩ = some (.int .i64 a4) ∧ w1.cell? ⟨w.heap.size, 5, none⟩ = some (.int .i64 a5) ∧ w1.cell? ⟨w.heap.size, 6, none⟩ = some (.int .i64 a6) ∧ w1.cell? ⟨w.heap.size, 7, none⟩ = some (.int .i64 a7) ∧ w1.cell? ⟨w.heap.size, 8, none⟩ = some (.string a8) ∧ w1.cell? ⟨w.heap.size, 9, none⟩ = some (.string a9) := by have d := D1.out; exact ⟨d.cell 0 rfl, d.cell 1 rfl, d.cell 2 rfl, d.cell 3 rfl, d.cell 4 rfl, d.cell 5 rfl, d.cell 6 rfl, d.cell 7 rfl, d.cell 8 rfl, d.cell 9 rfl⟩
  go_wp2_with fail
  clear k0 k1 k2 k3 k4 k5 k6 k7 k8 k9
  refine (H1.out _).mono ?_; rintro e w2 ⟨rfl, g2⟩
  have B2 := Lib.hid (B1.out.trans (g2.mono B1.out.size))
  have D2 := Lib.hid (D1.out.below g2 D1.out.lt)
  clear g2 B1 D1
  go_wp2_with fail
  refine (H2.out _).mono ?_; rintro e w3 ⟨rfl, g3⟩
  have B3 := Lib.hid (B2.out.trans (g3.mono B2.out.size))
  have D3 := Lib.hid (D2.out.below g3 D2.out.lt)
  clear g3 B2 D2
  go_wp2_with fail
  refine (H3.out _).mono ?_; rintro e w4 ⟨rfl, g4⟩
  have D4 := Lib.hid ((D3.out.alloc (.cells #[.int .i64 b0, .int .i64 b1, .int .u32 (b2 : Nat), .int .i64 b3, .int .i64 b4, .int .i64 b5, .int .i64 b6, .int .i64 b7, .string b8, .string b9] 24)).below g4 (Nat.lt_of_lt_of_le D3.out.lt (by simp)))
  have E4 : Hid (At w4 w3.heap.size 24 [.int .i64 b0, .int .i64 b1, .int .u32 (b2 : Nat), .int .i64 b3, .int .i64 b4, .int .i64 b5, .int .i64 b6, .int .i64 b7, .string b8, .string b9]) := Lib.hid ((At.new w3 24 [.int .i64 b0, .int .i64 b1, .int .u32 (b2 : Nat), .int .i64 b3, .int .i64 b4, .int .i64 b5, .int .i64 b6, .int .i64 b7, .string b8, .string b9]).below g4 (by simp))
  have B4 := Lib.hid ((B3.out.alloc B3.out.size (.cells #[.int .i64 b0, .int .i64 b1, .int .u32 (b2 : Nat), .int .i64 b3, .int .i64 b4, .int .i64 b5, .int .i64 b6, .int .i64 b7, .string b8, .string b9] 24)).trans (g4.mono (Nat.le_trans B3.out.size (by simp))))
  clear g4 B3 D3
  have D5 := Lib.hid (D4.out.alloc (.cells #[.int .i64 c0, .int .i64 c1, .int .u32 (c2 : Nat), .int .i64 c3, .int .i64 c4, .int .i64 c5, .int .i64 c6, .int .i64 c7, .string c8, .string c9] 24))
  have E5 := Lib.hid (E4.out.alloc (.cells #[.int .i64 c0, .int .i64 c1, .int .u32 (c2 : Nat), .int .i64 c3, .int .i64 c4, .int .i64 c5, .int .i64 c6, .int .i64 c7, .string c8, .string c9] 24))
  have F5 : Hid (At (w4.alloc (.cells #[.int .i64 c0, .int .i64 c1, .int .u32 (c2 : Nat), .int .i64 c3, .int .i64 c4, .int .i64 c5, .int .i64 c6, .int .i64 c7, .string c8, .string c9] 24)) w4.heap.size 24 [.int .i64 c0, .int .i64 c1, .int .u32 (c2 : Nat), .int .i64 c3, .int .i64 c4, .int .i64 c5, .int .i64 c6, .int .i64 c7, .string c8, .string c9]) := Lib.hid (At.new w4 24 [.int .i64 c0, .int .i64 c1, .int .u32 (c2 : Nat), .int .i64 c3, .int .i64 c4, .int .i64 c5, .int .i64 c6, .int .i64 c7, .string c8, .string c9])
  have B5 := Lib.hid (B4.out.alloc B4.out.size (.cells #[.int .i64 c0, .int .i64 c1, .int .u32 (c2 : Nat), .int .i64 c3, .int .i64 c4, .int .i64 c5, .int .i64 c6, .int .i64 c7, .string c8, .string c9] 24))
  clear D4 E4 B4
  obtain ⟨j0, j1, j2, j3, j4, j5, j6, j7, j8, j9⟩ : (w4.alloc (.cells #[.int .i64 c0, .int .i64 c1, .int .u32 (c2 : Nat), .int .i64 c3, .int .i64 c4, .int .i64 c5, .int .i64 c6, .int .i64 c7, .string c8, .string c9] 24)).cell? ⟨w4.heap.size, 0, none⟩ = some (.int .i64 c0) ∧ (w4.alloc (.cells #[.int .i64 c0, .int .i64 c1, .int .u32 (c2 : Nat), .int .i64 c3, .int .i64 c4, .int .i64 c5, .int .i64 c6, .int .i64 c7, .string c8, .string c9] 24)).cell? ⟨w4.heap.size, 1, none⟩ = some (.int .i64 c1) ∧ (w4.alloc (.cells #[.int .i64 c0, .int .i64 c1, .int .u32 (c2 : Nat), .int .i64 c3, .int .i64 c4, .int .i64 c5, .int .i64 c6, .int .i64 c7, .string c8, .string c9] 24)).cell? ⟨w4.heap.size, 2, none⟩ = some (.int .u32 (c2 : Nat)) ∧ (w4.alloc (.cells #[.int .i64 c0, .int .i64 c1, .int .u32 (c2 : Nat), .int .i64 c3, .int .i64 c4, .int .i64 c5, .int .i64 c6, .int .i64 c7, .string c8, .string c9] 24)).cell? ⟨w4.heap.size, 3, none⟩ = some (.int .i64 c3) ∧ (w4.alloc (.cells #[.int .i64 c0, .int .i64 c1, .int .u32 (c2 : Nat), .int .i64 c3, .int .i64 c4, .int .i64 c5, .int .i64 c6, .int .i64 c7, .string c8, .string c9] 24)).cell? ⟨w4.heap.size, 4, none⟩ = some (.int .i64 c4) ∧ (w4.alloc (.cells #[.int .i64 c0, .int .i64 c1, .int .u32 (c2 : Nat), .int .i64 c3, .int .i64 c4, .int .i64 c5, .int .i64 c6, .int .i64 c7, .string c8, .string c9] 24)).cell? ⟨w4.heap.size, 5, none⟩ = some (.int .i64 c5) ∧ (w4.alloc (.cells #[.int .i64 c0, .int .i64 c1, .int .u32 (c2 : Nat), .int .i64 c3, .int .i64 c4, .int .i64 c5, .int .i64 c6, .int .i64 c7, .string c8, .string c9] 24)).cell? ⟨w4.heap.size, 6, none⟩ = some (.int .i64 c6) ∧ (w4.alloc (.cells #[.int .i64 c0, .int .i64 c1, .int .u32 (c2 : Nat), .int .i64 c3, .int .i64 c4, .int .i64 c5, .int .i64 c6, .int .i64 c7, .string c8, .string c9] 24)).cell? ⟨w4.heap.size, 7, none⟩ = some (.int .i64 c7) ∧ (w4.alloc (.cells #[.int .i64 c0, .int .i64 c1, .int .u32 (c2 : Nat), .int .i64 c3, .int .i64 c4, .int .i64 c5, .int .i64 c6, .int .i64 c7, .string c8, .string c9] 24)).cell? ⟨w4.heap.size, 8, none⟩ = some (.string c8) ∧ (w4.alloc (.cells #[.int .i64 c0, .int .i64 c1, .int .u32 (c2 : Nat), .int .i64 c3, .int .i64 c4, .int .i64 c5, .int .i64 c6, .int .i64 c7, .string c8, .string c9] 24)).cell? ⟨w4.heap.size, 9, none⟩ = some (.string c9) := by have d := F5.out; exact ⟨d.cell 0 rfl, d.cell 1 rfl, d.cell 2 rfl, d.cell 3 rfl, d.cell 4 rfl, d.cell 5 rfl, d.cell 6 rfl, d.cell 7 rfl, d.cell 8 rfl, d.cell 9 rfl⟩
  go_wp2_with fail
  clear j0 j1 j2 j3 j4 j5 j6 j7 j8 j9
  refine (H4.out _).mono ?_; rintro e w6 ⟨rfl, g6⟩
  have D6 := Lib.hid (D5.out.below g6 D5.out.lt)
  have E6 := Lib.hid (E5.out.below g6 E5.out.lt)
  have B6 := Lib.hid (B5.out.trans (g6.mono B5.out.size))
  clear g6 B5 D5 E5 F5
  obtain ⟨k0, k1, k2, k3, k4, k5, k6, k7, k8, k9⟩ : w6.cell? ⟨w.heap.size, 0, none⟩ = some (.int .i64 a0) ∧ w6.cell? ⟨w.heap.size, 1, none⟩ = some (.int .i64 a1) ∧ w6.cell? ⟨w.heap.size, 2, none⟩ = some (.int .u32 (a2 : Nat)) ∧ w6.cell? ⟨w.heap.size, 3, none⟩ = some (.int .i64 a3) ∧ w6.cell? ⟨w.heap.size, 4, none⟩ = some (.int .i64 a4) ∧ w6.cell? ⟨w.heap.size, 5, none⟩ = some (.int .i64 a5) ∧ w6.cell? ⟨w.heap.size, 6, none⟩ = some (.int .i64 a6) ∧ w6.cell? ⟨w.heap.size, 7, none⟩ = some (.int .i64 a7) ∧ w6.cell? ⟨w.heap.size, 8, none⟩ = some (.string a8) ∧ w6.cell? ⟨w.heap.size, 9, none⟩ = some (.string a9) := by have d := D6.out; exact ⟨d.cell 0 rfl, d.cell 1 rfl, d.cell 2 rfl, d.cell 3 rfl, d.cell 4 rfl, d.cell 5 rfl, d.cell 6 rfl, d.cell 7 rfl, d.cell 8 rfl, d.cell 9 rfl⟩
  obtain ⟨j0, j1, j2, j3, j4, j5, j6, j7, j8, j9⟩ : w6.cell? ⟨w3.heap.size, 0, none⟩ = some (.int .i64 b0) ∧ w6.cell? ⟨w3.heap.size, 1, none⟩ = some (.int .i64 b1) ∧ w6.cell? ⟨w3.heap.size, 2, none⟩ = some (.int .u32 (b2 : Nat)) ∧ w6.cell? ⟨w3.heap.size, 3, none⟩ = some (.int .i64 b3) ∧ w6.cell? ⟨w3.heap.size, 4, none⟩ = some (.int .i64 b4) ∧ w6.cell? ⟨w3.heap.size, 5, none⟩ = some (.int .i64 b5) ∧ w6.cell? ⟨w3.heap.size, 6, none⟩ = some (.int .i64 b6) ∧ w6.cell? ⟨w3.heap.size, 7, none⟩ = some (.int .i64 b7) ∧ w6.cell? ⟨w3.heap.size, 8, none⟩ = some (.string b8) ∧ w6.cell? ⟨w3.heap.size, 9, none⟩ = some (.string b9) := by have d := E6.out; exact ⟨d.cell 0 rfl, d.cell 1 rfl, d.cell 2 rfl, d.cell 3 rfl, d.cell 4 rfl, d.cell 5 rfl, d.cell 6 rfl, d.cell 7 rfl, d.cell 8 rfl, d.cell 9 rfl⟩
  go_wp2_with fail
  clear k0 k1 k2 k3 k4 k5 k6 k7 k8 k9 j0 j1 j2 j3 j4 j5 j6 j7 j8 j9
  refine (awake10_any _).mono ?_; rintro e w7 ⟨rfl, g7⟩
  have B7 := Lib.hid (B6.out.trans (g7.mono B6.out.size))
  clear g7 B6
  go_wp2_with fail
  go_ret
  exact ⟨rfl, B7.out⟩
set_option maxRecDepth 100000 in
set_option maxHeartbeats 3200000 in
theorem dback_nn (d b c : Dg) (z1 z2 z3 z4 : Int) (A s t : ByteArray) (w : World) (hs : (s.size : Int) ≤ 2000)
    (HF : Hid (∀ w, Calls Try.prog 7 #[d.val] w fun e w' => e = .returned (.bool true) ∧ Below w.heap.size w w'))
    (H1 : Hid (∀ w, Calls Try.prog 9 #[d.val] w (GivesSE9 w A z1)))
    (H2 : Hid (∀ w, Calls Try.prog 14 #[.string A] w (GivesDZ w b z2)))
    (H3 : Hid (∀ w, Calls Try.prog 14 #[.string s] w (GivesDZ w c z3)))
    (H4 : Hid (∀ w, Calls Try.prog 9 #[c.val] w (GivesSE9 w t z4)))
    (hz1 : (z1 != 0) = true) (hz3 : (z3 != 0) = true) :
    Calls Try.prog 5 #[d.val, .string s] w fun e w' => e = .returned (.bool true) ∧ Below w.heap.size w w' := by
  have hz1' : (z1 == 0) = false := by simpa using hz1
  have hz3' : (z3 == 0) = false := by simpa using hz3
  have hle : decide (2000 < (s.size : Int)) = false := decide_eq_false (by omega)
  clear hs
  obtain ⟨a0, a1, a2, a3, a4, a5, a6, a7, a8, a9⟩ := d
  obtain ⟨b0, b1, b2, b3, b4, b5, b6, b7, b8, b9⟩ := b
  obtain ⟨c0, c1, c2, c3, c4, c5, c6, c7, c8, c9⟩ := c
  unfold GivesDZ at H2 H3
  unfold Dg.val at *
  simp only at HF H1 H2 H3 H4
  simp only
  go_enter Try.func5, Try.ntmps5
  go_wp2_with fail
  refine (HF.out _).mono ?_; rintro e w1 ⟨rfl, g1⟩
  have B1 : Hid (Below w.heap.size w w1) := Lib.hid (((Below.refl _ _).alloc (Nat.le_refl _) _).trans (g1.mono (by simp)))
  have D1 := Lib.hid ((At.new w 24 [.int .i64 a0, .int .i64 a1, .int .u32 (a2 : Nat), .int .i64 a3, .int .i64 a4, .int .i64 a5, .int .i64 a6, .int .i64 a7, .string a8, .string a9]).below g1 (by simp))
  clear g1
  obtain ⟨k0, k1, k2, k3, k4, k5, k6, k7, k8, k9⟩ : w1.cell? ⟨w.heap.size, 0, none⟩ = some (.int .i64 a0) ∧ w1.cell? ⟨w.heap.size, 1, none⟩ = some (.int .i64 a1) ∧ w1.cell? ⟨w.heap.size, 2, none⟩ = some (.int .u32 (a2 : Nat)) ∧ w1.cell? ⟨w.heap.size, 3, none⟩ = some (.int .i64 a3) ∧ w1.cell? ⟨w.heap.size, 4, none⟩ = some (.int .i64 a4) ∧ w1.cell? ⟨w.heap.size, 5, none⟩ = some (.int .i64 a5) ∧ w1.cell? ⟨w.heap.size, 6, none⟩ = some (.int .i64 a6) ∧ w1.cell? ⟨w.heap.size, 7, none⟩ = some (.int .i64 a7) ∧ w1.cell? ⟨w.heap.size, 8, none⟩ = some (.string a8) ∧ w1.cell? ⟨w.heap.size, 9, none⟩ = some (.string a9) := by have d := D1.out; exact ⟨d.cell 0 rfl, d.cell 1 rfl, d.cell 2 rfl, d.cell 3 rfl, d.cell 4 rfl, d.cell 5 rfl, d.cell 6 rfl, d.cell 7 rfl, d.cell 8 rfl, d.cell 9 rfl⟩
  go_wp2_with fail
  clear k0 k1 k2 k3 k4 k5 k6 k7 k8 k9
  refine (H1.out _).mono ?_; rintro e w2 ⟨rfl, g2⟩
  have B2 := Lib.hid (B1.out.trans (g2.mono B1.out.size))
  have D2 := Lib.hid (D1.out.below g2 D1.out.lt)
  clear g2 B1 D1
  go_wp2_with fail
  refine (H2.out _).mono ?_; rintro e w3 ⟨rfl, g3⟩
  have B3 := Lib.hid (B2.out.trans (g3.mono B2.out.size))
  have D3 := Lib.hid (D2.out.below g3 D2.out.lt)
  clear g3 B2 D2
  go_wp2_with fail
  refine (H3.out _).mono ?_; rintro e w4 ⟨rfl, g4⟩
  have D4 := Lib.hid ((D3.out.alloc (.cells #[.int .i64 b0, .int .i64 b1, .int .u32 (b2 : Nat), .int .i64 b3, .int .i64 b4, .int .i64 b5, .int .i64 b6, .int .i64 b7, .string b8, .string b9] 24)).below g4 (Nat.lt_of_lt_of_le D3.out.lt (by simp)))
  have E4 : Hid (At w4 w3.heap.size 24 [.int .i64 b0, .int .i64 b1, .int .u32 (b2 : Nat), .int .i64 b3, .int .i64 b4, .int .i64 b5, .int .i64 b6, .int .i64 b7, .string b8, .string b9]) := Lib.hid ((At.new w3 24 [.int .i64 b0, .int .i64 b1, .int .u32 (b2 : Nat), .int .i64 b3, .int .i64 b4, .int .i64 b5, .int .i64 b6, .int .i64 b7, .string b8, .string b9]).below g4 (by simp))
  have B4 := Lib.hid ((B3.out.alloc B3.out.size (.cells #[.int .i64 b0, .int .i64 b1, .int .u32 (b2 : Nat), .int .i64 b3, .int .i64 b4, .int .i64 b5, .int .i64 b6, .int .i64 b7, .string b8, .string b9] 24)).trans (g4.mono (Nat.le_trans B3.out.size (by simp))))
  clear g4 B3 D3
  have D5 := Lib.hid (D4.out.alloc (.cells #[.int .i64 c0, .int .i64 c1, .int .u32 (c2 : Nat), .int .i64 c3, .int .i64 c4, .int .i64 c5, .int .i64 c6, .int .i64 c7, .string c8, .string c9] 24))
  have E5 := Lib.hid (E4.out.alloc (.cells #[.int .i64 c0, .int .i64 c1, .int .u32 (c2 : Nat), .int .i64 c3, .int .i64 c4, .int .i64 c5, .int .i64 c6, .int .i64 c7, .string c8, .string c9] 24))
  have F5 : Hid (At (w4.alloc (.cells #[.int .i64 c0, .int .i64 c1, .int .u32 (c2 : Nat), .int .i64 c3, .int .i64 c4, .int .i64 c5, .int .i64 c6, .int .i64 c7, .string c8, .string c9] 24)) w4.heap.size 24 [.int .i64 c0, .int .i64 c1, .int .u32 (c2 : Nat), .int .i64 c3, .int .i64 c4, .int .i64 c5, .int .i64 c6, .int .i64 c7, .string c8, .string c9]) := Lib.hid (At.new w4 24 [.int .i64 c0, .int .i64 c1, .int .u32 (c2 : Nat), .int .i64 c3, .int .i64 c4, .int .i64 c5, .int .i64 c6, .int .i64 c7, .string c8, .string c9])
  have B5 := Lib.hid (B4.out.alloc B4.out.size (.cells #[.int .i64 c0, .int .i64 c1, .int .u32 (c2 : Nat), .int .i64 c3, .int .i64 c4, .int .i64 c5, .int .i64 c6, .int .i64 c7, .string c8, .string c9] 24))
  clear D4 E4 B4
  obtain ⟨j0, j1, j2, j3, j4, j5, j6, j7, j8, j9⟩ : (w4.alloc (.cells #[.int .i64 c0, .int .i64 c1, .int .u32 (c2 : Nat), .int .i64 c3, .int .i64 c4, .int .i64 c5, .int .i64 c6, .int .i64 c7, .string c8, .string c9] 24)).cell? ⟨w4.heap.size, 0, none⟩ = some (.int .i64 c0) ∧ (w4.alloc (.cells #[.int .i64 c0, .int .i64 c1, .int .u32 (c2 : Nat), .int .i64 c3, .int .i64 c4, .int .i64 c5, .int .i64 c6, .int .i64 c7, .string c8, .string c9] 24)).cell? ⟨w4.heap.size, 1, none⟩ = some (.int .i64 c1) ∧ (w4.alloc (.cells #[.int .i64 c0, .int .i64 c1, .int .u32 (c2 : Nat), .int .i64 c3, .int .i64 c4, .int .i64 c5, .int .i64 c6, .int .i64 c7, .string c8, .string c9] 24)).cell? ⟨w4.heap.size, 2, none⟩ = some (.int .u32 (c2 : Nat)) ∧ (w4.alloc (.cells #[.int .i64 c0, .int .i64 c1, .int .u32 (c2 : Nat), .int .i64 c3, .int .i64 c4, .int .i64 c5, .int .i64 c6, .int .i64 c7, .string c8, .string c9] 24)).cell? ⟨w4.heap.size, 3, none⟩ = some (.int .i64 c3) ∧ (w4.alloc (.cells #[.int .i64 c0, .int .i64 c1, .int .u32 (c2 : Nat), .int .i64 c3, .int .i64 c4, .int .i64 c5, .int .i64 c6, .int .i64 c7, .string c8, .string c9] 24)).cell? ⟨w4.heap.size, 4, none⟩ = some (.int .i64 c4) ∧ (w4.alloc (.cells #[.int .i64 c0, .int .i64 c1, .int .u32 (c2 : Nat), .int .i64 c3, .int .i64 c4, .int .i64 c5, .int .i64 c6, .int .i64 c7, .string c8, .string c9] 24)).cell? ⟨w4.heap.size, 5, none⟩ = some (.int .i64 c5) ∧ (w4.alloc (.cells #[.int .i64 c0, .int .i64 c1, .int .u32 (c2 : Nat), .int .i64 c3, .int .i64 c4, .int .i64 c5, .int .i64 c6, .int .i64 c7, .string c8, .string c9] 24)).cell? ⟨w4.heap.size, 6, none⟩ = some (.int .i64 c6) ∧ (w4.alloc (.cells #[.int .i64 c0, .int .i64 c1, .int .u32 (c2 : Nat), .int .i64 c3, .int .i64 c4, .int .i64 c5, .int .i64 c6, .int .i64 c7, .string c8, .string c9] 24)).cell? ⟨w4.heap.size, 7, none⟩ = some (.int .i64 c7) ∧ (w4.alloc (.cells #[.int .i64 c0, .int .i64 c1, .int .u32 (c2 : Nat), .int .i64 c3, .int .i64 c4, .int .i64 c5, .int .i64 c6, .int .i64 c7, .string c8, .string c9] 24)).cell? ⟨w4.heap.size, 8, none⟩ = some (.string c8) ∧ (w4.alloc (.cells #[.int .i64 c0, .int .i64 c1, .int .u32 (c2 : Nat), .int .i64 c3, .int .i64 c4, .int .i64 c5, .int .i64 c6, .int .i64 c7, .string c8, .string c9] 24)).cell? ⟨w4.heap.size, 9, none⟩ = some (.string c9) := by have d := F5.out; exact ⟨d.cell 0 rfl, d.cell 1 rfl, d.cell 2 rfl, d.cell 3 rfl, d.cell 4 rfl, d.cell 5 rfl, d.cell 6 rfl, d.cell 7 rfl, d.cell 8 rfl, d.cell 9 rfl⟩
  go_wp2_with fail
  clear j0 j1 j2 j3 j4 j5 j6 j7 j8 j9
  refine (H4.out _).mono ?_; rintro e w6 ⟨rfl, g6⟩
  have D6 := Lib.hid (D5.out.below g6 D5.out.lt)
  have E6 := Lib.hid (E5.out.below g6 E5.out.lt)
  have B6 := Lib.hid (B5.out.trans (g6.mono B5.out.size))
  clear g6 B5 D5 E5 F5
  obtain ⟨k0, k1, k2, k3, k4, k5, k6, k7, k8, k9⟩ : w6.cell? ⟨w.heap.size, 0, none⟩ = some (.int .i64 a0) ∧ w6.cell? ⟨w.heap.size, 1, none⟩ = some (.int .i64 a1) ∧ w6.cell? ⟨w.heap.size, 2, none⟩ = some (.int .u32 (a2 : Nat)) ∧ w6.cell? ⟨w.heap.size, 3, none⟩ = some (.int .i64 a3) ∧ w6.cell? ⟨w.heap.size, 4, none⟩ = some (.int .i64 a4) ∧ w6.cell? ⟨w.heap.size, 5, none⟩ = some (.int .i64 a5) ∧ w6.cell? ⟨w.heap.size, 6, none⟩ = some (.int .i64 a6) ∧ w6.cell? ⟨w.heap.size, 7, none⟩ = some (.int .i64 a7) ∧ w6.cell? ⟨w.heap.size, 8, none⟩ = some (.string a8) ∧ w6.cell? ⟨w.heap.size, 9, none⟩ = some (.string a9) := by have d := D6.out; exact ⟨d.cell 0 rfl, d.cell 1 rfl, d.cell 2 rfl, d.cell 3 rfl, d.cell 4 rfl, d.cell 5 rfl, d.cell 6 rfl, d.cell 7 rfl, d.cell 8 rfl, d.cell 9 rfl⟩
  obtain ⟨j0, j1, j2, j3, j4, j5, j6, j7, j8, j9⟩ : w6.cell? ⟨w3.heap.size, 0, none⟩ = some (.int .i64 b0) ∧ w6.cell? ⟨w3.heap.size, 1, none⟩ = some (.int .i64 b1) ∧ w6.cell? ⟨w3.heap.size, 2, none⟩ = some (.int .u32 (b2 : Nat)) ∧ w6.cell? ⟨w3.heap.size, 3, none⟩ = some (.int .i64 b3) ∧ w6.cell? ⟨w3.heap.size, 4, none⟩ = some (.int .i64 b4) ∧ w6.cell? ⟨w3.heap.size, 5, none⟩ = some (.int .i64 b5) ∧ w6.cell? ⟨w3.heap.size, 6, none⟩ = some (.int .i64 b6) ∧ w6.cell? ⟨w3.heap.size, 7, none⟩ = some (.int .i64 b7) ∧ w6.cell? ⟨w3.heap.size, 8, none⟩ = some (.string b8) ∧ w6.cell? ⟨w3.heap.size, 9, none⟩ = some (.string b9) := by have d := E6.out; exact ⟨d.cell 0 rfl, d.cell 1 rfl, d.cell 2 rfl, d.cell 3 rfl, d.cell 4 rfl, d.cell 5 rfl, d.cell 6 rfl, d.cell 7 rfl, d.cell 8 rfl, d.cell 9 rfl⟩
  go_wp2_with fail
  clear k0 k1 k2 k3 k4 k5 k6 k7 k8 k9 j0 j1 j2 j3 j4 j5 j6 j7 j8 j9
  refine (awake10_any _).mono ?_; rintro e w7 ⟨rfl, g7⟩
  have B7 := Lib.hid (B6.out.trans (g7.mono B6.out.size))
  clear g7 B6
  go_wp2_with fail
  go_ret
  exact ⟨rfl, B7.out⟩
set_option maxRecDepth 100000 in
theorem dback_few (d : Dg) (s : ByteArray) (w : World) (hd : d.In) (h1 : (d.body.size : Int) ≤ 1100) (h2 : (d.has.size : Int) ≤ 100) (hs : (s.size : Int) ≤ 2000) :
    Calls Try.prog 5 #[d.val, .string s] w fun e w' => e = .returned (.bool true) ∧ Below w.heap.size w w' := by
  have HF := Lib.hid (fun w => few_yes d w h1 h2)
  have H1 := Lib.hid (fun w => dput_any d w hd.1 hd.2.2)
  have H2 := Lib.hid (fun w => dread_any (putT d) w (putT_size d))
  have H3 := Lib.hid (fun w => dread_any s w (by omega))
  have H4 := Lib.hid (fun w => dput_any (rD s) w (rD_block s) (by have := rD_body s; unfold maxLen; omega))
  rcases back_one d hd.1 with hn | ⟨e1, e2, e3⟩
  · rcases back_two s with hm | ⟨f1, f2, f3⟩
    · exact dback_nn d _ _ _ _ _ _ _ s _ w hs HF H1 H2 H3 H4 (by simpa using hn) (by simpa using hm)
    · exact dback_ny d _ _ _ _ _ _ _ s _ w hs HF H1 H2 H3 H4 (by simpa using hn) f1 f2 f3
  · rcases back_two s with hm | ⟨f1, f2, f3⟩
    · exact dback_yn d _ _ _ _ _ _ _ s _ w hs HF H1 H2 H3 H4 e1 e2 e3 (by simpa using hm)
    · exact dback_yy d _ _ _ _ _ _ _ s _ w hs HF H1 H2 H3 H4 e1 e2 e3 f1 f2 f3
set_option maxRecDepth 100000 in
set_option maxHeartbeats 1600000 in
theorem dback_many (d : Dg) (s : ByteArray) (w : World) (h : ¬ ((d.body.size : Int) ≤ 1100 ∧ (d.has.size : Int) ≤ 100)) :
    Calls Try.prog 5 #[d.val, .string s] w fun e w' => e = .returned (.bool true) ∧ Below w.heap.size w w' := by
  have HF := Lib.hid (fun w => few_no d w h)
  clear h
  obtain ⟨a0, a1, a2, a3, a4, a5, a6, a7, a8, a9⟩ := d
  unfold Dg.val at *
  simp only at HF ⊢
  go_enter Try.func5, Try.ntmps5
  go_wp2_with fail
  refine (HF.out _).mono ?_; rintro e w1 ⟨rfl, g1⟩
  have B1 : Hid (Below w.heap.size w w1) := Lib.hid (((Below.refl _ _).alloc (Nat.le_refl _) _).trans (g1.mono (by simp)))
  clear g1
  go_wp2_with fail
  refine (awake10_any _).mono ?_; rintro e w2 ⟨rfl, g2⟩
  have B2 := Lib.hid (B1.out.trans (g2.mono B1.out.size))
  clear g2 B1
  go_wp2_with fail
  go_ret
  exact ⟨rfl, B2.out⟩
set_option maxRecDepth 100000 in
set_option maxHeartbeats 1600000 in
theorem dback_long (d : Dg) (s : ByteArray) (w : World) (h1 : (d.body.size : Int) ≤ 1100) (h2 : (d.has.size : Int) ≤ 100) (hs : ¬ (s.size : Int) ≤ 2000) :
    Calls Try.prog 5 #[d.val, .string s] w fun e w' => e = .returned (.bool true) ∧ Below w.heap.size w w' := by
  have HF := Lib.hid (fun w => few_yes d w h1 h2)
  have hgt : decide (2000 < (s.size : Int)) = true := decide_eq_true (by omega)
  have hg2 : (2000 : Int) < (s.size : Int) := by omega
  clear h1 h2 hs
  obtain ⟨a0, a1, a2, a3, a4, a5, a6, a7, a8, a9⟩ := d
  unfold Dg.val at *
  simp only at HF ⊢
  go_enter Try.func5, Try.ntmps5
  go_wp2_with fail
  refine (HF.out _).mono ?_; rintro e w1 ⟨rfl, g1⟩
  have B1 : Hid (Below w.heap.size w w1) := Lib.hid (((Below.refl _ _).alloc (Nat.le_refl _) _).trans (g1.mono (by simp)))
  clear g1
  go_wp2_with fail
  refine (awake10_any _).mono ?_; rintro e w2 ⟨rfl, g2⟩
  have B2 := Lib.hid (B1.out.trans (g2.mono B1.out.size))
  clear g2 B1
  go_wp2_with fail
  go_ret
  exact ⟨rfl, B2.out⟩
theorem dback_walk (d : Dg) (s : ByteArray) (w : World) (hd : d.In) : Calls Try.prog 5 #[d.val, .string s] w fun e w' => e = .returned (.bool true) ∧ Below w.heap.size w w' := by
  by_cases h : (d.body.size : Int) ≤ 1100 ∧ (d.has.size : Int) ≤ 100
  · by_cases hs : (s.size : Int) ≤ 2000
    · exact dback_few d s w hd h.1 h.2 hs
    · exact dback_long d s w h.1 h.2 hs
  · exact dback_many d s w h
end Go.Proofs.Ytekolkbahhbcjaa

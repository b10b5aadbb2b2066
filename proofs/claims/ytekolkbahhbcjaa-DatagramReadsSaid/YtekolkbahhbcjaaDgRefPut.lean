/- Proved: what the document's Put answers. Conditions: those that the theorems name. -/
import Derived.Test.YtekolkbahhbcjaaDgRefC
namespace Go.Proofs.Ytekolkbahhbcjaa
open Go.ChangeShapes Go.WideShapes Go.ChangeAt Go.RowKit

set_option maxHeartbeats 1600000 in
theorem rnum_text (n m : Nat) (w : World) (hm : m = 1 ∨ m = 2 ∨ m = 4) (h : n < 256 ^ m) : Calls Try.prog 20 #[.int .i64 n, .int .i64 m] w (GivesT w (tx (byteL n m))) := by
  have hn : n < 4294967296 := by
    rcases hm with rfl | rfl | rfl
    · omega
    · omega
    · exact h
  have H : Hid (∀ w, Calls Try.prog 33 #[.int .u32 n, .int .i64 m] w (GivesSE9 w (tx (byteL n m)) (putZ n m))) := Lib.hid fun w => by
    have q := rput_any n m w hn
    rwa [putS_ok hm h] at q
  have h0 : (0 : Int) ≤ (n : Int) := Int.natCast_nonneg _
  have h1 : (n : Int) < 4294967296 := by omega
  generalize tx (byteL n m) = X at *
  generalize putZ n m = z at *
  clear hm h hn
  generalize (m : Int) = mi at *
  go_enter Try.func20, Try.ntmps20
  go_wp2_with fail
  refine (H.out _).mono ?_; rintro e w1 ⟨rfl, g1⟩
  have G1 := Lib.hid g1
  clear g1
  go_wp2_with fail
  go_ret
  exact ⟨rfl, G1.out⟩
theorem app_assoc (a b c : ByteArray) : a ++ b ++ c = a ++ (b ++ c) := ByteArray.append_assoc
set_option maxRecDepth 100000 in
set_option maxHeartbeats 3200000 in
theorem rput_shard1 (a1 a2 i k n m : Nat) (a7 : Int) (a8 a9 : ByteArray) (w : World) (hs : a1 < 256) (h2 : a2 < 4294967296) (hi : i < 256) (hk : k < 256) (hn : n < 256) (hm : m < 65536) (hb : a9.size ≤ 1024) (hz : chk ⟨1, a1, a2, i, k, n, (m : Int) + 1, a7, a8, a9⟩ = 0) (H : ByteArray) (hH : H = xLS ++ tx (byteL 1 1) ++ tx (byteL a1 1) ++ tx (byteL a2 4) ++ (tx (byteL i 1) ++ tx (byteL k 1) ++ tx (byteL n 1) ++ tx (byteL m 2) ++ a9)) (F : ByteArray) (hF : F = H ++ tx (byteL (crcS 0 H) 4)) : Calls Try.prog 10 #[Dg.val ⟨1, a1, a2, i, k, n, (m : Int) + 1, a7, a8, a9⟩] w (GivesSE9 w F 0) := by
  have HC := Lib.hid (fun w => rcheck10_any ⟨1, a1, a2, i, k, n, (m : Int) + 1, a7, a8, a9⟩ w)
  rw [hz] at HC
  unfold Dg.val at HC
  simp only at HC
  clear hz
  have HK : Hid (∀ w, Calls Try.prog 20 #[.int .i64 1, .int .i64 1] w (GivesT w (tx (byteL 1 1)))) := Lib.hid fun w => rnum_text 1 1 w (by simp) (by omega)
  have HS : Hid (∀ w, Calls Try.prog 20 #[.int .i64 (a1 : Nat), .int .i64 1] w (GivesT w (tx (byteL a1 1)))) := Lib.hid fun w => rnum_text a1 1 w (by simp) (by omega)
  have HB : Hid (∀ w, Calls Try.prog 20 #[.int .i64 (a2 : Nat), .int .i64 4] w (GivesT w (tx (byteL a2 4)))) := Lib.hid fun w => rnum_text a2 4 w (by simp) (by omega)
  have HI : Hid (∀ w, Calls Try.prog 20 #[.int .i64 (i : Nat), .int .i64 1] w (GivesT w (tx (byteL i 1)))) := Lib.hid fun w => rnum_text i 1 w (by simp) (by omega)
  have HL : Hid (∀ w, Calls Try.prog 20 #[.int .i64 (k : Nat), .int .i64 1] w (GivesT w (tx (byteL k 1)))) := Lib.hid fun w => rnum_text k 1 w (by simp) (by omega)
  have HN : Hid (∀ w, Calls Try.prog 20 #[.int .i64 (n : Nat), .int .i64 1] w (GivesT w (tx (byteL n 1)))) := Lib.hid fun w => rnum_text n 1 w (by simp) (by omega)
  have HM : Hid (∀ w, Calls Try.prog 20 #[.int .i64 (m : Nat), .int .i64 2] w (GivesT w (tx (byteL m 2)))) := Lib.hid fun w => rnum_text m 2 w (by simp) (by omega)
  have z1 : (tx (byteL 1 1)).size = 1 := by rw [tx_size, byteL_len]
  have z2 : (tx (byteL a1 1)).size = 1 := by rw [tx_size, byteL_len]
  have z3 : (tx (byteL a2 4)).size = 4 := by rw [tx_size, byteL_len]
  have z5 : (tx (byteL i 1)).size = 1 := by rw [tx_size, byteL_len]
  have z6 : (tx (byteL k 1)).size = 1 := by rw [tx_size, byteL_len]
  have z7 : (tx (byteL n 1)).size = 1 := by rw [tx_size, byteL_len]
  have z8 : (tx (byteL m 2)).size = 2 := by rw [tx_size, byteL_len]
  have z0 : xLS.size = 2 := rfl
  generalize tx (byteL 1 1) = X1 at *
  generalize tx (byteL a1 1) = X2 at *
  generalize tx (byteL a2 4) = X3 at *
  generalize tx (byteL i 1) = Y1 at *
  generalize tx (byteL k 1) = Y2 at *
  generalize tx (byteL n 1) = Y3 at *
  generalize tx (byteL m 2) = Y4 at *
  have hH2 : H = xLS ++ X1 ++ X2 ++ X3 ++ Y1 ++ Y2 ++ Y3 ++ Y4 ++ a9 := by rw [hH]; simp only [app_assoc]
  have hHz : H.size ≤ 2000 := by rw [hH2]; simp only [ByteArray.size_append]; omega
  have hcr := crcS_lt (c := 0) (by decide) H
  have HCR := Lib.hid (fun w => rsum7_any H (by unfold maxLen; omega) w)
  generalize crcS 0 H = cc at *
  have HT : Hid (∀ w, Calls Try.prog 20 #[.int .i64 (cc : Nat), .int .i64 4] w (GivesT w (tx (byteL cc 4)))) := Lib.hid fun w => rnum_text cc 4 w (by simp) hcr
  have z4 : (tx (byteL cc 4)).size = 4 := by rw [tx_size, byteL_len]
  generalize tx (byteL cc 4) = X4 at *
  have t0 := add_text (xLS) X1 (by omega)
  have t1 := add_text (xLS ++ X1) X2 (by simp only [ByteArray.size_append]; omega)
  have t2 := add_text (xLS ++ X1 ++ X2) X3 (by simp only [ByteArray.size_append]; omega)
  have t3 := add_text (xLS ++ X1 ++ X2 ++ X3) Y1 (by simp only [ByteArray.size_append]; omega)
  have t4 := add_text (xLS ++ X1 ++ X2 ++ X3 ++ Y1) Y2 (by simp only [ByteArray.size_append]; omega)
  have t5 := add_text (xLS ++ X1 ++ X2 ++ X3 ++ Y1 ++ Y2) Y3 (by simp only [ByteArray.size_append]; omega)
  have t6 := add_text (xLS ++ X1 ++ X2 ++ X3 ++ Y1 ++ Y2 ++ Y3) Y4 (by simp only [ByteArray.size_append]; omega)
  have t7 := add_text (xLS ++ X1 ++ X2 ++ X3 ++ Y1 ++ Y2 ++ Y3 ++ Y4) a9 (by simp only [ByteArray.size_append]; omega)
  have tH := add_text H X4 (by omega)
  rw [← hH2] at t7
  have a1p : (0 : Int) ≤ (a1 : Int) := Int.natCast_nonneg _
  have a1q : (a1 : Int) < 256 := by omega
  have ip : (0 : Int) ≤ (i : Int) := Int.natCast_nonneg _
  have iq : (i : Int) < 256 := by omega
  have kp : (0 : Int) ≤ (k : Int) := Int.natCast_nonneg _
  have kq : (k : Int) < 256 := by omega
  have np : (0 : Int) ≤ (n : Int) := Int.natCast_nonneg _
  have nq : (n : Int) < 256 := by omega
  have mp : (0 : Int) ≤ (m : Int) := Int.natCast_nonneg _
  have mq : (m : Int) < 65536 := by omega
  have ccp : (0 : Int) ≤ (cc : Int) := Int.natCast_nonneg _
  have ccq : (cc : Int) < 4294967296 := by omega
  have a2p : (0 : Int) ≤ (a2 : Int) := Int.natCast_nonneg _
  have a2q : (a2 : Int) < 4294967296 := by omega
  have hwb : IntKind.i64.wrap (a2 : Int) = (a2 : Int) := IntWalk.i64_in _ (by omega)
  have hwc : IntKind.i64.wrap (cc : Int) = (cc : Int) := IntWalk.i64_in _ (by omega)
  have hwm : IntKind.i64.wrap (m : Int) = (m : Int) := IntWalk.i64_in _ (by omega)
  have HF := Lib.hid hF
  clear hF hH hH2 hHz hcr z0 z1 z2 z3 z5 z6 z7 z8 z4 hs h2 hi hk hn hm hb
  unfold Dg.val
  simp only
  go_enter Try.func10, Try.ntmps10
  go_wp2_with fail
  refine (HC.out _).mono ?_; rintro e w1 ⟨rfl, g1⟩
  have D1 := Lib.hid ((At.new w 24 [.int .i64 (1), .int .i64 (a1 : Nat), .int .u32 (a2 : Nat), .int .i64 (i : Nat), .int .i64 (k : Nat), .int .i64 (n : Nat), .int .i64 ((m : Int) + 1), .int .i64 a7, .string a8, .string a9]).below g1 (by simp))
  have B1 : Hid (Below w.heap.size w w1) := Lib.hid (((Below.refl _ _).alloc (Nat.le_refl _) _).trans (g1.mono (by simp)))
  clear g1
  go_wp2_with fail
  have KP : Hid (∀ w6, Below w1.heap.size w1 w6 → w6.cell? ⟨w.heap.size, 0, none⟩ = some (.int .i64 (1)) ∧ w6.cell? ⟨w.heap.size, 1, none⟩ = some (.int .i64 (a1 : Nat)) ∧ w6.cell? ⟨w.heap.size, 2, none⟩ = some (.int .u32 (a2 : Nat))) := Lib.hid fun w6 h => by
    have d := D1.out.below h D1.out.lt
    exact ⟨d.cell 0 rfl, d.cell 1 rfl, d.cell 2 rfl⟩
  have BA : Hid (∀ w6, Below w1.drew.heap.size w1.drew w6 → Below w1.heap.size w1 w6) := Lib.hid fun w6 h => (Below.refl w1.heap.size w1).drew.trans h
  obtain ⟨k0, k1, k2⟩ := KP.out w1.drew (BA.out _ (Below.refl _ _))
  go_region_held3 (fun w' => w'.cell? ⟨w.heap.size, 0, none⟩ = some (.int .i64 (1)) ∧ w'.cell? ⟨w.heap.size, 1, none⟩ = some (.int .i64 (a1 : Nat)) ∧ w'.cell? ⟨w.heap.size, 2, none⟩ = some (.int .u32 (a2 : Nat)))
    (first | go_keep | exact KP.out _ (BA.out _ (Below.refl _ _)) | exact KP.out _ Q3.out | exact KP.out _ Q2.out | exact KP.out _ Q1.out)
    (first
      | ((with_reducible refine (HK.out _).mono ?_); rintro e w3 ⟨rfl, g2⟩; have Q1 := Lib.hid (BA.out _ g2); clear g2)
      | ((with_reducible refine (HS.out _).mono ?_); rintro e w4 ⟨rfl, g3⟩; have Q2 := Lib.hid (Q1.out.trans (g3.mono Q1.out.size)); clear g3)
      | ((with_reducible refine (HB.out _).mono ?_); rintro e w5 ⟨rfl, g4⟩; have Q3 := Lib.hid (Q2.out.trans (g4.mono Q2.out.size)); clear g4))
  have c0 := (D1.out.below Q3.out D1.out.lt).cell 0 rfl
  go_wp2_with fail
  have KQ : Hid (∀ w6, Below w1.heap.size w1 w6 → w6.cell? ⟨w.heap.size, 3, none⟩ = some (.int .i64 (i : Nat)) ∧ w6.cell? ⟨w.heap.size, 4, none⟩ = some (.int .i64 (k : Nat)) ∧ w6.cell? ⟨w.heap.size, 5, none⟩ = some (.int .i64 (n : Nat)) ∧ w6.cell? ⟨w.heap.size, 6, none⟩ = some (.int .i64 ((m : Int) + 1)) ∧ w6.cell? ⟨w.heap.size, 9, none⟩ = some (.string a9)) := Lib.hid fun w6 h => by
    have d := D1.out.below h D1.out.lt
    exact ⟨d.cell 3 rfl, d.cell 4 rfl, d.cell 5 rfl, d.cell 6 rfl, d.cell 9 rfl⟩
  have BB : Hid (∀ w6, Below w5.drew.heap.size w5.drew w6 → Below w1.heap.size w1 w6) := Lib.hid fun w6 h => Q3.out.drew.trans (h.mono Q3.out.size)
  obtain ⟨e0, e1, e2, e3, e4⟩ := KQ.out w5.drew (BB.out _ (Below.refl _ _))
  go_region_held3 (fun w' => w'.cell? ⟨w.heap.size, 3, none⟩ = some (.int .i64 (i : Nat)) ∧ w'.cell? ⟨w.heap.size, 4, none⟩ = some (.int .i64 (k : Nat)) ∧ w'.cell? ⟨w.heap.size, 5, none⟩ = some (.int .i64 (n : Nat)) ∧ w'.cell? ⟨w.heap.size, 6, none⟩ = some (.int .i64 ((m : Int) + 1)) ∧ w'.cell? ⟨w.heap.size, 9, none⟩ = some (.string a9))
    (first | go_keep | exact KQ.out _ (BB.out _ (Below.refl _ _)) | exact KQ.out _ Q7.out | exact KQ.out _ Q6.out | exact KQ.out _ Q5.out | exact KQ.out _ Q4.out)
    (first
      | ((with_reducible refine (HI.out _).mono ?_); rintro e w6 ⟨rfl, g5⟩; have Q4 := Lib.hid (BB.out _ g5); clear g5)
      | ((with_reducible refine (HL.out _).mono ?_); rintro e w7 ⟨rfl, g6⟩; have Q5 := Lib.hid (Q4.out.trans (g6.mono Q4.out.size)); clear g6)
      | ((with_reducible refine (HN.out _).mono ?_); rintro e w8 ⟨rfl, g7⟩; have Q6 := Lib.hid (Q5.out.trans (g7.mono Q5.out.size)); clear g7)
      | ((with_reducible refine (HM.out _).mono ?_); rintro e w9 ⟨rfl, g8⟩; have Q7 := Lib.hid (Q6.out.trans (g8.mono Q6.out.size)); clear g8))
  go_wp2_with fail
  refine (HCR.out _).mono ?_; rintro e wa ⟨rfl, rfl⟩
  go_wp2_with fail
  refine (HT.out _).mono ?_; rintro e wb ⟨rfl, gb⟩
  have QB := Lib.hid (Q7.out.trans (gb.mono Q7.out.size))
  clear gb
  go_wp2_with fail
  go_ret2
  rw [HF.out]
  exact ⟨rfl, B1.out.trans (QB.out.mono B1.out.size)⟩
set_option maxRecDepth 100000 in
set_option maxHeartbeats 3200000 in
theorem rput_shard2 (a1 a2 i k n m : Nat) (a7 : Int) (a8 a9 : ByteArray) (w : World) (hs : a1 < 256) (h2 : a2 < 4294967296) (hi : i < 256) (hk : k < 256) (hn : n < 256) (hm : m < 65536) (hb : a9.size ≤ 1024) (hz : chk ⟨2, a1, a2, i, k, n, (m : Int) + 1, a7, a8, a9⟩ = 0) (H : ByteArray) (hH : H = xLS ++ tx (byteL 2 1) ++ tx (byteL a1 1) ++ tx (byteL a2 4) ++ (tx (byteL i 1) ++ tx (byteL k 1) ++ tx (byteL n 1) ++ tx (byteL m 2) ++ a9)) (F : ByteArray) (hF : F = H ++ tx (byteL (crcS 0 H) 4)) : Calls Try.prog 10 #[Dg.val ⟨2, a1, a2, i, k, n, (m : Int) + 1, a7, a8, a9⟩] w (GivesSE9 w F 0) := by
  have HC := Lib.hid (fun w => rcheck10_any ⟨2, a1, a2, i, k, n, (m : Int) + 1, a7, a8, a9⟩ w)
  rw [hz] at HC
  unfold Dg.val at HC
  simp only at HC
  clear hz
  have HK : Hid (∀ w, Calls Try.prog 20 #[.int .i64 2, .int .i64 1] w (GivesT w (tx (byteL 2 1)))) := Lib.hid fun w => rnum_text 2 1 w (by simp) (by omega)
  have HS : Hid (∀ w, Calls Try.prog 20 #[.int .i64 (a1 : Nat), .int .i64 1] w (GivesT w (tx (byteL a1 1)))) := Lib.hid fun w => rnum_text a1 1 w (by simp) (by omega)
  have HB : Hid (∀ w, Calls Try.prog 20 #[.int .i64 (a2 : Nat), .int .i64 4] w (GivesT w (tx (byteL a2 4)))) := Lib.hid fun w => rnum_text a2 4 w (by simp) (by omega)
  have HI : Hid (∀ w, Calls Try.prog 20 #[.int .i64 (i : Nat), .int .i64 1] w (GivesT w (tx (byteL i 1)))) := Lib.hid fun w => rnum_text i 1 w (by simp) (by omega)
  have HL : Hid (∀ w, Calls Try.prog 20 #[.int .i64 (k : Nat), .int .i64 1] w (GivesT w (tx (byteL k 1)))) := Lib.hid fun w => rnum_text k 1 w (by simp) (by omega)
  have HN : Hid (∀ w, Calls Try.prog 20 #[.int .i64 (n : Nat), .int .i64 1] w (GivesT w (tx (byteL n 1)))) := Lib.hid fun w => rnum_text n 1 w (by simp) (by omega)
  have HM : Hid (∀ w, Calls Try.prog 20 #[.int .i64 (m : Nat), .int .i64 2] w (GivesT w (tx (byteL m 2)))) := Lib.hid fun w => rnum_text m 2 w (by simp) (by omega)
  have z1 : (tx (byteL 2 1)).size = 1 := by rw [tx_size, byteL_len]
  have z2 : (tx (byteL a1 1)).size = 1 := by rw [tx_size, byteL_len]
  have z3 : (tx (byteL a2 4)).size = 4 := by rw [tx_size, byteL_len]
  have z5 : (tx (byteL i 1)).size = 1 := by rw [tx_size, byteL_len]
  have z6 : (tx (byteL k 1)).size = 1 := by rw [tx_size, byteL_len]
  have z7 : (tx (byteL n 1)).size = 1 := by rw [tx_size, byteL_len]
  have z8 : (tx (byteL m 2)).size = 2 := by rw [tx_size, byteL_len]
  have z0 : xLS.size = 2 := rfl
  generalize tx (byteL 2 1) = X1 at *
  generalize tx (byteL a1 1) = X2 at *
  generalize tx (byteL a2 4) = X3 at *
  generalize tx (byteL i 1) = Y1 at *
  generalize tx (byteL k 1) = Y2 at *
  generalize tx (byteL n 1) = Y3 at *
  generalize tx (byteL m 2) = Y4 at *
  have hH2 : H = xLS ++ X1 ++ X2 ++ X3 ++ Y1 ++ Y2 ++ Y3 ++ Y4 ++ a9 := by rw [hH]; simp only [app_assoc]
  have hHz : H.size ≤ 2000 := by rw [hH2]; simp only [ByteArray.size_append]; omega
  have hcr := crcS_lt (c := 0) (by decide) H
  have HCR := Lib.hid (fun w => rsum7_any H (by unfold maxLen; omega) w)
  generalize crcS 0 H = cc at *
  have HT : Hid (∀ w, Calls Try.prog 20 #[.int .i64 (cc : Nat), .int .i64 4] w (GivesT w (tx (byteL cc 4)))) := Lib.hid fun w => rnum_text cc 4 w (by simp) hcr
  have z4 : (tx (byteL cc 4)).size = 4 := by rw [tx_size, byteL_len]
  generalize tx (byteL cc 4) = X4 at *
  have t0 := add_text (xLS) X1 (by omega)
  have t1 := add_text (xLS ++ X1) X2 (by simp only [ByteArray.size_append]; omega)
  have t2 := add_text (xLS ++ X1 ++ X2) X3 (by simp only [ByteArray.size_append]; omega)
  have t3 := add_text (xLS ++ X1 ++ X2 ++ X3) Y1 (by simp only [ByteArray.size_append]; omega)
  have t4 := add_text (xLS ++ X1 ++ X2 ++ X3 ++ Y1) Y2 (by simp only [ByteArray.size_append]; omega)
  have t5 := add_text (xLS ++ X1 ++ X2 ++ X3 ++ Y1 ++ Y2) Y3 (by simp only [ByteArray.size_append]; omega)
  have t6 := add_text (xLS ++ X1 ++ X2 ++ X3 ++ Y1 ++ Y2 ++ Y3) Y4 (by simp only [ByteArray.size_append]; omega)
  have t7 := add_text (xLS ++ X1 ++ X2 ++ X3 ++ Y1 ++ Y2 ++ Y3 ++ Y4) a9 (by simp only [ByteArray.size_append]; omega)
  have tH := add_text H X4 (by omega)
  rw [← hH2] at t7
  have a1p : (0 : Int) ≤ (a1 : Int) := Int.natCast_nonneg _
  have a1q : (a1 : Int) < 256 := by omega
  have ip : (0 : Int) ≤ (i : Int) := Int.natCast_nonneg _
  have iq : (i : Int) < 256 := by omega
  have kp : (0 : Int) ≤ (k : Int) := Int.natCast_nonneg _
  have kq : (k : Int) < 256 := by omega
  have np : (0 : Int) ≤ (n : Int) := Int.natCast_nonneg _
  have nq : (n : Int) < 256 := by omega
  have mp : (0 : Int) ≤ (m : Int) := Int.natCast_nonneg _
  have mq : (m : Int) < 65536 := by omega
  have ccp : (0 : Int) ≤ (cc : Int) := Int.natCast_nonneg _
  have ccq : (cc : Int) < 4294967296 := by omega
  have a2p : (0 : Int) ≤ (a2 : Int) := Int.natCast_nonneg _
  have a2q : (a2 : Int) < 4294967296 := by omega
  have hwb : IntKind.i64.wrap (a2 : Int) = (a2 : Int) := IntWalk.i64_in _ (by omega)
  have hwc : IntKind.i64.wrap (cc : Int) = (cc : Int) := IntWalk.i64_in _ (by omega)
  have hwm : IntKind.i64.wrap (m : Int) = (m : Int) := IntWalk.i64_in _ (by omega)
  have HF := Lib.hid hF
  clear hF hH hH2 hHz hcr z0 z1 z2 z3 z5 z6 z7 z8 z4 hs h2 hi hk hn hm hb
  unfold Dg.val
  simp only
  go_enter Try.func10, Try.ntmps10
  go_wp2_with fail
  refine (HC.out _).mono ?_; rintro e w1 ⟨rfl, g1⟩
  have D1 := Lib.hid ((At.new w 24 [.int .i64 (2), .int .i64 (a1 : Nat), .int .u32 (a2 : Nat), .int .i64 (i : Nat), .int .i64 (k : Nat), .int .i64 (n : Nat), .int .i64 ((m : Int) + 1), .int .i64 a7, .string a8, .string a9]).below g1 (by simp))
  have B1 : Hid (Below w.heap.size w w1) := Lib.hid (((Below.refl _ _).alloc (Nat.le_refl _) _).trans (g1.mono (by simp)))
  clear g1
  go_wp2_with fail
  have KP : Hid (∀ w6, Below w1.heap.size w1 w6 → w6.cell? ⟨w.heap.size, 0, none⟩ = some (.int .i64 (2)) ∧ w6.cell? ⟨w.heap.size, 1, none⟩ = some (.int .i64 (a1 : Nat)) ∧ w6.cell? ⟨w.heap.size, 2, none⟩ = some (.int .u32 (a2 : Nat))) := Lib.hid fun w6 h => by
    have d := D1.out.below h D1.out.lt
    exact ⟨d.cell 0 rfl, d.cell 1 rfl, d.cell 2 rfl⟩
  have BA : Hid (∀ w6, Below w1.drew.heap.size w1.drew w6 → Below w1.heap.size w1 w6) := Lib.hid fun w6 h => (Below.refl w1.heap.size w1).drew.trans h
  obtain ⟨k0, k1, k2⟩ := KP.out w1.drew (BA.out _ (Below.refl _ _))
  go_region_held3 (fun w' => w'.cell? ⟨w.heap.size, 0, none⟩ = some (.int .i64 (2)) ∧ w'.cell? ⟨w.heap.size, 1, none⟩ = some (.int .i64 (a1 : Nat)) ∧ w'.cell? ⟨w.heap.size, 2, none⟩ = some (.int .u32 (a2 : Nat)))
    (first | go_keep | exact KP.out _ (BA.out _ (Below.refl _ _)) | exact KP.out _ Q3.out | exact KP.out _ Q2.out | exact KP.out _ Q1.out)
    (first
      | ((with_reducible refine (HK.out _).mono ?_); rintro e w3 ⟨rfl, g2⟩; have Q1 := Lib.hid (BA.out _ g2); clear g2)
      | ((with_reducible refine (HS.out _).mono ?_); rintro e w4 ⟨rfl, g3⟩; have Q2 := Lib.hid (Q1.out.trans (g3.mono Q1.out.size)); clear g3)
      | ((with_reducible refine (HB.out _).mono ?_); rintro e w5 ⟨rfl, g4⟩; have Q3 := Lib.hid (Q2.out.trans (g4.mono Q2.out.size)); clear g4))
  have c0 := (D1.out.below Q3.out D1.out.lt).cell 0 rfl
  go_wp2_with fail
  have KQ : Hid (∀ w6, Below w1.heap.size w1 w6 → w6.cell? ⟨w.heap.size, 3, none⟩ = some (.int .i64 (i : Nat)) ∧ w6.cell? ⟨w.heap.size, 4, none⟩ = some (.int .i64 (k : Nat)) ∧ w6.cell? ⟨w.heap.size, 5, none⟩ = some (.int .i64 (n : Nat)) ∧ w6.cell? ⟨w.heap.size, 6, none⟩ = some (.int .i64 ((m : Int) + 1)) ∧ w6.cell? ⟨w.heap.size, 9, none⟩ = some (.string a9)) := Lib.hid fun w6 h => by
    have d := D1.out.below h D1.out.lt
    exact ⟨d.cell 3 rfl, d.cell 4 rfl, d.cell 5 rfl, d.cell 6 rfl, d.cell 9 rfl⟩
  have BB : Hid (∀ w6, Below w5.drew.heap.size w5.drew w6 → Below w1.heap.size w1 w6) := Lib.hid fun w6 h => Q3.out.drew.trans (h.mono Q3.out.size)
  obtain ⟨e0, e1, e2, e3, e4⟩ := KQ.out w5.drew (BB.out _ (Below.refl _ _))
  go_region_held3 (fun w' => w'.cell? ⟨w.heap.size, 3, none⟩ = some (.int .i64 (i : Nat)) ∧ w'.cell? ⟨w.heap.size, 4, none⟩ = some (.int .i64 (k : Nat)) ∧ w'.cell? ⟨w.heap.size, 5, none⟩ = some (.int .i64 (n : Nat)) ∧ w'.cell? ⟨w.heap.size, 6, none⟩ = some (.int .i64 ((m : Int) + 1)) ∧ w'.cell? ⟨w.heap.size, 9, none⟩ = some (.string a9))
    (first | go_keep | exact KQ.out _ (BB.out _ (Below.refl _ _)) | exact KQ.out _ Q7.out | exact KQ.out _ Q6.out | exact KQ.out _ Q5.out | exact KQ.out _ Q4.out)
    (first
      | ((with_reducible refine (HI.out _).mono ?_); rintro e w6 ⟨rfl, g5⟩; have Q4 := Lib.hid (BB.out _ g5); clear g5)
      | ((with_reducible refine (HL.out _).mono ?_); rintro e w7 ⟨rfl, g6⟩; have Q5 := Lib.hid (Q4.out.trans (g6.mono Q4.out.size)); clear g6)
      | ((with_reducible refine (HN.out _).mono ?_); rintro e w8 ⟨rfl, g7⟩; have Q6 := Lib.hid (Q5.out.trans (g7.mono Q5.out.size)); clear g7)
      | ((with_reducible refine (HM.out _).mono ?_); rintro e w9 ⟨rfl, g8⟩; have Q7 := Lib.hid (Q6.out.trans (g8.mono Q6.out.size)); clear g8))
  go_wp2_with fail
  refine (HCR.out _).mono ?_; rintro e wa ⟨rfl, rfl⟩
  go_wp2_with fail
  refine (HT.out _).mono ?_; rintro e wb ⟨rfl, gb⟩
  have QB := Lib.hid (Q7.out.trans (gb.mono Q7.out.size))
  clear gb
  go_wp2_with fail
  go_ret2
  rw [HF.out]
  exact ⟨rfl, B1.out.trans (QB.out.mono B1.out.size)⟩
set_option maxRecDepth 100000 in
set_option maxHeartbeats 3200000 in
theorem rput_hav3 (a1 a2 : Nat) (a3 a4 a5 a6 a7 : Int) (a8 a9 : ByteArray) (w : World) (hs : a1 < 256) (h2 : a2 < 4294967296) (hh : a8.size = 32) (hz : chk ⟨3, a1, a2, a3, a4, a5, a6, a7, a8, a9⟩ = 0) (H : ByteArray) (hH : H = xLS ++ tx (byteL 3 1) ++ tx (byteL a1 1) ++ tx (byteL a2 4) ++ a8) (F : ByteArray) (hF : F = H ++ tx (byteL (crcS 0 H) 4)) : Calls Try.prog 10 #[Dg.val ⟨3, a1, a2, a3, a4, a5, a6, a7, a8, a9⟩] w (GivesSE9 w F 0) := by
  have HC := Lib.hid (fun w => rcheck10_any ⟨3, a1, a2, a3, a4, a5, a6, a7, a8, a9⟩ w)
  rw [hz] at HC
  unfold Dg.val at HC
  simp only at HC
  clear hz
  have HK : Hid (∀ w, Calls Try.prog 20 #[.int .i64 3, .int .i64 1] w (GivesT w (tx (byteL 3 1)))) := Lib.hid fun w => rnum_text 3 1 w (by simp) (by omega)
  have HS : Hid (∀ w, Calls Try.prog 20 #[.int .i64 (a1 : Nat), .int .i64 1] w (GivesT w (tx (byteL a1 1)))) := Lib.hid fun w => rnum_text a1 1 w (by simp) (by omega)
  have HB : Hid (∀ w, Calls Try.prog 20 #[.int .i64 (a2 : Nat), .int .i64 4] w (GivesT w (tx (byteL a2 4)))) := Lib.hid fun w => rnum_text a2 4 w (by simp) (by omega)
  have z1 : (tx (byteL 3 1)).size = 1 := by rw [tx_size, byteL_len]
  have z2 : (tx (byteL a1 1)).size = 1 := by rw [tx_size, byteL_len]
  have z3 : (tx (byteL a2 4)).size = 4 := by rw [tx_size, byteL_len]
  have z0 : xLS.size = 2 := rfl
  generalize tx (byteL 3 1) = X1 at *
  generalize tx (byteL a1 1) = X2 at *
  generalize tx (byteL a2 4) = X3 at *
  have hH2 : H = xLS ++ X1 ++ X2 ++ X3 ++ a8 := hH
  have hHz : H.size ≤ 2000 := by rw [hH2]; simp only [ByteArray.size_append]; omega
  have hcr := crcS_lt (c := 0) (by decide) H
  have HCR := Lib.hid (fun w => rsum7_any H (by unfold maxLen; omega) w)
  generalize crcS 0 H = cc at *
  have HT : Hid (∀ w, Calls Try.prog 20 #[.int .i64 (cc : Nat), .int .i64 4] w (GivesT w (tx (byteL cc 4)))) := Lib.hid fun w => rnum_text cc 4 w (by simp) hcr
  have z4 : (tx (byteL cc 4)).size = 4 := by rw [tx_size, byteL_len]
  generalize tx (byteL cc 4) = X4 at *
  have t0 := add_text (xLS) X1 (by omega)
  have t1 := add_text (xLS ++ X1) X2 (by simp only [ByteArray.size_append]; omega)
  have t2 := add_text (xLS ++ X1 ++ X2) X3 (by simp only [ByteArray.size_append]; omega)
  have t3 := add_text (xLS ++ X1 ++ X2 ++ X3) a8 (by simp only [ByteArray.size_append]; omega)
  have tH := add_text H X4 (by omega)
  rw [← hH2] at t3
  have a1p : (0 : Int) ≤ (a1 : Int) := Int.natCast_nonneg _
  have a1q : (a1 : Int) < 256 := by omega
  have ccp : (0 : Int) ≤ (cc : Int) := Int.natCast_nonneg _
  have ccq : (cc : Int) < 4294967296 := by omega
  have a2p : (0 : Int) ≤ (a2 : Int) := Int.natCast_nonneg _
  have a2q : (a2 : Int) < 4294967296 := by omega
  have hwb : IntKind.i64.wrap (a2 : Int) = (a2 : Int) := IntWalk.i64_in _ (by omega)
  have hwc : IntKind.i64.wrap (cc : Int) = (cc : Int) := IntWalk.i64_in _ (by omega)
  have HF := Lib.hid hF
  clear hF hH hH2 hHz hcr z0 z1 z2 z3 z4 hs h2 hh
  unfold Dg.val
  simp only
  go_enter Try.func10, Try.ntmps10
  go_wp2_with fail
  refine (HC.out _).mono ?_; rintro e w1 ⟨rfl, g1⟩
  have D1 := Lib.hid ((At.new w 24 [.int .i64 (3), .int .i64 (a1 : Nat), .int .u32 (a2 : Nat), .int .i64 a3, .int .i64 a4, .int .i64 a5, .int .i64 a6, .int .i64 a7, .string a8, .string a9]).below g1 (by simp))
  have B1 : Hid (Below w.heap.size w w1) := Lib.hid (((Below.refl _ _).alloc (Nat.le_refl _) _).trans (g1.mono (by simp)))
  clear g1
  go_wp2_with fail
  have KP : Hid (∀ w6, Below w1.heap.size w1 w6 → w6.cell? ⟨w.heap.size, 0, none⟩ = some (.int .i64 (3)) ∧ w6.cell? ⟨w.heap.size, 1, none⟩ = some (.int .i64 (a1 : Nat)) ∧ w6.cell? ⟨w.heap.size, 2, none⟩ = some (.int .u32 (a2 : Nat))) := Lib.hid fun w6 h => by
    have d := D1.out.below h D1.out.lt
    exact ⟨d.cell 0 rfl, d.cell 1 rfl, d.cell 2 rfl⟩
  have BA : Hid (∀ w6, Below w1.drew.heap.size w1.drew w6 → Below w1.heap.size w1 w6) := Lib.hid fun w6 h => (Below.refl w1.heap.size w1).drew.trans h
  obtain ⟨k0, k1, k2⟩ := KP.out w1.drew (BA.out _ (Below.refl _ _))
  go_region_held3 (fun w' => w'.cell? ⟨w.heap.size, 0, none⟩ = some (.int .i64 (3)) ∧ w'.cell? ⟨w.heap.size, 1, none⟩ = some (.int .i64 (a1 : Nat)) ∧ w'.cell? ⟨w.heap.size, 2, none⟩ = some (.int .u32 (a2 : Nat)))
    (first | go_keep | exact KP.out _ (BA.out _ (Below.refl _ _)) | exact KP.out _ Q3.out | exact KP.out _ Q2.out | exact KP.out _ Q1.out)
    (first
      | ((with_reducible refine (HK.out _).mono ?_); rintro e w3 ⟨rfl, g2⟩; have Q1 := Lib.hid (BA.out _ g2); clear g2)
      | ((with_reducible refine (HS.out _).mono ?_); rintro e w4 ⟨rfl, g3⟩; have Q2 := Lib.hid (Q1.out.trans (g3.mono Q1.out.size)); clear g3)
      | ((with_reducible refine (HB.out _).mono ?_); rintro e w5 ⟨rfl, g4⟩; have Q3 := Lib.hid (Q2.out.trans (g4.mono Q2.out.size)); clear g4))
  have c0 := (D1.out.below Q3.out D1.out.lt).cell 0 rfl
  have c8 := (D1.out.below Q3.out D1.out.lt).cell 8 rfl
  go_wp2_with fail
  refine (HCR.out _).mono ?_; rintro e wa ⟨rfl, rfl⟩
  go_wp2_with fail
  refine (HT.out _).mono ?_; rintro e wb ⟨rfl, gb⟩
  have QB := Lib.hid (Q3.out.trans (gb.mono Q3.out.size))
  clear gb
  go_wp2_with fail
  go_ret2
  rw [HF.out]
  exact ⟨rfl, B1.out.trans (QB.out.mono B1.out.size)⟩
set_option maxRecDepth 100000 in
set_option maxHeartbeats 3200000 in
theorem rput_cred4 (a1 a2 : Nat) (a3 a4 a5 a6 : Int) (c : Nat) (a8 a9 : ByteArray) (w : World) (hs : a1 < 256) (h2 : a2 < 4294967296) (hc : c < 65536) (hz : chk ⟨4, a1, a2, a3, a4, a5, a6, c, a8, a9⟩ = 0) (H : ByteArray) (hH : H = xLS ++ tx (byteL 4 1) ++ tx (byteL a1 1) ++ tx (byteL a2 4) ++ tx (byteL c 2)) (F : ByteArray) (hF : F = H ++ tx (byteL (crcS 0 H) 4)) : Calls Try.prog 10 #[Dg.val ⟨4, a1, a2, a3, a4, a5, a6, c, a8, a9⟩] w (GivesSE9 w F 0) := by
  have HC := Lib.hid (fun w => rcheck10_any ⟨4, a1, a2, a3, a4, a5, a6, c, a8, a9⟩ w)
  rw [hz] at HC
  unfold Dg.val at HC
  simp only at HC
  clear hz
  have HK : Hid (∀ w, Calls Try.prog 20 #[.int .i64 4, .int .i64 1] w (GivesT w (tx (byteL 4 1)))) := Lib.hid fun w => rnum_text 4 1 w (by simp) (by omega)
  have HS : Hid (∀ w, Calls Try.prog 20 #[.int .i64 (a1 : Nat), .int .i64 1] w (GivesT w (tx (byteL a1 1)))) := Lib.hid fun w => rnum_text a1 1 w (by simp) (by omega)
  have HB : Hid (∀ w, Calls Try.prog 20 #[.int .i64 (a2 : Nat), .int .i64 4] w (GivesT w (tx (byteL a2 4)))) := Lib.hid fun w => rnum_text a2 4 w (by simp) (by omega)
  have HR : Hid (∀ w, Calls Try.prog 20 #[.int .i64 (c : Nat), .int .i64 2] w (GivesT w (tx (byteL c 2)))) := Lib.hid fun w => rnum_text c 2 w (by simp) (by omega)
  have z1 : (tx (byteL 4 1)).size = 1 := by rw [tx_size, byteL_len]
  have z2 : (tx (byteL a1 1)).size = 1 := by rw [tx_size, byteL_len]
  have z3 : (tx (byteL a2 4)).size = 4 := by rw [tx_size, byteL_len]
  have z5 : (tx (byteL c 2)).size = 2 := by rw [tx_size, byteL_len]
  have z0 : xLS.size = 2 := rfl
  generalize tx (byteL 4 1) = X1 at *
  generalize tx (byteL a1 1) = X2 at *
  generalize tx (byteL a2 4) = X3 at *
  generalize tx (byteL c 2) = Y1 at *
  have hH2 : H = xLS ++ X1 ++ X2 ++ X3 ++ Y1 := hH
  have hHz : H.size ≤ 2000 := by rw [hH2]; simp only [ByteArray.size_append]; omega
  have hcr := crcS_lt (c := 0) (by decide) H
  have HCR := Lib.hid (fun w => rsum7_any H (by unfold maxLen; omega) w)
  generalize crcS 0 H = cc at *
  have HT : Hid (∀ w, Calls Try.prog 20 #[.int .i64 (cc : Nat), .int .i64 4] w (GivesT w (tx (byteL cc 4)))) := Lib.hid fun w => rnum_text cc 4 w (by simp) hcr
  have z4 : (tx (byteL cc 4)).size = 4 := by rw [tx_size, byteL_len]
  generalize tx (byteL cc 4) = X4 at *
  have t0 := add_text (xLS) X1 (by omega)
  have t1 := add_text (xLS ++ X1) X2 (by simp only [ByteArray.size_append]; omega)
  have t2 := add_text (xLS ++ X1 ++ X2) X3 (by simp only [ByteArray.size_append]; omega)
  have t3 := add_text (xLS ++ X1 ++ X2 ++ X3) Y1 (by simp only [ByteArray.size_append]; omega)
  have tH := add_text H X4 (by omega)
  rw [← hH2] at t3
  have a1p : (0 : Int) ≤ (a1 : Int) := Int.natCast_nonneg _
  have a1q : (a1 : Int) < 256 := by omega
  have cp : (0 : Int) ≤ (c : Int) := Int.natCast_nonneg _
  have cq : (c : Int) < 65536 := by omega
  have ccp : (0 : Int) ≤ (cc : Int) := Int.natCast_nonneg _
  have ccq : (cc : Int) < 4294967296 := by omega
  have a2p : (0 : Int) ≤ (a2 : Int) := Int.natCast_nonneg _
  have a2q : (a2 : Int) < 4294967296 := by omega
  have hwb : IntKind.i64.wrap (a2 : Int) = (a2 : Int) := IntWalk.i64_in _ (by omega)
  have hwc : IntKind.i64.wrap (cc : Int) = (cc : Int) := IntWalk.i64_in _ (by omega)
  have HF := Lib.hid hF
  clear hF hH hH2 hHz hcr z0 z1 z2 z3 z5 z4 hs h2 hc
  unfold Dg.val
  simp only
  go_enter Try.func10, Try.ntmps10
  go_wp2_with fail
  refine (HC.out _).mono ?_; rintro e w1 ⟨rfl, g1⟩
  have D1 := Lib.hid ((At.new w 24 [.int .i64 (4), .int .i64 (a1 : Nat), .int .u32 (a2 : Nat), .int .i64 a3, .int .i64 a4, .int .i64 a5, .int .i64 a6, .int .i64 (c : Nat), .string a8, .string a9]).below g1 (by simp))
  have B1 : Hid (Below w.heap.size w w1) := Lib.hid (((Below.refl _ _).alloc (Nat.le_refl _) _).trans (g1.mono (by simp)))
  clear g1
  go_wp2_with fail
  have KP : Hid (∀ w6, Below w1.heap.size w1 w6 → w6.cell? ⟨w.heap.size, 0, none⟩ = some (.int .i64 (4)) ∧ w6.cell? ⟨w.heap.size, 1, none⟩ = some (.int .i64 (a1 : Nat)) ∧ w6.cell? ⟨w.heap.size, 2, none⟩ = some (.int .u32 (a2 : Nat))) := Lib.hid fun w6 h => by
    have d := D1.out.below h D1.out.lt
    exact ⟨d.cell 0 rfl, d.cell 1 rfl, d.cell 2 rfl⟩
  have BA : Hid (∀ w6, Below w1.drew.heap.size w1.drew w6 → Below w1.heap.size w1 w6) := Lib.hid fun w6 h => (Below.refl w1.heap.size w1).drew.trans h
  obtain ⟨k0, k1, k2⟩ := KP.out w1.drew (BA.out _ (Below.refl _ _))
  go_region_held3 (fun w' => w'.cell? ⟨w.heap.size, 0, none⟩ = some (.int .i64 (4)) ∧ w'.cell? ⟨w.heap.size, 1, none⟩ = some (.int .i64 (a1 : Nat)) ∧ w'.cell? ⟨w.heap.size, 2, none⟩ = some (.int .u32 (a2 : Nat)))
    (first | go_keep | exact KP.out _ (BA.out _ (Below.refl _ _)) | exact KP.out _ Q3.out | exact KP.out _ Q2.out | exact KP.out _ Q1.out)
    (first
      | ((with_reducible refine (HK.out _).mono ?_); rintro e w3 ⟨rfl, g2⟩; have Q1 := Lib.hid (BA.out _ g2); clear g2)
      | ((with_reducible refine (HS.out _).mono ?_); rintro e w4 ⟨rfl, g3⟩; have Q2 := Lib.hid (Q1.out.trans (g3.mono Q1.out.size)); clear g3)
      | ((with_reducible refine (HB.out _).mono ?_); rintro e w5 ⟨rfl, g4⟩; have Q3 := Lib.hid (Q2.out.trans (g4.mono Q2.out.size)); clear g4))
  have c0 := (D1.out.below Q3.out D1.out.lt).cell 0 rfl
  have c7 := (D1.out.below Q3.out D1.out.lt).cell 7 rfl
  go_wp2_with fail
  refine (HR.out _).mono ?_; rintro e w6 ⟨rfl, g5⟩
  have Q4 := Lib.hid (Q3.out.trans (g5.mono Q3.out.size))
  clear g5
  go_wp2_with fail
  refine (HCR.out _).mono ?_; rintro e wa ⟨rfl, rfl⟩
  go_wp2_with fail
  refine (HT.out _).mono ?_; rintro e wb ⟨rfl, gb⟩
  have QB := Lib.hid (Q4.out.trans (gb.mono Q4.out.size))
  clear gb
  go_wp2_with fail
  go_ret2
  rw [HF.out]
  exact ⟨rfl, B1.out.trans (QB.out.mono B1.out.size)⟩
set_option maxRecDepth 100000 in
set_option maxHeartbeats 3200000 in
theorem rput_bare5 (a1 a2 : Nat) (a3 a4 a5 a6 a7 : Int) (a8 a9 : ByteArray) (w : World) (hs : a1 < 256) (h2 : a2 < 4294967296)  (hz : chk ⟨5, a1, a2, a3, a4, a5, a6, a7, a8, a9⟩ = 0) (H : ByteArray) (hH : H = xLS ++ tx (byteL 5 1) ++ tx (byteL a1 1) ++ tx (byteL a2 4) ++ S0) (F : ByteArray) (hF : F = H ++ tx (byteL (crcS 0 H) 4)) : Calls Try.prog 10 #[Dg.val ⟨5, a1, a2, a3, a4, a5, a6, a7, a8, a9⟩] w (GivesSE9 w F 0) := by
  have HC := Lib.hid (fun w => rcheck10_any ⟨5, a1, a2, a3, a4, a5, a6, a7, a8, a9⟩ w)
  rw [hz] at HC
  unfold Dg.val at HC
  simp only at HC
  clear hz
  have HK : Hid (∀ w, Calls Try.prog 20 #[.int .i64 5, .int .i64 1] w (GivesT w (tx (byteL 5 1)))) := Lib.hid fun w => rnum_text 5 1 w (by simp) (by omega)
  have HS : Hid (∀ w, Calls Try.prog 20 #[.int .i64 (a1 : Nat), .int .i64 1] w (GivesT w (tx (byteL a1 1)))) := Lib.hid fun w => rnum_text a1 1 w (by simp) (by omega)
  have HB : Hid (∀ w, Calls Try.prog 20 #[.int .i64 (a2 : Nat), .int .i64 4] w (GivesT w (tx (byteL a2 4)))) := Lib.hid fun w => rnum_text a2 4 w (by simp) (by omega)
  have z1 : (tx (byteL 5 1)).size = 1 := by rw [tx_size, byteL_len]
  have z2 : (tx (byteL a1 1)).size = 1 := by rw [tx_size, byteL_len]
  have z3 : (tx (byteL a2 4)).size = 4 := by rw [tx_size, byteL_len]
  have z0 : xLS.size = 2 := rfl
  generalize tx (byteL 5 1) = X1 at *
  generalize tx (byteL a1 1) = X2 at *
  generalize tx (byteL a2 4) = X3 at *
  have hH2 : H = xLS ++ X1 ++ X2 ++ X3 := by rw [hH]; exact ByteArray.append_empty
  have hHz : H.size ≤ 2000 := by rw [hH2]; simp only [ByteArray.size_append]; omega
  have hcr := crcS_lt (c := 0) (by decide) H
  have HCR := Lib.hid (fun w => rsum7_any H (by unfold maxLen; omega) w)
  generalize crcS 0 H = cc at *
  have HT : Hid (∀ w, Calls Try.prog 20 #[.int .i64 (cc : Nat), .int .i64 4] w (GivesT w (tx (byteL cc 4)))) := Lib.hid fun w => rnum_text cc 4 w (by simp) hcr
  have z4 : (tx (byteL cc 4)).size = 4 := by rw [tx_size, byteL_len]
  generalize tx (byteL cc 4) = X4 at *
  have t0 := add_text (xLS) X1 (by omega)
  have t1 := add_text (xLS ++ X1) X2 (by simp only [ByteArray.size_append]; omega)
  have t2 := add_text (xLS ++ X1 ++ X2) X3 (by simp only [ByteArray.size_append]; omega)
  have tH := add_text H X4 (by omega)
  rw [← hH2] at t2
  have a1p : (0 : Int) ≤ (a1 : Int) := Int.natCast_nonneg _
  have a1q : (a1 : Int) < 256 := by omega
  have ccp : (0 : Int) ≤ (cc : Int) := Int.natCast_nonneg _
  have ccq : (cc : Int) < 4294967296 := by omega
  have a2p : (0 : Int) ≤ (a2 : Int) := Int.natCast_nonneg _
  have a2q : (a2 : Int) < 4294967296 := by omega
  have hwb : IntKind.i64.wrap (a2 : Int) = (a2 : Int) := IntWalk.i64_in _ (by omega)
  have hwc : IntKind.i64.wrap (cc : Int) = (cc : Int) := IntWalk.i64_in _ (by omega)
  have HF := Lib.hid hF
  clear hF hH hH2 hHz hcr z0 z1 z2 z3 z4 hs h2
  unfold Dg.val
  simp only
  go_enter Try.func10, Try.ntmps10
  go_wp2_with fail
  refine (HC.out _).mono ?_; rintro e w1 ⟨rfl, g1⟩
  have D1 := Lib.hid ((At.new w 24 [.int .i64 (5), .int .i64 (a1 : Nat), .int .u32 (a2 : Nat), .int .i64 a3, .int .i64 a4, .int .i64 a5, .int .i64 a6, .int .i64 a7, .string a8, .string a9]).below g1 (by simp))
  have B1 : Hid (Below w.heap.size w w1) := Lib.hid (((Below.refl _ _).alloc (Nat.le_refl _) _).trans (g1.mono (by simp)))
  clear g1
  go_wp2_with fail
  have KP : Hid (∀ w6, Below w1.heap.size w1 w6 → w6.cell? ⟨w.heap.size, 0, none⟩ = some (.int .i64 (5)) ∧ w6.cell? ⟨w.heap.size, 1, none⟩ = some (.int .i64 (a1 : Nat)) ∧ w6.cell? ⟨w.heap.size, 2, none⟩ = some (.int .u32 (a2 : Nat))) := Lib.hid fun w6 h => by
    have d := D1.out.below h D1.out.lt
    exact ⟨d.cell 0 rfl, d.cell 1 rfl, d.cell 2 rfl⟩
  have BA : Hid (∀ w6, Below w1.drew.heap.size w1.drew w6 → Below w1.heap.size w1 w6) := Lib.hid fun w6 h => (Below.refl w1.heap.size w1).drew.trans h
  obtain ⟨k0, k1, k2⟩ := KP.out w1.drew (BA.out _ (Below.refl _ _))
  go_region_held3 (fun w' => w'.cell? ⟨w.heap.size, 0, none⟩ = some (.int .i64 (5)) ∧ w'.cell? ⟨w.heap.size, 1, none⟩ = some (.int .i64 (a1 : Nat)) ∧ w'.cell? ⟨w.heap.size, 2, none⟩ = some (.int .u32 (a2 : Nat)))
    (first | go_keep | exact KP.out _ (BA.out _ (Below.refl _ _)) | exact KP.out _ Q3.out | exact KP.out _ Q2.out | exact KP.out _ Q1.out)
    (first
      | ((with_reducible refine (HK.out _).mono ?_); rintro e w3 ⟨rfl, g2⟩; have Q1 := Lib.hid (BA.out _ g2); clear g2)
      | ((with_reducible refine (HS.out _).mono ?_); rintro e w4 ⟨rfl, g3⟩; have Q2 := Lib.hid (Q1.out.trans (g3.mono Q1.out.size)); clear g3)
      | ((with_reducible refine (HB.out _).mono ?_); rintro e w5 ⟨rfl, g4⟩; have Q3 := Lib.hid (Q2.out.trans (g4.mono Q2.out.size)); clear g4))
  have c0 := (D1.out.below Q3.out D1.out.lt).cell 0 rfl
  go_wp2_with fail
  refine (HCR.out _).mono ?_; rintro e wa ⟨rfl, rfl⟩
  go_wp2_with fail
  refine (HT.out _).mono ?_; rintro e wb ⟨rfl, gb⟩
  have QB := Lib.hid (Q3.out.trans (gb.mono Q3.out.size))
  clear gb
  go_wp2_with fail
  go_ret2
  rw [HF.out]
  exact ⟨rfl, B1.out.trans (QB.out.mono B1.out.size)⟩
set_option maxRecDepth 100000 in
set_option maxHeartbeats 3200000 in
theorem rput_bare6 (a1 a2 : Nat) (a3 a4 a5 a6 a7 : Int) (a8 a9 : ByteArray) (w : World) (hs : a1 < 256) (h2 : a2 < 4294967296)  (hz : chk ⟨6, a1, a2, a3, a4, a5, a6, a7, a8, a9⟩ = 0) (H : ByteArray) (hH : H = xLS ++ tx (byteL 6 1) ++ tx (byteL a1 1) ++ tx (byteL a2 4) ++ S0) (F : ByteArray) (hF : F = H ++ tx (byteL (crcS 0 H) 4)) : Calls Try.prog 10 #[Dg.val ⟨6, a1, a2, a3, a4, a5, a6, a7, a8, a9⟩] w (GivesSE9 w F 0) := by
  have HC := Lib.hid (fun w => rcheck10_any ⟨6, a1, a2, a3, a4, a5, a6, a7, a8, a9⟩ w)
  rw [hz] at HC
  unfold Dg.val at HC
  simp only at HC
  clear hz
  have HK : Hid (∀ w, Calls Try.prog 20 #[.int .i64 6, .int .i64 1] w (GivesT w (tx (byteL 6 1)))) := Lib.hid fun w => rnum_text 6 1 w (by simp) (by omega)
  have HS : Hid (∀ w, Calls Try.prog 20 #[.int .i64 (a1 : Nat), .int .i64 1] w (GivesT w (tx (byteL a1 1)))) := Lib.hid fun w => rnum_text a1 1 w (by simp) (by omega)
  have HB : Hid (∀ w, Calls Try.prog 20 #[.int .i64 (a2 : Nat), .int .i64 4] w (GivesT w (tx (byteL a2 4)))) := Lib.hid fun w => rnum_text a2 4 w (by simp) (by omega)
  have z1 : (tx (byteL 6 1)).size = 1 := by rw [tx_size, byteL_len]
  have z2 : (tx (byteL a1 1)).size = 1 := by rw [tx_size, byteL_len]
  have z3 : (tx (byteL a2 4)).size = 4 := by rw [tx_size, byteL_len]
  have z0 : xLS.size = 2 := rfl
  generalize tx (byteL 6 1) = X1 at *
  generalize tx (byteL a1 1) = X2 at *
  generalize tx (byteL a2 4) = X3 at *
  have hH2 : H = xLS ++ X1 ++ X2 ++ X3 := by rw [hH]; exact ByteArray.append_empty
  have hHz : H.size ≤ 2000 := by rw [hH2]; simp only [ByteArray.size_append]; omega
  have hcr := crcS_lt (c := 0) (by decide) H
  have HCR := Lib.hid (fun w => rsum7_any H (by unfold maxLen; omega) w)
  generalize crcS 0 H = cc at *
  have HT : Hid (∀ w, Calls Try.prog 20 #[.int .i64 (cc : Nat), .int .i64 4] w (GivesT w (tx (byteL cc 4)))) := Lib.hid fun w => rnum_text cc 4 w (by simp) hcr
  have z4 : (tx (byteL cc 4)).size = 4 := by rw [tx_size, byteL_len]
  generalize tx (byteL cc 4) = X4 at *
  have t0 := add_text (xLS) X1 (by omega)
  have t1 := add_text (xLS ++ X1) X2 (by simp only [ByteArray.size_append]; omega)
  have t2 := add_text (xLS ++ X1 ++ X2) X3 (by simp only [ByteArray.size_append]; omega)
  have tH := add_text H X4 (by omega)
  rw [← hH2] at t2
  have a1p : (0 : Int) ≤ (a1 : Int) := Int.natCast_nonneg _
  have a1q : (a1 : Int) < 256 := by omega
  have ccp : (0 : Int) ≤ (cc : Int) := Int.natCast_nonneg _
  have ccq : (cc : Int) < 4294967296 := by omega
  have a2p : (0 : Int) ≤ (a2 : Int) := Int.natCast_nonneg _
  have a2q : (a2 : Int) < 4294967296 := by omega
  have hwb : IntKind.i64.wrap (a2 : Int) = (a2 : Int) := IntWalk.i64_in _ (by omega)
  have hwc : IntKind.i64.wrap (cc : Int) = (cc : Int) := IntWalk.i64_in _ (by omega)
  have HF := Lib.hid hF
  clear hF hH hH2 hHz hcr z0 z1 z2 z3 z4 hs h2
  unfold Dg.val
  simp only
  go_enter Try.func10, Try.ntmps10
  go_wp2_with fail
  refine (HC.out _).mono ?_; rintro e w1 ⟨rfl, g1⟩
  have D1 := Lib.hid ((At.new w 24 [.int .i64 (6), .int .i64 (a1 : Nat), .int .u32 (a2 : Nat), .int .i64 a3, .int .i64 a4, .int .i64 a5, .int .i64 a6, .int .i64 a7, .string a8, .string a9]).below g1 (by simp))
  have B1 : Hid (Below w.heap.size w w1) := Lib.hid (((Below.refl _ _).alloc (Nat.le_refl _) _).trans (g1.mono (by simp)))
  clear g1
  go_wp2_with fail
  have KP : Hid (∀ w6, Below w1.heap.size w1 w6 → w6.cell? ⟨w.heap.size, 0, none⟩ = some (.int .i64 (6)) ∧ w6.cell? ⟨w.heap.size, 1, none⟩ = some (.int .i64 (a1 : Nat)) ∧ w6.cell? ⟨w.heap.size, 2, none⟩ = some (.int .u32 (a2 : Nat))) := Lib.hid fun w6 h => by
    have d := D1.out.below h D1.out.lt
    exact ⟨d.cell 0 rfl, d.cell 1 rfl, d.cell 2 rfl⟩
  have BA : Hid (∀ w6, Below w1.drew.heap.size w1.drew w6 → Below w1.heap.size w1 w6) := Lib.hid fun w6 h => (Below.refl w1.heap.size w1).drew.trans h
  obtain ⟨k0, k1, k2⟩ := KP.out w1.drew (BA.out _ (Below.refl _ _))
  go_region_held3 (fun w' => w'.cell? ⟨w.heap.size, 0, none⟩ = some (.int .i64 (6)) ∧ w'.cell? ⟨w.heap.size, 1, none⟩ = some (.int .i64 (a1 : Nat)) ∧ w'.cell? ⟨w.heap.size, 2, none⟩ = some (.int .u32 (a2 : Nat)))
    (first | go_keep | exact KP.out _ (BA.out _ (Below.refl _ _)) | exact KP.out _ Q3.out | exact KP.out _ Q2.out | exact KP.out _ Q1.out)
    (first
      | ((with_reducible refine (HK.out _).mono ?_); rintro e w3 ⟨rfl, g2⟩; have Q1 := Lib.hid (BA.out _ g2); clear g2)
      | ((with_reducible refine (HS.out _).mono ?_); rintro e w4 ⟨rfl, g3⟩; have Q2 := Lib.hid (Q1.out.trans (g3.mono Q1.out.size)); clear g3)
      | ((with_reducible refine (HB.out _).mono ?_); rintro e w5 ⟨rfl, g4⟩; have Q3 := Lib.hid (Q2.out.trans (g4.mono Q2.out.size)); clear g4))
  have c0 := (D1.out.below Q3.out D1.out.lt).cell 0 rfl
  go_wp2_with fail
  refine (HCR.out _).mono ?_; rintro e wa ⟨rfl, rfl⟩
  go_wp2_with fail
  refine (HT.out _).mono ?_; rintro e wb ⟨rfl, gb⟩
  have QB := Lib.hid (Q3.out.trans (gb.mono Q3.out.size))
  clear gb
  go_wp2_with fail
  go_ret2
  rw [HF.out]
  exact ⟨rfl, B1.out.trans (QB.out.mono B1.out.size)⟩
set_option maxRecDepth 100000 in
set_option maxHeartbeats 3200000 in
theorem rput_bad (d : Dg) (w : World) (h : chk d ≠ 0) : Calls Try.prog 10 #[d.val] w (GivesSE9 w S0 (chk d)) := by
  have HC := Lib.hid (fun w => rcheck10_any d w)
  have h1 : (chk d == 0) = false := by rw [beq_eq_false_iff_ne]; exact h
  have h2 : (chk d != 0) = true := by rw [bne, h1]; rfl
  generalize chk d = z at *
  clear h
  obtain ⟨a0, a1, a2, a3, a4, a5, a6, a7, a8, a9⟩ := d
  unfold Dg.val at HC ⊢
  simp only at HC ⊢
  go_enter Try.func10, Try.ntmps10
  go_wp2_with fail
  refine (HC.out _).mono ?_; rintro e w1 ⟨rfl, g1⟩
  have B1 : Hid (Below w.heap.size w w1) := Lib.hid (((Below.refl _ _).alloc (Nat.le_refl _) _).trans (g1.mono (by simp)))
  clear g1
  go_wp2_with fail
  go_ret2
  exact ⟨rfl, B1.out⟩
theorem rput10_good (d : Dg) (w : World) (h : chk d = 0) (hb : d.block < 4294967296) : Calls Try.prog 10 #[d.val] w (GivesSE9 w (fullS d) 0) := by
  obtain ⟨⟨hk1, hk2⟩, ⟨hs1, hs2⟩, hg, ho⟩ := chk_zero h
  obtain ⟨F, hF⟩ : ∃ F, F = fullS d := ⟨_, rfl⟩
  obtain ⟨H, hH⟩ : ∃ H, H = headS d := ⟨_, rfl⟩
  have hF2 : F = H ++ tx (byteL (crcS 0 H) 4) := by rw [hF, hH]; rfl
  rw [← hF]
  clear hF
  unfold headS at hH
  obtain ⟨a0, a1, a2, a3, a4, a5, a6, a7, a8, a9⟩ := d
  simp only at hk1 hk2 hs1 hs2 hb hH hg
  obtain ⟨s, rfl⟩ := Int.eq_ofNat_of_zero_le hs1
  rw [Int.toNat_natCast] at hH
  have hsb : s < 256 := by omega
  rcases (show a0 = 1 ∨ a0 = 2 ∨ a0 = 3 ∨ a0 = 4 ∨ a0 = 5 ∨ a0 = 6 by omega) with e | e | e | e | e | e
  iterate 2
    · have hgr : grpOf a0 = .shard := by rw [e]; rfl
      rw [hgr] at hg hH
      subst e
      obtain ⟨⟨h1, h2, h3, h4, h5, h6⟩, h7, h8, h9⟩ := shardE_zero (show shardE _ = 0 from hg)
      simp only at h1 h2 h3 h4 h5 h6 h7 h8 h9
      obtain ⟨i, rfl⟩ := Int.eq_ofNat_of_zero_le h5
      obtain ⟨k, rfl⟩ := Int.eq_ofNat_of_zero_le (show 0 ≤ a4 by omega)
      obtain ⟨n, rfl⟩ := Int.eq_ofNat_of_zero_le (show 0 ≤ a5 by omega)
      obtain ⟨m, hm⟩ := Int.eq_ofNat_of_zero_le (show 0 ≤ a6 - 1 by omega)
      obtain rfl : a6 = (m : Int) + 1 := by omega
      unfold ownS at hH
      simp only [Int.toNat_natCast, Int.add_sub_cancel] at hH
      first
        | exact rput_shard1 s a2 i k n m a7 a8 a9 w hsb hb (by omega) (by omega) (by omega) (by omega) h9 h H hH F hF2
        | exact rput_shard2 s a2 i k n m a7 a8 a9 w hsb hb (by omega) (by omega) (by omega) (by omega) h9 h H hH F hF2
  · have hgr : grpOf a0 = .hav := by rw [e]; rfl
    rw [hgr] at hg hH
    subst e
    have hn : a8.size = 32 := by
      have h0 : (if a8.size = 32 then (0 : Int) else 5) = 0 := hg
      split at h0
      · assumption
      · exact absurd h0 (by decide)
    exact rput_hav3 s a2 a3 a4 a5 a6 a7 a8 a9 w hsb hb hn h H hH F hF2
  · have hgr : grpOf a0 = .cred := by rw [e]; rfl
    rw [hgr] at hg hH
    subst e
    have hc : 0 ≤ a7 ∧ a7 ≤ 65535 := by
      have h0 : (if 0 ≤ a7 ∧ a7 ≤ 65535 then (0 : Int) else 2) = 0 := hg
      split at h0
      · assumption
      · exact absurd h0 (by decide)
    obtain ⟨c, rfl⟩ := Int.eq_ofNat_of_zero_le hc.1
    unfold ownS at hH
    simp only [Int.toNat_natCast] at hH
    exact rput_cred4 s a2 a3 a4 a5 a6 c a8 a9 w hsb hb (by omega) h H hH F hF2
  · have hgr : grpOf a0 = .bare := by rw [e]; rfl
    rw [hgr] at hg hH
    subst e
    exact rput_bare5 s a2 a3 a4 a5 a6 a7 a8 a9 w hsb hb h H hH F hF2
  · have hgr : grpOf a0 = .bare := by rw [e]; rfl
    rw [hgr] at hg hH
    subst e
    exact rput_bare6 s a2 a3 a4 a5 a6 a7 a8 a9 w hsb hb h H hH F hF2
theorem rput10_any (d : Dg) (w : World) (hb : d.block < 4294967296) : Calls Try.prog 10 #[d.val] w (GivesSE9 w (putT d) (chk d)) := by
  unfold putT
  by_cases h : chk d = 0
  · rw [if_pos h, h]; exact rput10_good d w h hb
  · rw [if_neg h]; exact rput_bad d w h
end Go.Proofs.Ytekolkbahhbcjaa

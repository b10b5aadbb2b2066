/- Proved: lemmas of one statement's proof, merged by program: what each part proves stands ahead of it. Conditions: those that the lemmas name. -/
import Derived.Test.YtmnbkghihdbepaaM19

/- Proved: what the functions of each layout that put its own fields answer. Conditions: those that the theorems name. -/
namespace Go.Proofs.Ytmnbkghihdbepaa
open Go.ChangeShapes Go.WideShapes Go.ChangeAt Go.RowKit

/-- A text comes back; nothing that was there has turned. -/
def GivesT (W : World) (t : ByteArray) (e : Ending) (w' : World) : Prop := e = .returned (.string t) ∧ Below W.heap.size W w'
/-- two texts in one, as the walk's run equation. -/
theorem add_text (a b : ByteArray) (h : (a.size : Int) + (b.size : Int) ≤ 6000) (W : World) : (Op.stringOp .add a b).run Try.prog W = .ok (.string (a ++ b)) W := run_string_add_sum W a b (by omega)
theorem u32_is (x : Int) (h0 : 0 ≤ x) (h1 : x < 4294967296) : IntKind.u32.wrap x = x := by
  simp [IntKind.wrap, IntKind.signed, IntKind.bits]
  omega
theorem putS_ok {n m : Nat} (hm : m = 1 ∨ m = 2 ∨ m = 4) (h : n < 256 ^ m) : putS n (m : Int) = tx (byteL n m) := by
  have hz : putZ n (m : Int) = 0 := by
    unfold putZ
    rw [Int.toNat_natCast, if_pos (by unfold sizedB; rcases hm with rfl | rfl | rfl <;> rfl), if_pos h]
  unfold putS
  rw [if_pos hz, Int.toNat_natCast]
theorem dnum_as (n m : Nat) (w : World) (hm : m = 1 ∨ m = 2 ∨ m = 4) (h : n < 256 ^ m) : Calls Try.prog 55 #[.int .u32 n, .int .i64 m] w (GivesT w (tx (byteL n m))) := by
  have hn : n < 4294967296 := by
    rcases hm with rfl | rfl | rfl
    · omega
    · omega
    · exact h
  rw [← putS_ok hm h]
  exact dnum_any n m w hn
theorem put_hav (d : Dg) (w : World) : Calls Try.prog 45 #[d.val] w (GivesT w d.has) := by
  obtain ⟨a0, a1, a2, a3, a4, a5, a6, a7, a8, a9⟩ := d
  unfold Dg.val
  simp only
  go_enter Try.func45, Try.ntmps45
  go_wp2_with fail
  go_ret
  exact ⟨rfl, (Below.refl _ _).alloc (Nat.le_refl _) _⟩
theorem put_bare (d : Dg) (w : World) : Calls Try.prog 53 #[d.val] w (GivesT w S0) := by
  obtain ⟨a0, a1, a2, a3, a4, a5, a6, a7, a8, a9⟩ := d
  unfold Dg.val
  simp only
  go_enter Try.func53, Try.ntmps53
  go_wp2_with fail
  go_ret
  exact ⟨rfl, (Below.refl _ _).alloc (Nat.le_refl _) _⟩
set_option maxHeartbeats 800000 in
theorem put_cred (a0 a1 : Int) (a2 : Nat) (a3 a4 a5 a6 : Int) (a7 : Nat) (a8 a9 : ByteArray) (w : World) (h : a7 < 65536) : Calls Try.prog 49 #[Dg.val ⟨a0, a1, a2, a3, a4, a5, a6, a7, a8, a9⟩] w (GivesT w (tx (byteL a7 2))) := by
  have HN : Hid (∀ w, Calls Try.prog 55 #[.int .u32 a7, .int .i64 2] w (GivesT w (tx (byteL a7 2)))) := Lib.hid fun w => dnum_as a7 2 w (by simp) h
  have h1 : (0 : Int) ≤ (a7 : Int) := Int.natCast_nonneg _
  have h2 : (a7 : Int) < 65536 := by omega
  clear h
  generalize tx (byteL a7 2) = X at *
  unfold Dg.val
  simp only
  go_enter Try.func49, Try.ntmps49
  go_wp2_with fail
  refine (HN.out _).mono ?_; rintro e w1 ⟨rfl, g1⟩
  have B1 : Hid (Below w.heap.size w w1) := Lib.hid (((Below.refl _ _).alloc (Nat.le_refl _) _).trans (g1.mono (by simp)))
  clear g1
  go_wp2_with fail
  go_ret
  exact ⟨rfl, B1.out⟩
set_option maxRecDepth 100000 in
set_option maxHeartbeats 3200000 in
theorem put_shard (a0 a1 : Int) (a2 i k n m : Nat) (a7 : Int) (a8 a9 : ByteArray) (w : World) (hi : i < 256) (hk : k < 256) (hn : n < 256) (hm : m < 65536) (hb : a9.size ≤ 1024) : Calls Try.prog 41 #[Dg.val ⟨a0, a1, a2, i, k, n, (m : Int) + 1, a7, a8, a9⟩] w (GivesT w (tx (byteL i 1) ++ tx (byteL k 1) ++ tx (byteL n 1) ++ tx (byteL m 2) ++ a9)) := by
  have HI : Hid (∀ w, Calls Try.prog 55 #[.int .u32 i, .int .i64 1] w (GivesT w (tx (byteL i 1)))) := Lib.hid fun w => dnum_as i 1 w (by simp) (by omega)
  have HK : Hid (∀ w, Calls Try.prog 55 #[.int .u32 k, .int .i64 1] w (GivesT w (tx (byteL k 1)))) := Lib.hid fun w => dnum_as k 1 w (by simp) (by omega)
  have HN : Hid (∀ w, Calls Try.prog 55 #[.int .u32 n, .int .i64 1] w (GivesT w (tx (byteL n 1)))) := Lib.hid fun w => dnum_as n 1 w (by simp) (by omega)
  have HM : Hid (∀ w, Calls Try.prog 55 #[.int .u32 m, .int .i64 2] w (GivesT w (tx (byteL m 2)))) := Lib.hid fun w => dnum_as m 2 w (by simp) hm
  have z1 : (tx (byteL i 1)).size = 1 := by rw [tx_size, byteL_len]
  have z2 : (tx (byteL k 1)).size = 1 := by rw [tx_size, byteL_len]
  have z3 : (tx (byteL n 1)).size = 1 := by rw [tx_size, byteL_len]
  have z4 : (tx (byteL m 2)).size = 2 := by rw [tx_size, byteL_len]
  generalize tx (byteL i 1) = X1 at *
  generalize tx (byteL k 1) = X2 at *
  generalize tx (byteL n 1) = X3 at *
  generalize tx (byteL m 2) = X4 at *
  have o1 : (X1.size : Int) + (X2.size : Int) ≤ 6000 := by omega
  have o2 : ((X1 ++ X2).size : Int) + (X3.size : Int) ≤ 6000 := by simp only [ByteArray.size_append]; omega
  have o3 : ((X1 ++ X2 ++ X3).size : Int) + (X4.size : Int) ≤ 6000 := by simp only [ByteArray.size_append]; omega
  have o4 : ((X1 ++ X2 ++ X3 ++ X4).size : Int) + (a9.size : Int) ≤ 6000 := by simp only [ByteArray.size_append]; omega
  have t1 := add_text X1 X2 o1
  have t2 := add_text (X1 ++ X2) X3 o2
  have t3 := add_text (X1 ++ X2 ++ X3) X4 o3
  have t4 := add_text (X1 ++ X2 ++ X3 ++ X4) a9 o4
  have i1 : (0 : Int) ≤ (i : Int) := Int.natCast_nonneg _
  have i2 : (i : Int) < 256 := by omega
  have k1 : (0 : Int) ≤ (k : Int) := Int.natCast_nonneg _
  have k2 : (k : Int) < 256 := by omega
  have n1 : (0 : Int) ≤ (n : Int) := Int.natCast_nonneg _
  have n2 : (n : Int) < 256 := by omega
  have m1 : (0 : Int) ≤ (m : Int) := Int.natCast_nonneg _
  have m2 : (m : Int) < 65536 := by omega
  have hw1 : IntKind.i64.wrap (m : Int) = (m : Int) := IntWalk.i64_in _ (by omega)
  have hw2 : IntKind.u32.wrap (m : Int) = (m : Int) := u32_is _ m1 (by omega)
  have hw3 : IntKind.u32.wrap (i : Int) = (i : Int) := u32_is _ i1 (by omega)
  have hw4 : IntKind.u32.wrap (k : Int) = (k : Int) := u32_is _ k1 (by omega)
  have hw5 : IntKind.u32.wrap (n : Int) = (n : Int) := u32_is _ n1 (by omega)
  clear z1 z2 z3 z4 hi hk hn hm hb o1 o2 o3 o4
  unfold Dg.val
  simp only
  go_enter Try.func41, Try.ntmps41
  go_wp2_with fail
  have D1 := Lib.hid (At.new w 29 [.int .i64 a0, .int .i64 a1, .int .u32 (a2 : Nat), .int .i64 i, .int .i64 k, .int .i64 n, .int .i64 ((m : Int) + 1), .int .i64 a7, .string a8, .string a9])
  have B1 := Lib.hid ((Below.refl w.heap.size w).alloc (Nat.le_refl _) (.cells #[.int .i64 a0, .int .i64 a1, .int .u32 (a2 : Nat), .int .i64 i, .int .i64 k, .int .i64 n, .int .i64 ((m : Int) + 1), .int .i64 a7, .string a8, .string a9] 29))
  change Hid (At (w.alloc (.cells #[.int .i64 a0, .int .i64 a1, .int .u32 (a2 : Nat), .int .i64 i, .int .i64 k, .int .i64 n, .int .i64 ((m : Int) + 1), .int .i64 a7, .string a8, .string a9] 29)) _ _ _) at D1
  generalize w.alloc (.cells #[.int .i64 a0, .int .i64 a1, .int .u32 (a2 : Nat), .int .i64 i, .int .i64 k, .int .i64 n, .int .i64 ((m : Int) + 1), .int .i64 a7, .string a8, .string a9] 29) = w1 at *
  have KP : Hid (∀ w6, Below w1.heap.size w1 w6 → w6.cell? ⟨w.heap.size, 3, none⟩ = some (.int .i64 i) ∧ w6.cell? ⟨w.heap.size, 4, none⟩ = some (.int .i64 k) ∧ w6.cell? ⟨w.heap.size, 5, none⟩ = some (.int .i64 n) ∧ w6.cell? ⟨w.heap.size, 6, none⟩ = some (.int .i64 ((m : Int) + 1)) ∧ w6.cell? ⟨w.heap.size, 9, none⟩ = some (.string a9)) := Lib.hid fun w6 h => by
    have d := D1.out.below h D1.out.lt
    exact ⟨d.cell 3 rfl, d.cell 4 rfl, d.cell 5 rfl, d.cell 6 rfl, d.cell 9 rfl⟩
  have BA : Hid (∀ w6, Below w1.drew.heap.size w1.drew w6 → Below w1.heap.size w1 w6) := Lib.hid fun w6 h => (Below.refl w1.heap.size w1).drew.trans h
  obtain ⟨c0, c1, c2, c3, c4⟩ := KP.out w1.drew (BA.out _ (Below.refl _ _))
  go_region_held3 (fun w' => w'.cell? ⟨w.heap.size, 3, none⟩ = some (.int .i64 i) ∧ w'.cell? ⟨w.heap.size, 4, none⟩ = some (.int .i64 k) ∧ w'.cell? ⟨w.heap.size, 5, none⟩ = some (.int .i64 n) ∧ w'.cell? ⟨w.heap.size, 6, none⟩ = some (.int .i64 ((m : Int) + 1)) ∧ w'.cell? ⟨w.heap.size, 9, none⟩ = some (.string a9))
    (first | go_keep | exact KP.out _ (BA.out _ (Below.refl _ _)) | exact KP.out _ Q4.out | exact KP.out _ Q3.out | exact KP.out _ Q2.out | exact KP.out _ Q1.out)
    (first
      | ((with_reducible refine (HI.out _).mono ?_); rintro e w2 ⟨rfl, g2⟩; have Q1 := Lib.hid (BA.out _ g2); clear g2)
      | ((with_reducible refine (HK.out _).mono ?_); rintro e w3 ⟨rfl, g3⟩; have Q2 := Lib.hid (Q1.out.trans (g3.mono Q1.out.size)); clear g3)
      | ((with_reducible refine (HN.out _).mono ?_); rintro e w4 ⟨rfl, g4⟩; have Q3 := Lib.hid (Q2.out.trans (g4.mono Q2.out.size)); clear g4)
      | ((with_reducible refine (HM.out _).mono ?_); rintro e w5 ⟨rfl, g5⟩; have Q4 := Lib.hid (Q3.out.trans (g5.mono Q3.out.size)); clear g5))
  go_wp2_with fail
  go_ret
  exact ⟨rfl, B1.out.trans (Q4.out.mono B1.out.size)⟩
end Go.Proofs.Ytmnbkghihdbepaa

/- Proved: what Put of package datagram answers. Conditions: those that the theorems name. -/
namespace Go.Proofs.Ytmnbkghihdbepaa
open Go.ChangeShapes Go.WideShapes Go.ChangeAt Go.RowKit

theorem gput_any (g : Grp) (d : Dg) (w : World) (h : grpE g d = 0) : Calls Try.prog (fPut g) #[d.val] w (GivesT w (ownS g d)) := by
  cases g with
  | shard =>
    obtain ⟨⟨h1, h2, h3, h4, h5, h6⟩, h7, h8, h9⟩ := shardE_zero (show shardE d = 0 from h)
    obtain ⟨a0, a1, a2, a3, a4, a5, a6, a7, a8, a9⟩ := d
    simp only at h1 h2 h3 h4 h5 h6 h7 h8 h9
    obtain ⟨i, rfl⟩ := Int.eq_ofNat_of_zero_le h5
    obtain ⟨k, rfl⟩ := Int.eq_ofNat_of_zero_le (show 0 ≤ a4 by omega)
    obtain ⟨n, rfl⟩ := Int.eq_ofNat_of_zero_le (show 0 ≤ a5 by omega)
    obtain ⟨m, hm⟩ := Int.eq_ofNat_of_zero_le (show 0 ≤ a6 - 1 by omega)
    obtain rfl : a6 = (m : Int) + 1 := by omega
    have hq := put_shard a0 a1 a2 i k n m a7 a8 a9 w (by omega) (by omega) (by omega) (by omega) h9
    unfold ownS
    simp only [Int.toNat_natCast, Int.add_sub_cancel]
    exact hq
  | hav => exact put_hav d w
  | cred =>
    have hc : 0 ≤ d.credit ∧ d.credit ≤ 65535 := by
      have h0 : (if 0 ≤ d.credit ∧ d.credit ≤ 65535 then (0 : Int) else 2) = 0 := h
      split at h0
      · assumption
      · exact absurd h0 (by decide)
    obtain ⟨a0, a1, a2, a3, a4, a5, a6, a7, a8, a9⟩ := d
    simp only at hc
    obtain ⟨c, rfl⟩ := Int.eq_ofNat_of_zero_le hc.1
    have hq := put_cred a0 a1 a2 a3 a4 a5 a6 c a8 a9 w (by omega)
    unfold ownS
    simp only [Int.toNat_natCast]
    exact hq
  | bare => exact put_bare d w
theorem ownS_le {d : Dg} (h : chk d = 0) : (ownS (grpOf d.kind) d).size ≤ 1056 := by
  obtain ⟨_, _, h3, h4⟩ := chk_zero h
  have h5 := body_le h
  have h6 := ownS_size h3 h4
  have h7 : grpSz (grpOf d.kind) ≤ 32 := by cases grpOf d.kind <;> decide
  omega
end Go.Proofs.Ytmnbkghihdbepaa

/- Proved: what Put of package datagram answers. Conditions: those that the theorems name. -/
import Derived.Test.YtekolkbahhbcjaaDgPuts
namespace Go.Proofs.Ytekolkbahhbcjaa
open Go.ChangeShapes Go.WideShapes Go.ChangeAt Go.RowKit

theorem gput_any (g : Grp) (d : Dg) (w : World) (h : grpE g d = 0) : Calls Try.prog (fPut g) #[d.val] w (GivesT w (ownS g d)) := by
  cases g with
  | shard =>
    obtain ⟨⟨h1, h2, h3, h4, h5, h6⟩, h7, h8, h9⟩ := shardE_zero (show shardE d = 0 from h)
    obtain ⟨a0, a1, a2, a3, a4, a5, a6, a7, a8, a9⟩ := d
    simp only at h1 h2 h3 h4 h5 h6 h7 h8 h9
    obtain ⟨i, rfl⟩ := Int.eq_ofNat_of_zero_le h5
    obtain ⟨k, rfl⟩ := Int.eq_ofNat_of_zero_le (show 0 ≤ a4 by omega)
    obtain ⟨n, rfl⟩ := Int.eq_ofNat_of_zero_le (show 0 ≤ a5 by omega)
    obtain ⟨m, hm⟩ := Int.eq_ofNat_of_zero_le (show 0 ≤ a6 - 1 by omega)
    obtain rfl : a6 = (m : Int) + 1 := by omega
    have hq := put_shard a0 a1 a2 i k n m a7 a8 a9 w (by omega) (by omega) (by omega) (by omega) h9
    unfold ownS
    simp only [Int.toNat_natCast, Int.add_sub_cancel]
    exact hq
  | hav => exact put_hav d w
  | cred =>
    have hc : 0 ≤ d.credit ∧ d.credit ≤ 65535 := by
      have h0 : (if 0 ≤ d.credit ∧ d.credit ≤ 65535 then (0 : Int) else 2) = 0 := h
      split at h0
      · assumption
      · exact absurd h0 (by decide)
    obtain ⟨a0, a1, a2, a3, a4, a5, a6, a7, a8, a9⟩ := d
    simp only at hc
    obtain ⟨c, rfl⟩ := Int.eq_ofNat_of_zero_le hc.1
    have hq := put_cred a0 a1 a2 a3 a4 a5 a6 c a8 a9 w (by omega)
    unfold ownS
    simp only [Int.toNat_natCast]
    exact hq
  | bare => exact put_bare d w
theorem ownS_le {d : Dg} (h : chk d = 0) : (ownS (grpOf d.kind) d).size ≤ 1056 := by
  obtain ⟨_, _, h3, h4⟩ := chk_zero h
  have h5 := body_le h
  have h6 := ownS_size h3 h4
  have h7 : grpSz (grpOf d.kind) ≤ 32 := by cases grpOf d.kind <;> decide
  omega
set_option maxRecDepth 100000 in
set_option maxHeartbeats 3200000 in
theorem dput_good (d : Dg) (w : World) (h : chk d = 0) (hb : d.block < 4294967296) : Calls Try.prog 9 #[d.val] w (GivesSE9 w (fullS d) 0) := by
  have HC := Lib.hid (fun w => checked_any d w (by have := body_le h; unfold maxLen; omega))
  unfold layT at HC
  rw [if_pos h, h] at HC
  obtain ⟨⟨hk1, hk2⟩, ⟨hs1, hs2⟩, hg, _⟩ := chk_zero h
  have HP := Lib.hid (fun w => gput_any _ d w hg)
  have hol := ownS_le h
  unfold layV at HC
  have hcrc := crcS_lt (c := 0) (by decide) (headS d)
  have HX : Hid (fullS d = headS d ++ tx (byteL (crcS 0 (headS d)) 4)) := Lib.hid rfl
  have HD : Hid (headS d = xLS ++ tx (byteL d.kind.toNat 1) ++ tx (byteL d.stream.toNat 1) ++ tx (byteL d.block 4) ++ ownS (grpOf d.kind) d) := Lib.hid rfl
  generalize ownS (grpOf d.kind) d = O at *
  generalize grpOf d.kind = g at *
  generalize fullS d = F at *
  generalize headS d = Hd at *
  generalize hCc : crcS 0 Hd = cc at *
  have HCC := Lib.hid hCc
  clear h hg hCc
  obtain ⟨a0, a1, a2, a3, a4, a5, a6, a7, a8, a9⟩ := d
  simp only at hk1 hk2 hs1 hs2 hb HD
  obtain ⟨a0, rfl⟩ := Int.eq_ofNat_of_zero_le (show 0 ≤ a0 by omega)
  obtain ⟨a1, rfl⟩ := Int.eq_ofNat_of_zero_le hs1
  rw [Int.toNat_natCast, Int.toNat_natCast] at HD
  have HK : Hid (∀ w, Calls Try.prog 18 #[.int .u32 a0, .int .i64 1] w (GivesT w (tx (byteL a0 1)))) := Lib.hid fun w => dnum_as a0 1 w (by simp) (by omega)
  have HS : Hid (∀ w, Calls Try.prog 18 #[.int .u32 a1, .int .i64 1] w (GivesT w (tx (byteL a1 1)))) := Lib.hid fun w => dnum_as a1 1 w (by simp) (by omega)
  have HB : Hid (∀ w, Calls Try.prog 18 #[.int .u32 a2, .int .i64 4] w (GivesT w (tx (byteL a2 4)))) := Lib.hid fun w => dnum_as a2 4 w (by simp) hb
  have HN : Hid (∀ w, Calls Try.prog 18 #[.int .u32 cc, .int .i64 4] w (GivesT w (tx (byteL cc 4)))) := Lib.hid fun w => dnum_as cc 4 w (by simp) hcrc
  have z1 : (tx (byteL a0 1)).size = 1 := by rw [tx_size, byteL_len]
  have z2 : (tx (byteL a1 1)).size = 1 := by rw [tx_size, byteL_len]
  have z3 : (tx (byteL a2 4)).size = 4 := by rw [tx_size, byteL_len]
  have z4 : (tx (byteL cc 4)).size = 4 := by rw [tx_size, byteL_len]
  have z0 : xLS.size = 2 := rfl
  generalize tx (byteL a0 1) = X1 at *
  generalize tx (byteL a1 1) = X2 at *
  generalize tx (byteL a2 4) = X3 at *
  generalize tx (byteL cc 4) = X4 at *
  have hdz : Hd.size ≤ 2000 := by rw [HD.out]; simp only [ByteArray.size_append]; omega
  have HCR := Lib.hid (fun w => csum_any Hd (by unfold maxLen; omega) w)
  rw [HCC.out] at HCR
  have t1 := add_text xLS X1 (by omega)
  have t2 := add_text (xLS ++ X1) X2 (by simp only [ByteArray.size_append]; omega)
  have t3 := add_text (xLS ++ X1 ++ X2) X3 (by simp only [ByteArray.size_append]; omega)
  have t4 := add_text (xLS ++ X1 ++ X2 ++ X3) O (by simp only [ByteArray.size_append]; omega)
  have t5 := add_text Hd X4 (by omega)
  rw [← HD.out] at t4
  have k1 : (0 : Int) ≤ (a0 : Int) := Int.natCast_nonneg _
  have k2 : (a0 : Int) < 256 := by omega
  have s1 : (0 : Int) ≤ (a1 : Int) := Int.natCast_nonneg _
  have s2 : (a1 : Int) < 256 := by omega
  have hw1 : IntKind.u32.wrap (a0 : Int) = (a0 : Int) := u32_is _ k1 (by omega)
  have hw2 : IntKind.u32.wrap (a1 : Int) = (a1 : Int) := u32_is _ s1 (by omega)
  unfold Dg.val at HC HP ⊢
  simp only at HC HP ⊢
  clear z0 z1 z2 z3 z4 hk1 hk2 hs1 hs2 hb hdz hcrc hol HD HCC
  have hcall := call_put g
  go_enter Try.func9, Try.ntmps9
  go_wp2_with fail
  refine (HC.out _).mono ?_; rintro e w1 ⟨rfl, g1⟩
  have D1 := Lib.hid ((At.new w 24 [.int .i64 (a0 : Nat), .int .i64 (a1 : Nat), .int .u32 (a2 : Nat), .int .i64 a3, .int .i64 a4, .int .i64 a5, .int .i64 a6, .int .i64 a7, .string a8, .string a9]).below g1 (by simp))
  have B1 : Hid (Below w.heap.size w w1) := Lib.hid (((Below.refl _ _).alloc (Nat.le_refl _) _).trans (g1.mono (by simp)))
  clear g1
  go_wp2_with fail
  have D2 := Lib.hid (D1.out.alloc (.cells #[.func (.func (fChk g)) #[] #[], .func (.func (fOut g)) #[] #[], .func (.func (fPut g)) #[] #[], .func (.func (fRead g)) #[] #[], .int .i64 (grpSz g : Nat)] 48))
  have L2 : Hid (At (w1.alloc (.cells #[.func (.func (fChk g)) #[] #[], .func (.func (fOut g)) #[] #[], .func (.func (fPut g)) #[] #[], .func (.func (fRead g)) #[] #[], .int .i64 (grpSz g : Nat)] 48)) w1.heap.size 48 [.func (.func (fChk g)) #[] #[], .func (.func (fOut g)) #[] #[], .func (.func (fPut g)) #[] #[], .func (.func (fRead g)) #[] #[], .int .i64 (grpSz g : Nat)]) := Lib.hid (At.new w1 48 [.func (.func (fChk g)) #[] #[], .func (.func (fOut g)) #[] #[], .func (.func (fPut g)) #[] #[], .func (.func (fRead g)) #[] #[], .int .i64 (grpSz g : Nat)])
  have B2 := Lib.hid (B1.out.alloc B1.out.size (.cells #[.func (.func (fChk g)) #[] #[], .func (.func (fOut g)) #[] #[], .func (.func (fPut g)) #[] #[], .func (.func (fRead g)) #[] #[], .int .i64 (grpSz g : Nat)] 48))
  generalize w1.alloc (.cells #[.func (.func (fChk g)) #[] #[], .func (.func (fOut g)) #[] #[], .func (.func (fPut g)) #[] #[], .func (.func (fRead g)) #[] #[], .int .i64 (grpSz g : Nat)] 48) = w2 at *
  have KP : Hid (∀ w6, Below w2.heap.size w2 w6 → w6.cell? ⟨w.heap.size, 0, none⟩ = some (.int .i64 (a0 : Nat)) ∧ w6.cell? ⟨w.heap.size, 1, none⟩ = some (.int .i64 (a1 : Nat)) ∧ w6.cell? ⟨w.heap.size, 2, none⟩ = some (.int .u32 (a2 : Nat)) ∧ w6.cell? ⟨w.heap.size, 3, none⟩ = some (.int .i64 a3) ∧ w6.cell? ⟨w.heap.size, 4, none⟩ = some (.int .i64 a4) ∧ w6.cell? ⟨w.heap.size, 5, none⟩ = some (.int .i64 a5) ∧ w6.cell? ⟨w.heap.size, 6, none⟩ = some (.int .i64 a6) ∧ w6.cell? ⟨w.heap.size, 7, none⟩ = some (.int .i64 a7) ∧ w6.cell? ⟨w.heap.size, 8, none⟩ = some (.string a8) ∧ w6.cell? ⟨w.heap.size, 9, none⟩ = some (.string a9) ∧ w6.cell? ⟨w1.heap.size, 2, none⟩ = some (.func (.func (fPut g)) #[] #[])) := Lib.hid fun w6 h => by
    have d := D2.out.below h D2.out.lt
    have l := L2.out.below h L2.out.lt
    exact ⟨d.cell 0 rfl, d.cell 1 rfl, d.cell 2 rfl, d.cell 3 rfl, d.cell 4 rfl, d.cell 5 rfl, d.cell 6 rfl, d.cell 7 rfl, d.cell 8 rfl, d.cell 9 rfl, l.cell 2 rfl⟩
  have BA : Hid (∀ w6, Below w2.drew.heap.size w2.drew w6 → Below w2.heap.size w2 w6) := Lib.hid fun w6 h => (Below.refl w2.heap.size w2).drew.trans h
  obtain ⟨k0, k1, k2, k3, k4, k5, k6, k7, k8, k9, l2⟩ := KP.out w2.drew (BA.out _ (Below.refl _ _))
  go_region_held3 (fun w' => w'.cell? ⟨w.heap.size, 0, none⟩ = some (.int .i64 (a0 : Nat)) ∧ w'.cell? ⟨w.heap.size, 1, none⟩ = some (.int .i64 (a1 : Nat)) ∧ w'.cell? ⟨w.heap.size, 2, none⟩ = some (.int .u32 (a2 : Nat)) ∧ w'.cell? ⟨w.heap.size, 3, none⟩ = some (.int .i64 a3) ∧ w'.cell? ⟨w.heap.size, 4, none⟩ = some (.int .i64 a4) ∧ w'.cell? ⟨w.heap.size, 5, none⟩ = some (.int .i64 a5) ∧ w'.cell? ⟨w.heap.size, 6, none⟩ = some (.int .i64 a6) ∧ w'.cell? ⟨w.heap.size, 7, none⟩ = some (.int .i64 a7) ∧ w'.cell? ⟨w.heap.size, 8, none⟩ = some (.string a8) ∧ w'.cell? ⟨w.heap.size, 9, none⟩ = some (.string a9) ∧ w'.cell? ⟨w1.heap.size, 2, none⟩ = some (.func (.func (fPut g)) #[] #[]))
    (first | go_keep | exact KP.out _ (BA.out _ (Below.refl _ _)) | exact KP.out _ Q4.out | exact KP.out _ Q3.out | exact KP.out _ Q2.out | exact KP.out _ Q1.out)
    (first
      | ((with_reducible refine (HK.out _).mono ?_); rintro e w3 ⟨rfl, g2⟩; have Q1 := Lib.hid (BA.out _ g2); clear g2)
      | ((with_reducible refine (HS.out _).mono ?_); rintro e w4 ⟨rfl, g3⟩; have Q2 := Lib.hid (Q1.out.trans (g3.mono Q1.out.size)); clear g3)
      | ((with_reducible refine (HB.out _).mono ?_); rintro e w5 ⟨rfl, g4⟩; have Q3 := Lib.hid (Q2.out.trans (g4.mono Q2.out.size)); clear g4)
      | ((with_reducible refine (HP.out _).mono ?_); rintro e w6 ⟨rfl, g5⟩; have Q4 := Lib.hid (Q3.out.trans (g5.mono Q3.out.size)); clear g5))
  go_wp2_with fail
  refine (HCR.out _).mono ?_; rintro e w7 ⟨rfl, rfl⟩
  go_wp2_with fail
  refine (HN.out _).mono ?_; rintro e w8 ⟨rfl, g8⟩
  have Q8 := Lib.hid (Q4.out.trans (g8.mono Q4.out.size))
  clear g8
  go_wp2_with fail
  go_ret2
  rw [HX.out]
  exact ⟨rfl, B2.out.trans (Q8.out.mono B2.out.size)⟩
set_option maxRecDepth 100000 in
set_option maxHeartbeats 1600000 in
theorem dput_bad (d : Dg) (w : World) (h : chk d ≠ 0) (hb : d.body.size ≤ maxLen) : Calls Try.prog 9 #[d.val] w (GivesSE9 w S0 (chk d)) := by
  have HC := Lib.hid (fun w => checked_any d w hb)
  unfold layT at HC
  rw [if_neg h] at HC
  unfold layNone at HC
  have h1 : (chk d != 0) = true := by simpa using h
  generalize chk d = z at *
  clear h hb
  obtain ⟨a0, a1, a2, a3, a4, a5, a6, a7, a8, a9⟩ := d
  unfold Dg.val at HC ⊢
  simp only at HC ⊢
  go_enter Try.func9, Try.ntmps9
  go_wp2_with fail
  refine (HC.out _).mono ?_; rintro e w1 ⟨rfl, g1⟩
  have B1 : Hid (Below w.heap.size w w1) := Lib.hid (((Below.refl _ _).alloc (Nat.le_refl _) _).trans (g1.mono (by simp)))
  clear g1
  go_wp2_with fail
  go_ret2
  exact ⟨rfl, B1.out.alloc B1.out.size _⟩
theorem dput_any (d : Dg) (w : World) (hb : d.block < 4294967296) (hs : d.body.size ≤ maxLen) : Calls Try.prog 9 #[d.val] w (GivesSE9 w (putT d) (chk d)) := by
  unfold putT
  by_cases h : chk d = 0
  · rw [if_pos h, h]; exact dput_good d w h hb
  · rw [if_neg h]; exact dput_bad d w h hs
end Go.Proofs.Ytekolkbahhbcjaa

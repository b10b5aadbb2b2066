/- Proved: what the function of a shard's layout that reads its own fields leaves, and that of any layout. Conditions: those that the theorems name. -/
import Derived.Test.YtekolkbahhbcjaaDgReads
namespace Go.Proofs.Ytekolkbahhbcjaa
open Go.ChangeShapes Go.WideShapes Go.ChangeAt Go.RowKit

set_option maxRecDepth 100000 in
set_option maxHeartbeats 3200000 in
theorem read_shard_ok (a : ByteArray) (b c : Nat) (w : World) (ha : a.size ≤ 281474976710656) (h : 13 ≤ a.size) (hd : At w b 24 (Dg.cells (pD .bare a))) (hr : Rd w c (sfx a 8) 0) (hbc : b ≠ c) : Calls Try.prog 46 #[.pointer (some ⟨b, 0, none⟩), .pointer (some ⟨c, 0, none⟩)] w (GivesFd w .shard a b c) := by
  have HI : Hid (∀ w, Rd w c (sfx a 8) 0 → Calls Try.prog 25 #[.pointer (some ⟨c, 0, none⟩), .int .i64 1] w (GivesRd w c (.int .u32 (cutN a 8 9 : Nat)) (sfx a 9) 0)) := Lib.hid fun w hr => num_at c a 8 1 9 w hr rfl (by omega) (by simp)
  have HK : Hid (∀ w, Rd w c (sfx a 9) 0 → Calls Try.prog 25 #[.pointer (some ⟨c, 0, none⟩), .int .i64 1] w (GivesRd w c (.int .u32 (cutN a 9 10 : Nat)) (sfx a 10) 0)) := Lib.hid fun w hr => num_at c a 9 1 10 w hr rfl (by omega) (by simp)
  have HN : Hid (∀ w, Rd w c (sfx a 10) 0 → Calls Try.prog 25 #[.pointer (some ⟨c, 0, none⟩), .int .i64 1] w (GivesRd w c (.int .u32 (cutN a 10 11 : Nat)) (sfx a 11) 0)) := Lib.hid fun w hr => num_at c a 10 1 11 w hr rfl (by omega) (by simp)
  have HL : Hid (∀ w, Rd w c (sfx a 11) 0 → Calls Try.prog 25 #[.pointer (some ⟨c, 0, none⟩), .int .i64 2] w (GivesRd w c (.int .u32 (cutN a 11 13 : Nat)) (sfx a 13) 0)) := Lib.hid fun w hr => num_at c a 11 2 13 w hr rfl (by omega) (by simp)
  have HF : Hid (∀ w, Rd w c (sfx a 13) 0 → Calls Try.prog 41 #[.pointer (some ⟨c, 0, none⟩)] w fun e' w' => e' = .returned (.int .i64 (a.size - 13 : Nat)) ∧ w = w') := Lib.hid fun w hr => by
    have h := left_any c _ _ w hr
    rwa [sfx_size] at h
  have HB : Hid (∀ w, Rd w c (sfx a 13) 0 → Calls Try.prog 39 #[.pointer (some ⟨c, 0, none⟩), .int .i64 (a.size - 13 : Nat)] w (GivesRd w c (.string (a.extract 13 a.size)) (sfx a a.size) 0)) := Lib.hid fun w hr => bytes_at c a 13 (a.size - 13) a.size w hr (by omega) (Nat.le_refl _) ha
  have hvi := cutN_lt (a := a) (i := 8) (j := 9) (k := 1) (by omega) rfl
  have hvk := cutN_lt (a := a) (i := 9) (j := 10) (k := 1) (by omega) rfl
  have hvn := cutN_lt (a := a) (i := 10) (j := 11) (k := 1) (by omega) rfl
  have hvl := cutN_lt (a := a) (i := 11) (j := 13) (k := 2) (by omega) rfl
  have HP : Hid (Dg.cells (pD .shard a) = [.int .i64 (cutN a 2 3 : Nat), .int .i64 (cutN a 3 4 : Nat), .int .u32 (cutN a 4 8 : Nat), .int .i64 (cutN a 8 9 : Nat), .int .i64 (cutN a 9 10 : Nat), .int .i64 (cutN a 10 11 : Nat), .int .i64 ((cutN a 11 13 : Nat) + 1), .int .i64 0, .string S0, .string (a.extract 13 a.size)]) := Lib.hid rfl
  generalize cutN a 8 9 = vi at *
  generalize cutN a 9 10 = vk at *
  generalize cutN a 10 11 = vn at *
  generalize cutN a 11 13 = vl at *
  generalize a.extract 13 a.size = X at *
  have i0 : (0 : Int) ≤ (vi : Int) := Int.natCast_nonneg _
  have i1 : (vi : Int) < 256 := by omega
  have k0 : (0 : Int) ≤ (vk : Int) := Int.natCast_nonneg _
  have k1 : (vk : Int) < 256 := by omega
  have n0 : (0 : Int) ≤ (vn : Int) := Int.natCast_nonneg _
  have n1 : (vn : Int) < 256 := by omega
  have l0 : (0 : Int) ≤ (vl : Int) := Int.natCast_nonneg _
  have l1 : (vl : Int) < 65536 := by omega
  have HD := Lib.hid hd
  have HR := Lib.hid hr
  have HH := Lib.hid (And.intro h hbc)
  generalize a.size - 13 = lf at *
  clear hd hr h hbc ha hvi hvk hvn hvl
  go_enter Try.func46, Try.ntmps46
  go_wp2_with fail
  refine (HI.out _ HR.out).mono ?_; rintro e w1 ⟨rfl, hr1, hg1⟩
  have D1 := Lib.hid (HD.out.kept hg1 (by intro e; injection e with e; exact HH.out.2 e.symm))
  have R1 := Lib.hid hr1
  have K1 := Lib.hid ((Kept2.refl w b c).grown2 hg1)
  clear hr1 hg1
  go_wp2_with fail
  refine (HK.out _ R1.out).mono ?_; rintro e w2 ⟨rfl, hr1, hg1⟩
  have D2 := Lib.hid (D1.out.kept hg1 (by intro e; injection e with e; exact HH.out.2 e.symm))
  have R2 := Lib.hid hr1
  have K2 := Lib.hid (K1.out.grown2 hg1)
  clear hr1 hg1
  go_wp2_with fail
  refine (HN.out _ R2.out).mono ?_; rintro e w3 ⟨rfl, hr1, hg1⟩
  have D3 := Lib.hid (D2.out.kept hg1 (by intro e; injection e with e; exact HH.out.2 e.symm))
  have R3 := Lib.hid hr1
  have K3 := Lib.hid (K2.out.grown2 hg1)
  have c3 := D3.out.cell 3 rfl
  have c4 := D3.out.cell 4 rfl
  have c5 := D3.out.cell 5 rfl
  have f3 := D3.out.free 3
  have f4 := D3.out.free 4
  have f5 := D3.out.free 5
  clear hr1 hg1
  go_wp2_with fail
  have D4 := Lib.hid (((D3.out.set_ 3 (.int .i64 vi)).set_ 4 (.int .i64 vk)).set_ 5 (.int .i64 vn))
  have R4 := Lib.hid (((R3.out.far (fun e => HH.out.2 e.symm) 3 (.int .i64 vi)).far (fun e => HH.out.2 e.symm) 4 (.int .i64 vk)).far (fun e => HH.out.2 e.symm) 5 (.int .i64 vn))
  have K4 := Lib.hid (((K3.out.set1 3 (.int .i64 vi)).set1 4 (.int .i64 vk)).set1 5 (.int .i64 vn))
  generalize ((w3.setCell ⟨b, 3, none⟩ (.int .i64 vi)).setCell ⟨b, 4, none⟩ (.int .i64 vk)).setCell ⟨b, 5, none⟩ (.int .i64 vn) = w4 at *
  clear c3 c4 c5 f3 f4 f5
  refine (HL.out _ R4.out).mono ?_; rintro e w5 ⟨rfl, hr1, hg1⟩
  have D5 := Lib.hid (D4.out.kept hg1 (by intro e; injection e with e; exact HH.out.2 e.symm))
  have R5 := Lib.hid hr1
  have K5 := Lib.hid (K4.out.grown2 hg1)
  have c6 := D5.out.cell 6 rfl
  have f6 := D5.out.free 6
  clear hr1 hg1
  go_wp2_with fail
  have D6 := Lib.hid (D5.out.set_ 6 (.int .i64 ((vl : Int) + 1)))
  have R6 := Lib.hid (R5.out.far (fun e => HH.out.2 e.symm) 6 (.int .i64 ((vl : Int) + 1)))
  have K6 := Lib.hid (K5.out.set1 6 (.int .i64 ((vl : Int) + 1)))
  generalize w5.setCell ⟨b, 6, none⟩ (.int .i64 ((vl : Int) + 1)) = w6 at *
  clear c6 f6
  refine (HF.out _ R6.out).mono ?_; rintro e w7 ⟨rfl, rfl⟩
  go_wp2_with fail
  refine (HB.out _ R6.out).mono ?_; rintro e w8 ⟨rfl, hr1, hg1⟩
  have D8 := Lib.hid (D6.out.kept hg1 (by intro e; injection e with e; exact HH.out.2 e.symm))
  have R8 := Lib.hid hr1
  have K8 := Lib.hid (K6.out.grown2 hg1)
  have c9 := D8.out.cell 9 rfl
  have f9 := D8.out.free 9
  clear hr1 hg1
  go_wp2_with fail
  go_end0
  refine ⟨rfl, pD .shard a, _, _, ?_, R8.out.far (fun e => HH.out.2 e.symm) _ _, K8.out.set1 _ _, fun q => ?_, fun _ => ⟨rfl, rfl, ?_⟩⟩
  · rw [HP.out]; exact D8.out.set_ 9 _
  · have q' : a.size - 8 < 5 := q
    have := HH.out.1; omega
  · rw [sfx_size]
    show a.size - a.size = 0
    omega
set_option maxRecDepth 100000 in
set_option maxHeartbeats 3200000 in
theorem read_shard_no (a : ByteArray) (b c : Nat) (w : World) (h8 : 8 ≤ a.size) (h : a.size < 13) (hd : At w b 24 (Dg.cells (pD .bare a))) (hr : Rd w c (sfx a 8) 0) (hbc : b ≠ c) : Calls Try.prog 46 #[.pointer (some ⟨b, 0, none⟩), .pointer (some ⟨c, 0, none⟩)] w (GivesFd w .shard a b c) := by
  have HN : Hid (∀ w s e, Rd w c s e → ∃ v : Nat, v < 4294967296 ∧ Calls Try.prog 25 #[.pointer (some ⟨c, 0, none⟩), .int .i64 1] w (GivesRd w c (.int .u32 v) (tkR s e 1 true) (tkE s e 1 true))) := Lib.hid fun w s e hr => num_short c s e 1 w hr (by simp)
  have HL : Hid (∀ w s e, Rd w c s e → ∃ v : Nat, v < 4294967296 ∧ Calls Try.prog 25 #[.pointer (some ⟨c, 0, none⟩), .int .i64 2] w (GivesRd w c (.int .u32 v) (tkR s e 2 true) (tkE s e 2 true))) := Lib.hid fun w s e hr => num_short c s e 2 w hr (by simp)
  have HF : Hid (∀ w s e, Rd w c s e → Calls Try.prog 41 #[.pointer (some ⟨c, 0, none⟩)] w fun e' w' => e' = .returned (.int .i64 (s.size : Nat)) ∧ w = w') := Lib.hid fun w s e hr => left_any c s e w hr
  have HB : Hid (∀ w s (z : Int), s.size ≤ 281474976710656 → Rd w c s 4 → ∃ t s', Calls Try.prog 39 #[.pointer (some ⟨c, 0, none⟩), .int .i64 z] w (GivesRd w c (.string t) s' 4)) := Lib.hid fun w s z hs hr => by
    have h := bytes_any c s 4 z w hr hs
    rw [stay4] at h
    exact ⟨_, _, h⟩
  -- what the reader holds behind each number
  have s0 : Short (sfx a 8) 0 (a.size - 8) := Or.inl ⟨rfl, sfx_size a 8⟩
  have hsz : (sfx a 8).size ≤ 100 := by rw [sfx_size]; omega
  obtain ⟨r1, hr1⟩ : ∃ r, r = tkR (sfx a 8) 0 1 true := ⟨_, rfl⟩
  obtain ⟨e1, he1⟩ : ∃ r, r = tkE (sfx a 8) 0 1 true := ⟨_, rfl⟩
  obtain ⟨r2, hr2⟩ : ∃ r, r = tkR r1 e1 1 true := ⟨_, rfl⟩
  obtain ⟨e2, he2⟩ : ∃ r, r = tkE r1 e1 1 true := ⟨_, rfl⟩
  obtain ⟨r3, hr3⟩ : ∃ r, r = tkR r2 e2 1 true := ⟨_, rfl⟩
  obtain ⟨e3, he3⟩ : ∃ r, r = tkE r2 e2 1 true := ⟨_, rfl⟩
  obtain ⟨r4, hr4⟩ : ∃ r, r = tkR r3 e3 2 true := ⟨_, rfl⟩
  have z1 : r1.size ≤ 100 := by rw [hr1]; exact Nat.le_trans (tkR_size _ _ _ _) hsz
  have z2 : r2.size ≤ 100 := by rw [hr2]; exact Nat.le_trans (tkR_size _ _ _ _) z1
  have z3 : r3.size ≤ 100 := by rw [hr3]; exact Nat.le_trans (tkR_size _ _ _ _) z2
  have z4 : r4.size ≤ 100 := by rw [hr4]; exact Nat.le_trans (tkR_size _ _ _ _) z3
  have e4 : tkE r3 e3 2 true = 4 := by
    have q4 : ∀ s, tkE s 4 1 true = 4 := fun s => stay4 s 1 true
    by_cases g1 : 1 ≤ a.size - 8
    · have s1 : Short r1 e1 (a.size - 8 - 1) := by rw [hr1, he1]; exact s0.step g1
      by_cases g2 : 1 ≤ a.size - 8 - 1
      · have s2 : Short r2 e2 (a.size - 8 - 1 - 1) := by rw [hr2, he2]; exact s1.step g2
        by_cases g3 : 1 ≤ a.size - 8 - 1 - 1
        · have s3 : Short r3 e3 (a.size - 8 - 1 - 1 - 1) := by rw [hr3, he3]; exact s2.step g3
          exact s3.fail (z := 2) (by omega)
        · have : e3 = 4 := by rw [he3]; exact s2.fail (z := 1) (by omega)
          rw [this]; exact stay4 _ _ _
      · have e2' : e2 = 4 := by rw [he2]; exact s1.fail (z := 1) (by omega)
        have : e3 = 4 := by rw [he3, e2']; exact q4 _
        rw [this]; exact stay4 _ _ _
    · have e1' : e1 = 4 := by rw [he1]; exact s0.fail (z := 1) (by omega)
      have e2' : e2 = 4 := by rw [he2, e1']; exact q4 _
      have : e3 = 4 := by rw [he3, e2']; exact q4 _
      rw [this]; exact stay4 _ _ _
  have HS1 : Hid (tkR (sfx a 8) 0 1 true = r1 ∧ tkE (sfx a 8) 0 1 true = e1) := Lib.hid ⟨hr1.symm, he1.symm⟩
  have HS2 : Hid (tkR r1 e1 1 true = r2 ∧ tkE r1 e1 1 true = e2) := Lib.hid ⟨hr2.symm, he2.symm⟩
  have HS3 : Hid (tkR r2 e2 1 true = r3 ∧ tkE r2 e2 1 true = e3) := Lib.hid ⟨hr3.symm, he3.symm⟩
  have HS4 : Hid (tkR r3 e3 2 true = r4 ∧ tkE r3 e3 2 true = 4) := Lib.hid ⟨hr4.symm, e4⟩
  have HZ : Hid (r4.size ≤ 100) := Lib.hid z4
  clear hr1 he1 hr2 he2 hr3 he3 hr4 e4 z1 z2 z3 z4 s0 hsz
  have HD := Lib.hid hd
  have HR := Lib.hid hr
  have HH := Lib.hid (And.intro h (And.intro h8 hbc))
  clear hd hr h h8 hbc
  go_enter Try.func46, Try.ntmps46
  go_wp2_with fail
  obtain ⟨vi, hvi, hcl⟩ := HN.out _ _ _ HR.out
  rw [HS1.out.1, HS1.out.2] at hcl
  have i0 : (0 : Int) ≤ (vi : Int) := Int.natCast_nonneg _
  have i1 : (vi : Int) < 4294967296 := by omega
  clear hvi
  refine hcl.mono ?_; rintro e w1 ⟨rfl, hr1, hg1⟩
  clear hcl
  have D1 := Lib.hid (HD.out.kept hg1 (by intro e; injection e with e; exact HH.out.2.2 e.symm))
  have R1 := Lib.hid hr1
  have K1 := Lib.hid ((Kept2.refl w b c).grown2 hg1)
  clear hr1 hg1
  go_wp2_with fail
  obtain ⟨vk, hvk, hcl⟩ := HN.out _ _ _ R1.out
  rw [HS2.out.1, HS2.out.2] at hcl
  have k0 : (0 : Int) ≤ (vk : Int) := Int.natCast_nonneg _
  have k1 : (vk : Int) < 4294967296 := by omega
  clear hvk
  refine hcl.mono ?_; rintro e w2 ⟨rfl, hr1, hg1⟩
  clear hcl
  have D2 := Lib.hid (D1.out.kept hg1 (by intro e; injection e with e; exact HH.out.2.2 e.symm))
  have R2 := Lib.hid hr1
  have K2 := Lib.hid (K1.out.grown2 hg1)
  clear hr1 hg1
  go_wp2_with fail
  obtain ⟨vn, hvn, hcl⟩ := HN.out _ _ _ R2.out
  rw [HS3.out.1, HS3.out.2] at hcl
  have n0 : (0 : Int) ≤ (vn : Int) := Int.natCast_nonneg _
  have n1 : (vn : Int) < 4294967296 := by omega
  clear hvn
  refine hcl.mono ?_; rintro e w3 ⟨rfl, hr1, hg1⟩
  clear hcl
  have D3 := Lib.hid (D2.out.kept hg1 (by intro e; injection e with e; exact HH.out.2.2 e.symm))
  have R3 := Lib.hid hr1
  have K3 := Lib.hid (K2.out.grown2 hg1)
  have c3 := D3.out.cell 3 rfl
  have c4 := D3.out.cell 4 rfl
  have c5 := D3.out.cell 5 rfl
  have f3 := D3.out.free 3
  have f4 := D3.out.free 4
  have f5 := D3.out.free 5
  clear hr1 hg1
  go_wp2_with fail
  have D4 := Lib.hid (((D3.out.set_ 3 (.int .i64 vi)).set_ 4 (.int .i64 vk)).set_ 5 (.int .i64 vn))
  have R4 := Lib.hid (((R3.out.far (fun e => HH.out.2.2 e.symm) 3 (.int .i64 vi)).far (fun e => HH.out.2.2 e.symm) 4 (.int .i64 vk)).far (fun e => HH.out.2.2 e.symm) 5 (.int .i64 vn))
  have K4 := Lib.hid (((K3.out.set1 3 (.int .i64 vi)).set1 4 (.int .i64 vk)).set1 5 (.int .i64 vn))
  generalize ((w3.setCell ⟨b, 3, none⟩ (.int .i64 vi)).setCell ⟨b, 4, none⟩ (.int .i64 vk)).setCell ⟨b, 5, none⟩ (.int .i64 vn) = w4 at *
  clear c3 c4 c5 f3 f4 f5
  obtain ⟨vl, hvl, hcl⟩ := HL.out _ _ _ R4.out
  rw [HS4.out.1, HS4.out.2] at hcl
  have l0 : (0 : Int) ≤ (vl : Int) := Int.natCast_nonneg _
  have l1 : (vl : Int) < 4294967296 := by omega
  clear hvl
  refine hcl.mono ?_; rintro e w5 ⟨rfl, hr1, hg1⟩
  clear hcl
  have D5 := Lib.hid (D4.out.kept hg1 (by intro e; injection e with e; exact HH.out.2.2 e.symm))
  have R5 := Lib.hid hr1
  have K5 := Lib.hid (K4.out.grown2 hg1)
  have c6 := D5.out.cell 6 rfl
  have f6 := D5.out.free 6
  clear hr1 hg1
  go_wp2_with fail
  have D6 := Lib.hid (D5.out.set_ 6 (.int .i64 ((vl : Int) + 1)))
  have R6 := Lib.hid (R5.out.far (fun e => HH.out.2.2 e.symm) 6 (.int .i64 ((vl : Int) + 1)))
  have K6 := Lib.hid (K5.out.set1 6 (.int .i64 ((vl : Int) + 1)))
  generalize w5.setCell ⟨b, 6, none⟩ (.int .i64 ((vl : Int) + 1)) = w6 at *
  clear c6 f6
  refine (HF.out _ _ _ R6.out).mono ?_; rintro e w7 ⟨rfl, rfl⟩
  go_wp2_with fail
  obtain ⟨t, s', hcl⟩ := HB.out _ _ (r4.size : Nat) (by have := HZ.out; omega) R6.out
  refine hcl.mono ?_; rintro e w8 ⟨rfl, hr1, hg1⟩
  clear hcl
  have D8 := Lib.hid (D6.out.kept hg1 (by intro e; injection e with e; exact HH.out.2.2 e.symm))
  have R8 := Lib.hid hr1
  have K8 := Lib.hid (K6.out.grown2 hg1)
  have c9 := D8.out.cell 9 rfl
  have f9 := D8.out.free 9
  clear hr1 hg1
  go_wp2_with fail
  go_end0
  refine ⟨rfl, ⟨cutN a 2 3, cutN a 3 4, cutN a 4 8, vi, vk, vn, (vl : Int) + 1, 0, S0, t⟩, _, _, ?_, R8.out.far (fun e => HH.out.2.2 e.symm) _ _, K8.out.set1 _ _, fun _ => rfl, fun q => ?_⟩
  · exact D8.out.set_ 9 _
  · have q' : 5 ≤ a.size - 8 := q
    exact absurd q' (by have := HH.out.1; omega)
/-- the fields of any layout. -/
theorem gread_any (g : Grp) (a : ByteArray) (b c : Nat) (w : World) (ha : a.size ≤ 281474976710656) (h8 : 8 ≤ a.size) (hd : At w b 24 (Dg.cells (pD .bare a))) (hr : Rd w c (sfx a 8) 0) (hbc : b ≠ c) : Calls Try.prog (fRead g) #[.pointer (some ⟨b, 0, none⟩), .pointer (some ⟨c, 0, none⟩)] w (GivesFd w g a b c) := by
  cases g with
  | shard =>
    by_cases h : 13 ≤ a.size
    · exact read_shard_ok a b c w ha h hd hr hbc
    · exact read_shard_no a b c w h8 (by omega) hd hr hbc
  | hav => exact read_hav a b c w ha h8 hd hr hbc
  | cred => exact read_cred a b c w h8 hd hr hbc
  | bare => exact read_bare a b c w hd hr
end Go.Proofs.Ytekolkbahhbcjaa

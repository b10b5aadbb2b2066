/- Proved: the walk of the law that reckons with tables, for every two tables. Conditions: those that the theorems name. -/
import Derived.Test.YtneaddgpbffkpaaMatAwake
namespace Go.Proofs.Ytneaddgpbffkpaa
open Go.ChangeShapes Go.WideShapes Go.ChangeAt Go.RowKit

theorem few_yes (A : Option Addr) (n c m : Nat) (t : List (List Nat)) (w : World) (ht : Rows w A n t) (hm : m ≤ 1000) (h : Few t m) :
    Calls Try.prog 7 #[.slice A n c, .int .i64 (m : Nat)] w fun e w' => e = .returned (.bool true) ∧ w = w' := by
  have := few_any A n c m t w ht hm
  rwa [decide_eq_true h] at this
theorem few_no (A : Option Addr) (n c m : Nat) (t : List (List Nat)) (w : World) (ht : Rows w A n t) (hm : m ≤ 1000) (h : ¬ Few t m) :
    Calls Try.prog 7 #[.slice A n c, .int .i64 (m : Nat)] w fun e w' => e = .returned (.bool false) ∧ w = w' := by
  have := few_any A n c m t w ht hm
  rwa [decide_eq_false h] at this
/-- not too great for the document's Same. -/
def Fine (t : List (List Nat)) : Prop := t.length ≤ 140737488355328 ∧ ∀ r, (rw_ t r).length ≤ 140737488355328
theorem Fine.nil : Fine [] := ⟨by decide, fun _ => Nat.zero_le _⟩
theorem Good.fine {n m : Nat} {t : List (List Nat)} (h : Good n m t) (hn : n ≤ 255) (hm : m ≤ 255) : Fine t := by
  refine ⟨by rw [h.len]; omega, fun r => ?_⟩
  rcases Nat.lt_or_ge r n with hr | hr
  · rw [h.row r hr]; omega
  · rw [rw_past _ _ (by rw [h.len]; exact hr)]; exact Nat.zero_le _
theorem dims_good {w : World} {A : Option Addr} {n : Nat} {t : List (List Nat)} (ht : Rows w A n t) (h : chk t = 0) : ∃ m, 1 ≤ n ∧ n ≤ 255 ∧ 1 ≤ m ∧ m ≤ 255 ∧ Good n m t := by
  obtain ⟨n1, m1, l1, r1, r2, r3, r4, r5, r6⟩ := chk_dims h
  have hn : n1 = n := l1.symm.trans ht.len
  subst hn
  exact ⟨m1, r1, r2, r3, r4, ht.good r6⟩
theorem mul_zero_iff {a b : List (List Nat)} (h : mulE a b = 0) : chk a = 0 ∧ chk b = 0 ∧ (rw_ a 0).length = b.length := by
  unfold mulE at h
  by_cases h1 : chk a = 0
  · by_cases h2 : chk b = 0
    · rw [if_neg (by omega), if_neg (by omega)] at h
      by_cases h3 : (rw_ a 0).length = b.length
      · exact ⟨h1, h2, h3⟩
      · rw [if_neg h3] at h; omega
    · rw [if_neg (by omega), if_pos h2] at h; omega
  · rw [if_pos h1] at h; omega
theorem mulV_good {w : World} {A B : Option Addr} {n k : Nat} {a b : List (List Nat)} (ha : Rows w A n a) (hb : Rows w B k b) (h : mulE a b = 0) :
    ∃ m, 1 ≤ n ∧ n ≤ 255 ∧ 1 ≤ k ∧ k ≤ 255 ∧ 1 ≤ m ∧ m ≤ 255 ∧ Good n k a ∧ Good k m b ∧ mulV a b = mulL n k m a b := by
  obtain ⟨h1, h2, h3⟩ := mul_zero_iff h
  obtain ⟨k', r1, r2, r3, r4, g1⟩ := dims_good ha h1
  obtain ⟨m, s1, s2, s3, s4, g2⟩ := dims_good hb h2
  have hk : k' = k := by rw [g1.row 0 r1, hb.len] at h3; exact h3
  subst hk
  refine ⟨m, r1, r2, s1, s2, s3, s4, g1, g2, ?_⟩
  unfold mulV
  rw [if_pos h, g1.len, g2.len, g2.row 0 s1]
theorem mulV_fine {w : World} {A B : Option Addr} {n k : Nat} {a b : List (List Nat)} (ha : Rows w A n a) (hb : Rows w B k b) : Fine (mulV a b) := by
  by_cases h : mulE a b = 0
  · obtain ⟨m, r1, r2, s1, s2, s3, s4, g1, g2, e⟩ := mulV_good ha hb h
    rw [e]
    exact (mulL_good g1).fine r2 s4
  · unfold mulV
    rw [if_neg h]
    exact Fine.nil
theorem InvIs.fine {t q : List (List Nat)} {k : Nat} (h : InvIs t q k) : Fine q := by
  rcases h with ⟨_, _, rfl⟩ | ⟨_, _, _, rfl⟩ | ⟨_, _, _, _, rfl⟩ | ⟨h1, h2, h3, _, _⟩
  · exact Fine.nil
  · exact Fine.nil
  · exact Fine.nil
  · have := (chk_zero h1).1.2
    exact h3.fine this this

set_option maxRecDepth 100000 in
set_option maxHeartbeats 1600000 in
theorem reckons_few (A B : Option Addr) (n k c d : Nat) (a b : List (List Nat)) (w : World) (ha : Rows w A n a) (hb : Rows w B k b) (h1 : Few a 12) (h2 : Few b 12) :
    Calls Try.prog 3 #[.slice A n c, .slice B k d] w fun e w' => e = .returned (.bool true) ∧ Below w.heap.size w w' := by
  have HA := Lib.hid ha
  have HB := Lib.hid hb
  have F1 := Lib.hid h1
  have F2 := Lib.hid h2
  have HFv := Lib.hid (mulV_fine ha hb)
  clear ha hb h1 h2
  go_enter Try.func3, Try.ntmps3
  go_wp2_with fail
  refine (few_yes A n c 12 a _ HA.out (by decide) F1.out).mono ?_; rintro e w' ⟨rfl, rfl⟩
  go_wp2_with fail
  refine (few_yes B k d 12 b _ HB.out (by decide) F2.out).mono ?_; rintro e w' ⟨rfl, rfl⟩
  go_wp2_with fail
  refine (tmul_any A B n k c d a b _ HA.out HB.out).mono ?_; rintro e w1 ⟨A1, c1, rfl, h1, g1⟩
  have H1 := Lib.hid h1; have G1 := Lib.hid g1; clear h1 g1
  go_wp2_with fail
  refine (rtmul_any A B n k c d a b _ (HA.out.below G1.out) (HB.out.below G1.out)).mono ?_; rintro e w2 ⟨A2, c2, rfl, h2, g2⟩
  have H2 := Lib.hid h2; have S2 := Lib.hid g2; have G2 := Lib.hid (G1.out.trans (g2.mono G1.out.size)); clear h2 g2
  generalize mulV a b = V at *
  generalize mulE a b = E at *
  go_wp2_with fail
  refine (rank_any A n c a _ (HA.out.below G2.out)).mono ?_; rintro e w3 ⟨r, rfl, r3, g3⟩
  have S3 := Lib.hid g3; have G3 := Lib.hid (G2.out.trans (g3.mono G2.out.size)); have R3 := Lib.hid r3; clear g3 r3
  go_wp2_with fail
  refine (rrank_any A n c a _ (HA.out.below G3.out)).mono ?_; rintro e w4 ⟨r', rfl, r4, g4⟩
  have S4 := Lib.hid g4; have G4 := Lib.hid (G3.out.trans (g4.mono G3.out.size)); clear g4
  obtain rfl := R3.out.only r4
  clear R3 r4
  go_wp2_with fail
  refine (invert_any A n c a _ (HA.out.below G4.out)).mono ?_; rintro e w5 ⟨A5, c5, q, kk, rfl, h5, i5, g5⟩
  have H5 := Lib.hid h5; have I5 := Lib.hid i5; have S5 := Lib.hid g5; have G5 := Lib.hid (G4.out.trans (g5.mono G4.out.size)); clear h5 i5 g5
  go_wp2_with fail
  refine (rinvert_any A n c a _ (HA.out.below G5.out)).mono ?_; rintro e w6 ⟨A6, c6, q', kk', rfl, h6, i6, g6⟩
  have H6 := Lib.hid h6; have S6 := Lib.hid g6; have G6 := Lib.hid (G5.out.trans (g6.mono G5.out.size)); clear h6 g6
  obtain ⟨rfl, rfl⟩ := I5.out.only i6
  have HFq := Lib.hid i6.fine
  clear I5 i6
  generalize hz : chk a = z at *
  have HZ := Lib.hid hz
  clear hz
  go_wp2_with fail
  refine (check_any A n c a _ (HA.out.below G6.out)).mono ?_; rintro e w' ⟨rfl, rfl⟩
  go_wp2_with fail
  refine (rcheck_any A n c a _ (HA.out.below G6.out)).mono ?_; rintro e w7 ⟨rfl, q7⟩
  have S7 := Lib.hid (below_drawn (B := w6.heap.size) q7); have G7 := Lib.hid (G6.out.trans (S7.out.mono G6.out.size)); clear q7
  go_wp2_with fail
  refine (rsame_any A1 A2 V.length c1 c2 V _ ((((((H1.out.below S2.out).below S3.out).below S4.out).below S5.out).below S6.out).below S7.out) (((((H2.out.below S3.out).below S4.out).below S5.out).below S6.out).below S7.out) HFv.out.1 HFv.out.2).mono ?_; rintro e w8 ⟨rfl, q8⟩
  have S8 := Lib.hid (below_drawn (B := w7.heap.size) q8); have G8 := Lib.hid (G7.out.trans (S8.out.mono G7.out.size)); clear q8
  go_wp2_with fail
  refine (rsame_any A5 A6 q.length c5 c6 q _ (((H5.out.below S6.out).below S7.out).below S8.out) ((H6.out.below S7.out).below S8.out) HFq.out.1 HFq.out.2).mono ?_; rintro e w9 ⟨rfl, q9⟩
  have S9 := Lib.hid (below_drawn (B := w8.heap.size) q9); have G9 := Lib.hid (G8.out.trans (S9.out.mono G8.out.size)); clear q9
  go_wp2_with fail
  refine (awake_any _).mono ?_; rintro e w10 ⟨rfl, g10⟩
  have G10 := Lib.hid (G9.out.trans (g10.mono G9.out.size)); clear g10
  go_wp2_with fail
  go_ret
  exact ⟨rfl, G10.out⟩

set_option maxRecDepth 100000 in
set_option maxHeartbeats 800000 in
theorem reckons_walk (A B : Option Addr) (n k c d : Nat) (a b : List (List Nat)) (w : World) (ha : Rows w A n a) (hb : Rows w B k b) :
    Calls Try.prog 3 #[.slice A n c, .slice B k d] w fun e w' => e = .returned (.bool true) ∧ Below w.heap.size w w' := by
  by_cases h1 : Few a 12
  · by_cases h2 : Few b 12
    · exact reckons_few A B n k c d a b w ha hb h1 h2
    · have HA := Lib.hid ha
      have HB := Lib.hid hb
      have F1 := Lib.hid h1
      have F2 := Lib.hid h2
      clear ha hb h1 h2
      go_enter Try.func3, Try.ntmps3
      go_wp2_with fail
      refine (few_yes A n c 12 a _ HA.out (by decide) F1.out).mono ?_; rintro e w' ⟨rfl, rfl⟩
      go_wp2_with fail
      refine (few_no B k d 12 b _ HB.out (by decide) F2.out).mono ?_; rintro e w' ⟨rfl, rfl⟩
      go_wp2_with fail
      refine (awake_any _).mono ?_; rintro e w10 ⟨rfl, g10⟩
      have G10 := Lib.hid g10; clear g10
      go_wp2_with fail
      go_ret
      exact ⟨rfl, G10.out⟩
  · have HA := Lib.hid ha
    have F1 := Lib.hid h1
    clear ha hb h1
    go_enter Try.func3, Try.ntmps3
    go_wp2_with fail
    refine (few_no A n c 12 a _ HA.out (by decide) F1.out).mono ?_; rintro e w' ⟨rfl, rfl⟩
    go_wp2_with fail
    refine (awake_any _).mono ?_; rintro e w10 ⟨rfl, g10⟩
    have G10 := Lib.hid g10; clear g10
    go_wp2_with fail
    go_ret
    exact ⟨rfl, G10.out⟩
end Go.Proofs.Ytneaddgpbffkpaa

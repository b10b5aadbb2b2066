/- Proved: the walks of the laws on inverses and on identities, for every table and every int. Conditions: those that the theorems name. -/
import Derived.Test.YtneaddgpbffkpaaMatLaw
namespace Go.Proofs.Ytneaddgpbffkpaa
open Go.ChangeShapes Go.WideShapes Go.ChangeAt Go.RowKit

/-- a product that is an identity over the field is the identity's list. -/
theorem mul_as (A B : Option Addr) (n k m c d : Nat) (a b r : List (List Nat)) (w : World) (ha : Rows w A n a) (hb : Rows w B k b) (g1 : Good n k a) (g2 : Good k m b) (hn1 : 1 ≤ n) (hn2 : n ≤ 255) (hk1 : 1 ≤ k) (hk2 : k ≤ 255) (hm1 : 1 ≤ m) (hm2 : m ≤ 255)
    (hr : Good n m r) (h : EqT n m (mulT k (tabT a) (tabT b)) (tabT r)) :
    Calls Try.prog 9 #[.slice A n c, .slice B k d] w (GivesT w n r 0) := by
  have e : mulL n k m a b = r := (mulL_good g1).ext hr ((tab_mulL g1 g2).trans h)
  have := mul_good A B n k m c d a b w ha hb (g1.chk hn1 hn2 hk1 hk2) (g2.chk hk1 hk2 hm1 hm2) g1.row g2.row hn1 hn2 hk1 hk2 hm1 hm2
  rw [e] at this
  exact this
theorem idL_fine {n : Nat} (hn : n ≤ 255) : Fine (idL n) := (idL_good n).fine hn hn
theorem idL_len (n : Nat) : (idL n).length = n := mkR_len _ _

theorem InvIs.cases {t q : List (List Nat)} {k : Nat} (h : InvIs t q k) :
    (q = [] ∧ k ≠ 0 ∧ (k = 14 → chk t = 0 ∧ ∃ r, r < t.length ∧ RankIs t r)) ∨
    (k = 0 ∧ chk t = 0 ∧ (rw_ t 0).length = t.length ∧ Good t.length t.length q ∧ InvT t.length (tabT q) (tabT t)) := by
  rcases h with ⟨h1, h2, h3⟩ | ⟨h1, h2, h3, h4⟩ | ⟨h1, h2, ⟨r, hr, h3⟩, h4, h5⟩ | ⟨h1, h2, h3, h4, h5⟩
  · refine Or.inl ⟨h3, by rw [h2]; exact h1, fun e => ?_⟩
    have := chk_lt t
    omega
  · exact Or.inl ⟨h4, by omega, fun e => by omega⟩
  · exact Or.inl ⟨h5, by omega, fun _ => ⟨h1, r, hr, fun e => absurd h1 e, fun _ => by rw [h2]; exact h3⟩⟩
  · exact Or.inr ⟨h5, h1, h2, h3, h4⟩

set_option maxRecDepth 100000 in
set_option maxHeartbeats 3200000 in
theorem inverts_few (A : Option Addr) (n c : Nat) (t : List (List Nat)) (w : World) (ht : Rows w A n t) (hf : Few t 10) :
    Calls Try.prog 4 #[.slice A n c] w fun e w' => e = .returned (.bool true) ∧ Below w.heap.size w w' := by
  have HT := Lib.hid ht
  have F1 := Lib.hid hf
  clear ht hf
  go_enter Try.func4, Try.ntmps4
  go_wp2_with fail
  refine (few_yes A n c 10 t _ HT.out (by decide) F1.out).mono ?_; rintro e w' ⟨rfl, rfl⟩
  go_wp2_with fail
  refine (invert_any A n c t _ HT.out).mono ?_; rintro e w1 ⟨A1, c1, q, k, rfl, h1, i1, g1⟩
  have G1 := Lib.hid g1
  clear g1
  rcases i1.cases with ⟨rfl, hk, hs⟩ | ⟨rfl, hc, hl, hq, hi⟩
  · have HS := Lib.hid hs
    have hk1 : ((k : Int) != 0) = true := by simp; omega
    have hk2 : ¬ (k : Int) = 0 := by omega
    rw [HT.out.len] at HS
    clear hs h1 i1
    have hlen : ([] : List (List Nat)).length = 0 := rfl
    rw [hlen]
    clear hlen
    go_wp2_with fail
    by_cases h14 : k = 14
    · obtain ⟨hc, r, hrn, hr⟩ := HS.out h14
      have HR := Lib.hid hr
      have HC := Lib.hid hc
      clear hr hc
      subst h14
      refine (rank_as A n c r t _ (HT.out.below G1.out) HR.out).mono ?_; rintro e w2 ⟨rfl, g2⟩
      have G2 := Lib.hid (G1.out.trans (g2.mono G1.out.size)); clear g2
      rw [HC.out]
      have hrn' : (r : Int) < (n : Int) := by omega
      go_wp2_with fail
      refine (awake_any _).mono ?_; rintro e w10 ⟨rfl, g10⟩
      have G10 := Lib.hid (G2.out.trans (g10.mono G2.out.size)); clear g10
      go_wp2_with fail
      go_ret
      exact ⟨rfl, G10.out⟩
    · have h1 : ((k : Int) != 14) = true := by simp; omega
      have h2 : ¬ (k : Int) = 14 := by omega
      clear h14
      refine (rank_any A n c t _ (HT.out.below G1.out)).mono ?_; rintro e w2 ⟨r, rfl, _, g2⟩
      have G2 := Lib.hid (G1.out.trans (g2.mono G1.out.size)); clear g2
      generalize chk t = z at *
      go_wp2_with fail
      refine (awake_any _).mono ?_; rintro e w10 ⟨rfl, g10⟩
      have G10 := Lib.hid (G2.out.trans (g10.mono G2.out.size)); clear g10
      go_wp2_with fail
      go_ret
      exact ⟨rfl, G10.out⟩
  · obtain ⟨m, r1, r2, r3, r4, gt⟩ := dims_good HT.out hc
    rw [HT.out.len] at hl hq hi
    have hm : m = n := by rw [← gt.row 0 r1]; exact hl
    subst hm
    have hcq : chk q = 0 := hq.chk r1 r2 r1 r2
    have hJ : InvIs q t 0 := Or.inr (Or.inr (Or.inr ⟨hcq, by rw [hq.row 0 r1, hq.len], by rw [hq.len]; exact gt, by rw [hq.len]; exact hi.symm, rfl⟩))
    have HJ := Lib.hid hJ
    have HQ := Lib.hid hq
    have HG := Lib.hid gt
    have HV := Lib.hid hi
    have hql : q.length = m := hq.len
    have hil := idL_len m
    clear hc hl hq hi hJ gt hcq i1
    rw [hql] at h1
    rw [hql]
    have H1 := Lib.hid h1
    clear h1
    go_wp2_with fail
    refine (mul_as A A1 m m m c c1 t q (idL m) _ (HT.out.below G1.out) H1.out HG.out HQ.out r1 r2 r1 r2 r1 r2 (idL_good m) (HV.out.2.trans (tab_idL m).symm)).mono ?_; rintro e w2 ⟨A2, c2, rfl, h2, g2⟩
    have H2 := Lib.hid h2; have S2 := Lib.hid g2; have G2 := Lib.hid (G1.out.trans (g2.mono G1.out.size)); clear h2 g2
    go_wp2_with fail
    refine (mul_as A1 A m m m c1 c q t (idL m) _ (H1.out.below S2.out) (HT.out.below G2.out) HQ.out HG.out r1 r2 r1 r2 r1 r2 (idL_good m) (HV.out.1.trans (tab_idL m).symm)).mono ?_; rintro e w3 ⟨A3, c3, rfl, h3, g3⟩
    have H3 := Lib.hid h3; have S3 := Lib.hid g3; have G3 := Lib.hid (G2.out.trans (g3.mono G2.out.size)); clear h3 g3
    go_wp2_with fail
    refine (rident_yes m r1 r2 _).mono ?_; rintro e w4 ⟨A4, c4, rfl, h4, g4⟩
    have H4 := Lib.hid h4; have S4 := Lib.hid g4; have G4 := Lib.hid (G3.out.trans (g4.mono G3.out.size)); clear h4 g4
    go_wp2_with fail
    refine (invert_as A1 m c1 0 q t _ (((H1.out.below S2.out).below S3.out).below S4.out) HJ.out).mono ?_; rintro e w5 ⟨A5, c5, rfl, h5, g5⟩
    rw [HG.out.len] at h5
    rw [HG.out.len]
    have H5 := Lib.hid h5; have S5 := Lib.hid g5; have G5 := Lib.hid (G4.out.trans (g5.mono G4.out.size)); clear h5 g5
    go_wp2_with fail
    refine (rsame_any A2 A4 m c2 c4 (idL m) _ (((H2.out.below S3.out).below S4.out).below S5.out) (H4.out.below S5.out) (by omega) (idL_fine r2).2).mono ?_; rintro e w6 ⟨rfl, q6⟩
    have S6 := Lib.hid (below_drawn (B := w5.heap.size) q6); have G6 := Lib.hid (G5.out.trans (S6.out.mono G5.out.size)); clear q6
    go_wp2_with fail
    refine (rsame_any A3 A4 m c3 c4 (idL m) _ (((H3.out.below S4.out).below S5.out).below S6.out) ((H4.out.below S5.out).below S6.out) (by omega) (idL_fine r2).2).mono ?_; rintro e w7 ⟨rfl, q7⟩
    have S7 := Lib.hid (below_drawn (B := w6.heap.size) q7); have G7 := Lib.hid (G6.out.trans (S7.out.mono G6.out.size)); clear q7
    go_wp2_with fail
    refine (rsame_any A5 A m c5 c t _ ((H5.out.below S6.out).below S7.out) (HT.out.below G7.out) (by omega) (HG.out.fine r2 r2).2).mono ?_; rintro e w8 ⟨rfl, q8⟩
    have S8 := Lib.hid (below_drawn (B := w7.heap.size) q8); have G8 := Lib.hid (G7.out.trans (S8.out.mono G7.out.size)); clear q8
    go_wp2_with fail
    refine (awake_any _).mono ?_; rintro e w10 ⟨rfl, g10⟩
    have G10 := Lib.hid (G8.out.trans (g10.mono G8.out.size)); clear g10
    go_wp2_with fail
    go_ret
    exact ⟨rfl, G10.out⟩

theorem inverts_walk (A : Option Addr) (n c : Nat) (t : List (List Nat)) (w : World) (ht : Rows w A n t) :
    Calls Try.prog 4 #[.slice A n c] w fun e w' => e = .returned (.bool true) ∧ Below w.heap.size w w' := by
  by_cases h1 : Few t 10
  · exact inverts_few A n c t w ht h1
  · have HT := Lib.hid ht
    have F1 := Lib.hid h1
    clear ht h1
    go_enter Try.func4, Try.ntmps4
    go_wp2_with fail
    refine (few_no A n c 10 t _ HT.out (by decide) F1.out).mono ?_; rintro e w' ⟨rfl, rfl⟩
    go_wp2_with fail
    refine (awake_any _).mono ?_; rintro e w10 ⟨rfl, g10⟩
    have G10 := Lib.hid g10; clear g10
    go_wp2_with fail
    go_ret
    exact ⟨rfl, G10.out⟩

/-! ### the law on identities -/
def identV (n : Int) : List (List Nat) := if 1 ≤ n ∧ n ≤ 255 then idL n.toNat else []
def identE (n : Int) : Nat := if 1 ≤ n ∧ n ≤ 255 then 0 else 1
theorem ident_any (n : Int) (w : World) : Calls Try.prog 19 #[.int .i64 n] w (GivesT w (identV n).length (identV n) (identE n)) := by
  unfold identV identE
  by_cases h : 1 ≤ n ∧ n ≤ 255
  · rw [if_pos h, if_pos h, idL_len]
    have e : n = ((n.toNat : Nat) : Int) := by omega
    have := ident_yes n.toNat (by omega) (by omega) w
    rw [← e] at this
    exact this
  · rw [if_neg h, if_neg h]
    exact ident_no n h w
theorem rident_any (n : Int) (w : World) : Calls Try.prog 18 #[.int .i64 n] w (GivesT w (identV n).length (identV n) (identE n)) := by
  unfold identV identE
  by_cases h : 1 ≤ n ∧ n ≤ 255
  · rw [if_pos h, if_pos h, idL_len]
    have e : n = ((n.toNat : Nat) : Int) := by omega
    have := rident_yes n.toNat (by omega) (by omega) w
    rw [← e] at this
    exact this
  · rw [if_neg h, if_neg h]
    exact rident_no n h w
theorem identV_fine (n : Int) : Fine (identV n) := by
  unfold identV
  split
  · exact idL_fine (by omega)
  · exact Fine.nil

set_option maxRecDepth 100000 in
set_option maxHeartbeats 1600000 in
theorem identity_walk (A : Option Addr) (z : Int) (n c : Nat) (t : List (List Nat)) (w : World) (ht : Rows w A n t) :
    Calls Try.prog 5 #[.int .i64 z, .slice A n c] w fun e w' => e = .returned (.bool true) ∧ Below w.heap.size w w' := by
  have HT := Lib.hid ht
  by_cases h1 : Few t 10
  · have F1 := Lib.hid h1
    have HF := Lib.hid (identV_fine z)
    clear h1 ht
    go_enter Try.func5, Try.ntmps5
    go_wp2_with fail
    refine (few_yes A n c 10 t _ HT.out (by decide) F1.out).mono ?_; rintro e w' ⟨rfl, rfl⟩
    go_wp2_with fail
    refine (ident_any z _).mono ?_; rintro e w1 ⟨A1, c1, rfl, h1, g1⟩
    have H1 := Lib.hid h1; have G1 := Lib.hid g1; clear h1 g1
    go_wp2_with fail
    refine (rident_any z _).mono ?_; rintro e w2 ⟨A2, c2, rfl, h2, g2⟩
    have H2 := Lib.hid h2; have S2 := Lib.hid g2; have G2 := Lib.hid (G1.out.trans (g2.mono G1.out.size)); clear h2 g2
    generalize identV z = V at *
    generalize identE z = E at *
    go_wp2_with fail
    refine (rsame_any A1 A2 V.length c1 c2 V _ (H1.out.below S2.out) H2.out HF.out.1 HF.out.2).mono ?_; rintro e w3 ⟨rfl, q3⟩
    have S3 := Lib.hid (below_drawn (B := w2.heap.size) q3); have G3 := Lib.hid (G2.out.trans (S3.out.mono G2.out.size)); clear q3
    go_wp2_with fail
    by_cases hc : chk t = 0
    · have hchk := fun W h => check_any A n c t W h
      rw [hc] at hchk
      have HK := Lib.hid hchk
      obtain ⟨m, r1, r2, r3, r4, gt⟩ := dims_good HT.out hc
      have HG := Lib.hid gt
      clear hchk hc gt
      refine (HK.out _ (HT.out.below G3.out)).mono ?_; rintro e w' ⟨rfl, rfl⟩
      obtain ⟨ad, B0, c0, rfl, had, hc0, _⟩ := (HT.out.below G3.out).at_ (k := 0) r1
      rw [Addr.add_zero' ad, HG.out.row 0 r1] at hc0
      have hn : 0 < n := r1
      go_wp2_with fail
      refine (ident_yes m r3 r4 _).mono ?_; rintro e w4 ⟨A4, c4, rfl, h4, g4⟩
      have H4 := Lib.hid h4; have S4 := Lib.hid g4; have G4 := Lib.hid (G3.out.trans (g4.mono G3.out.size)); clear h4 g4 hc0
      go_wp2_with fail
      refine (mul_as _ A4 n m m c c4 t (idL m) t _ (HT.out.below G4.out) H4.out HG.out (idL_good m) r1 r2 r3 r4 r3 r4 HG.out ((EqT.mul (EqT.refl n m _) (tab_idL m)).trans (mulT_idE n m _))).mono ?_; rintro e w5 ⟨A5, c5, rfl, h5, g5⟩
      have H5 := Lib.hid h5; have S5 := Lib.hid g5; have G5 := Lib.hid (G4.out.trans (g5.mono G4.out.size)); clear h5 g5
      go_wp2_with fail
      refine (rsame_any A5 _ n c5 c t _ H5.out (HT.out.below G5.out) (by omega) (HG.out.fine r2 r4).2).mono ?_; rintro e w6 ⟨rfl, q6⟩
      have S6 := Lib.hid (below_drawn (B := w5.heap.size) q6); have G6 := Lib.hid (G5.out.trans (S6.out.mono G5.out.size)); clear q6
      go_wp2_with fail
      refine (awake_any _).mono ?_; rintro e w10 ⟨rfl, g10⟩
      have G10 := Lib.hid (G6.out.trans (g10.mono G6.out.size)); clear g10
      go_wp2_with fail
      go_ret
      exact ⟨rfl, G10.out⟩
    · refine (check_any A n c t _ (HT.out.below G3.out)).mono ?_; rintro e w' ⟨rfl, rfl⟩
      generalize chk t = k at *
      have hk1 : ((k : Int) != 0) = true := by simp; omega
      have hk2 : ¬ (k : Int) = 0 := by omega
      clear hc
      go_wp2_with fail
      refine (awake_any _).mono ?_; rintro e w10 ⟨rfl, g10⟩
      have G10 := Lib.hid (G3.out.trans (g10.mono G3.out.size)); clear g10
      go_wp2_with fail
      go_ret
      exact ⟨rfl, G10.out⟩
  · have F1 := Lib.hid h1
    clear ht h1
    go_enter Try.func5, Try.ntmps5
    go_wp2_with fail
    refine (few_no A n c 10 t _ HT.out (by decide) F1.out).mono ?_; rintro e w' ⟨rfl, rfl⟩
    go_wp2_with fail
    refine (awake_any _).mono ?_; rintro e w10 ⟨rfl, g10⟩
    have G10 := Lib.hid g10; clear g10
    go_wp2_with fail
    go_ret
    exact ⟨rfl, G10.out⟩
end Go.Proofs.Ytneaddgpbffkpaa

/- Proved: what Invert of package matrix answers for every table. Conditions: those that the theorems name. -/
import Derived.Test.YtfndnlfinoeamaaMatConcat
namespace Go.Proofs.Ytfndnlfinoeamaa
open Go.ChangeShapes Go.WideShapes Go.ChangeAt Go.RowKit

/-- what Invert must answer: the inverse, or the error. -/
def InvIs (t q : List (List Nat)) (k : Nat) : Prop :=
  (chk t ≠ 0 ∧ k = chk t ∧ q = []) ∨
  (chk t = 0 ∧ (rw_ t 0).length ≠ t.length ∧ k = 16 ∧ q = []) ∨
  (chk t = 0 ∧ (rw_ t 0).length = t.length ∧ (∃ r, r < t.length ∧ RankT t.length t.length (tabT t) r) ∧ k = 14 ∧ q = []) ∨
  (chk t = 0 ∧ (rw_ t 0).length = t.length ∧ Good t.length t.length q ∧ InvT t.length (tabT q) (tabT t) ∧ k = 0)
theorem InvIs.only {t q q' : List (List Nat)} {k k' : Nat} (h : InvIs t q k) (g : InvIs t q' k') : q = q' ∧ k = k' := by
  rcases h with ⟨h1, h2, h3⟩ | ⟨h1, h2, h3, h4⟩ | ⟨h1, h2, ⟨r, hr, h3⟩, h4, h5⟩ | ⟨h1, h2, h3, h4, h5⟩ <;>
  rcases g with ⟨g1, g2, g3⟩ | ⟨g1, g2, g3, g4⟩ | ⟨g1, g2, ⟨s, hs, g3⟩, g4, g5⟩ | ⟨g1, g2, g3, g4, g5⟩
  · exact ⟨by rw [h3, g3], by rw [h2, g2]⟩
  · exact absurd g1 h1
  · exact absurd g1 h1
  · exact absurd g1 h1
  · exact absurd h1 g1
  · exact ⟨by rw [h4, g4], by rw [h3, g3]⟩
  · exact absurd g2 h2
  · exact absurd g2 h2
  · exact absurd h1 g1
  · exact absurd h2 g2
  · exact ⟨by rw [h5, g5], by rw [h4, g4]⟩
  · have := h3.only g4.symm.rank
    omega
  · exact absurd h1 g1
  · exact absurd h2 g2
  · have := g3.only h4.symm.rank
    omega
  · exact ⟨h3.ext g3 (g4.symm.only' h4.2), by rw [h5, g5]⟩
/-- What an Invert leaves. -/
def GivesInv (W : World) (t : List (List Nat)) (e : Ending) (w' : World) : Prop :=
  ∃ A c q k, e = .returned (.tuple #[.slice A q.length c, .int .i64 (k : Nat)]) ∧ Rows w' A q.length q ∧ InvIs t q k ∧ Below W.heap.size W w'

theorem wide_good {n : Nat} {t : List (List Nat)} (h : Good n n t) : Good n (n + n) (mkR n fun i => rw_ t i ++ rw_ (idL n) i) :=
  ⟨mkR_len _ _, fun r hr => by rw [mkR_at _ _ _ hr, List.length_append, h.row r hr, (idL_good n).row r hr], fun r hr j => by
    rw [mkR_at _ _ _ hr]; exact app_lt (h.lt r hr) ((idL_good n).lt r hr) j⟩
theorem app_at (a b : List Nat) (j : Nat) : (a ++ b).getD j 0 = if j < a.length then a.getD j 0 else b.getD (j - a.length) 0 := by
  rw [List.getD_eq_getElem?_getD, List.getElem?_append]
  split <;> rw [List.getD_eq_getElem?_getD]
theorem wide_tab {n : Nat} {t : List (List Nat)} (h : Good n n t) : EqT n (n + n) (tabT (mkR n fun i => rw_ t i ++ rw_ (idL n) i)) (wideT n (tabT t)) := fun i hi j hj => by
  show F.of ((rw_ (mkR n fun i => rw_ t i ++ rw_ (idL n) i) i).getD j 0) = _
  rw [mkR_at _ _ _ hi, app_at, h.row i hi]
  unfold wideT
  split
  · rfl
  · exact tab_idL n i hi (j - n) (by omega)
theorem drop_at (l : List Nat) (n j : Nat) : (l.drop n).getD j 0 = l.getD (n + j) 0 := by
  rw [List.getD_eq_getElem?_getD, List.getElem?_drop, List.getD_eq_getElem?_getD]
/-- what stands behind the first n places. -/
def behind (n : Nat) (t : List (List Nat)) : List (List Nat) := mkR n fun i => (rw_ t i).drop n
theorem behind_good {n : Nat} {t : List (List Nat)} (h : Good n (n + n) t) : Good n n (behind n t) :=
  ⟨mkR_len _ _, fun r hr => by unfold behind; rw [mkR_at _ _ _ hr, List.length_drop, h.row r hr]; omega, fun r hr j => by
    unfold behind; rw [mkR_at _ _ _ hr, drop_at]; exact h.lt r hr _⟩
theorem behind_tab (n : Nat) (t : List (List Nat)) : EqT n n (tabT (behind n t)) (fun i j => tabT t i (n + j)) := fun i hi j _ => by
  show F.of ((rw_ (behind n t) i).getD j 0) = F.of ((rw_ t i).getD (n + j) 0)
  unfold behind
  rw [mkR_at _ _ _ hi, drop_at]
/-- a row from place k on. -/
theorem Bs.tail {w : World} {ad : Addr} {n k : Nat} {l : List Nat} (h : Bs w (some ad) n l) (hk : k ≤ n) : Bs w (some (ad.add k)) (n - k) (l.drop k) := by
  refine ⟨by rw [List.length_drop, h.len], fun j => by rw [drop_at]; exact h.lt _, fun hn => ?_⟩
  obtain ⟨ad', e, hlt, hc⟩ := h.2.2 (by omega)
  injection e with e
  subst e
  refine ⟨_, rfl, by rw [add_block]; exact hlt, fun j hj => ?_⟩
  rw [Addr.add_add, drop_at]
  exact hc (k + j) (by omega)
/-- the two ways in which an elimination of a wide table ends. -/
theorem inv_of {n c : Nat} {g : Nat} {t t' : List (List Nat)} {W w' : World} {d : Nat} (ht : Good n n t) (hc : chk t = 0) (hl : (rw_ t 0).length = n) (_ : c = c)
    (h : Done g n (n + n) n (mkR n fun i => rw_ t i ++ rw_ (idL n) i) W t' d w') : (d < n → InvIs t [] 14) ∧ (d = n → InvIs t (behind n t') 0) := by
  obtain ⟨cc, _, h2, h3, h4, _⟩ := h
  have h5 := h4.from_ (wide_tab ht)
  refine ⟨fun hd => Or.inr (Or.inr (Or.inl ⟨hc, by rw [hl, ht.len], ⟨d, by rw [ht.len]; exact hd, by rw [ht.len]; exact h3.rank h5.left⟩, rfl, rfl⟩)), fun hd => ?_⟩
  subst hd
  have h6 := h3.inverse h5
  refine Or.inr (Or.inr (Or.inr ⟨hc, by rw [hl, ht.len], by rw [ht.len]; exact behind_good h2, ?_, rfl⟩))
  rw [ht.len]
  exact h6.congr (behind_tab d t').symm (EqT.refl _ _ _)

set_option maxHeartbeats 400000 in
theorem invert_bad (A : Option Addr) (n c : Nat) (t : List (List Nat)) (w : World) (ht : Rows w A n t) (h1 : chk t ≠ 0) :
    Calls Try.prog 16 #[.slice A n c] w (GivesInv w t) := by
  have HC := fun W h => check_any A n c t W h
  have HT := Lib.hid ht
  have HR : Hid (InvIs t [] (chk t)) := Lib.hid (Or.inl ⟨h1, rfl, rfl⟩)
  clear ht
  generalize hk : chk t = k at *
  have HC' := Lib.hid HC
  clear HC hk
  have hk : ((k : Int) != 0) = true := by simp; omega
  have hk' : ¬ ((k : Int) = 0) := by omega
  go_enter Try.func16, Try.ntmps16
  go_wp2_with fail
  refine (HC'.out _ HT.out).mono ?_; rintro e w' ⟨rfl, rfl⟩
  go_wp2_with fail
  go_ret2
  exact ⟨none, 0, [], k, rfl, Rows.nil _ _, HR.out, Below.refl _ _⟩

set_option maxHeartbeats 400000 in
theorem invert_unlike (A : Option Addr) (n c : Nat) (t : List (List Nat)) (w : World) (ht : Rows w A n t) (h1 : chk t = 0) (h2 : (rw_ t 0).length ≠ t.length) :
    Calls Try.prog 16 #[.slice A n c] w (GivesInv w t) := by
  have HC := fun W h => check_any A n c t W h
  rw [h1] at HC
  have HC' := Lib.hid HC
  have HT := Lib.hid ht
  have HR : Hid (InvIs t [] 16) := Lib.hid (Or.inr (Or.inl ⟨h1, h2, rfl, rfl⟩))
  have hd := chk_zero h1
  rw [ht.len] at hd h2
  have hn : 0 < n := hd.1.1
  obtain ⟨ad, B0, c0, rfl, had, hc0, _⟩ := HT.out.at_ (k := 0) hn
  rw [Addr.add_zero' ad] at hc0
  clear ht h1 HC hd
  generalize (rw_ t 0).length = m at *
  have hk : ((m : Int) != (n : Int)) = true := by simp; omega
  have hk' : ¬ ((m : Int) = (n : Int)) := by omega
  go_enter Try.func16, Try.ntmps16
  go_wp2_with fail
  refine (HC'.out _ HT.out).mono ?_; rintro e w' ⟨rfl, rfl⟩
  go_wp2_with fail
  go_ret2
  exact ⟨none, 0, [], 16, rfl, Rows.nil _ _, HR.out, Below.refl _ _⟩

set_option maxRecDepth 100000 in
set_option maxHeartbeats 1600000 in
theorem invert_good (A : Option Addr) (n c : Nat) (t : List (List Nat)) (w : World) (ht : Rows w A n t) (h1 : chk t = 0) (hl : ∀ r, r < n → (rw_ t r).length = n) (hn1 : 1 ≤ n) (hn2 : n ≤ 255) :
    Calls Try.prog 16 #[.slice A n c] w (GivesInv w t) := by
  have HC := fun W h => check_any A n c t W h
  rw [h1] at HC
  have HC' := Lib.hid HC
  have HT := Lib.hid ht
  have HL := Lib.hid hl
  have H1 := Lib.hid h1
  have HGd := Lib.hid (ht.good hl)
  have hn : 0 < n := hn1
  obtain ⟨ad, B0, c0, rfl, had, hc0, _⟩ := HT.out.at_ (k := 0) hn
  rw [Addr.add_zero' ad, HL.out 0 hn] at hc0
  clear ht h1 HC hl
  go_enter Try.func16, Try.ntmps16
  go_wp2_with fail
  refine (HC'.out _ HT.out).mono ?_; rintro e w' ⟨rfl, rfl⟩
  go_wp2_with fail
  refine (ident_yes n hn1 hn2 _).mono ?_; rintro e w1 ⟨A1, c1, rfl, h1, g1⟩
  have HI := Lib.hid h1; have G1 := Lib.hid g1; clear h1 g1 hc0
  have HT1 := Lib.hid (HT.out.below G1.out)
  go_wp2_with fail
  refine (beside_any _ A1 n n c c1 t (idL n) _ HT1.out HI.out HL.out (idL_good n).row hn1 hn2 hn1 hn2).mono ?_; rintro e w2 ⟨g, cap, rfl, hg, h2, g2⟩
  have H2 := Lib.hid h2
  have G2 : Hid (Below w.heap.size w w2) := Lib.hid (G1.out.trans (g2.mono G1.out.size))
  have HG : Hid (w.heap.size ≤ g) := Lib.hid (Nat.le_trans G1.out.size hg)
  clear h2 g2 hg
  go_wp2_with fail
  refine (reduce_any g n cap (n + n) n _ _ H2.out (wide_good HGd.out).row hn2 (by omega) (by omega)).mono ?_; rintro e w3 ⟨t', d, rfl, hd⟩
  have HD := Lib.hid hd
  have HV := Lib.hid (inv_of (c := 0) HGd.out H1.out (HL.out 0 hn) rfl hd)
  have hdn : d ≤ n := by obtain ⟨_, _, _, h3, _⟩ := hd; exact h3.rows
  have G3 : Hid (Below w.heap.size w w3) := Lib.hid (by obtain ⟨_, _, _, _, _, h6⟩ := hd; exact G2.out.trans (h6.mono HG.out))
  clear hd
  by_cases hlt : d < n
  · go_wp2_with fail
    go_ret2
    exact ⟨none, 0, [], 14, rfl, Rows.nil _ _, HV.out.1 hlt, G3.out⟩
  · obtain rfl : d = n := by omega
    have hO : OwnT w3 g d t' ∧ Good d (d + d) t' := by obtain ⟨_, a, b, _⟩ := HD.out; exact ⟨a, b⟩
    have HO := Lib.hid hO.1
    have HG3 := Lib.hid hO.2
    clear hO
    go_wp2_with fail
    go_loopw [42] (fun i wr => ∃ q : Nat, q ≤ d ∧ i = .int .i64 q ∧ ∃ s, s.length = d ∧ (∀ r, r < d → rw_ s r = if r < q then (rw_ t' r).drop d else rw_ t' r) ∧ OwnT wr g d s ∧ Below w.heap.size w wr) (fun i _ => d - (intOf i).toNat)
    case atStart => exact ⟨0, by omega, rfl, t', HG3.out.len, fun r _ => (if_neg (by omega)).symm, HO.out, G3.out⟩
    case round =>
      obtain ⟨q, hq, rfl, s, hs, hrow, ho, hbel⟩ := hrel
      have HS := Lib.hid hs
      have HR := Lib.hid hrow
      have HO' := Lib.hid ho
      have HW := Lib.hid hbel
      clear hs hrow ho hbel HO
      by_cases hlt : q < d
      · obtain ⟨B, e, hac, hcap, hbs⟩ := HO'.out.at_cap hlt
        have hrq : rw_ s q = rw_ t' q := by rw [HR.out q hlt, if_neg (by omega)]
        rw [hrq, HG3.out.row q hlt] at hac hcap
        rw [hrq, HG3.out.row q hlt] at hbs
        obtain ⟨bd, rfl, _, _⟩ := hbs.at_ (k := 0) (by omega)
        have htl := hbs.tail (k := d) (by omega)
        rw [Nat.add_sub_cancel] at htl
        have HB := Lib.hid htl
        clear htl
        clear hbs hrq
        have hle : (d : Int) ≤ ((d + d : Nat) : Int) := by omega
        have hed : ¬ e = d := by omega
        have hd0 : (0 : Int) ≤ (d : Int) := by omega
        have hgl := HO'.out.block_lt
        go_wp2_with fail
        refine (cloneR_any _ d _ _ _ HB.out hn hn2).mono ?_; rintro e w5 ⟨A5, c5, rfl, k5, h5, g5⟩
        have H5 := Lib.hid h5; have G5 := Lib.hid g5; clear h5 g5 hac
        have HO5 := Lib.hid (HO'.out.below G5.out)
        have HW5 : Hid (Below w.heap.size w w5) := Lib.hid (HW.out.trans (G5.out.mono HW.out.size))
        obtain ⟨B6, c6, hc6, _⟩ := HO5.out.at_ hlt
        have hfz := HO5.out.frozen q
        go_wp2_with fail
        go_roundw
        case rel =>
          refine ⟨q + 1, by omega, by go_num, s.set q ((rw_ t' q).drop d), by rw [List.length_set, HS.out], fun r hr => ?_, HO5.out.set_ hlt k5 H5.out, HW5.out.setCell (p := ⟨g, q, none⟩) HG.out _⟩
          rw [rw_set _ _ _ _ (by rw [HS.out]; exact hlt)]
          by_cases e : q = r
          · subst e; rw [if_pos rfl, if_pos (by omega)]
          · rw [if_neg e, HR.out r hr]
            by_cases e2 : r < q
            · rw [if_pos e2, if_pos (by omega)]
            · rw [if_neg e2, if_neg (by omega)]
        case measure => simp [intOf]; omega
      · obtain rfl : q = d := by omega
        have hsb : s = behind q t' := eq_mkR HS.out fun r hr => by rw [HR.out r hr, if_pos hr]
        subst hsb
        have HV2 : Hid (InvIs t (behind q t') 0) := Lib.hid (by first | exact HV.out.2 rfl | exact HV.out.2 trivial)
        have hlen : (behind q t').length = q := mkR_len _ _
        have HLen := Lib.hid hlen
        clear hlen HV
        go_wp2_with fail
        go_ret2
        exact ⟨some ⟨g, 0, none⟩, cap, behind q t', 0, by rw [HLen.out]; rfl, by rw [HLen.out]; exact HO'.out.rows, HV2.out, HW.out⟩

theorem invert_any (A : Option Addr) (n c : Nat) (t : List (List Nat)) (w : World) (ht : Rows w A n t) :
    Calls Try.prog 16 #[.slice A n c] w (GivesInv w t) := by
  by_cases h : chk t = 0
  · by_cases h2 : (rw_ t 0).length = t.length
    · obtain ⟨n1, m1, l1, r1, r2, r3, r4, r5, r6⟩ := chk_dims h
      have hn : n1 = n := l1.symm.trans ht.len
      have hm : m1 = n1 := by omega
      subst hn hm
      exact invert_good A m1 c t w ht h r6 r1 r2
    · exact invert_unlike A n c t w ht h h2
  · exact invert_bad A n c t w ht h
end Go.Proofs.Ytfndnlfinoeamaa

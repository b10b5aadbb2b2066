/- Proved: what clearOthers of package matrix leaves of every table. Conditions: those that the theorems name. -/
import Derived.Test.YtfndnlfinoeamaaMatReduce
namespace Go.Proofs.Ytfndnlfinoeamaa
open Go.ChangeShapes Go.WideShapes Go.ChangeAt Go.RowKit

/-- the rows when the first k have been cleared. -/
def ClearMid (n m done q k : Nat) (t t' : List (List Nat)) : Prop :=
  t'.length = n ∧ ∀ r, r < n → rw_ t' r = if r < k ∨ r = done then clearL m done q t r else rw_ t r
theorem ClearMid.start {n m done q : Nat} {t : List (List Nat)} (h : t.length = n) (hd : done < n) : ClearMid n m done q 0 t (t.set done (leadL m done q t)) := by
  refine ⟨by rw [List.length_set, h], fun r _ => ?_⟩
  rw [rw_set _ _ _ _ (by omega)]
  by_cases e : done = r
  · rw [if_pos e, if_pos (Or.inr e.symm)]
    unfold clearL
    rw [if_pos e.symm]
  · rw [if_neg e, if_neg (by omega)]
theorem ClearMid.skip {n m done q k : Nat} {t t' : List (List Nat)} (h : ClearMid n m done q k t t') (hs : k = done ∨ clearL m done q t k = rw_ t k) : ClearMid n m done q (k + 1) t t' := by
  refine ⟨h.1, fun r hr => ?_⟩
  rw [h.2 r hr]
  by_cases e : r = k
  · subst e
    rcases hs with e' | e'
    · rw [if_pos (Or.inr e'), if_pos (Or.inr e')]
    · have e3 : (if r < r + 1 ∨ r = done then clearL m done q t r else rw_ t r) = clearL m done q t r := if_pos (Or.inl (by omega))
      rw [e3]
      split
      · rfl
      · exact e'.symm
  · by_cases e2 : r < k ∨ r = done
    · rw [if_pos e2, if_pos (by omega)]
    · rw [if_neg e2, if_neg (by omega)]
theorem ClearMid.next {n m done q k : Nat} {t t' : List (List Nat)} (h : ClearMid n m done q k t t') (hk : k < n) : ClearMid n m done q (k + 1) t (t'.set k (clearL m done q t k)) := by
  refine ⟨by rw [List.length_set, h.1], fun r hr => ?_⟩
  rw [rw_set _ _ _ _ (by rw [h.1]; exact hk)]
  by_cases e : k = r
  · subst e; rw [if_pos rfl, if_pos (Or.inl (by omega))]
  · rw [if_neg e, h.2 r hr]
    by_cases e2 : r < k ∨ r = done
    · rw [if_pos e2, if_pos (by omega)]
    · rw [if_neg e2, if_neg (by omega)]
theorem ClearMid.done_ {n m done q : Nat} {t t' : List (List Nat)} (h : ClearMid n m done q n t t') : t' = mkR n (clearL m done q t) :=
  eq_mkR h.1 fun r hr => by rw [h.2 r hr, if_pos (Or.inl hr)]

set_option maxRecDepth 100000 in
set_option maxHeartbeats 1600000 in
theorem clear_any (g n c m done q : Nat) (t : List (List Nat)) (w : World) (ht : OwnT w g n t) (hl : ∀ r, r < n → (rw_ t r).length = m) (hn : n ≤ 255) (hd : done < n) (hq : q < m) (hm : m ≤ 1000) (hne : bt t done q ≠ 0) :
    Calls Try.prog 34 #[.slice (some ⟨g, 0, none⟩) n c, .int .i64 (done : Nat), .int .i64 (q : Nat)] w fun e w' => e = .returned (.tuple #[]) ∧ OwnT w' g n (mkR n (clearL m done q t)) ∧ Below g w w' := by
  have HT := Lib.hid ht
  have HL := Lib.hid hl
  have HGd := Lib.hid (ht.good hl)
  clear ht hl
  have hgl := HT.out.block_lt
  obtain ⟨B, d, hc, hbs⟩ := HT.out.at_ hd
  have hql : q < (rw_ t done).length := by rw [HL.out done hd]; exact hq
  obtain ⟨bd, rfl, hbd, hbc⟩ := hbs.at_ hql
  rw [HL.out done hd] at hc hbs
  have HB := Lib.hid hbs
  have hxl := HB.out.lt q
  clear hbs hql
  obtain ⟨x, ex⟩ : ∃ x, x = (rw_ t done).getD q 0 := ⟨_, rfl⟩
  rw [← ex] at hbc hxl
  have EX : Hid (bt t done q = x) := Lib.hid ex.symm
  have hx0 : x ≠ 0 := by rw [← EX.out]; exact hne
  clear ex hne
  have HX0 := Lib.hid hx0
  clear hx0
  go_enter Try.func34, Try.ntmps34
  go_wp2_with fail
  refine (inv_keep x HX0.out hxl _).mono ?_; rintro e w1 ⟨rfl, g1⟩
  have G1 := Lib.hid g1; clear g1
  have HT1 := Lib.hid (HT.out.below G1.out)
  have HB1 := Lib.hid (HB.out.below G1.out)
  rw [← G1.out.cell (p := ⟨g, done, none⟩) hgl] at hc
  have hgl1 := HT1.out.block_lt
  go_wp2_with fail
  refine (scale_cap _ (ginv x) m _ (rw_ t done) _ (ginv_lt x) HB1.out (by omega)).mono ?_; rintro e w2 ⟨A2, c2, rfl, k2, h2, g2⟩
  have H2 := Lib.hid h2; have G2 := Lib.hid g2; clear h2 g2 hc hbc
  have HT2 := Lib.hid (HT1.out.below G2.out)
  have hgl2 := HT2.out.block_lt
  have HW2 : Hid (Below g w w2) := Lib.hid ((G1.out.mono (by omega)).trans (G2.out.mono (by omega)))
  have hlead : scaleL m (ginv x) (rw_ t done) = leadL m done q t := by unfold leadL; rw [EX.out]
  rw [hlead] at H2
  clear hlead
  obtain ⟨B3, d3, hc3, _⟩ := HT2.out.at_ hd
  have hfz := HT2.out.frozen done
  have HO := Lib.hid (HT2.out.set_ (c := c2) hd k2 H2.out)
  have HLd := Lib.hid (H2.out.put hc3 (.slice A2 m c2))
  have HS := Lib.hid (HW2.out.setCell (p := ⟨g, done, none⟩) (Nat.le_refl g) (.slice A2 m c2))
  go_wp2_with fail
  clear hc3 hfz
  go_loopw [34] (fun i wr => ∃ k : Nat, k ≤ n ∧ i = .int .i64 k ∧ ∃ t', ClearMid n m done q k t t' ∧ OwnT wr g n t' ∧ Bs wr A2 m (leadL m done q t) ∧ Below g w wr) (fun i _ => n - (intOf i).toNat)
  case atStart => exact ⟨0, by omega, rfl, _, ClearMid.start HT.out.len hd, HO.out, HLd.out, HS.out⟩
  case round =>
    obtain ⟨k, hk, rfl, t', hu, ho, hlb, hbel⟩ := hrel
    have HU := Lib.hid hu
    have HO' := Lib.hid ho
    have HLb := Lib.hid hlb
    have HW' := Lib.hid hbel
    clear hu ho hlb hbel HO HLd HS
    by_cases hlt : k < n
    · obtain ⟨B4, d4, hc4, hb4⟩ := HO'.out.at_ hlt
      have hgl4 := HO'.out.block_lt
      have hfz := HO'.out.frozen k
      by_cases hkd : k = done
      · subst hkd
        generalize (rw_ t' k).length = z at *
        go_wp2_with fail
        go_roundw
        case rel => exact ⟨k + 1, by omega, by go_num, t', HU.out.skip (Or.inl rfl), HO'.out, HLb.out, HW'.out⟩
        case measure => simp [intOf]; omega
      · have hrow : rw_ t' k = rw_ t k := by rw [HU.out.2 k hlt, if_neg (by omega)]
        rw [hrow, HL.out k hlt] at hc4
        rw [hrow, HL.out k hlt] at hb4
        have hql : q < (rw_ t k).length := by rw [HL.out k hlt]; exact hq
        obtain ⟨ad4, rfl, _, hx4⟩ := hb4.at_ hq
        have HB4 := Lib.hid hb4
        have hyl := HB4.out.lt q
        clear hb4 hql hrow
        obtain ⟨y, ey⟩ : ∃ y, y = (rw_ t k).getD q 0 := ⟨_, rfl⟩
        rw [← ey] at hx4 hyl
        have EY : Hid (bt t k q = y) := Lib.hid ey.symm
        clear ey
        have hkd' : ((k : Int) != (done : Int)) = true := by simp; omega
        have hkd2 : ¬ (k : Int) = (done : Int) := by omega
        by_cases hy : y = 0
        · subst hy
          go_wp2_with fail
          go_roundw
          case rel => exact ⟨k + 1, by omega, by go_num, t', HU.out.skip (Or.inr (clear_none HGd.out hlt hkd EY.out)), HO'.out, HLb.out, HW'.out⟩
          case measure => simp [intOf]; omega
        · have hy' : ((y : Int) != 0) = true := by simp; omega
          have hy2 : ¬ (y : Int) = 0 := by omega
          clear hy
          go_wp2_with fail
          refine (muladd_cap _ A2 y m _ c2 (rw_ t k) (leadL m done q t) _ hyl HB4.out HLb.out (by omega)).mono ?_; rintro e w5 ⟨A5, c5, rfl, k5, h5, g5⟩
          have H5 := Lib.hid h5; have G5 := Lib.hid g5; clear h5 g5
          have HO5 := Lib.hid (HO'.out.below G5.out)
          have HL5 := Lib.hid (HLb.out.below G5.out)
          have HW5 : Hid (Below g w w5) := Lib.hid (HW'.out.trans (G5.out.mono (by omega)))
          have hrow : addL m (rw_ t k) (scaleL m y (leadL m done q t)) = clearL m done q t k := by unfold clearL; rw [if_neg hkd, EY.out]
          rw [hrow] at H5
          clear hrow hc4 hfz
          obtain ⟨B6, d6, hc6, _⟩ := HO5.out.at_ hlt
          have hfz := HO5.out.frozen k
          have HO6 := Lib.hid (HO5.out.set_ (c := c5) hlt k5 H5.out)
          have HL6 := Lib.hid (HL5.out.put hc6 (.slice A5 m c5))
          have HW6 := Lib.hid (HW5.out.setCell (p := ⟨g, k, none⟩) (Nat.le_refl g) (.slice A5 m c5))
          go_wp2_with fail
          go_roundw
          case rel => exact ⟨k + 1, by omega, by go_num, _, HU.out.next hlt, HO6.out, HL6.out, HW6.out⟩
          case measure => simp [intOf]; omega
    · obtain rfl : k = n := by omega
      go_wp2_with fail
      go_end0
      exact ⟨rfl, by rw [← HU.out.done_]; exact HO'.out, HW'.out⟩
end Go.Proofs.Ytfndnlfinoeamaa

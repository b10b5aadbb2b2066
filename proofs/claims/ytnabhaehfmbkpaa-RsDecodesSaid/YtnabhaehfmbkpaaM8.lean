/- Proved: lemmas of one statement's proof, merged by program: what each part proves stands ahead of it. Conditions: those that the lemmas name. -/
import Derived.Test.YtnabhaehfmbkpaaM7
import Derived.Deep.RegionWith
import Derived.Test.YtnabhaehfmbkpaaM3
import Derived.WalkSpells
import Derived.StillTactics
import Derived.OwnWalk
import Derived.Deep.RegionHeld3
import Derived.Deep.AppendLies

/- Proved: what clearOthers of package matrix leaves of every table. Conditions: those that the theorems name. -/
namespace Go.Proofs.Ytnabhaehfmbkpaa
open Go.ChangeShapes Go.WideShapes Go.ChangeAt Go.RowKit

/-- the rows when the first k have been cleared. -/
def ClearMid (n m done q k : Nat) (t t' : List (List Nat)) : Prop :=
  t'.length = n ∧ ∀ r, r < n → rw_ t' r = if r < k ∨ r = done then clearL m done q t r else rw_ t r
theorem ClearMid.start {n m done q : Nat} {t : List (List Nat)} (h : t.length = n) (hd : done < n) : ClearMid n m done q 0 t (t.set done (leadL m done q t)) := by
  refine ⟨by rw [List.length_set, h], fun r _ => ?_⟩
  rw [rw_set _ _ _ _ (by omega)]
  by_cases e : done = r
  · rw [if_pos e, if_pos (Or.inr e.symm)]
    unfold clearL
    rw [if_pos e.symm]
  · rw [if_neg e, if_neg (by omega)]
theorem ClearMid.skip {n m done q k : Nat} {t t' : List (List Nat)} (h : ClearMid n m done q k t t') (hs : k = done ∨ clearL m done q t k = rw_ t k) : ClearMid n m done q (k + 1) t t' := by
  refine ⟨h.1, fun r hr => ?_⟩
  rw [h.2 r hr]
  by_cases e : r = k
  · subst e
    rcases hs with e' | e'
    · rw [if_pos (Or.inr e'), if_pos (Or.inr e')]
    · have e3 : (if r < r + 1 ∨ r = done then clearL m done q t r else rw_ t r) = clearL m done q t r := if_pos (Or.inl (by omega))
      rw [e3]
      split
      · rfl
      · exact e'.symm
  · by_cases e2 : r < k ∨ r = done
    · rw [if_pos e2, if_pos (by omega)]
    · rw [if_neg e2, if_neg (by omega)]
theorem ClearMid.next {n m done q k : Nat} {t t' : List (List Nat)} (h : ClearMid n m done q k t t') (hk : k < n) : ClearMid n m done q (k + 1) t (t'.set k (clearL m done q t k)) := by
  refine ⟨by rw [List.length_set, h.1], fun r hr => ?_⟩
  rw [rw_set _ _ _ _ (by rw [h.1]; exact hk)]
  by_cases e : k = r
  · subst e; rw [if_pos rfl, if_pos (Or.inl (by omega))]
  · rw [if_neg e, h.2 r hr]
    by_cases e2 : r < k ∨ r = done
    · rw [if_pos e2, if_pos (by omega)]
    · rw [if_neg e2, if_neg (by omega)]
theorem ClearMid.done_ {n m done q : Nat} {t t' : List (List Nat)} (h : ClearMid n m done q n t t') : t' = mkR n (clearL m done q t) :=
  eq_mkR h.1 fun r hr => by rw [h.2 r hr, if_pos (Or.inl hr)]

set_option maxRecDepth 100000 in
set_option maxHeartbeats 1600000 in
theorem clear_any (g n c m done q : Nat) (t : List (List Nat)) (w : World) (ht : OwnT w g n t) (hl : ∀ r, r < n → (rw_ t r).length = m) (hn : n ≤ 255) (hd : done < n) (hq : q < m) (hm : m ≤ 1000) (hne : bt t done q ≠ 0) :
    Calls Try.prog 53 #[.slice (some ⟨g, 0, none⟩) n c, .int .i64 (done : Nat), .int .i64 (q : Nat)] w fun e w' => e = .returned (.tuple #[]) ∧ OwnT w' g n (mkR n (clearL m done q t)) ∧ Below g w w' := by
  have HT := Lib.hid ht
  have HL := Lib.hid hl
  have HGd := Lib.hid (ht.good hl)
  clear ht hl
  have hgl := HT.out.block_lt
  obtain ⟨B, d, hc, hbs⟩ := HT.out.at_ hd
  have hql : q < (rw_ t done).length := by rw [HL.out done hd]; exact hq
  obtain ⟨bd, rfl, hbd, hbc⟩ := hbs.at_ hql
  rw [HL.out done hd] at hc hbs
  have HB := Lib.hid hbs
  have hxl := HB.out.lt q
  clear hbs hql
  obtain ⟨x, ex⟩ : ∃ x, x = (rw_ t done).getD q 0 := ⟨_, rfl⟩
  rw [← ex] at hbc hxl
  have EX : Hid (bt t done q = x) := Lib.hid ex.symm
  have hx0 : x ≠ 0 := by rw [← EX.out]; exact hne
  clear ex hne
  have HX0 := Lib.hid hx0
  clear hx0
  go_enter Try.func53, Try.ntmps53
  go_wp2_with fail
  refine (inv_keep x HX0.out hxl _).mono ?_; rintro e w1 ⟨rfl, g1⟩
  have G1 := Lib.hid g1; clear g1
  have HT1 := Lib.hid (HT.out.below G1.out)
  have HB1 := Lib.hid (HB.out.below G1.out)
  rw [← G1.out.cell (p := ⟨g, done, none⟩) hgl] at hc
  have hgl1 := HT1.out.block_lt
  go_wp2_with fail
  refine (scale_cap _ (ginv x) m _ (rw_ t done) _ (ginv_lt x) HB1.out (by omega)).mono ?_; rintro e w2 ⟨A2, c2, rfl, k2, h2, g2⟩
  have H2 := Lib.hid h2; have G2 := Lib.hid g2; clear h2 g2 hc hbc
  have HT2 := Lib.hid (HT1.out.below G2.out)
  have hgl2 := HT2.out.block_lt
  have HW2 : Hid (Below g w w2) := Lib.hid ((G1.out.mono (by omega)).trans (G2.out.mono (by omega)))
  have hlead : scaleL m (ginv x) (rw_ t done) = leadL m done q t := by unfold leadL; rw [EX.out]
  rw [hlead] at H2
  clear hlead
  obtain ⟨B3, d3, hc3, _⟩ := HT2.out.at_ hd
  have hfz := HT2.out.frozen done
  have HO := Lib.hid (HT2.out.set_ (c := c2) hd k2 H2.out)
  have HLd := Lib.hid (H2.out.put hc3 (.slice A2 m c2))
  have HS := Lib.hid (HW2.out.setCell (p := ⟨g, done, none⟩) (Nat.le_refl g) (.slice A2 m c2))
  go_wp2_with fail
  clear hc3 hfz
  go_loopw [34] (fun i wr => ∃ k : Nat, k ≤ n ∧ i = .int .i64 k ∧ ∃ t', ClearMid n m done q k t t' ∧ OwnT wr g n t' ∧ Bs wr A2 m (leadL m done q t) ∧ Below g w wr) (fun i _ => n - (intOf i).toNat)
  case atStart => exact ⟨0, by omega, rfl, _, ClearMid.start HT.out.len hd, HO.out, HLd.out, HS.out⟩
  case round =>
    obtain ⟨k, hk, rfl, t', hu, ho, hlb, hbel⟩ := hrel
    have HU := Lib.hid hu
    have HO' := Lib.hid ho
    have HLb := Lib.hid hlb
    have HW' := Lib.hid hbel
    clear hu ho hlb hbel HO HLd HS
    by_cases hlt : k < n
    · obtain ⟨B4, d4, hc4, hb4⟩ := HO'.out.at_ hlt
      have hgl4 := HO'.out.block_lt
      have hfz := HO'.out.frozen k
      by_cases hkd : k = done
      · subst hkd
        generalize (rw_ t' k).length = z at *
        go_wp2_with fail
        go_roundw
        case rel => exact ⟨k + 1, by omega, by go_num, t', HU.out.skip (Or.inl rfl), HO'.out, HLb.out, HW'.out⟩
        case measure => simp [intOf]; omega
      · have hrow : rw_ t' k = rw_ t k := by rw [HU.out.2 k hlt, if_neg (by omega)]
        rw [hrow, HL.out k hlt] at hc4
        rw [hrow, HL.out k hlt] at hb4
        have hql : q < (rw_ t k).length := by rw [HL.out k hlt]; exact hq
        obtain ⟨ad4, rfl, _, hx4⟩ := hb4.at_ hq
        have HB4 := Lib.hid hb4
        have hyl := HB4.out.lt q
        clear hb4 hql hrow
        obtain ⟨y, ey⟩ : ∃ y, y = (rw_ t k).getD q 0 := ⟨_, rfl⟩
        rw [← ey] at hx4 hyl
        have EY : Hid (bt t k q = y) := Lib.hid ey.symm
        clear ey
        have hkd' : ((k : Int) != (done : Int)) = true := by simp; omega
        have hkd2 : ¬ (k : Int) = (done : Int) := by omega
        by_cases hy : y = 0
        · subst hy
          go_wp2_with fail
          go_roundw
          case rel => exact ⟨k + 1, by omega, by go_num, t', HU.out.skip (Or.inr (clear_none HGd.out hlt hkd EY.out)), HO'.out, HLb.out, HW'.out⟩
          case measure => simp [intOf]; omega
        · have hy' : ((y : Int) != 0) = true := by simp; omega
          have hy2 : ¬ (y : Int) = 0 := by omega
          clear hy
          go_wp2_with fail
          refine (muladd_cap _ A2 y m _ c2 (rw_ t k) (leadL m done q t) _ hyl HB4.out HLb.out (by omega)).mono ?_; rintro e w5 ⟨A5, c5, rfl, k5, h5, g5⟩
          have H5 := Lib.hid h5; have G5 := Lib.hid g5; clear h5 g5
          have HO5 := Lib.hid (HO'.out.below G5.out)
          have HL5 := Lib.hid (HLb.out.below G5.out)
          have HW5 : Hid (Below g w w5) := Lib.hid (HW'.out.trans (G5.out.mono (by omega)))
          have hrow : addL m (rw_ t k) (scaleL m y (leadL m done q t)) = clearL m done q t k := by unfold clearL; rw [if_neg hkd, EY.out]
          rw [hrow] at H5
          clear hrow hc4 hfz
          obtain ⟨B6, d6, hc6, _⟩ := HO5.out.at_ hlt
          have hfz := HO5.out.frozen k
          have HO6 := Lib.hid (HO5.out.set_ (c := c5) hlt k5 H5.out)
          have HL6 := Lib.hid (HL5.out.put hc6 (.slice A5 m c5))
          have HW6 := Lib.hid (HW5.out.setCell (p := ⟨g, k, none⟩) (Nat.le_refl g) (.slice A5 m c5))
          go_wp2_with fail
          go_roundw
          case rel => exact ⟨k + 1, by omega, by go_num, _, HU.out.next hlt, HO6.out, HL6.out, HW6.out⟩
          case measure => simp [intOf]; omega
    · obtain rfl : k = n := by omega
      go_wp2_with fail
      go_end0
      exact ⟨rfl, by rw [← HU.out.done_]; exact HO'.out, HW'.out⟩
end Go.Proofs.Ytnabhaehfmbkpaa

/- Proved: what reduce of package matrix leaves of every table: pivots, and a table that is reached from it. Conditions: those that the theorems name. -/
namespace Go.Proofs.Ytnabhaehfmbkpaa
open Go.ChangeShapes Go.WideShapes Go.ChangeAt Go.RowKit

theorem OwnT.drew {w : World} {g n : Nat} {t : List (List Nat)} (h : OwnT w g n t) : OwnT w.drew g n t := h
theorem Bs.drew {w : World} {A : Option Addr} {n : Nat} {l : List Nat} (h : Bs w A n l) : Bs w.drew A n l := h
/-- two rows of a table of the call's own swapped. -/
theorem OwnT.swap {w : World} {g n a b : Nat} {t : List (List Nat)} (h : OwnT w g n t) (ha : a < n) (hb : b < n) {A B : Option Addr} {k c l d : Nat}
    (hkc : k ≤ c) (hld : l ≤ d) (hA : Bs w A k (rw_ t a)) (hB : Bs w B l (rw_ t b)) :
    OwnT ((w.setCell ⟨g, a, none⟩ (.slice B l d)).setCell ⟨g, b, none⟩ (.slice A k c)) g n (swapL a b t) := by
  obtain ⟨C, e, hc, _⟩ := h.at_ ha
  exact (h.set_ ha hld hB).set_ hb hkc (hA.put hc _)

/-- what an elimination leaves. -/
def Done (g n m places : Nat) (t : List (List Nat)) (W : World) (t' : List (List Nat)) (d : Nat) (w' : World) : Prop :=
  ∃ c, OwnT w' g n t' ∧ Good n m t' ∧ Piv n places d c (tabT t') ∧ Reach n m (tabT t) (tabT t') ∧ Below g W w'

set_option maxRecDepth 100000 in
set_option maxHeartbeats 1600000 in
theorem reduce_any (g n c m places : Nat) (t : List (List Nat)) (w : World) (ht : OwnT w g n t) (hl : ∀ r, r < n → (rw_ t r).length = m) (hn : n ≤ 255) (hp : places ≤ m) (hm : m ≤ 1000) :
    Calls Try.prog 42 #[.slice (some ⟨g, 0, none⟩) n c, .int .i64 (places : Nat)] w fun e w' => ∃ t' d, e = .returned (.int .i64 (d : Nat)) ∧ Done g n m places t w t' d w' := by
  have HT := Lib.hid ht
  have HGd := Lib.hid (ht.good hl)
  clear ht hl
  go_enter Try.func42, Try.ntmps42
  go_wp2_with fail
  go_loopw [5, 6] (fun x y wr => ∃ d p : Nat, x = .int .i64 d ∧ y = .int .i64 p ∧ p ≤ places ∧ ∃ t' cc, OwnT wr g n t' ∧ Good n m t' ∧ Piv n p d cc (tabT t') ∧ Reach n m (tabT t) (tabT t') ∧ Below g w wr) (fun _ y _ => places - (intOf y).toNat)
  case atStart => exact ⟨0, 0, rfl, rfl, by omega, t, fun k => k, HT.out, HGd.out, Piv.start _ _ _, Reach.start _ _ _, Below.refl _ _⟩
  case round =>
    obtain ⟨d, p, rfl, rfl, hpp, t', cc, ho, hg, hpv, hrc, hbel⟩ := hrel
    have HO := Lib.hid ho
    have HG := Lib.hid hg
    have HP := Lib.hid hpv
    have HR := Lib.hid hrc
    have HW := Lib.hid hbel
    clear ho hg hpv hrc hbel HT
    have hdn : d ≤ n := HP.out.rows
    go_wp2_with fail
    refine (pivot_any _ n c m d p places t' _ HO.out.rows HG.out.row hn hdn hpp hp hm).mono ?_; rintro e w1 ⟨rfl, v, q, rfl, hat⟩
    have HA := Lib.hid hat
    have hq := hat.2.1
    have hpq := hat.1
    clear hat
    by_cases hlt : q < places
    · obtain ⟨pr, rfl, hdp, hpn, hne⟩ := HA.out.2.2.2 hlt
      have hdn' : d < n := by omega
      have HNE := Lib.hid hne
      clear hne
      have hqq : ((q : Int) == (places : Int)) = false := by simp; omega
      have hqq2 : ¬ (q : Int) = (places : Int) := by omega
      obtain ⟨B1, c1, hc1, k1, hb1⟩ := HO.out.at_cap hdn'
      obtain ⟨B2, c2, hc2, k2, hb2⟩ := HO.out.at_cap hpn
      have hf1 := HO.out.frozen d
      have hf2 := HO.out.frozen pr
      have hgl := HO.out.block_lt
      have HS := Lib.hid (HO.out.swap (c := c1) (d := c2) hdn' hpn k1 k2 hb1 hb2)
      clear hb1 hb2 k1 k2
      generalize (rw_ t' d).length = z1 at *
      generalize (rw_ t' pr).length = z2 at *
      go_wp2_with fail
      by_cases hdd : d = pr
      · subst hdd
        have hcc := hc1.symm.trans hc2
        injection hcc with hcc
        injection hcc with e1 e2 e3
        subst e1 e2 e3
        have hcs := World.cell?_setCell_same wr ⟨g, d, none⟩ (.slice B1 z1 c1) hc1
        go_region
        have HS' := Lib.hid HS.out.drew
        have HW' : Hid (Below g w ((wr.setCell ⟨g, d, none⟩ (.slice B1 z1 c1)).setCell ⟨g, d, none⟩ (.slice B1 z1 c1)).drew) := Lib.hid (((HW.out.setCell (p := ⟨g, d, none⟩) (Nat.le_refl g) _).setCell (p := ⟨g, d, none⟩) (Nat.le_refl g) _).drew)
        clear HS HW HO hc1 hc2 hcs
        generalize ((wr.setCell ⟨g, d, none⟩ (.slice B1 z1 c1)).setCell ⟨g, d, none⟩ (.slice B1 z1 c1)).drew = W2 at *
        have hst := step_piv (wd := m) HG.out rfl hdn' hpn hdp HNE.out hlt hp (HA.out.piv HG.out HP.out) HR.out
        have HSt := Lib.hid hst
        clear hst
        have hlen : ∀ r, r < n → (rw_ (swapL d d t') r).length = m := (swap_good HG.out hdn' hpn).row
        have hbne : bt (swapL d d t') d q ≠ 0 := by
          unfold bt
          rw [swapL_at (by rw [HG.out.len]; exact hdn') (by rw [HG.out.len]; exact hpn)]
          have e : swapN d d d = d := by unfold swapN; rw [if_pos rfl]
          rw [e]; exact HNE.out
        have HLen := Lib.hid hlen
        have HBne := Lib.hid hbne
        clear hlen hbne
        go_wp2_with fail
        refine (clear_any g n c m d q (swapL d d t') _ HS'.out HLen.out hn hdn' (by omega) hm HBne.out).mono ?_; rintro e w3 ⟨rfl, ho3, g3⟩
        have HO3 := Lib.hid ho3; have HW3 : Hid (Below g w w3) := Lib.hid (HW'.out.trans g3); clear ho3 g3
        go_wp2_with fail
        go_roundw
        case rel => exact ⟨d + 1, q + 1, by go_num, by go_num, by omega, _, _, HO3.out, HSt.out.1, HSt.out.2.1, HSt.out.2.2, HW3.out⟩
        case measure => simp [intOf]; omega
      · have hne1 : (d : Int) ≠ (pr : Int) := by omega
        have hne2 : (⟨g, d, none⟩ : Addr) ≠ ⟨g, pr, none⟩ := by intro e; injection e; omega
        have hcs : (wr.setCell ⟨g, d, none⟩ (.slice B2 z2 c2)).cell? ⟨g, pr, none⟩ = some (.slice B2 z2 c2) := by rw [World.cell?_setCell_other _ _ _ _ hne2]; exact hc2
        go_region
        have HS' := Lib.hid HS.out.drew
        have HW' : Hid (Below g w ((wr.setCell ⟨g, d, none⟩ (.slice B2 z2 c2)).setCell ⟨g, pr, none⟩ (.slice B1 z1 c1)).drew) := Lib.hid (((HW.out.setCell (p := ⟨g, d, none⟩) (Nat.le_refl g) _).setCell (p := ⟨g, pr, none⟩) (Nat.le_refl g) _).drew)
        clear HS HW HO hc1 hc2 hcs hne2
        generalize ((wr.setCell ⟨g, d, none⟩ (.slice B2 z2 c2)).setCell ⟨g, pr, none⟩ (.slice B1 z1 c1)).drew = W2 at *
        have hst := step_piv (wd := m) HG.out rfl hdn' hpn hdp HNE.out hlt hp (HA.out.piv HG.out HP.out) HR.out
        have HSt := Lib.hid hst
        clear hst
        have hlen : ∀ r, r < n → (rw_ (swapL d pr t') r).length = m := (swap_good HG.out hdn' hpn).row
        have hbne : bt (swapL d pr t') d q ≠ 0 := by
          unfold bt
          rw [swapL_at (by rw [HG.out.len]; exact hdn') (by rw [HG.out.len]; exact hpn)]
          have e : swapN d pr d = pr := by unfold swapN; rw [if_pos rfl]
          rw [e]; exact HNE.out
        have HLen := Lib.hid hlen
        have HBne := Lib.hid hbne
        clear hlen hbne
        go_wp2_with fail
        refine (clear_any g n c m d q (swapL d pr t') _ HS'.out HLen.out hn hdn' (by omega) hm HBne.out).mono ?_; rintro e w3 ⟨rfl, ho3, g3⟩
        have HO3 := Lib.hid ho3; have HW3 : Hid (Below g w w3) := Lib.hid (HW'.out.trans g3); clear ho3 g3
        go_wp2_with fail
        go_roundw
        case rel => exact ⟨d + 1, q + 1, by go_num, by go_num, by omega, _, _, HO3.out, HSt.out.1, HSt.out.2.1, HSt.out.2.2, HW3.out⟩
        case measure => simp [intOf]; omega
    · obtain rfl : q = places := by omega
      go_wp2_with fail
      go_ret
      exact ⟨t', d, rfl, cc, HO.out, HG.out, HA.out.piv HG.out HP.out, HR.out, HW.out⟩
end Go.Proofs.Ytnabhaehfmbkpaa

/- Proved: what slices.Clone leaves of a table and of a row, and what Rank of package matrix answers for every table. Conditions: those that the theorems name. -/
namespace Go.Proofs.Ytnabhaehfmbkpaa
open Go.ChangeShapes Go.WideShapes Go.ChangeAt Go.RowKit

theorem Rows.drew {w : World} {A : Option Addr} {n : Nat} {t : List (List Nat)} (h : Rows w A n t) : Rows w.drew A n t := h
def cellsAt (w : World) (ad : Addr) (n : Nat) : List Value := (List.range n).map fun r => (w.cell? (ad.add r)).getD (.bool false)
theorem cellsAt_len (w : World) (ad : Addr) (n : Nat) : (cellsAt w ad n).length = n := by unfold cellsAt; rw [List.length_map, List.length_range]
theorem cellsAt_at {w : World} {ad : Addr} {n j : Nat} {u : Value} (hj : j < n) (h : w.cell? (ad.add j) = some u) : (cellsAt w ad n)[j]? = some u := by
  unfold cellsAt
  rw [List.getElem?_map, List.getElem?_range hj, Option.map_some, h]; rfl
theorem Rows.source {w : World} {ad : Addr} {n : Nat} {t : List (List Nat)} (h : Rows w (some ad) n t) : ∀ j u, (cellsAt w ad n)[j]? = some u → w.cell? (ad.add j) = some u := by
  intro j u hu
  have hj : j < n := by
    have := (List.getElem?_eq_some_iff.1 hu).1
    rwa [cellsAt_len] at this
  obtain ⟨ad', B, c, e, _, hc, _⟩ := h.at_ hj
  injection e with e
  subst e
  rw [cellsAt_at hj hc] at hu
  rw [hc, hu]
theorem Rows.one {w : World} {ad : Addr} {n : Nat} {t : List (List Nat)} (h : Rows w (some ad) n t) : ∀ u ∈ cellsAt w ad n, u.oneCell' = true := by
  intro u hu
  obtain ⟨j, hj, rfl⟩ := List.getElem_of_mem hu
  rw [cellsAt_len] at hj
  obtain ⟨ad', B, c, e, _, hc, _⟩ := h.at_ hj
  injection e with e
  subst e
  have := cellsAt_at hj hc
  rw [List.getElem?_eq_getElem (by rw [cellsAt_len]; exact hj)] at this
  injection this with this
  rw [this]; rfl
theorem Rows.cut {w w' : World} {ad : Addr} {n : Nat} {t : List (List Nat)} {v : Value} (h : Rows w (some ad) n t) (hb : Below w.heap.size w w') (hv : ∀ k, v.ownBlock = some k → w.heap.size ≤ k) : Cut w' v (cellsAt w ad n) t := by
  refine ⟨by rw [cellsAt_len, h.len], fun r hr => ?_⟩
  rw [h.len] at hr
  obtain ⟨ad', B, c, e, _, hc, h0, hs⟩ := h.at_cap hr
  injection e with e
  subst e
  refine ⟨B, c, cellsAt_at hr hc, h0, hs.below hb, fun ad e hl q => ?_⟩
  obtain ⟨ad', e', hlt, _⟩ := hs.2.2 hl
  rw [e] at e'
  injection e' with e'
  subst e'
  have := hv _ q
  omega

set_option maxHeartbeats 400000 in
theorem cloneR_any (ad : Addr) (n c : Nat) (l : List Nat) (w : World) (ht : Bs w (some ad) n l) (h0 : 0 < n) (hn : n ≤ 255) :
    Calls Try.prog 43 #[.slice (some ad) n c] w (GivesC w n l) := by
  obtain ⟨i0, hi0, hz0, hz1, hz2⟩ := info_parts Try.infoByte
  have HT := Lib.hid ht
  clear ht
  have hq : ∀ w, (binOp .eql 33 (.slice (some ad) n c) (.slice none 0 0)).run Try.prog w = .ok (.bool false) w := fun w => Lib.run_eql_slice_nil w _ _ (some ad) n c 0 0 Try.underlying33
  go_enter Try.func43, Try.ntmps43
  have hal : Below w.heap.size w (w.alloc (.cells #[] 5)) := (Below.refl _ _).alloc (Nat.le_refl _) _
  have HT1 := Lib.hid (HT.out.below hal)
  have HAL := Lib.hid hal
  clear hal
  go_wp2_with (at_builtin; refine wpList_append_grows _ rfl _ _ 33 rfl 5 i0 (.int .u8 0) 1 1 Try.underlying33 hi0 hz0 hz1 hz2 rfl (by decide) (some ⟨w.heap.size, 0, none⟩) 0 0 [] rfl (by simp) rfl (by simp) ad n c (cells l) rfl (by rw [cells_len, HT1.out.len, Nat.mul_one]) HT1.out.source (cells_one l) (by omega) (by unfold maxLen; omega) (by omega) ?_; intro v1 w1 hown hgr; rw [Nat.zero_add, List.nil_append] at hown; have hb1 := (Below.refl _ _).grown hgr (Nat.le_refl _) (by simp); obtain ⟨g, cap, rfl, _, hcap, _, ho⟩ := own_of hown HT1.out.lt h0; have HO := Lib.hid ho; have HB := Lib.hid (HAL.out.trans (hb1.mono HAL.out.size)); clear hown hgr hb1 ho)
  go_ret
  exact ⟨_, _, rfl, hcap, HO.out.bs, HB.out⟩

/-- what Rank must answer: 0 beside an error; else the rank. -/
def RankIs (t : List (List Nat)) (r : Nat) : Prop := (chk t ≠ 0 → r = 0) ∧ (chk t = 0 → RankT t.length (rw_ t 0).length (tabT t) r)
theorem RankIs.only {t : List (List Nat)} {r s : Nat} (h : RankIs t r) (g : RankIs t s) : r = s := by
  by_cases e : chk t = 0
  · exact (h.2 e).only (g.2 e)
  · rw [h.1 e, g.1 e]
/-- What a Rank leaves. -/
def GivesRank (W : World) (t : List (List Nat)) (e : Ending) (w' : World) : Prop :=
  ∃ r, e = .returned (.tuple #[.int .i64 (r : Nat), .int .i64 (chk t : Nat)]) ∧ RankIs t r ∧ Below W.heap.size W w'

end Go.Proofs.Ytnabhaehfmbkpaa

/- Proved: what the document's Add, Scale and MulAdd of rows answer for every byte and rows of bytes. Conditions: those that the theorems name. -/
namespace Go.Proofs.Ytnabhaehfmbkpaa
open Go.ChangeShapes Go.WideShapes Go.ChangeAt Go.RowKit

theorem cells_mk_succ (n : Nat) (f : Nat → Nat) : cells (mk n f) ++ [Value.int .u8 (f n : Nat)] = cells (mk (n + 1) f) := by
  unfold cells mk
  rw [List.range_succ, List.map_append, List.map_append]; rfl
/-- What was gathered, as a row that reads as a list. -/
theorem bs_of_cap {w : World} {base n : Nat} {v : Value} {l : List Nat} (h : w.ownsRow base 5 1 v n (cells l)) (hb : ∀ j, l.getD j 0 < 256) : ∃ A c, v = .slice A n c ∧ n ≤ c ∧ Bs w A n l := by
  by_cases hn : n = 0
  · subst hn
    have hl : l = [] := by
      have := h.1
      rw [cells_len, Nat.zero_mul] at this
      exact List.eq_nil_of_length_eq_zero this
    subst hl
    rcases h.2 with ⟨rfl, _⟩ | ⟨g, cap, cur, rfl, _⟩
    · exact ⟨_, _, rfl, Nat.zero_le _, Bs.nil _ _⟩
    · exact ⟨_, _, rfl, Nat.zero_le _, Bs.nil _ _⟩
  · obtain ⟨g, cap, rfl, _, hc, _, ho⟩ := own_of h hb (by omega)
    exact ⟨_, _, rfl, hc, ho.bs⟩
theorem bs_of {w : World} {base n : Nat} {v : Value} {l : List Nat} (h : w.ownsRow base 5 1 v n (cells l)) (hb : ∀ j, l.getD j 0 < 256) : ∃ A c, v = .slice A n c ∧ Bs w A n l := by
  obtain ⟨A, c, e, _, h2⟩ := bs_of_cap h hb
  exact ⟨A, c, e, h2⟩

set_option maxHeartbeats 400000 in
theorem radd_cap (A B : Option Addr) (n c d : Nat) (a b : List Nat) (w : World) (ha : Bs w A n a) (hb : Bs w B n b) (hm : n ≤ 140737488355328) :
    Calls Try.prog 54 #[.slice A n c, .slice B n d] w (Gives2C w n (addL n a b)) := by
  obtain ⟨i0, hi0, hz0, hz1, hz2⟩ := info_parts Try.infoByte
  have HA := Lib.hid ha
  have HB := Lib.hid hb
  clear ha hb
  go_enter Try.func54, Try.ntmps54
  go_wp2_with fail
  go_loopw [6, 7] (fun v i wr => ∃ k : Nat, k ≤ n ∧ i = .int .i64 k ∧ wr.ownsRow w.heap.size 5 1 v k (cells (mk k fun j => a.getD j 0 ^^^ b.getD j 0)) ∧ Below w.heap.size w wr) (fun _ i _ => n - (intOf i).toNat)
  case atStart => exact ⟨0, by omega, rfl, World.ownsRow_nil _ _ _ _, Below.refl _ _⟩
  case round =>
    obtain ⟨k, hk, rfl, hown, hbel⟩ := hrel
    have HO := Lib.hid hown
    have HW := Lib.hid hbel
    clear hown hbel
    by_cases hlt : k < n
    · obtain ⟨ad, rfl, la, hac⟩ := HA.out.at_ hlt
      obtain ⟨bd, rfl, lb, hbc⟩ := HB.out.at_ hlt
      rw [← HW.out.cell (p := ad.add k) (by rw [add_block]; exact la)] at hac
      rw [← HW.out.cell (p := bd.add k) (by rw [add_block]; exact lb)] at hbc
      have hx := HA.out.lt k
      have hy := HB.out.lt k
      obtain ⟨x, ex⟩ : ∃ x, x = a.getD k 0 := ⟨_, rfl⟩
      obtain ⟨y, ey⟩ : ∃ y, y = b.getD k 0 := ⟨_, rfl⟩
      rw [← ex] at hac hx
      rw [← ey] at hbc hy
      have EX := Lib.hid ex
      have EY := Lib.hid ey
      clear ex ey
      have fa := Lib.hid (show some (ad.add k).block ≠ u6.ownBlock from fun e => by have := (HO.out.lt _ e.symm).1; rw [add_block] at this; omega)
      have fb := Lib.hid (show some (bd.add k).block ≠ u6.ownBlock from fun e => by have := (HO.out.lt _ e.symm).1; rw [add_block] at this; omega)
      have la' : (ad.add k).block < wr.heap.size := by have := HW.out.size; rw [add_block]; omega
      have lb' : (bd.add k).block < wr.heap.size := by have := HW.out.size; rw [add_block]; omega
      have hlt' : (k : Int) < (n : Int) := by omega
      have hk0 : (0 : Int) ≤ (k : Int) := Int.natCast_nonneg _
      have hmax : k + 1 ≤ maxLen := by unfold maxLen; omega
      have hws := HW.out.size
      go_wp2_with fail
      go_region_held3 (fun w' => w'.cell? (ad.add k) = some (.int .u8 (x : Nat)) ∧ w'.cell? (bd.add k) = some (.int .u8 (y : Nat)))
        (first
          | go_keep
          | (go_split_ands
             refine ⟨?_, ?_⟩
             · (rw [hgrow.cell_far _ (by simp; omega) fa.out]; assumption)
             · (rw [hgrow.cell_far _ (by simp; omega) fb.out]; assumption)))
        ((refine step_append_lies _ (by rfl) _ _ _ (by rfl) w.heap.size 5 i0 _ 1 1 Try.underlying33 hi0 hz0 hz1 hz2 rfl (by omega) u6 k _ (by rfl) ((HO.out.alloc _).drew)
            ⟨wr.heap.size, 0, none⟩ 1 1 [.int .u8 (bits BinOp.xor IntKind.u8 (x : Nat) (y : Nat))] (by rfl) (by rfl) (World.news_of_block (cs := #[.int .u8 (bits BinOp.xor IntKind.u8 (x : Nat) (y : Nat))]) (t := 5) (fr := (0, 0)) (heap_alloc_new wr _)) (by simp [Value.oneCell'])
            (by omega) hmax (by omega) (by simp; omega) (wr.heap.size + 1) (by simp) ?_; intro gg cap w1 hown1 hgrow hat hlt1))
      go_wp2
      go_roundw
      case rel =>
        refine ⟨k + 1, by omega, by go_num, ?_, ((HW.out.alloc hws _).drew).grown hgrow (by simp; omega) (fun j e => (HO.out.lt j e).1)⟩
        have h := hown1
        rw [u8_xor_nat x y hx hy, EX.out, EY.out, cells_mk_succ] at h
        exact h
      case measure => simp [intOf]; omega
    · obtain rfl : k = n := by omega
      obtain ⟨A', c', rfl, hcap, hbs⟩ := bs_of_cap HO.out (addL_lt k a b HA.out.lt HB.out.lt)
      have HBS := Lib.hid hbs
      clear hbs
      go_wp2_with fail
      go_ret2
      exact ⟨_, _, rfl, hcap, HBS.out, HW.out⟩
theorem radd_like (A B : Option Addr) (n c d : Nat) (a b : List Nat) (w : World) (ha : Bs w A n a) (hb : Bs w B n b) (hm : n ≤ 140737488355328) :
    Calls Try.prog 54 #[.slice A n c, .slice B n d] w (Gives2 w n (addL n a b)) := (radd_cap A B n c d a b w ha hb hm).mono fun _ _ h => h.gives

set_option maxHeartbeats 400000 in
theorem radd_unlike (A B : Option Addr) (n m c d : Nat) (w : World) (h : n ≠ m) :
    Calls Try.prog 54 #[.slice A n c, .slice B m d] w fun e w' => e = .returned (.tuple #[.slice none 0 0, .int .i64 16]) ∧ w = w' := by
  have h1 : ((n : Int) != (m : Int)) = true := by simp; omega
  have h2 : ((n : Int) == (m : Int)) = false := by simp; omega
  clear h
  go_enter Try.func54, Try.ntmps54
  go_wp2_with fail
  go_ret2
  exact ⟨rfl, rfl⟩
end Go.Proofs.Ytnabhaehfmbkpaa

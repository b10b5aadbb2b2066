/- Proved: lemmas of one statement's proof, merged by program: what each part proves stands ahead of it. Conditions: those that the lemmas name. -/
import Derived.Test.YtooegclblgeicaaGreatDoorM28
import Derived.Test.YtooegclblgeicaaGreatDoorM14
import Derived.Test.YtooegclblgeicaaGreatDoorM12
import Derived.Test.YtooegclblgeicaaGreatDoorM21
import Derived.Test.YtooegclblgeicaaGreatDoorM27
import Derived.Test.YtooegclblgeicaaGreatDoorM16

/- Proved: what the document's reduced leaves of every table: pivots, and a table that is reached from it. Conditions: those that the theorems name. -/
namespace Go.Proofs.YtooegclblgeicaaGreatDoor
open Go.ChangeShapes Go.WideShapes Go.ChangeAt Go.RowKit

theorem ClearMid.start2 {n m d p q : Nat} {t : List (List Nat)} (h : t.length = n) (hd : d < n) (hp : p < n) :
    ClearMid n m d q 0 (swapL d p t) ((t.set p (rw_ t d)).set d (scaleL m (ginv (bt t p q)) (rw_ t p))) := by
  have hsw : rw_ (swapL d p t) d = rw_ t p := by
    rw [swapL_at (by omega) (by omega)]
    unfold swapN
    rw [if_pos rfl]
  have hlead : leadL m d q (swapL d p t) = scaleL m (ginv (bt t p q)) (rw_ t p) := by
    unfold leadL bt
    rw [hsw]
  refine ⟨by rw [List.length_set, List.length_set, h], fun r _ => ?_⟩
  rw [rw_set _ _ _ _ (by rw [List.length_set]; omega), rw_set _ _ _ _ (by omega)]
  by_cases e : d = r
  · have hR : (if r < 0 ∨ r = d then clearL m d q (swapL d p t) r else rw_ (swapL d p t) r) = clearL m d q (swapL d p t) r := if_pos (Or.inr e.symm)
    rw [if_pos e, hR]
    unfold clearL
    rw [if_pos e.symm, hlead]
  · have hR : (if r < 0 ∨ r = d then clearL m d q (swapL d p t) r else rw_ (swapL d p t) r) = rw_ (swapL d p t) r := if_neg (fun h => by rcases h with h | h; omega; exact e h.symm)
    rw [if_neg e, hR, swapL_at (by omega) (by omega)]
    unfold swapN
    rw [if_neg (fun q => e q.symm : ¬ r = d)]
    by_cases e2 : p = r
    · rw [if_pos e2, if_pos e2.symm]
    · rw [if_neg e2, if_neg (fun q => e2 q.symm : ¬ r = p)]

set_option maxRecDepth 100000 in
set_option maxHeartbeats 3200000 in
theorem rreduced_any (A : Option Addr) (n c m places : Nat) (t : List (List Nat)) (w : World) (ht : Rows w A n t) (hl : ∀ r, r < n → (rw_ t r).length = m) (hn1 : 1 ≤ n) (hn : n ≤ 255) (hp : places ≤ m) (hm1 : 1 ≤ m) (hm : m ≤ 1000) :
    Calls Tryz.prog 31 #[.slice A n c, .int .i64 (places : Nat)] w fun e w' => ∃ g cap t' d, e = .returned (.tuple #[.slice (some ⟨g, 0, none⟩) n cap, .int .i64 (d : Nat)]) ∧ w.heap.size ≤ g ∧ Done g n m places t w' t' d w' ∧ Below w.heap.size w w' := by
  have HT := Lib.hid ht
  have HL := Lib.hid hl
  have HGd := Lib.hid (ht.good hl)
  clear ht hl
  go_enter Tryz.func31, Tryz.ntmps31
  go_wp2_with fail
  refine (copied_any A n c t _ HT.out hn1 hn (fun r hr => by rw [HL.out r hr]; exact ⟨hm1, hm⟩)).mono ?_; rintro e w1 ⟨g, cap, rfl, hg, ho, hb⟩
  have HO := Lib.hid ho
  have HW := Lib.hid hb
  have HG := Lib.hid hg
  clear ho hb hg
  go_wp2_with fail
  go_loopw [6, 7] (fun x y wr => ∃ d p : Nat, x = .int .i64 d ∧ y = .int .i64 p ∧ p ≤ places ∧ ∃ t' cc, OwnT wr g n t' ∧ Good n m t' ∧ Piv n p d cc (tabT t') ∧ Reach n m (tabT t) (tabT t') ∧ Below w.heap.size w wr) (fun _ y _ => places - (intOf y).toNat)
  case atStart => exact ⟨0, 0, rfl, rfl, by omega, t, fun k => k, HO.out, HGd.out, Piv.start _ _ _, Reach.start _ _ _, HW.out⟩
  case round =>
    obtain ⟨d, j, rfl, rfl, hjp, t', cc, ho, hgd, hpv, hrc, hbel⟩ := hrel
    rename World => w0
    have HO0 := Lib.hid ho
    have HG0 := Lib.hid hgd
    have HP0 := Lib.hid hpv
    have HR0 := Lib.hid hrc
    have HW0 := Lib.hid hbel
    have hdn : d ≤ n := hpv.rows
    clear ho hgd hpv hrc hbel HO HW
    by_cases hj : j < places
    · by_cases hd : d < n
      · go_wp2_with fail
        go_loop [8] (fun i => ∃ p : Nat, d ≤ p ∧ p ≤ n ∧ i = .int .i64 p ∧ ∀ i, d ≤ i → i < p → bt t' i j = 0) (fun i => n - (intOf i).toNat)
        case atStart => exact ⟨d, by omega, by omega, rfl, fun i h1 h2 => absurd h2 (by omega)⟩
        case round =>
          obtain ⟨p, hdp, hpn, rfl, hz⟩ := hrel
          have HZ := Lib.hid hz
          clear hz
          by_cases hlt : p < n
          · obtain ⟨B, e, hac, hcap, hbs⟩ := HO0.out.at_cap hlt
            rw [HG0.out.row p hlt] at hac hcap hbs
            have hjm : j < m := by omega
            obtain ⟨bd, rfl, _, hbc⟩ := hbs.at_ hjm
            have HB := Lib.hid hbs
            have hxl := hbs.lt j
            clear hbs
            obtain ⟨x, ex⟩ : ∃ x, x = (rw_ t' p).getD j 0 := ⟨_, rfl⟩
            rw [← ex] at hbc hxl
            have EX : Hid (bt t' p j = x) := Lib.hid ex.symm
            clear ex
            by_cases hx : x = 0
            · subst hx
              go_wp2_with fail
              go_round
              case rel => exact ⟨p + 1, by omega, by omega, by go_num, fun i h1 h2 => by
                by_cases e : i = p
                · rw [e]; exact EX.out
                · exact HZ.out i h1 (by omega)⟩
              case measure => simp [intOf]; omega
            · have hx' : ((x : Int) == 0) = false := by simp; omega
              have hx2 : ¬ (x : Int) = 0 := by omega
              have HX := Lib.hid hx
              clear hx
              have hpn2 : ¬ (p : Int) = (n : Int) := by omega
              obtain ⟨B2, e2, hac2, hcap2, hbs2⟩ := HO0.out.at_cap hd
              rw [HG0.out.row d hd] at hac2 hcap2 hbs2
              have hf1 := HO0.out.frozen p
              have hgl := HO0.out.block_lt
              have HO1 := Lib.hid (HO0.out.set_ hlt hcap2 hbs2)
              have HB1 := Lib.hid (HB.out.put hac (.slice B2 m e2))
              have HW1 := Lib.hid (HW0.out.setCell (p := ⟨g, p, none⟩) HG.out (.slice B2 m e2))
              have hbc1 : (w0.setCell ⟨g, p, none⟩ (.slice B2 m e2)).cell? (bd.add j) = some (.int .u8 (x : Nat)) := by
                obtain ⟨ad, e, _, hc⟩ := HB1.out.at_ hjm
                injection e with e
                subst e
                rw [hc]
                exact congrArg some (val_int (congrArg _ EX.out))
              clear hbs2
              go_wp2_with fail
              refine (rinv_any x HX.out hxl _).mono ?_; rintro e w' ⟨rfl, rfl⟩
              generalize w0.setCell ⟨g, p, none⟩ (.slice B2 m e2) = w2 at *
              have hgl2 := HO1.out.block_lt
              go_wp2_with fail
              refine (rscale_cap _ (ginv x) m _ (rw_ t' p) _ (ginv_lt x) HB1.out (by omega)).mono ?_; rintro e w3 ⟨A3, c3, rfl, k3, h3, g3⟩
              have H3 := Lib.hid h3; have G3 := Lib.hid g3; clear h3 g3 hac hac2 hf1 hbc hbc1
              have HO3 := Lib.hid (HO1.out.below G3.out)
              have HW3 : Hid (Below w.heap.size w w3) := Lib.hid (HW1.out.trans (G3.out.mono HW1.out.size))
              obtain ⟨B4, c4, hc4, _⟩ := HO3.out.at_ hd
              have hfz := HO3.out.frozen d
              have HO4 := Lib.hid (HO3.out.set_ (c := c3) hd k3 H3.out)
              have HW4 := Lib.hid (HW3.out.setCell (p := ⟨g, d, none⟩) HG.out (.slice A3 m c3))
              have HC4 := Lib.hid (ClearMid.start2 (m := m) (q := j) HG0.out.len hd hlt)
              rw [EX.out] at HC4
              have HA : Hid (PivAt t' n d j places (.int .i64 (p : Nat)) j) := Lib.hid ⟨Nat.le_refl _, by omega, fun j' h1 h2 => absurd h2 (by omega), fun _ => ⟨p, rfl, hdp, hlt, by rw [EX.out]; exact HX.out⟩⟩
              have hst := step_piv (wd := m) HG0.out rfl hd hlt hdp (by rw [EX.out]; exact HX.out) hj hp HP0.out HR0.out
              have HSt := Lib.hid hst
              have HSw := Lib.hid (swap_good HG0.out hd hlt)
              clear hst
              go_wp2_with fail
              clear hc4 hfz
              go_loopw [12] (fun i wr => ∃ k : Nat, k ≤ n ∧ i = .int .i64 k ∧ ∃ s, ClearMid n m d j k (swapL d p t') s ∧ OwnT wr g n s ∧ Below w.heap.size w wr) (fun i _ => n - (intOf i).toNat)
              case atStart => exact ⟨0, by omega, rfl, _, HC4.out, HO4.out, HW4.out⟩
              case round =>
                obtain ⟨k, hk, rfl, s, hu, ho, hbel⟩ := hrel
                rename World => w5
                have HU := Lib.hid hu
                have HO5 := Lib.hid ho
                have HW5 := Lib.hid hbel
                clear hu ho hbel HO4 HW4 HC4
                by_cases hkn : k < n
                · by_cases hkd : k = d
                  · subst hkd
                    go_wp2_with fail
                    go_roundw
                    case rel => exact ⟨k + 1, by omega, by go_num, s, HU.out.skip (Or.inl rfl), HO5.out, HW5.out⟩
                    case measure => simp [intOf]; omega
                  · have hkd' : ((k : Int) != (d : Int)) = true := by simp; omega
                    have hkd2 : ¬ (k : Int) = (d : Int) := by omega
                    have hrow : rw_ s k = rw_ (swapL d p t') k := by rw [HU.out.2 k hkn, if_neg (by omega)]
                    have hrowd : rw_ s d = leadL m d j (swapL d p t') := by rw [HU.out.2 d hd, if_pos (Or.inr rfl)]; unfold clearL; rw [if_pos rfl]
                    have hlenk := HSw.out.row k hkn
                    have hlend : (leadL m d j (swapL d p t')).length = m := mk_len _ _
                    obtain ⟨B6, c6, hc6, hb6⟩ := HO5.out.at_ hkn
                    obtain ⟨B7, c7, hc7, hb7⟩ := HO5.out.at_ hd
                    rw [hrow, hlenk] at hc6 hb6
                    rw [hrowd, hlend] at hc7 hb7
                    obtain ⟨kd, rfl, _, hy6⟩ := hb6.at_ hjm
                    have HB6 := Lib.hid hb6
                    have HB7 := Lib.hid hb7
                    have hyl := HB6.out.lt j
                    clear hb6 hb7 hrow hrowd hlenk hlend
                    obtain ⟨y, ey⟩ : ∃ y, y = (rw_ (swapL d p t') k).getD j 0 := ⟨_, rfl⟩
                    rw [← ey] at hy6 hyl
                    have EY : Hid (bt (swapL d p t') k j = y) := Lib.hid ey.symm
                    clear ey
                    have hgl5 := HO5.out.block_lt
                    go_wp2_with fail
                    have HD5 : Hid (Below w.heap.size w w5.drew) := Lib.hid HW5.out.drew
                    have hkd5 : kd.block < w5.drew.heap.size := by
                      obtain ⟨ad9, e9, hlt9, _⟩ := HB6.out.at_ hjm
                      cases e9
                      exact hlt9
                    have KP : Hid (∀ w6, Below w5.drew.heap.size w5.drew w6 → w6.cell? ⟨g, k, none⟩ = some (.slice (some kd) m c6) ∧ w6.cell? ⟨g, d, none⟩ = some (.slice B7 m c7) ∧ w6.cell? (kd.add j) = some (.int .u8 (y : Nat))) := Lib.hid fun w6 h =>
                      ⟨(h.cell (p := ⟨g, k, none⟩) hgl5).trans hc6, (h.cell (p := ⟨g, d, none⟩) hgl5).trans hc7, (h.cell (p := kd.add j) (by rw [add_block]; exact hkd5)).trans hy6⟩
                    have hy256 : m ≤ 140737488355328 := by omega
                    go_region_held3 (fun w' => w'.cell? ⟨g, k, none⟩ = some (.slice (some kd) m c6) ∧ w'.cell? ⟨g, d, none⟩ = some (.slice B7 m c7) ∧ w'.cell? (kd.add j) = some (.int .u8 (y : Nat)))
                      (first | exact KP.out _ (Below.refl _ _) | exact KP.out _ G6.out)
                      ((go_at_call 49; refine (rmuladd_cap (some kd) B7 y m c6 c7 (rw_ (swapL d p t') k) (leadL m d j (swapL d p t')) w5.drew hyl HB6.out.drew HB7.out.drew hy256).mono ?_; rintro e w6 ⟨A6, e6, rfl, k6, h6, g6⟩; have H6 := Lib.hid h6; have G6 := Lib.hid g6; clear h6 g6))
                    all_goals
                      have hrow6 : addL m (rw_ (swapL d p t') k) (scaleL m y (leadL m d j (swapL d p t'))) = clearL m d j (swapL d p t') k := by unfold clearL; rw [if_neg hkd, EY.out]
                      rw [hrow6] at H6
                      have HO6 := Lib.hid (HO5.out.drew.below G6.out)
                      have HW6 : Hid (Below w.heap.size w w6) := Lib.hid (HD5.out.trans (G6.out.mono HD5.out.size))
                      obtain ⟨B8, c8, hc8, _⟩ := HO6.out.at_ hkn
                      have hfz8 := HO6.out.frozen k
                      clear hrow6 hc6 hc7 hy6
                      go_wp2_with fail
                      go_roundw
                      case rel => exact ⟨k + 1, by omega, by go_num, _, HU.out.next hkn, HO6.out.set_ hkn k6 H6.out, HW6.out.setCell (p := ⟨g, k, none⟩) HG.out _⟩
                      case measure => simp [intOf]; omega
                · obtain rfl : k = n := by omega
                  have hdone := HU.out.done_
                  go_wp2_with fail
                  go_roundw
                  case rel =>
                    subst hdone
                    exact ⟨d + 1, j + 1, by go_num, by go_num, by omega, _, _, HO5.out, HSt.out.1, HSt.out.2.1, HSt.out.2.2, HW5.out⟩
                  case measure => simp [intOf]; omega
          · obtain rfl : p = n := by omega
            go_wp2_with fail
            go_roundw
            case rel => exact ⟨d, j + 1, rfl, by go_num, by omega, t', cc, HO0.out, HG0.out, HP0.out.skip (fun i h1 h2 => (tabT_zero HG0.out h2).2 (HZ.out i h1 h2)), HR0.out, HW0.out⟩
            case measure => simp [intOf]; omega
      · obtain rfl : d = n := by omega
        go_wp2_with fail
        go_ret2
        exact ⟨g, cap, t', d, rfl, HG.out, ⟨cc, HO0.out, HG0.out, HP0.out.stop hjp, HR0.out, Below.refl _ _⟩, HW0.out⟩
    · obtain rfl : j = places := by omega
      go_wp2_with fail
      go_ret2
      exact ⟨g, cap, t', d, rfl, HG.out, ⟨cc, HO0.out, HG0.out, HP0.out, HR0.out, Below.refl _ _⟩, HW0.out⟩
end Go.Proofs.YtooegclblgeicaaGreatDoor

/- Proved: what the document's Rank and Invert answer for every table. Conditions: those that the theorems name. -/
namespace Go.Proofs.YtooegclblgeicaaGreatDoor
open Go.ChangeShapes Go.WideShapes Go.ChangeAt Go.RowKit

set_option maxHeartbeats 400000 in
theorem rinvert_bad (A : Option Addr) (n c : Nat) (t : List (List Nat)) (w : World) (ht : Rows w A n t) (h1 : chk t ≠ 0) :
    Calls Tryz.prog 19 #[.slice A n c] w (GivesInv w t) := by
  have HC := fun W h => rcheck_any A n c t W h
  have HT := Lib.hid ht
  have HR : Hid (InvIs t [] (chk t)) := Lib.hid (Or.inl ⟨h1, rfl, rfl⟩)
  clear ht
  generalize hk : chk t = k at *
  have HC' := Lib.hid HC
  clear HC hk
  have hk : ((k : Int) != 0) = true := by simp; omega
  have hk' : ¬ ((k : Int) = 0) := by omega
  go_enter Tryz.func19, Tryz.ntmps19
  go_wp2_with fail
  refine (HC'.out _ HT.out).mono ?_; rintro e w' ⟨rfl, q, rfl⟩
  go_wp2_with fail
  go_ret2
  exact ⟨none, 0, [], k, rfl, Rows.nil _ _, HR.out, below_drawn ⟨_, rfl⟩⟩

set_option maxHeartbeats 400000 in
theorem rinvert_unlike (A : Option Addr) (n c : Nat) (t : List (List Nat)) (w : World) (ht : Rows w A n t) (h1 : chk t = 0) (h2 : (rw_ t 0).length ≠ t.length) :
    Calls Tryz.prog 19 #[.slice A n c] w (GivesInv w t) := by
  have HC := fun W h => rcheck_any A n c t W h
  rw [h1] at HC
  have HC' := Lib.hid HC
  have HT := Lib.hid ht
  have HR : Hid (InvIs t [] 16) := Lib.hid (Or.inr (Or.inl ⟨h1, h2, rfl, rfl⟩))
  have hd := chk_zero h1
  rw [ht.len] at hd h2
  have hn : 0 < n := hd.1.1
  have H2 := Lib.hid h2
  clear ht h1 HC hd h2
  go_enter Tryz.func19, Tryz.ntmps19
  go_wp2_with fail
  refine (HC'.out _ HT.out).mono ?_; rintro e w1 ⟨rfl, q1, h1⟩
  have S1 := Lib.hid (below_drawn (B := w.heap.size) ⟨q1, h1⟩); clear h1
  obtain ⟨ad, B0, c0, rfl, had, hc0, _⟩ := (HT.out.below S1.out).at_ (k := 0) hn
  rw [Addr.add_zero' ad] at hc0
  have h2 := H2.out
  generalize (rw_ t 0).length = m at *
  have hk : ((m : Int) != (n : Int)) = true := by simp; omega
  have hk' : ¬ ((m : Int) = (n : Int)) := by omega
  clear h2
  go_wp2_with fail
  go_ret2
  exact ⟨none, 0, [], 16, rfl, Rows.nil _ _, HR.out, S1.out⟩

theorem mk_snoc (n : Nat) (f : Nat → Nat) : mk n f ++ [f n] = mk (n + 1) f := by
  unfold mk
  rw [List.range_succ, List.map_append]; rfl
theorem cells_one_more (a : List Nat) (n : Nat) (f : Nat → Nat) (x : Nat) (h : f n = x) : cells (a ++ mk n f) ++ [Value.int .u8 (x : Nat)] = cells (a ++ mk (n + 1) f) := by
  rw [← mk_snoc, h]
  show cells (a ++ mk n f) ++ cells [x] = _
  rw [cells_app, List.append_assoc]

set_option maxRecDepth 100000 in
set_option maxHeartbeats 3200000 in
theorem rinvert_good (A : Option Addr) (n c : Nat) (t : List (List Nat)) (w : World) (ht : Rows w A n t) (h1 : chk t = 0) (hl : ∀ r, r < n → (rw_ t r).length = n) (hn1 : 1 ≤ n) (hn2 : n ≤ 255) :
    Calls Tryz.prog 19 #[.slice A n c] w (GivesInv w t) := by
  obtain ⟨i0, hi0, hz0, hz1, hz2⟩ := info_parts Tryz.infoRow
  obtain ⟨j0, hj0, hy0, hy1, hy2⟩ := info_parts Tryz.infoByte
  have HC := fun W h => rcheck_any A n c t W h
  rw [h1] at HC
  have HC' := Lib.hid HC
  have HT := Lib.hid ht
  have HL := Lib.hid hl
  have H1 := Lib.hid h1
  have HGd := Lib.hid (ht.good hl)
  have hn : 0 < n := hn1
  clear ht h1 HC hl
  go_enter Tryz.func19, Tryz.ntmps19
  go_wp2_with fail
  refine (HC'.out _ HT.out).mono ?_; rintro e w1 ⟨rfl, q1, h1⟩
  have S1 := Lib.hid (below_drawn (B := w.heap.size) ⟨q1, h1⟩); clear h1
  obtain ⟨ad, B0, c0, rfl, had, hc0, _⟩ := (HT.out.below S1.out).at_ (k := 0) hn
  rw [Addr.add_zero' ad, HL.out 0 hn] at hc0
  go_wp2_with fail
  clear hc0
  go_loopw [6, 7] (fun v i wr => ∃ r : Nat, r ≤ n ∧ i = .int .i64 r ∧ ∃ xs, wr.ownsRow w.heap.size 55 1 v r xs ∧ Cut wr v xs (mkR r fun i => rw_ t i ++ rw_ (idL n) i) ∧ Below w.heap.size w wr) (fun _ i _ => n - (intOf i).toNat)
  case atStart => exact ⟨0, by omega, rfl, _, World.ownsRow_nil _ _ _ _, Cut.nil _ _, S1.out⟩
  case round =>
    obtain ⟨r, hr, rfl, xs, hown, hcut, hbel⟩ := hrel
    rename World => w0
    have HO := Lib.hid hown
    have HCt := Lib.hid hcut
    have HW := Lib.hid hbel
    clear hown hcut hbel S1
    by_cases hlt : r < n
    · obtain ⟨ad', A1, e1, h', hadlt, hac, has⟩ := (HT.out.below HW.out).at_ hlt
      cases h'
      rw [HL.out r hlt] at hac has
      obtain ⟨bd, rfl, _, _⟩ := has.at_ hn
      have HAs := Lib.hid has
      clear has
      have hlen : (rw_ t r).length = n := HL.out r hlt
      have HLen := Lib.hid hlen
      clear hlen
      have hmax : r + 1 ≤ maxLen := by unfold maxLen; omega
      have hws := HW.out.size
      go_wp2_with (at_builtin; refine wpList_append_lies _ rfl _ _ _ rfl w0.heap.size 5 j0 _ 1 1 Tryz.underlying55 hj0 hy0 hy1 hy2 rfl (by omega) _ 0 _ rfl (World.ownsRow_nil _ _ _ _) bd n e1 (cells (rw_ t r)) rfl (by rw [cells_len, HLen.out, Nat.mul_one]) HAs.out.source (cells_one _) hn (by unfold maxLen; omega) (by omega) (Nat.le_refl _) _ rfl ?_; intro g1 cap1 w1 hown1 hgrow hat hlt1)
      have HO1 : Hid (w1.ownsRow w0.heap.size 5 1 (.slice (some ⟨g1, 0, none⟩) n cap1) (n + 0) (cells (rw_ t r ++ mk 0 (unitN r)))) := Lib.hid (by
        have h := hown1
        rw [Nat.zero_add] at h
        have e : rw_ t r ++ mk 0 (unitN r) = rw_ t r := List.append_nil _
        rw [e]; exact h)
      have HW1 : Hid (Below w0.heap.size w0 w1) := Lib.hid ((Below.refl _ _).grown hgrow (Nat.le_refl _) (fun k e => nomatch (show (none : Option Nat) = some k from e)))
      clear hown1 hgrow hat hlt1 hac
      go_loopw [8, 9] (fun v i wr => ∃ q : Nat, q ≤ n ∧ i = .int .i64 q ∧ wr.ownsRow w0.heap.size 5 1 v (n + q) (cells (rw_ t r ++ mk q (unitN r))) ∧ Below w0.heap.size w0 wr) (fun _ i _ => n - (intOf i).toNat)
      case atStart => exact ⟨0, by omega, rfl, HO1.out, HW1.out⟩
      case round =>
        obtain ⟨q, hq, rfl, hown, hbel⟩ := hrel
        rename World => w3
        have HO3 := Lib.hid hown
        have HW3 := Lib.hid hbel
        have HWW : Hid (Below w.heap.size w w3) := Lib.hid (HW.out.trans (HW3.out.mono HW.out.size))
        clear hown hbel HO1 HW1
        by_cases hqn : q < n
        · have hmax3 : n + q + 1 ≤ maxLen := by unfold maxLen; omega
          have hws3 := HW3.out.size
          by_cases hrq : r = q
          · have HX := Lib.hid (cells_one_more (rw_ t r) q (unitN r) 1 (by unfold unitN; rw [if_pos hrq]))
            have hrq' : ((r : Int) == (q : Int)) = true := by simp; omega
            clear hrq
            go_wp2_with (at_builtin; refine wpList_append_lies _ rfl _ _ _ rfl w0.heap.size 5 j0 _ 1 1 Tryz.underlying55 hj0 hy0 hy1 hy2 rfl (by omega) _ (n + q) _ rfl (HO3.out.alloc _) ⟨w3.heap.size, 0, none⟩ 1 1 [.int .u8 1] rfl rfl (World.news_of_block (cs := #[.int .u8 1]) (t := 5) (fr := (0, 0)) (heap_alloc_new w3 _)) (by simp [Value.oneCell']) (by omega) hmax3 (by omega) (by simp; omega) (w3.heap.size + 1) (by simp) ?_; intro gg cap4 w4 hown4 hgrow hat hlt4)
            go_roundw
            case rel =>
              refine ⟨q + 1, by omega, by go_num, ?_, (HW3.out.alloc hws3 _).grown hgrow (by simp; omega) (fun j e => (HO3.out.lt j e).1)⟩
              have h := hown4
              have e := HX.out
              rw [show (((1 : Nat) : Int)) = (1 : Int) from rfl] at e
              rw [e, Nat.add_assoc] at h
              exact h
            case measure => simp [intOf]; omega
          · have HX := Lib.hid (cells_one_more (rw_ t r) q (unitN r) 0 (by unfold unitN; rw [if_neg hrq]))
            have hrq' : ¬ (r : Int) = (q : Int) := by omega
            have hrq2 : ((r : Int) == (q : Int)) = false := by simp; omega
            clear hrq
            go_wp2_with (at_builtin; refine wpList_append_lies _ rfl _ _ _ rfl w0.heap.size 5 j0 _ 1 1 Tryz.underlying55 hj0 hy0 hy1 hy2 rfl (by omega) _ (n + q) _ rfl (HO3.out.alloc _) ⟨w3.heap.size, 0, none⟩ 1 1 [.int .u8 0] rfl rfl (World.news_of_block (cs := #[.int .u8 0]) (t := 5) (fr := (0, 0)) (heap_alloc_new w3 _)) (by simp [Value.oneCell']) (by omega) hmax3 (by omega) (by simp; omega) (w3.heap.size + 1) (by simp) ?_; intro gg cap4 w4 hown4 hgrow hat hlt4)
            go_roundw
            case rel =>
              refine ⟨q + 1, by omega, by go_num, ?_, (HW3.out.alloc hws3 _).grown hgrow (by simp; omega) (fun j e => (HO3.out.lt j e).1)⟩
              have h := hown4
              have e := HX.out
              rw [show (((0 : Nat) : Int)) = (0 : Int) from rfl] at e
              rw [e, Nat.add_assoc] at h
              exact h
            case measure => simp [intOf]; omega
        · obtain rfl : q = n := by omega
          obtain ⟨g3, cap3, rfl, hg3, hcap3, _, ho3⟩ := own_of HO3.out (app_lt HAs.out.lt (mk_lt q _ fun j => unitN_lt r j)) (by omega)
          have f1 := Lib.hid ho3.bs
          have f2 := Lib.hid (ownsRow_below HO.out HW3.out)
          have f3 := Lib.hid (HCt.out.below HW3.out)
          have f5 : Hid (∀ ad : Addr, (some ⟨g3, 0, none⟩ : Option Addr) = some ad → 0 < q + q → u6.ownBlock ≠ some ad.block) := Lib.hid fun ad e _ q => by
            injection e with e
            subst e
            have h1 : g3 < w0.heap.size := (HO.out.lt _ q).2
            omega
          have hrowI : Hid (rw_ (idL q) r = mk q (unitN r)) := Lib.hid (mkR_at _ _ _ hlt)
          clear ho3 HO HCt HO3 hg3
          have hws := HWW.out.size
          go_wp2_with (at_builtin; refine wpList_append_lies _ rfl _ _ _ rfl w.heap.size 55 i0 _ 1 24 Tryz.underlying54 hi0 hz0 hz1 hz2 rfl (by omega) _ r _ rfl (f2.out.alloc _) ⟨w3.heap.size, 0, none⟩ 1 1 [.slice (some ⟨g3, 0, none⟩) (q + q) cap3] rfl rfl (World.news_of_block (cs := #[.slice (some ⟨g3, 0, none⟩) (q + q) cap3]) (t := 55) (fr := (0, 0)) (heap_alloc_new w3 _)) (by simp [Value.oneCell']) (by omega) hmax (by omega) (by simp; omega) (w3.heap.size + 1) (by simp) ?_; intro gg cap2 w6 hown1 hgrow hat hlt1)
          go_roundw
          case rel =>
            refine ⟨r + 1, by omega, by go_num, _, hown1, ?_, (HWW.out.alloc hws _).grown hgrow (by simp; omega) (fun j e => (f2.out.lt j e).1)⟩
            rw [← mkR_succ, hrowI.out]
            exact f3.out.grow hcap3 f1.out f5.out hgrow hat
          case measure => simp [intOf]; omega
    · obtain rfl : r = n := by omega
      obtain ⟨gw, capw, rfl, hgw, _, _, how⟩ := ownT_of HO.out HCt.out hn
      have HRw := Lib.hid how.rows
      clear hgw how
      go_wp2_with fail
      refine (rreduced_any _ r capw (r + r) r _ _ HRw.out (wide_good HGd.out).row hn1 hn2 (by omega) (by omega) (by omega)).mono ?_; rintro e w2 ⟨g, cap, t', d, rfl, hg, hd, hb⟩
      have HD := Lib.hid hd
      have HV := Lib.hid (inv_of (c := 0) HGd.out H1.out (HL.out 0 hn) rfl hd)
      have hdn : d ≤ r := by obtain ⟨_, _, _, h3, _⟩ := hd; exact h3.rows
      have G3 : Hid (Below w.heap.size w w2) := Lib.hid (HW.out.trans (hb.mono HW.out.size))
      have HG : Hid (w.heap.size ≤ g) := Lib.hid (Nat.le_trans HW.out.size hg)
      clear hd hb hg
      by_cases hlt : d < r
      · go_wp2_with fail
        go_ret2
        exact ⟨none, 0, [], 14, rfl, Rows.nil _ _, HV.out.1 hlt, G3.out⟩
      · obtain rfl : d = r := by omega
        have hO : OwnT w2 g d t' ∧ Good d (d + d) t' := by obtain ⟨_, a, b, _⟩ := HD.out; exact ⟨a, b⟩
        have HOo := Lib.hid hO.1
        have HG3 := Lib.hid hO.2
        clear hO
        go_wp2_with fail
        go_loopw [13] (fun i wr => ∃ q : Nat, q ≤ d ∧ i = .int .i64 q ∧ ∃ s, s.length = d ∧ (∀ r, r < d → rw_ s r = if r < q then (rw_ t' r).drop d else rw_ t' r) ∧ OwnT wr g d s ∧ Below w.heap.size w wr) (fun i _ => d - (intOf i).toNat)
        case atStart => exact ⟨0, by omega, rfl, t', HG3.out.len, fun r _ => (if_neg (by omega)).symm, HOo.out, G3.out⟩
        case round =>
          obtain ⟨q, hq, rfl, s, hs, hrow, ho, hbel⟩ := hrel
          have HS := Lib.hid hs
          have HR := Lib.hid hrow
          have HO' := Lib.hid ho
          have HW' := Lib.hid hbel
          clear hs hrow ho hbel HOo
          by_cases hlt : q < d
          · obtain ⟨B, e, hac, hcap, hbs⟩ := HO'.out.at_cap hlt
            have hrq : rw_ s q = rw_ t' q := by rw [HR.out q hlt, if_neg (by omega)]
            rw [hrq, HG3.out.row q hlt] at hac hcap
            rw [hrq, HG3.out.row q hlt] at hbs
            obtain ⟨bd, rfl, _, _⟩ := hbs.at_ (k := 0) (by omega)
            have htl := hbs.tail (k := d) (by omega)
            rw [Nat.add_sub_cancel] at htl
            have HB := Lib.hid htl
            clear htl
            clear hbs hrq
            have hle : (d : Int) ≤ ((d + d : Nat) : Int) := by omega
            have hed : ¬ e = d := by omega
            have hd0 : (0 : Int) ≤ (d : Int) := by omega
            have hgl := HO'.out.block_lt
            have hfz := HO'.out.frozen q
            have hcap' : d ≤ e - d := by omega
            have HO5 := Lib.hid (HO'.out.set_ hlt hcap' HB.out)
            go_wp2_with fail
            go_roundw
            case rel =>
              refine ⟨q + 1, by omega, by go_num, s.set q ((rw_ t' q).drop d), by rw [List.length_set, HS.out], fun r hr => ?_, HO5.out, HW'.out.setCell (p := ⟨g, q, none⟩) HG.out _⟩
              rw [rw_set _ _ _ _ (by rw [HS.out]; exact hlt)]
              by_cases e : q = r
              · subst e; rw [if_pos rfl, if_pos (by omega)]
              · rw [if_neg e, HR.out r hr]
                by_cases e2 : r < q
                · rw [if_pos e2, if_pos (by omega)]
                · rw [if_neg e2, if_neg (by omega)]
            case measure => simp [intOf]; omega
          · obtain rfl : q = d := by omega
            have hsb : s = behind q t' := eq_mkR HS.out fun r hr => by rw [HR.out r hr, if_pos hr]
            subst hsb
            have HV2 : Hid (InvIs t (behind q t') 0) := Lib.hid (by first | exact HV.out.2 rfl | exact HV.out.2 trivial)
            have hlen : (behind q t').length = q := mkR_len _ _
            have HLen := Lib.hid hlen
            clear hlen HV
            go_wp2_with fail
            go_ret2
            exact ⟨some ⟨g, 0, none⟩, cap, behind q t', 0, by rw [HLen.out]; rfl, by rw [HLen.out]; exact HO'.out.rows, HV2.out, HW'.out⟩

theorem rinvert_any (A : Option Addr) (n c : Nat) (t : List (List Nat)) (w : World) (ht : Rows w A n t) :
    Calls Tryz.prog 19 #[.slice A n c] w (GivesInv w t) := by
  by_cases h : chk t = 0
  · by_cases h2 : (rw_ t 0).length = t.length
    · obtain ⟨n1, m1, l1, r1, r2, r3, r4, r5, r6⟩ := chk_dims h
      have hn : n1 = n := l1.symm.trans ht.len
      have hm : m1 = n1 := by omega
      subst hn hm
      exact rinvert_good A m1 c t w ht h r6 r1 r2
    · exact rinvert_unlike A n c t w ht h h2
  · exact rinvert_bad A n c t w ht h
end Go.Proofs.YtooegclblgeicaaGreatDoor

/- Proved: what the document's Decode answers for every two ints and all shards. Conditions: those that the theorems name. -/
namespace Go.Proofs.YtooegclblgeicaaGreatDoor
open Go.ChangeShapes Go.WideShapes Go.ChangeAt Go.RowKit

/-! ### two rows that grow side by side -/
theorem own_ne {w : World} {b b' s s' n n' : Nat} {e e' : TypeId} {v u : Value} {xs ys : List Value} (h : w.ownsRow b e s v n xs) (g : w.ownsRow b' e' s' u n' ys) (hne : e ≠ e') : v.ownBlock = none ∨ v.ownBlock ≠ u.ownBlock := by
  rcases h.2 with ⟨rfl, _⟩ | ⟨g1, c1, cur1, rfl, _, h1, _⟩
  · exact Or.inl rfl
  · right
    rcases g.2 with ⟨rfl, _⟩ | ⟨g2, c2, cur2, rfl, _, h2, _⟩
    · intro q; exact nomatch q
    · intro q
      have q' : g1 = g2 := by simpa [Value.ownBlock] using q
      subst q'
      rw [h1] at h2
      injection h2 with h2
      injection h2 with _ h2
      exact hne h2
theorem Cut.keep {w w' : World} {o : Obj} {v u : Value} {xs : List Value} {t : List (List Nat)} (h : Cut w v xs t) (hu : Cut w u xs t) (hg : (w.alloc o).grownBy w' u.ownBlock) : Cut w' v xs t := by
  have hal : Below w.heap.size w (w.alloc o) := (Below.refl _ _).alloc (Nat.le_refl _) _
  refine ⟨h.1, fun r hr => ?_⟩
  obtain ⟨B, c, h1, h2, h3, h4⟩ := h.2 r hr
  obtain ⟨B', c', g1, _, _, g4⟩ := hu.2 r hr
  rw [h1] at g1
  injection g1 with g1
  injection g1 with g1
  subst g1
  exact ⟨B, c, h1, h2, (h3.below hal).grown g4 hg, h4⟩
theorem Cut.turn {w w' : World} {o : Obj} {u : Value} {xs : List Value} {t : List (List Nat)} {gg m cap : Nat} (h : Cut w u xs t) (hg : (w.alloc o).grownBy w' u.ownBlock) (hat : u.ownBlock = some gg ∨ gg = w.heap.size + 1) :
    Cut w' (.slice (some ⟨gg, 0, none⟩) m cap) xs t := by
  refine ⟨h.1, fun r hr => ?_⟩
  have hk := (h.keep h hg).2 r hr
  obtain ⟨B, c, h1, h2, h3, h4⟩ := hk
  obtain ⟨B', c', g1, _, g3, _⟩ := h.2 r hr
  rw [h1] at g1
  injection g1 with g1
  injection g1 with g1
  subst g1
  refine ⟨B, c, h1, h2, h3, fun ad e hn q => ?_⟩
  have q' : gg = ad.block := by simpa [Value.ownBlock] using q
  rcases hat with hat | hat
  · exact h4 ad e hn (by rw [hat, q'])
  · obtain ⟨ad', e', hlt, _⟩ := g3.2.2 hn
    rw [e] at e'
    injection e' with e'
    subst e'
    omega
theorem Cut.snoc {w : World} {u : Value} {xs : List Value} {t : List (List Nat)} {B : Option Addr} {n c : Nat} {x : List Nat} (h : Cut w u xs t) (hcap : n ≤ c) (hx : Bs w B n x) (hB : ∀ ad, B = some ad → 0 < n → u.ownBlock ≠ some ad.block) :
    Cut w u (xs ++ [.slice B n c]) (t ++ [x]) := by
  have hl := hx.len
  refine ⟨by simp [h.1], fun r hr => ?_⟩
  rw [List.length_append, List.length_singleton] at hr
  rw [rw_snoc t x r hr, List.getElem?_append, h.1]
  by_cases hr' : r < t.length
  · rw [if_pos hr', if_pos hr']; exact h.2 r hr'
  · rw [if_neg hr', if_neg hr', show r - t.length = 0 by omega, hl]
    exact ⟨B, c, rfl, hcap, hx, hB⟩
theorem ss_keep {w w' : World} {base size n : Nat} {e : TypeId} {v : Value} {xs : List Value} (h : w.ownsRow base e size v n xs) (hb : Below w.heap.size w w') : w'.ownsRow base e size v n xs := ownsRow_below' h hb

set_option maxHeartbeats 800000 in
theorem rdecode_arg (A : Option Addr) (m c : Nat) (k n : Int) (l : List Shd) (w : World) (h : ¬ DArg k n) :
    Calls Tryz.prog 10 #[.int .i64 k, .int .i64 n, .slice A m c] w (GivesDc w k n l) := by
  have HD := Lib.hid (dcE_arg (l := l) h)
  have key : k < 1 ∨ ¬ k < 1 ∧ k > 32 ∨ ¬ k < 1 ∧ ¬ k > 32 ∧ n < k ∨ ¬ k < 1 ∧ ¬ k > 32 ∧ ¬ n < k ∧ n > 255 := by unfold DArg at h; omega
  clear h
  rcases key with h1 | ⟨h1, h2⟩ | ⟨h1, h2, h3⟩ | ⟨h1, h2, h3, h4⟩
  all_goals
    go_enter Tryz.func10, Tryz.ntmps10
    go_wp2_with fail
    go_ret2
    exact ⟨_, _, _, [], by rw [HD.out]; rfl, DcIs.none (by rw [HD.out]; decide), Ss.nil _ _, Below.refl _ _⟩

theorem rowsC_cut {k : Nat} {a : List Shd} (hk : k ≤ a.length) : mkR k (fun i => rowC k (sh_ a i).1.toNat) = rowsC k (idxL (a.take k)) := by
  have e := take_len hk
  have h := rowsC_mk k (idxL (a.take k))
  rw [idxL_len, e] at h
  rw [h]
  refine eq_mkR (mkR_len _ _) fun j hj => ?_
  rw [mkR_at _ _ _ hj, idxL_at (by rw [e]; exact hj), sh_take hj]
theorem bodL_cut {k : Nat} {a : List Shd} (hk : k ≤ a.length) : mkS k (fun i => (sh_ a i).2) = bodL (a.take k) := by
  have e := take_len hk
  exact (eq_mkS (by rw [bodL_len, e]) fun j hj => by rw [bodL_at (by rw [e]; exact hj), sh_take hj]).symm

set_option maxRecDepth 100000 in
set_option maxHeartbeats 6400000 in
theorem rdecode_main (A : Option Addr) (m c k n s : Nat) (l : List Shd) (a : List Shd) (w : World) (hU : Calls Tryz.prog 17 #[.int .i64 (n : Nat), .slice A m c] w (GivesHE w a 0))
    (hk1 : 1 ≤ k) (hk2 : k ≤ 32) (hk3 : k ≤ n) (hk4 : n ≤ 255) (hle : k ≤ a.length) (hok : AccOk n s a) (hs1 : 1 ≤ s) (hs2 : s ≤ 1024) (hD : dcE k n l = 0) (ha : accL l = a) (hsz : (sh_ l 0).2.size = s) :
    Calls Tryz.prog 10 #[.int .i64 (k : Nat), .int .i64 (n : Nat), .slice A m c] w (GivesDc w k n l) := by
  obtain ⟨i0, hi0, hz0, hz1, hz2⟩ := info_parts Tryz.infoRow
  obtain ⟨j0, hj0, hy0, hy1, hy2⟩ := info_parts Tryz.infoString
  have HU := Lib.hid hU
  have HK := Lib.hid hok
  have HLe := Lib.hid hle
  have HI := Lib.hid (fun q hq => DcIs.some (k := (k : Int)) (n := (n : Int)) (l := l) hD (q := q) hq)
  rw [Int.toNat_natCast, ha, hsz] at HI
  have HD := Lib.hid hD
  have hC := hok.cut hle
  have hlen := take_len hle
  have hsel := hC.sel
  rw [hlen] at hsel
  have HSel := Lib.hid hsel
  have HIl : Hid ((idxL (a.take k)).length = k) := Lib.hid (by rw [idxL_len, hlen])
  have HBl : Hid (∀ i, i < k → (st_ (bodL (a.take k)) i).size = s) := Lib.hid fun i hi => by rw [bodL_at (by rw [hlen]; exact hi)]; exact hC.siz i (by rw [hlen]; exact hi)
  clear hU hok hle hD ha hsz hC hlen hsel
  have h1 : ¬ (k : Int) < 1 := by omega
  have h2 : ¬ (k : Int) > 32 := by omega
  have h3 : ¬ (n : Int) < (k : Int) := by omega
  have h4 : ¬ (n : Int) > 255 := by omega
  have hle2 : ¬ (a.length : Int) < (k : Int) := by have := HLe.out; omega
  have hle3 : decide (a.length < k) = false := decide_eq_false (by have := HLe.out; omega)
  go_enter Tryz.func10, Tryz.ntmps10
  go_wp2_with fail
  refine HU.out.mono ?_; rintro e w1 ⟨A1, n1, c1, rfl, hc1, hsh1, hw1⟩
  obtain rfl : a.length = n1 := hsh1.len
  have HS1 := Lib.hid hsh1
  have HW1 := Lib.hid hw1
  have hgs : w.heap.size ≤ w1.heap.size := hw1.size
  clear hsh1 hw1
  go_wp2_with fail
  go_loopw [10, 11, 12] (fun v u i wr => ∃ j : Nat, j ≤ k ∧ i = .int .i64 j ∧ ∃ xs, wr.ownsRow w1.heap.size 55 1 v j xs ∧ wr.ownsRow w1.heap.size 9 1 u j (scells (mkS j fun i => (sh_ a i).2)) ∧ Cut wr v xs (mkR j fun i => rowC k (sh_ a i).1.toNat) ∧ Cut wr u xs (mkR j fun i => rowC k (sh_ a i).1.toNat) ∧ Below w1.heap.size w1 wr) (fun _ _ i _ => k - (intOf i).toNat)
  case atStart => exact ⟨0, by omega, rfl, _, World.ownsRow_nil _ _ _ _, World.ownsRow_nil _ _ _ _, Cut.nil _ _, Cut.nil _ _, Below.refl _ _⟩
  case round =>
    obtain ⟨j, hj, rfl, xs, hov, hou, hcv, hcu, hbel⟩ := hrel
    have HOv := Lib.hid hov
    have HOu := Lib.hid hou
    have HCv := Lib.hid hcv
    have HCu := Lib.hid hcu
    have HW := Lib.hid hbel
    clear hov hou hcv hcu hbel
    by_cases hlt : j < k
    · have hja : j < a.length := Nat.lt_of_lt_of_le hlt HLe.out
      obtain ⟨ad, rfl, had, hc1, hc2⟩ := (HS1.out.below HW.out).at_ hja
      have hlt' : (j : Int) < (k : Int) := by omega
      have hj0' : (0 : Int) ≤ (j : Int) := Int.natCast_nonneg _
      have hja' : (j : Int) < (a.length : Int) := by omega
      have hrng := HK.out.rng j hja
      have HR := fun W => rrow_any k n (sh_ a j).1 W
      have e0 : cErr (k : Int) (n : Int) (sh_ a j).1 = 0 := cErr_in (by unfold NoTab; omega) hrng
      rw [e0, cRow_some e0, Int.toNat_natCast] at HR
      have HR' := Lib.hid HR
      have HX1 := Lib.hid (mkR_succ j fun i => rowC k (sh_ a i).1.toNat)
      have HX2 : Hid (scells (mkS j fun i => (sh_ a i).2) ++ [.string (sh_ a j).2] = scells (mkS (j + 1) fun i => (sh_ a i).2)) := Lib.hid (by rw [scells_snoc]; exact congrArg scells (mkS_succ j fun i => (sh_ a i).2))
      have HCell : Hid (∀ W, Below w1.heap.size w1 W → W.cell? ⟨(ad.add (j * 2)).block, (ad.add (j * 2)).off + 1, none⟩ = some (.string (sh_ a j).2)) := Lib.hid fun W h => by
        obtain ⟨ad', e', _, _, q2⟩ := (HS1.out.below h).at_ hja
        injection e' with e'
        subst e'
        exact q2
      clear HR e0 hrng
      generalize sh_ a j = x at *
      obtain ⟨xi, xs'⟩ := x
      generalize scells (mkS j fun i => (sh_ a i).2) = CS at *
      generalize hec : scells (mkS (j + 1) fun i => (sh_ a i).2) = CS' at *
      generalize (mkR j fun i => rowC k (sh_ a i).1.toNat) = T at *
      generalize het : (mkR (j + 1) fun i => rowC k (sh_ a i).1.toNat) = T' at *
      have EC := Lib.hid hec
      have ET := Lib.hid het
      clear hec het
      have hmax : j + 1 ≤ maxLen := by unfold maxLen; omega
      have hws := HW.out.size
      have hlv : Hid (∀ g : Nat, u10.ownBlock = some g → g < wr.heap.size) := Lib.hid fun g q => (HOv.out.lt _ q).2
      have hlu : Hid (∀ g : Nat, u11.ownBlock = some g → g < wr.heap.size) := Lib.hid fun g q => (HOu.out.lt _ q).2
      go_wp2_with (first
        | (go_at_call 18; refine (HR'.out _).mono ?_; rintro e w2 ⟨A2, m2, c2, rfl, hc2', hb2, hf2, hw2⟩; have H2 := Lib.hid hb2; have HOv2 := Lib.hid (ss_keep HOv.out hw2); have HOu2 := Lib.hid (ss_keep HOu.out hw2); have HCv2 := Lib.hid (HCv.out.below hw2); have HCu2 := Lib.hid (HCu.out.below hw2); have HW2 := Lib.hid (HW.out.trans (hw2.mono hws)); have f5 : Hid (∀ ad : Addr, A2 = some ad → 0 < m2 → u10.ownBlock ≠ some ad.block) := Lib.hid (fun ad e hp q => by have h1 := hlv.out _ q; have h2 := hf2 ad e hp; omega); have f6 : Hid (∀ ad : Addr, A2 = some ad → 0 < m2 → u11.ownBlock ≠ some ad.block) := Lib.hid (fun ad e hp q => by have h1 := hlu.out _ q; have h2 := hf2 ad e hp; omega); have hw2s := HW2.out.size; clear hb2 hw2 hf2)
        | (at_builtin; refine wpList_append_lies _ rfl _ _ 54 rfl w1.heap.size 55 i0 _ 1 24 Tryz.underlying54 hi0 hz0 hz1 hz2 rfl (by omega) u10 j xs rfl (HOv2.out.alloc _) ⟨w2.heap.size, 0, none⟩ 1 1 [.slice A2 m2 c2] rfl rfl (World.news_of_block (cs := #[.slice A2 m2 c2]) (t := 55) (fr := (0, 0)) (heap_alloc_new w2 _)) (by simp [Value.oneCell']) (by omega) hmax (by omega) (by simp; omega) (w2.heap.size + 1) (by simp) ?_; intro g3 cap3 w3 hown3 hgr3 hat3 hlt3; have HOv3 := Lib.hid hown3; have HOu3 := Lib.hid ((HOu2.out.alloc _).kept hgr3 (own_ne HOu2.out HOv2.out (by decide))); have HCv3 := Lib.hid (HCv2.out.grow (m := j + 1) (cap := cap3) hc2' H2.out f5.out hgr3 hat3); have HCu3 := Lib.hid ((HCu2.out.keep HCv2.out hgr3).snoc hc2' ((H2.out.below ((Below.refl _ _).alloc (Nat.le_refl _) _)).grown f5.out hgr3) f6.out); rw [HX1.out] at HCv3 HCu3; have HW3 := Lib.hid ((HW2.out.alloc hw2s _).grown hgr3 (by simp; omega) (fun i e => (HOv2.out.lt i e).1)); have hbody := HCell.out _ HW3.out; have hw3s := HW3.out.size; clear hown3 hgr3 hat3)
        | (at_builtin; refine wpList_append_lies _ rfl _ _ 38 rfl w1.heap.size 9 j0 _ 1 16 Tryz.underlying38 hj0 hy0 hy1 hy2 rfl (by omega) u11 j CS rfl (HOu3.out.alloc _) ⟨w3.heap.size, 0, none⟩ 1 1 [.string xs'] rfl rfl (World.news_of_block (cs := #[.string xs']) (t := 9) (fr := (0, 0)) (heap_alloc_new w3 _)) (by simp [Value.oneCell']) (by omega) hmax (by omega) (by simp; omega) (w3.heap.size + 1) (by simp) ?_; intro g4 cap4 w4 hown4 hgr4 hat4 hlt4))
      have HOv4 := Lib.hid ((HOv3.out.alloc _).kept hgr4 (own_ne HOv3.out HOu3.out (by decide)))
      have HCv4 := Lib.hid (HCv3.out.keep HCu3.out hgr4)
      have HCu4 := Lib.hid (HCu3.out.turn (m := j + 1) (cap := cap4) hgr4 hat4)
      have HW4 := Lib.hid ((HW3.out.alloc hw3s _).grown hgr4 (by simp; omega) (fun i e => (HOu3.out.lt i e).1))
      rw [HX2.out] at hown4
      have HOu4 := Lib.hid hown4
      clear hown4 hgr4 hat4
      go_roundw
      case rel => exact ⟨j + 1, by omega, by go_num, _, HOv4.out, by rw [EC.out]; exact HOu4.out, by rw [ET.out]; exact HCv4.out, by rw [ET.out]; exact HCu4.out, HW4.out⟩
      case measure => simp [intOf]; omega
    · obtain rfl : j = k := by omega
      obtain ⟨A3, c3, rfl, hr3⟩ := rows_of HOv.out HCv.out
      obtain ⟨A4, c4, rfl, hcap4, hs4⟩ := ss_of HOu.out
      rw [rowsC_cut HLe.out] at hr3
      rw [bodL_cut HLe.out] at hs4
      have HR3 := Lib.hid hr3
      have HS4 := Lib.hid hs4
      have HX : Hid (Good j s (tabS (bodL (a.take j)))) := Lib.hid (tabS_good hs4.len HBl.out)
      clear hr3 hs4 HOv HOu HCv HCu hcap4
      go_wp2_with fail
      refine (rinvert_any A3 j c3 (rowsC j (idxL (a.take j))) _ HR3.out).mono ?_; rintro e w4 ⟨A5, c5, q5, z5, rfl, hr5, hi5, hb5⟩
      obtain ⟨rfl, hq5⟩ := HSel.out.inv hk1 (by omega) (by omega) HIl.out hi5
      have HI5 := Lib.hid (HI.out q5 hi5)
      rw [hq5] at hr5 ⊢
      have hgd : Good j j q5 := by
        rcases hi5 with ⟨x1, x2, _⟩ | ⟨_, _, x3, _⟩ | ⟨_, _, _, x4, _⟩ | ⟨_, _, x3, _⟩
        · exact absurd x2.symm x1
        · exact absurd x3 (by decide)
        · exact absurd x4 (by decide)
        · have e : (rowsC j (idxL (a.take j))).length = j := by rw [rowsC_len, HIl.out]
          rw [e] at x3; exact x3
      have HGd := Lib.hid hgd
      have HR5 := Lib.hid hr5
      have HS5 := Lib.hid (HS4.out.below hb5)
      have HW5 := Lib.hid (HW.out.trans (hb5.mono HW.out.size))
      clear hr5 hb5 hi5 hq5 hgd HR3 HS4 HW
      have hws5 := HW5.out.size
      go_wp2_with fail
      go_loopw [17, 18] (fun v i wr => ∃ p : Nat, p ≤ j ∧ i = .int .i64 p ∧ wr.ownsRow w4.heap.size 9 1 v p (scells (mkS p fun i => tx (mixR j s (rw_ q5 i) (tabS (bodL (a.take j)))))) ∧ Below w4.heap.size w4 wr) (fun _ i _ => j - (intOf i).toNat)
      case atStart => exact ⟨0, by omega, rfl, World.ownsRow_nil _ _ _ _, Below.refl _ _⟩
      case round =>
        obtain ⟨p, hp, rfl, hov, hbel⟩ := hrel
        rename World => w6
        have HOv := Lib.hid hov
        have HW6 := Lib.hid hbel
        clear hov hbel
        by_cases hlp : p < j
        · obtain ⟨ad, Bq, cq, rfl, had, hac, hbq⟩ := (HR5.out.below HW6.out).at_ hlp
          rw [HGd.out.row p hlp] at hac hbq
          have hlp' : (p : Int) < (j : Int) := by omega
          have hp0 : (0 : Int) ≤ (p : Int) := Int.natCast_nonneg _
          have HM := Lib.hid (rmix_any Bq A4 j cq c4 s (rw_ q5 p) (bodL (a.take j)) w6 hbq (HS5.out.below HW6.out) HBl.out hk1 (by omega) hs1 hs2)
          have HX2 : Hid (scells (mkS p fun i => tx (mixR j s (rw_ q5 i) (tabS (bodL (a.take j))))) ++ [.string (tx (mixR j s (rw_ q5 p) (tabS (bodL (a.take j)))))] = scells (mkS (p + 1) fun i => tx (mixR j s (rw_ q5 i) (tabS (bodL (a.take j)))))) := Lib.hid (by rw [scells_snoc]; exact congrArg scells (mkS_succ p fun i => tx (mixR j s (rw_ q5 i) (tabS (bodL (a.take j))))))
          clear hbq
          generalize tx (mixR j s (rw_ q5 p) (tabS (bodL (a.take j)))) = x at *
          have hmax : p + 1 ≤ maxLen := by unfold maxLen; omega
          have hws := HW6.out.size
          go_wp2_with (first
            | (go_at_call 20; refine HM.out.mono ?_; rintro e w7 ⟨rfl, hw7⟩; have HOv7 := Lib.hid (ss_keep HOv.out hw7); have HW7 := Lib.hid (HW6.out.trans (hw7.mono hws)); have hw7s := HW7.out.size; clear hw7)
            | (at_builtin; refine wpList_append_lies _ rfl _ _ 38 rfl w4.heap.size 9 j0 _ 1 16 Tryz.underlying38 hj0 hy0 hy1 hy2 rfl (by omega) _ p _ rfl (HOv7.out.alloc _) ⟨w7.heap.size, 0, none⟩ 1 1 [.string x] rfl rfl (World.news_of_block (cs := #[.string x]) (t := 9) (fr := (0, 0)) (heap_alloc_new w7 _)) (by simp [Value.oneCell']) (by omega) hmax (by omega) (by simp; omega) (w7.heap.size + 1) (by simp) ?_; intro g8 cap8 w8 hown8 hgr8 hat8 hlt8))
          rw [HX2.out] at hown8
          go_roundw
          case rel => exact ⟨p + 1, by omega, by go_num, hown8, (HW7.out.alloc hw7s _).grown hgr8 (by simp; omega) (fun i e => (HOv7.out.lt i e).1)⟩
          case measure => simp [intOf]; omega
        · obtain rfl : p = j := by omega
          obtain ⟨A8, c8, rfl, hcap8, hs8⟩ := ss_of HOv.out
          have HS8 : Hid (Ss w6 A8 p (txS (mulL p p s q5 (tabS (bodL (a.take p)))))) := Lib.hid (by rw [mulL_mix, txS_mk]; exact hs8)
          have HWF : Hid (Below w.heap.size w w6) := Lib.hid (HW1.out.trans ((HW5.out.mono hgs).trans (HW6.out.mono (Nat.le_trans hgs hws5))))
          clear hs8 hcap8
          go_wp2_with fail
          go_ret2
          exact ⟨_, _, _, _, by rw [HD.out]; rfl, HI5.out, HS8.out, HWF.out⟩
end Go.Proofs.YtooegclblgeicaaGreatDoor

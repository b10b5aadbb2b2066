/- Proved: the walk of the law on ranks, for every two tables. Conditions: those that the theorems name. -/
import Derived.Test.YtneaddgpbffkpaaMatLawInv
namespace Go.Proofs.Ytneaddgpbffkpaa
open Go.ChangeShapes Go.WideShapes Go.ChangeAt Go.RowKit

theorem turn_good {n m : Nat} {t : List (List Nat)} (h : Good n m t) : Good m n (mkR m (colL n t)) :=
  ⟨mkR_len _ _, fun r hr => by rw [mkR_at _ _ _ hr]; exact mk_len _ _, fun r hr j => by
    rw [mkR_at _ _ _ hr]
    unfold colL
    rcases Nat.lt_or_ge j n with hj | hj
    · rw [mk_at _ _ _ hj]; exact h.lt j hj r
    · rw [getD_past _ _ (by rw [mk_len]; exact hj)]; decide⟩
theorem col_lt {n m : Nat} {t : List (List Nat)} (h : Good m n (mkR m (colL n t))) (q : Nat) (hq : q < m) : ∀ j, (mk n fun r => (rw_ t r).getD q 0).getD j 0 < 256 := fun j => by
  have := h.lt q hq j
  rwa [mkR_at _ _ _ hq] at this
theorem turn_tab {n m : Nat} (t : List (List Nat)) : EqT m n (tabT (mkR m (colL n t))) (fun j i => tabT t i j) := fun j hj i hi => by
  show F.of ((rw_ (mkR m (colL n t)) j).getD i 0) = _
  rw [mkR_at _ _ _ hj]
  unfold colL
  rw [mk_at _ _ _ hi]
  rfl
theorem RankIs.good {n m r : Nat} {t : List (List Nat)} (h : RankIs t r) (g : Good n m t) (h1 : 1 ≤ n) (h2 : n ≤ 255) (h3 : 1 ≤ m) (h4 : m ≤ 255) : RankT n m (tabT t) r := by
  have := h.2 (g.chk h1 h2 h3 h4)
  rwa [g.len, g.row 0 h1] at this

set_option maxRecDepth 100000 in
set_option maxHeartbeats 6400000 in
theorem ranks_few (A B : Option Addr) (n k c d : Nat) (a b : List (List Nat)) (w : World) (ha : Rows w A n a) (hb : Rows w B k b) (h1 : Few a 10) (h2 : Few b 10) :
    Calls Try.prog 6 #[.slice A n c, .slice B k d] w fun e w' => e = .returned (.bool true) ∧ Below w.heap.size w w' := by
  obtain ⟨i0, hi0, hz0, hz1, hz2⟩ := info_parts Try.infoRow
  obtain ⟨j0, hj0, hy0, hy1, hy2⟩ := info_parts Try.infoByte
  have HA := Lib.hid ha
  have HB := Lib.hid hb
  have F1 := Lib.hid h1
  have F2 := Lib.hid h2
  clear ha hb h1 h2
  go_enter Try.func6, Try.ntmps6
  go_wp2_with fail
  refine (few_yes A n c 10 a _ HA.out (by decide) F1.out).mono ?_; rintro e w' ⟨rfl, rfl⟩
  go_wp2_with fail
  refine (few_yes B k d 10 b _ HB.out (by decide) F2.out).mono ?_; rintro e w' ⟨rfl, rfl⟩
  go_wp2_with fail
  refine (rank_any A n c a _ HA.out).mono ?_; rintro e w1 ⟨r, rfl, hr, g1⟩
  have R1 := Lib.hid hr
  have G1 := Lib.hid g1
  clear hr g1
  by_cases hc : chk a = 0
  · rw [hc]
    obtain ⟨m, r1, r2, r3, r4, ga⟩ := dims_good HA.out hc
    have HG := Lib.hid ga
    have HC := Lib.hid hc
    clear ga hc
    have hn : 0 < n := r1
    go_wp2_with fail
    go_loopw [7, 8] (fun v i wr => ∃ q : Nat, q ≤ m ∧ i = .int .i64 q ∧ ∃ xs, wr.ownsRow w.heap.size 42 1 v q xs ∧ Cut wr v xs (mkR q (colL n a)) ∧ Below w.heap.size w wr) (fun _ i _ => m - (intOf i).toNat)
    case atStart => exact ⟨0, by omega, rfl, _, World.ownsRow_nil _ _ _ _, Cut.nil _ _, G1.out⟩
    case round =>
      obtain ⟨q, hq, rfl, xs, hown, hcut, hbel⟩ := hrel
      rename World => w0
      have HO := Lib.hid hown
      have HCt := Lib.hid hcut
      have HW := Lib.hid hbel
      clear hown hcut hbel
      obtain ⟨ad, B0, c0, rfl, had, hc0, _⟩ := (HA.out.below HW.out).at_ (k := 0) r1
      rw [Addr.add_zero' ad, HG.out.row 0 r1] at hc0
      by_cases hlt : q < m
      · have hmax : q + 1 ≤ maxLen := by unfold maxLen; omega
        have hws := HW.out.size
        go_wp2_with fail
        go_loopw [9, 10] (fun v i w3 => ∃ p : Nat, p ≤ n ∧ i = .int .i64 p ∧ w3.ownsRow w0.heap.size 5 1 v p (cells (mk p fun r => (rw_ a r).getD q 0)) ∧ Below w0.heap.size w0 w3) (fun _ i _ => n - (intOf i).toNat)
        case atStart => exact ⟨0, by omega, rfl, World.ownsRow_nil _ _ _ _, Below.refl _ _⟩
        case round =>
          obtain ⟨p, hp, rfl, hown, hbel⟩ := hrel
          rename World => w3
          have HO3 := Lib.hid hown
          have HW3 := Lib.hid hbel
          have HWW : Hid (Below w.heap.size w w3) := Lib.hid (HW.out.trans (HW3.out.mono HW.out.size))
          clear hown hbel
          by_cases hpn : p < n
          · obtain ⟨ad', A1, e1, h', hadlt, hac, has⟩ := (HA.out.below HWW.out).at_ hpn
            cases h'
            rw [HG.out.row p hpn] at hac has
            obtain ⟨bd, rfl, _, hbc⟩ := has.at_ hlt
            clear has
            have hmax3 : p + 1 ≤ maxLen := by unfold maxLen; omega
            have hws3 := HW3.out.size
            obtain ⟨x, ex⟩ : ∃ x, x = (rw_ a p).getD q 0 := ⟨_, rfl⟩
            rw [← ex] at hbc
            have HX : Hid (cells (mk p fun r => (rw_ a r).getD q 0) ++ [.int .u8 (x : Nat)] = cells (mk (p + 1) fun r => (rw_ a r).getD q 0)) := Lib.hid (by rw [ex]; exact cells_mk_succ p fun r => (rw_ a r).getD q 0)
            clear ex
            go_wp2_with (at_builtin; refine wpList_append_lies _ rfl _ _ _ rfl w0.heap.size 5 j0 _ 1 1 Try.underlying42 hj0 hy0 hy1 hy2 rfl (by omega) _ p _ rfl (HO3.out.alloc _) ⟨w3.heap.size, 0, none⟩ 1 1 [.int .u8 (x : Nat)] rfl rfl (World.news_of_block (cs := #[.int .u8 (x : Nat)]) (t := 5) (fr := (0, 0)) (heap_alloc_new w3 _)) (by simp [Value.oneCell']) (by omega) hmax3 (by omega) (by simp; omega) (w3.heap.size + 1) (by simp) ?_; intro gg cap4 w4 hown4 hgrow hat hlt4)
            go_roundw
            case rel =>
              refine ⟨p + 1, by omega, by go_num, ?_, (HW3.out.alloc hws3 _).grown hgrow (by simp; omega) (fun j e => (HO3.out.lt j e).1)⟩
              have h := hown4
              rw [HX.out] at h
              exact h
            case measure => simp [intOf]; omega
          · obtain rfl : p = n := by omega
            obtain ⟨g3, cap3, rfl, hg3, hcap3, _, ho3⟩ := own_of HO3.out (col_lt (turn_good HG.out) q hlt) (by omega)
            have f1 := Lib.hid ho3.bs
            have f2 := Lib.hid (ownsRow_below HO.out HW3.out)
            have f3 := Lib.hid (HCt.out.below HW3.out)
            have f5 : Hid (∀ ad : Addr, (some ⟨g3, 0, none⟩ : Option Addr) = some ad → 0 < p → u7.ownBlock ≠ some ad.block) := Lib.hid fun ad e _ q => by
              injection e with e
              subst e
              have h1 : g3 < w0.heap.size := (HO.out.lt _ q).2
              omega
            clear ho3 HO HCt HO3 hg3
            have hws3 := HWW.out.size
            go_wp2_with (at_builtin; refine wpList_append_lies _ rfl _ _ _ rfl w.heap.size 42 i0 _ 1 24 Try.underlying22 hi0 hz0 hz1 hz2 rfl (by omega) _ q _ rfl (f2.out.alloc _) ⟨w3.heap.size, 0, none⟩ 1 1 [.slice (some ⟨g3, 0, none⟩) p cap3] rfl rfl (World.news_of_block (cs := #[.slice (some ⟨g3, 0, none⟩) p cap3]) (t := 42) (fr := (0, 0)) (heap_alloc_new w3 _)) (by simp [Value.oneCell']) (by omega) hmax (by omega) (by simp; omega) (w3.heap.size + 1) (by simp) ?_; intro gg cap2 w6 hown1 hgrow hat hlt1)
            go_roundw
            case rel =>
              refine ⟨q + 1, by omega, by go_num, _, hown1, ?_, (HWW.out.alloc hws3 _).grown hgrow (by simp; omega) (fun j e => (f2.out.lt j e).1)⟩
              rw [← mkR_succ]
              exact f3.out.grow hcap3 f1.out f5.out hgrow hat
            case measure => simp [intOf]; omega
      · obtain rfl : q = m := by omega
        obtain ⟨A7, c7, rfl, ht7⟩ := rows_of HO.out HCt.out
        have HT7 := Lib.hid ht7
        have HGt := Lib.hid (turn_good HG.out)
        clear ht7
        go_wp2_with fail
        clear hc0
        refine (rank_any A7 q c7 (mkR q (colL n a)) _ HT7.out).mono ?_; rintro e w2 ⟨r', rfl, hr', g2⟩
        have hrT := R1.out.good HG.out r1 r2 r3 r4
        have hrr : r' = r := (hr'.good HGt.out r3 r4 r1 r2).only (hrT.turn.congr (turn_tab a).symm)
        subst hrr
        have hle1 : r' ≤ n := hrT.le_rows
        have hle2 : r' ≤ q := hrT.le_places
        have HRT := Lib.hid hrT
        have G2 := Lib.hid (HW.out.trans (g2.mono HW.out.size))
        rw [HGt.out.chk r3 r4 r1 r2]
        clear hr' g2 hrT HT7 HO HCt HW
        obtain ⟨ad', B0, c0, h', hadl, hc0, _⟩ := (HA.out.below G2.out).at_ (k := 0) r1
        cases h'
        rw [Addr.add_zero' ad, HG.out.row 0 r1] at hc0
        have k1 : ¬ (r' : Int) < 0 := by omega
        have k2 : ¬ (r' : Int) > (n : Int) := by omega
        have k3 : ¬ (r' : Int) > (q : Int) := by omega
        go_wp2_with fail
        refine (tmul_any _ B n k c d a b _ (HA.out.below G2.out) (HB.out.below G2.out)).mono ?_; rintro e w3 ⟨A3, c3, rfl, h3, g3⟩
        have H3 := Lib.hid h3; have G3 := Lib.hid (G2.out.trans (g3.mono G2.out.size)); clear h3 g3 hc0
        by_cases hE : mulE a b = 0
        · obtain ⟨m, s1, s2, s3, s4, s5, s6, ga, gb, hV⟩ := mulV_good HA.out HB.out hE
          have hkq : k = q := by rw [← HG.out.row 0 r1, ga.row 0 r1]
          subst hkq
          have gV : Good n m (mulV a b) := by rw [hV]; exact mulL_good ga
          have hTV : EqT n m (tabT (mulV a b)) (mulT k (tabT a) (tabT b)) := by rw [hV]; exact tab_mulL ga gb
          have HGV := Lib.hid gV
          have HTV := Lib.hid hTV
          have HGb := Lib.hid gb
          rw [hE]
          clear hE ga gb hV gV hTV
          generalize mulV a b = V at *
          go_wp2_with fail
          refine (rank_any B k d b _ (HB.out.below G3.out)).mono ?_; rintro e w4 ⟨rb, rfl, hrb, g4⟩
          have HRb := Lib.hid (hrb.good HGb.out s3 s4 s5 s6)
          have S4 := Lib.hid g4; have G4 := Lib.hid (G3.out.trans (g4.mono G3.out.size)); clear hrb g4
          generalize chk b = zb at *
          go_wp2_with fail
          refine (rank_any A3 V.length c3 V _ (H3.out.below S4.out)).mono ?_; rintro e w5 ⟨rv, rfl, hrv, g5⟩
          have hrvT := (hrv.good HGV.out s1 s2 s5 s6).congr HTV.out
          have hl1 : rv ≤ r' := HRT.out.mul_left hrvT
          have hl2 : rv ≤ rb := HRb.out.mul_right hrvT
          have G5 := Lib.hid (G4.out.trans (g5.mono G4.out.size))
          rw [HGV.out.chk s1 s2 s5 s6]
          clear hrv g5 hrvT
          have k4 : (rv : Int) ≤ (r' : Int) := by omega
          have k5 : (rv : Int) ≤ (rb : Int) := by omega
          go_wp2_with fail
          refine (awake_any _).mono ?_; rintro e w10 ⟨rfl, g10⟩
          have G10 := Lib.hid (G5.out.trans (g10.mono G5.out.size)); clear g10
          go_wp2_with fail
          go_ret
          exact ⟨rfl, G10.out⟩
        · have hV : mulV a b = [] := by unfold mulV; rw [if_neg hE]
          have hVl : (mulV a b).length = 0 := by rw [hV]; rfl
          rw [hVl]
          clear hV hVl H3
          generalize mulE a b = E at *
          have hk1 : ((E : Int) != 0) = true := by simp; omega
          have hk2 : ¬ (E : Int) = 0 := by omega
          clear hE
          go_wp2_with fail
          refine (awake_any _).mono ?_; rintro e w10 ⟨rfl, g10⟩
          have G10 := Lib.hid (G3.out.trans (g10.mono G3.out.size)); clear g10
          go_wp2_with fail
          go_ret
          exact ⟨rfl, G10.out⟩
  · have hr0 : r = 0 := R1.out.1 hc
    subst hr0
    generalize chk a = z at *
    have hk1 : ((z : Int) != 0) = true := by simp; omega
    have hk2 : ¬ (z : Int) = 0 := by omega
    clear hc
    go_wp2_with fail
    refine (awake_any _).mono ?_; rintro e w10 ⟨rfl, g10⟩
    have G10 := Lib.hid (G1.out.trans (g10.mono G1.out.size)); clear g10
    go_wp2_with fail
    go_ret
    exact ⟨rfl, G10.out⟩

set_option maxRecDepth 100000 in
set_option maxHeartbeats 800000 in
theorem ranks_walk (A B : Option Addr) (n k c d : Nat) (a b : List (List Nat)) (w : World) (ha : Rows w A n a) (hb : Rows w B k b) :
    Calls Try.prog 6 #[.slice A n c, .slice B k d] w fun e w' => e = .returned (.bool true) ∧ Below w.heap.size w w' := by
  by_cases h1 : Few a 10
  · by_cases h2 : Few b 10
    · exact ranks_few A B n k c d a b w ha hb h1 h2
    · have HA := Lib.hid ha
      have HB := Lib.hid hb
      have F1 := Lib.hid h1
      have F2 := Lib.hid h2
      clear ha hb h1 h2
      go_enter Try.func6, Try.ntmps6
      go_wp2_with fail
      refine (few_yes A n c 10 a _ HA.out (by decide) F1.out).mono ?_; rintro e w' ⟨rfl, rfl⟩
      go_wp2_with fail
      refine (few_no B k d 10 b _ HB.out (by decide) F2.out).mono ?_; rintro e w' ⟨rfl, rfl⟩
      go_wp2_with fail
      refine (awake_any _).mono ?_; rintro e w10 ⟨rfl, g10⟩
      have G10 := Lib.hid g10; clear g10
      go_wp2_with fail
      go_ret
      exact ⟨rfl, G10.out⟩
  · have HA := Lib.hid ha
    have F1 := Lib.hid h1
    clear ha hb h1
    go_enter Try.func6, Try.ntmps6
    go_wp2_with fail
    refine (few_no A n c 10 a _ HA.out (by decide) F1.out).mono ?_; rintro e w' ⟨rfl, rfl⟩
    go_wp2_with fail
    refine (awake_any _).mono ?_; rintro e w10 ⟨rfl, g10⟩
    have G10 := Lib.hid g10; clear g10
    go_wp2_with fail
    go_ret
    exact ⟨rfl, G10.out⟩
end Go.Proofs.Ytneaddgpbffkpaa

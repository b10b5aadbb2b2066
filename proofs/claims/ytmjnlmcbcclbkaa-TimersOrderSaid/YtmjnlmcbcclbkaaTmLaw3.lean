/- Proved: the walk of the law on the order of what is due. Conditions: those that the theorems name. -/
import Derived.Test.YtmjnlmcbcclbkaaTmLaw2
namespace Go.Proofs.Ytmjnlmcbcclbkaa
open Go.ChangeShapes Go.WideShapes Go.ChangeAt Go.RowKit

theorem due_gone {l : List Tm} (h : Good l) (z : Int) {j : Nat} (hj : j < (dueT l z).length) : wasT (stayT l z) (tm_ (dueT l z) j).1 = false := by
  rw [wasT_neg]
  intro x hx e
  have h1 := tm_mem hj
  have h2 := h.one ((List.dropWhile_sublist _).subset hx) ((List.takeWhile_sublist _).subset h1) e
  have h3 := due_le h1
  have h4 := stay_gt h hx
  rw [h2] at h4
  omega
/-- What TimersOrder's first loop holds. -/
def OrdAt (w : World) (b k : Nat) (wr : World) : Prop := ∃ l, TB w wr b l ∧ l.length ≤ k
set_option maxRecDepth 100000 in
set_option maxHeartbeats 3200000 in
theorem tm_order_main (A : Option Addr) (m c : Nat) (ds : List Dt) (z : Int) (w : World) (hm : (m : Int) ≤ 60) (hd : Dts w A m ds) :
    Calls Try.prog 5 #[.slice A m c, .int .i64 z] w fun e w' => e = .returned (.bool true) ∧ Below w.heap.size w w' := by
  have HN := Lib.hid (tb_new w w (Below.refl _ _))
  have HL := Lib.hid hd
  clear hd
  go_enter Try.func5, Try.ntmps5
  go_wp2_with fail
  refine HN.out.mono ?_; rintro e w1 ⟨rfl, r1⟩
  have R0 : Hid (OrdAt w (w.heap.size + 1) 0 w1) := Lib.hid ⟨[], r1, Nat.le_refl _⟩
  clear r1 HN
  generalize w.heap.size + 1 = b at *
  go_wp2_with fail
  go_loopw [6] (fun i wr => ∃ k : Nat, k ≤ m ∧ i = .int .i64 k ∧ OrdAt w b k wr) (fun i _ => m - (intOf i).toNat)
  case atStart => exact ⟨0, by omega, rfl, R0.out⟩
  case round =>
    obtain ⟨k, hk, rfl, l, hrb, hnk⟩ := hrel
    have HR := Lib.hid hrb
    clear R0 hrb
    have hk0 : (0 : Int) ≤ (k : Int) := Int.natCast_nonneg _
    by_cases hlt : k < m
    · obtain ⟨ad, rfl, hky, c0, c1, c2, c3⟩ := HL.out.at_ HR.out.bel (Nat.le_refl _) hlt
      have hlt' : (k : Int) < (m : Int) := by omega
      have HLn : Hid ((setT l (dt_ ds k).key (dt_ ds k).z).length ≤ k + 1) := Lib.hid (by have := set_len l (dt_ ds k).key (dt_ ds k).z; omega)
      have HS := Lib.hid (fun W (g : TB w W b l) => tb_set g (by omega) hky (dt_ ds k).z)
      generalize dt_ ds k = d at *
      obtain ⟨kd, ⟨k0, k1⟩, t⟩ := d
      dsimp only at c0 c1 c2 c3 HLn
      generalize setT l (k0, k1) t = l' at *
      generalize setTE t = e9 at *
      clear hky c0
      go_wp2_with fail
      refine wp_region_still_tail 11 (by kernel_rfl) (by kernel_rfl) ?_
      simp only [List.take_succ_cons, List.take_zero, List.drop_succ_cons, List.drop_zero]
      repeat still_step
      refine wpStill_nil ?_
      change wpList _ _ _ _ _ wr.drew
      have HR2 := Lib.hid (HR.out.below (below_grown (grown_drew wr none) (Nat.le_refl wr.heap.size) (by simp)))
      clear HR c1 c2 c3
      generalize wr.drew = w2 at *
      go_wp2_with fail
      refine (HS.out _ HR2.out).mono ?_; rintro e w3 ⟨rfl, r3, _⟩
      have HR3 := Lib.hid r3
      clear r3 HR2 HS
      go_wp2_with fail
      go_roundw
      case rel => exact ⟨k + 1, by omega, by go_num, _, HR3.out, HLn.out⟩
      case measure => simp [intOf]; omega
    · obtain rfl : k = m := by omega
      have hl60 : l.length ≤ 60 := by omega
      go_wp2_with fail
      refine (tb_len HR.out).mono ?_; rintro e w2 ⟨rfl, r2, _⟩
      have HR2 := Lib.hid r2
      clear r2 HR
      go_wp2_with fail
      have HG := Lib.hid HR2.out.good
      refine (tb_due HR2.out (by omega) z).mono ?_; rintro e w3 ⟨X, cx, rfl, t3, r3, _⟩
      have HT3 := Lib.hid t3
      have HR3 := Lib.hid r3
      clear t3 r3 HR2
      have HGD := Lib.hid (HG.out.due z)
      have HOut := Lib.hid (fun j => due_gone HG.out z (j := j))
      have HLe : Hid (∀ x ∈ dueT l z, x.2 ≤ z) := Lib.hid fun x hx => due_le hx
      have HGt : Hid (∀ x ∈ stayT l z, z < x.2) := Lib.hid fun x hx => stay_gt HG.out hx
      have HSz : Hid ((l.length : Int) = ((dueT l z).length : Int) + ((stayT l z).length : Int)) := Lib.hid (by
        have := congrArg List.length (due_stay l z)
        rw [List.length_append] at this
        omega)
      have hdl : (dueT l z).length ≤ 60 := Nat.le_trans (List.takeWhile_sublist _).length_le hl60
      have hsl : (stayT l z).length ≤ 60 := Nat.le_trans (List.dropWhile_sublist _).length_le hl60
      generalize dueT l z = du at *
      generalize stayT l z = st at *
      obtain ⟨n, hn⟩ : ∃ n, du.length = n := ⟨_, rfl⟩
      rw [hn] at HT3 HSz HOut hdl ⊢
      have HNN := Lib.hid hn
      clear hn
      go_wp2_with fail
      go_loopw [9] (fun i wr => ∃ j : Nat, j ≤ n ∧ i = .int .i64 j ∧ TB w wr b st ∧ Ts wr X n du) (fun i _ => n - (intOf i).toNat)
      case atStart => exact ⟨0, by omega, rfl, HR3.out, HT3.out⟩
      case round =>
        obtain ⟨j, hj, rfl, hrb, htx⟩ := hrel
        have HR := Lib.hid hrb
        have HT := Lib.hid htx
        clear hrb htx HR3 HT3
        have hj0 : (0 : Int) ≤ (j : Int) := Int.natCast_nonneg _
        by_cases hjn : j < n
        · obtain ⟨ad, rfl, _, c0, c1, c2⟩ := HT.out.at_ hjn
          have hjn' : (j : Int) < (n : Int) := by omega
          have HTA := Lib.hid (fun W (g : Ts W (some ad) n du) (q : Nat) (hq : q < n) => g.at_ hq)
          have hxm := tm_mem (l := du) (j := j) (by rw [HNN.out]; exact hjn)
          have HKX := Lib.hid ((HGD.out.ok _ hxm).1)
          have hxz := HLe.out _ hxm
          have HW := HOut.out j hjn
          have HAt := Lib.hid (tb_at HR.out HKX.out)
          rw [HW] at HAt
          have HPr : Hid (∀ p, j = p + 1 → ¬ (tm_ du j).2 < (tm_ du p).2 ∧ (tm_ du j).1 ≠ (tm_ du p).1) := Lib.hid fun p e => by
            have h1 := tm_less HGD.out (i := p) (j := j) (by omega) (by rw [HNN.out]; exact hjn)
            refine ⟨by rw [lessT_iff] at h1; omega, fun q => ?_⟩
            have hpm := tm_mem (l := du) (j := p) (by rw [HNN.out]; omega)
            have h2 := HGD.out.one hxm hpm q
            rw [h2, lessT_irr] at h1
            cases h1
          have HXJ : Hid (∀ W, Ts W (some ad) n du → W.cell? (ad.add (j * 3)) = some (.int .i64 (tm_ du j).1.1) ∧ W.cell? ⟨(ad.add (j * 3)).block, (ad.add (j * 3)).off + 1, none⟩ = some (.int .u32 (tm_ du j).1.2) ∧ W.cell? ⟨(ad.add (j * 3)).block, (ad.add (j * 3)).off + 2, none⟩ = some (.int .i64 (tm_ du j).2)) := Lib.hid fun W g => by
            obtain ⟨ad', e', _, q⟩ := g.at_ hjn
            injection e' with e'
            subst e'
            exact q
          generalize tm_ du j = x at *
          generalize atT st x.1 = z1 at *
          obtain ⟨⟨x0, x1⟩, x2⟩ := x
          dsimp only at c0 c1 c2 hxz HPr HXJ
          change Hid (Calls _ _ #[.pointer (some ⟨b, 0, none⟩), .agg #[.int .i64 x0, .int .u32 x1]] wr _) at HAt
          clear hxm HW HKX
          go_wp2_with fail
          refine HAt.out.mono ?_; rintro e w5 ⟨rfl, r5, k5⟩
          have HR5 := Lib.hid r5
          have HT5 := Lib.hid (k5 _ _ _ HT.out)
          obtain ⟨d0, d1, d2⟩ := HXJ.out _ HT5.out
          clear r5 k5 HR HT c0 c1 c2 HAt
          have hxz' : ¬ z < x2 := by omega
          have hxd : decide (z < x2) = false := decide_eq_false hxz'
          rcases Nat.eq_zero_or_pos j with h0 | h0
          · subst h0
            rw [Nat.zero_mul, Addr.add_zero' ad] at d0 d1 d2
            have hn0 : (0 : Int) < (n : Int) := by omega
            have hn1 : 0 < n := by omega
            go_wp2_with fail
            go_quiet (fail)
            go_wp2_with fail
            go_roundw
            case rel => exact ⟨0 + 1, by omega, by go_num, HR5.out.below (below_grown (grown_drewN w5 nq none) (Nat.le_refl _) (by simp)), HT5.out.below (below_grown (grown_drewN w5 nq none) (Nat.le_refl _) (by simp))⟩
            case measure => simp [intOf]; omega
          · obtain ⟨p, hp⟩ : ∃ p, j = p + 1 := ⟨j - 1, by omega⟩
            obtain ⟨hq1, hq2⟩ := HPr.out p hp
            obtain ⟨ad', e', _, y0, y1, y2⟩ := HTA.out _ HT5.out p (by omega)
            injection e' with e'
            subst e'
            have he := fun W => eq_ky (x0, x1) (tm_ du p).1 W
            rw [decide_eq_false hq2] at he
            have hjp : (0 : Int) < (j : Int) := by omega
            have hjm : (j : Int) - 1 = (p : Int) := by omega
            have hpn : (p : Int) < (n : Int) := by omega
            have hp0 : (0 : Int) ≤ (p : Int) := by omega
            clear hq2 HPr
            generalize tm_ du p = y at *
            obtain ⟨⟨v0, v1⟩, v2⟩ := y
            dsimp only at y0 y1 y2 hq1 he
            have hq1' : v2 ≤ x2 := by omega
            clear hp
            have hqd : decide (x2 < v2) = false := decide_eq_false (by omega)
            have hjd : decide ((0 : Int) < (j : Int)) = true := decide_eq_true hjp
            go_wp2_with fail
            go_quiet (fail)
            go_wp2_with fail
            go_roundw
            case rel => exact ⟨j + 1, by omega, by go_num, HR5.out.below (below_grown (grown_drewN w5 nq none) (Nat.le_refl _) (by simp)), HT5.out.below (below_grown (grown_drewN w5 nq none) (Nat.le_refl _) (by simp))⟩
            case measure => simp [intOf]; omega
        · obtain rfl : j = n := by omega
          have HNx := Lib.hid (tb_next HR.out (by omega))
          have HG0 : Hid (0 < st.length → z < (tm_ st 0).2) := Lib.hid fun h => HGt.out _ (tm_mem h)
          have hsz := HSz.out
          obtain ⟨sl, hsle⟩ : ∃ sl, st.length = sl := ⟨_, rfl⟩
          have HLn := Lib.hid (fun W (g : TB w W b st) => tb_len g)
          rw [hsle] at HNx HG0 hsz hsl HLn
          have hsub : (l.length : Int) - (j : Int) = (sl : Int) := by omega
          generalize (tm_ st 0).2 = f1 at *
          clear hsle hsz HSz
          go_wp2_with fail
          refine HNx.out.mono ?_; rintro e w5 ⟨rfl, r5, _⟩
          have HR5 := Lib.hid r5
          clear r5 HR HNx HT
          rcases Nat.eq_zero_or_pos sl with h0 | h0
          · subst h0
            go_wp2_with fail
            refine (HLn.out _ HR5.out).mono ?_; rintro e w6 ⟨rfl, r6, _⟩
            have HR6 := Lib.hid r6
            clear r6 HR5
            go_wp2_with fail
            refine (tm_awake_any _).mono ?_; rintro e w7 ⟨rfl, g7⟩
            have HR7 := Lib.hid (HR6.out.below g7)
            clear g7
            go_wp2_with fail
            go_ret
            exact ⟨rfl, HR7.out.bel⟩
          · have hd : decide (0 < sl) = true := decide_eq_true h0
            have hf := HG0.out h0
            go_wp2_with fail
            refine (HLn.out _ HR5.out).mono ?_; rintro e w6 ⟨rfl, r6, _⟩
            have HR6 := Lib.hid r6
            clear r6 HR5
            go_wp2_with fail
            refine (tm_awake_any _).mono ?_; rintro e w7 ⟨rfl, g7⟩
            have HR7 := Lib.hid (HR6.out.below g7)
            clear g7
            go_wp2_with fail
            go_ret
            exact ⟨rfl, HR7.out.bel⟩
set_option maxRecDepth 100000 in
set_option maxHeartbeats 1600000 in
theorem tm_order_walk (A : Option Addr) (m c : Nat) (ds : List Dt) (z : Int) (w : World) (hd : Dts w A m ds) :
    Calls Try.prog 5 #[.slice A m c, .int .i64 z] w fun e w' => e = .returned (.bool true) ∧ Below w.heap.size w w' := by
  by_cases hm : (m : Int) ≤ 60
  · exact tm_order_main A m c ds z w hm hd
  · have h' : (60 : Int) < (m : Int) := by omega
    clear hd hm
    go_enter Try.func5, Try.ntmps5
    go_wp2_with fail
    refine (tm_awake_any _).mono ?_; rintro e w2 ⟨rfl, g2⟩
    have G2 := Lib.hid g2
    clear g2
    go_wp2_with fail
    go_ret
    exact ⟨rfl, G2.out⟩
end Go.Proofs.Ytmjnlmcbcclbkaa

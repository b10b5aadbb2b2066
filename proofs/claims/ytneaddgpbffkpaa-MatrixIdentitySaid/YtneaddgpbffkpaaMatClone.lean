/- Proved: what slices.Clone leaves of a table and of a row, and what Rank of package matrix answers for every table. Conditions: those that the theorems name. -/
import Derived.Test.YtneaddgpbffkpaaMatReduce2
import Derived.Deep.RegionWith
namespace Go.Proofs.Ytneaddgpbffkpaa
open Go.ChangeShapes Go.WideShapes Go.ChangeAt Go.RowKit

theorem Rows.drew {w : World} {A : Option Addr} {n : Nat} {t : List (List Nat)} (h : Rows w A n t) : Rows w.drew A n t := h
def cellsAt (w : World) (ad : Addr) (n : Nat) : List Value := (List.range n).map fun r => (w.cell? (ad.add r)).getD (.bool false)
theorem cellsAt_len (w : World) (ad : Addr) (n : Nat) : (cellsAt w ad n).length = n := by unfold cellsAt; rw [List.length_map, List.length_range]
theorem cellsAt_at {w : World} {ad : Addr} {n j : Nat} {u : Value} (hj : j < n) (h : w.cell? (ad.add j) = some u) : (cellsAt w ad n)[j]? = some u := by
  unfold cellsAt
  rw [List.getElem?_map, List.getElem?_range hj, Option.map_some, h]; rfl
theorem Rows.source {w : World} {ad : Addr} {n : Nat} {t : List (List Nat)} (h : Rows w (some ad) n t) : ∀ j u, (cellsAt w ad n)[j]? = some u → w.cell? (ad.add j) = some u := by
  intro j u hu
  have hj : j < n := by
    have := (List.getElem?_eq_some_iff.1 hu).1
    rwa [cellsAt_len] at this
  obtain ⟨ad', B, c, e, _, hc, _⟩ := h.at_ hj
  injection e with e
  subst e
  rw [cellsAt_at hj hc] at hu
  rw [hc, hu]
theorem Rows.one {w : World} {ad : Addr} {n : Nat} {t : List (List Nat)} (h : Rows w (some ad) n t) : ∀ u ∈ cellsAt w ad n, u.oneCell' = true := by
  intro u hu
  obtain ⟨j, hj, rfl⟩ := List.getElem_of_mem hu
  rw [cellsAt_len] at hj
  obtain ⟨ad', B, c, e, _, hc, _⟩ := h.at_ hj
  injection e with e
  subst e
  have := cellsAt_at hj hc
  rw [List.getElem?_eq_getElem (by rw [cellsAt_len]; exact hj)] at this
  injection this with this
  rw [this]; rfl
theorem Rows.cut {w w' : World} {ad : Addr} {n : Nat} {t : List (List Nat)} {v : Value} (h : Rows w (some ad) n t) (hb : Below w.heap.size w w') (hv : ∀ k, v.ownBlock = some k → w.heap.size ≤ k) : Cut w' v (cellsAt w ad n) t := by
  refine ⟨by rw [cellsAt_len, h.len], fun r hr => ?_⟩
  rw [h.len] at hr
  obtain ⟨ad', B, c, e, _, hc, h0, hs⟩ := h.at_cap hr
  injection e with e
  subst e
  refine ⟨B, c, cellsAt_at hr hc, h0, hs.below hb, fun ad e hl q => ?_⟩
  obtain ⟨ad', e', hlt, _⟩ := hs.2.2 hl
  rw [e] at e'
  injection e' with e'
  subst e'
  have := hv _ q
  omega

set_option maxHeartbeats 400000 in
theorem cloneT_any (ad : Addr) (n c : Nat) (t : List (List Nat)) (w : World) (ht : Rows w (some ad) n t) (h0 : 0 < n) (hn : n ≤ 255) :
    Calls Try.prog 24 #[.slice (some ad) n c] w fun e w' => ∃ g cap, e = .returned (.slice (some ⟨g, 0, none⟩) n cap) ∧ w.heap.size ≤ g ∧ OwnT w' g n t ∧ Below w.heap.size w w' := by
  obtain ⟨i0, hi0, hz0, hz1, hz2⟩ := info_parts Try.infoRow
  have HT := Lib.hid ht
  clear ht
  have hq : ∀ w, (binOp .eql 22 (.slice (some ad) n c) (.slice none 0 0)).run Try.prog w = .ok (.bool false) w := fun w => Lib.run_eql_slice_nil w _ _ (some ad) n c 0 0 Try.underlying22
  go_enter Try.func24, Try.ntmps24
  have hal : Below w.heap.size w (w.alloc (.cells #[] 42)) := (Below.refl _ _).alloc (Nat.le_refl _) _
  have HT1 := Lib.hid (HT.out.below hal)
  have HAL := Lib.hid hal
  clear hal
  go_wp2_with (at_builtin; refine wpList_append_grows _ rfl _ _ 22 rfl 42 i0 (.slice none 0 0) 1 24 Try.underlying22 hi0 hz0 hz1 hz2 rfl (by decide) (some ⟨w.heap.size, 0, none⟩) 0 0 [] rfl (by simp) rfl (by simp) ad n c (cellsAt _ ad n) rfl (by rw [cellsAt_len, Nat.mul_one]) HT1.out.source HT1.out.one (by omega) (by unfold maxLen; omega) (by omega) ?_; intro v1 w1 hown hgr; rw [Nat.zero_add, List.nil_append] at hown; have hb1 := (Below.refl _ _).grown hgr (Nat.le_refl _) (by simp); obtain ⟨g, cap, rfl, hg, _, _, ho⟩ := ownT_of hown (HT1.out.cut hb1 (fun k e => (hown.lt k e).1)) h0; have HO := Lib.hid ho; have HB := Lib.hid (HAL.out.trans (hb1.mono HAL.out.size)); have HG := Lib.hid hg; clear hown hgr hb1 ho hg)
  go_ret
  exact ⟨g, cap, rfl, Nat.le_trans HAL.out.size HG.out, HO.out, HB.out⟩

set_option maxHeartbeats 400000 in
theorem cloneR_any (ad : Addr) (n c : Nat) (l : List Nat) (w : World) (ht : Bs w (some ad) n l) (h0 : 0 < n) (hn : n ≤ 255) :
    Calls Try.prog 27 #[.slice (some ad) n c] w (GivesC w n l) := by
  obtain ⟨i0, hi0, hz0, hz1, hz2⟩ := info_parts Try.infoByte
  have HT := Lib.hid ht
  clear ht
  have hq : ∀ w, (binOp .eql 42 (.slice (some ad) n c) (.slice none 0 0)).run Try.prog w = .ok (.bool false) w := fun w => Lib.run_eql_slice_nil w _ _ (some ad) n c 0 0 Try.underlying42
  go_enter Try.func27, Try.ntmps27
  have hal : Below w.heap.size w (w.alloc (.cells #[] 5)) := (Below.refl _ _).alloc (Nat.le_refl _) _
  have HT1 := Lib.hid (HT.out.below hal)
  have HAL := Lib.hid hal
  clear hal
  go_wp2_with (at_builtin; refine wpList_append_grows _ rfl _ _ 42 rfl 5 i0 (.int .u8 0) 1 1 Try.underlying42 hi0 hz0 hz1 hz2 rfl (by decide) (some ⟨w.heap.size, 0, none⟩) 0 0 [] rfl (by simp) rfl (by simp) ad n c (cells l) rfl (by rw [cells_len, HT1.out.len, Nat.mul_one]) HT1.out.source (cells_one l) (by omega) (by unfold maxLen; omega) (by omega) ?_; intro v1 w1 hown hgr; rw [Nat.zero_add, List.nil_append] at hown; have hb1 := (Below.refl _ _).grown hgr (Nat.le_refl _) (by simp); obtain ⟨g, cap, rfl, _, hcap, _, ho⟩ := own_of hown HT1.out.lt h0; have HO := Lib.hid ho; have HB := Lib.hid (HAL.out.trans (hb1.mono HAL.out.size)); clear hown hgr hb1 ho)
  go_ret
  exact ⟨_, _, rfl, hcap, HO.out.bs, HB.out⟩

/-- what Rank must answer: 0 beside an error; else the rank. -/
def RankIs (t : List (List Nat)) (r : Nat) : Prop := (chk t ≠ 0 → r = 0) ∧ (chk t = 0 → RankT t.length (rw_ t 0).length (tabT t) r)
theorem RankIs.only {t : List (List Nat)} {r s : Nat} (h : RankIs t r) (g : RankIs t s) : r = s := by
  by_cases e : chk t = 0
  · exact (h.2 e).only (g.2 e)
  · rw [h.1 e, g.1 e]
/-- What a Rank leaves. -/
def GivesRank (W : World) (t : List (List Nat)) (e : Ending) (w' : World) : Prop :=
  ∃ r, e = .returned (.tuple #[.int .i64 (r : Nat), .int .i64 (chk t : Nat)]) ∧ RankIs t r ∧ Below W.heap.size W w'

set_option maxHeartbeats 400000 in
theorem rank_bad (A : Option Addr) (n c : Nat) (t : List (List Nat)) (w : World) (ht : Rows w A n t) (h1 : chk t ≠ 0) :
    Calls Try.prog 11 #[.slice A n c] w (GivesRank w t) := by
  have HC := fun W h => check_any A n c t W h
  have HT := Lib.hid ht
  have HR : Hid (RankIs t 0) := Lib.hid ⟨fun _ => rfl, fun e => absurd e h1⟩
  clear ht
  generalize hk : chk t = k at *
  have HK := Lib.hid hk
  have HC' := Lib.hid HC
  clear HC hk
  have hk : ((k : Int) != 0) = true := by simp; omega
  have hk' : ¬ ((k : Int) = 0) := by omega
  go_enter Try.func11, Try.ntmps11
  go_wp2_with fail
  refine (HC'.out _ HT.out).mono ?_; rintro e w' ⟨rfl, rfl⟩
  go_wp2_with fail
  go_ret2
  exact ⟨0, by rw [HK.out]; rfl, HR.out, Below.refl _ _⟩

set_option maxRecDepth 100000 in
set_option maxHeartbeats 800000 in
theorem rank_good (A : Option Addr) (n m c : Nat) (t : List (List Nat)) (w : World) (ht : Rows w A n t) (h1 : chk t = 0) (hl : ∀ r, r < n → (rw_ t r).length = m) (hn1 : 1 ≤ n) (hn2 : n ≤ 255) (hm1 : 1 ≤ m) (hm2 : m ≤ 255) :
    Calls Try.prog 11 #[.slice A n c] w (GivesRank w t) := by
  have HC := fun W h => check_any A n c t W h
  rw [h1] at HC
  have HC' := Lib.hid HC
  have HT := Lib.hid ht
  have HL := Lib.hid hl
  have H1 := Lib.hid h1
  clear ht h1 hl HC
  obtain ⟨ad, B0, c0, rfl, had, hc0, _⟩ := HT.out.at_ (k := 0) (by omega)
  rw [HL.out 0 (by omega), Addr.add_zero' ad] at hc0
  have hpos : (0 : Int) < (n : Int) := by omega
  go_enter Try.func11, Try.ntmps11
  go_wp2_with fail
  refine (HC'.out _ HT.out).mono ?_; rintro e w' ⟨rfl, rfl⟩
  go_wp2_with fail
  have hf : Hid (∀ w1, Below w.heap.size w w1 → w1.cell? ad = some (.slice B0 m c0)) := Lib.hid fun w1 h => (h.cell had).trans hc0
  have HN : Hid (0 < n) := Lib.hid (by omega)
  have HM : Hid (m ≤ 1000) := Lib.hid (by omega)
  go_region_with (first
    | (go_at_call 24; refine (cloneT_any ad n c t _ (by first | exact HT.out | exact HT.out.drew) HN.out hn2).mono ?_; rintro e w1 ⟨g, cap, rfl, hg, ho, hb⟩; have HO := Lib.hid ho; have HB : Hid (Below w.heap.size w w1) := Lib.hid (by first | exact hb | exact (Below.refl _ _).drew.trans hb); have hcell := hf.out _ HB.out; have HG := Lib.hid hg; clear ho hb hg)
    | (go_at_call 23; refine (reduce_any _ n _ m m t _ (by first | exact HO.out | exact HO.out.drew) HL.out hn2 (Nat.le_refl m) HM.out).mono ?_; rintro e w2 ⟨t', d, rfl, hd⟩; have HD := Lib.hid hd; clear hd))
  all_goals
    have HR : Hid (RankIs t d) := Lib.hid (by
      obtain ⟨cc, h1, h2, h3, h4, h5⟩ := HD.out
      refine ⟨fun e => absurd H1.out e, fun _ => ?_⟩
      rw [HT.out.len, HL.out 0 HN.out]
      exact h3.rank h4)
    have HW : Hid (Below w.heap.size w w2) := Lib.hid (by
      obtain ⟨cc, h1, h2, h3, h4, h5⟩ := HD.out
      exact HB.out.trans ((by first | exact h5 | exact (Below.refl _ _).drew.trans h5 : Below _ w1 w2).mono HG.out))
    clear HD
    go_wp2_with fail
    go_ret2
    exact ⟨d, by rw [H1.out]; rfl, HR.out, HW.out⟩

theorem rank_any (A : Option Addr) (n c : Nat) (t : List (List Nat)) (w : World) (ht : Rows w A n t) :
    Calls Try.prog 11 #[.slice A n c] w (GivesRank w t) := by
  by_cases h : chk t = 0
  · obtain ⟨n1, m1, l1, r1, r2, r3, r4, r5, r6⟩ := chk_dims h
    have hn : n1 = n := l1.symm.trans ht.len
    subst hn
    exact rank_good A n1 m1 c t w ht h r6 r1 r2 r3 r4
  · exact rank_bad A n c t w ht h
end Go.Proofs.Ytneaddgpbffkpaa

/- Proved: what slices.Clone leaves of a table and of a row, and what Rank of package matrix answers for every table. Conditions: those that the theorems name. -/
import Derived.Test.YtfndnlfinoeamaaMatReduce2
import Derived.Deep.RegionWith
namespace Go.Proofs.Ytfndnlfinoeamaa
open Go.ChangeShapes Go.WideShapes Go.ChangeAt Go.RowKit

theorem Rows.drew {w : World} {A : Option Addr} {n : Nat} {t : List (List Nat)} (h : Rows w A n t) : Rows w.drew A n t := h
def cellsAt (w : World) (ad : Addr) (n : Nat) : List Value := (List.range n).map fun r => (w.cell? (ad.add r)).getD (.bool false)
theorem cellsAt_len (w : World) (ad : Addr) (n : Nat) : (cellsAt w ad n).length = n := by unfold cellsAt; rw [List.length_map, List.length_range]
theorem cellsAt_at {w : World} {ad : Addr} {n j : Nat} {u : Value} (hj : j < n) (h : w.cell? (ad.add j) = some u) : (cellsAt w ad n)[j]? = some u := by
  unfold cellsAt
  rw [List.getElem?_map, List.getElem?_range hj, Option.map_some, h]; rfl
theorem Rows.source {w : World} {ad : Addr} {n : Nat} {t : List (List Nat)} (h : Rows w (some ad) n t) : ∀ j u, (cellsAt w ad n)[j]? = some u → w.cell? (ad.add j) = some u := by
  intro j u hu
  have hj : j < n := by
    have := (List.getElem?_eq_some_iff.1 hu).1
    rwa [cellsAt_len] at this
  obtain ⟨ad', B, c, e, _, hc, _⟩ := h.at_ hj
  injection e with e
  subst e
  rw [cellsAt_at hj hc] at hu
  rw [hc, hu]
theorem Rows.one {w : World} {ad : Addr} {n : Nat} {t : List (List Nat)} (h : Rows w (some ad) n t) : ∀ u ∈ cellsAt w ad n, u.oneCell' = true := by
  intro u hu
  obtain ⟨j, hj, rfl⟩ := List.getElem_of_mem hu
  rw [cellsAt_len] at hj
  obtain ⟨ad', B, c, e, _, hc, _⟩ := h.at_ hj
  injection e with e
  subst e
  have := cellsAt_at hj hc
  rw [List.getElem?_eq_getElem (by rw [cellsAt_len]; exact hj)] at this
  injection this with this
  rw [this]; rfl
theorem Rows.cut {w w' : World} {ad : Addr} {n : Nat} {t : List (List Nat)} {v : Value} (h : Rows w (some ad) n t) (hb : Below w.heap.size w w') (hv : ∀ k, v.ownBlock = some k → w.heap.size ≤ k) : Cut w' v (cellsAt w ad n) t := by
  refine ⟨by rw [cellsAt_len, h.len], fun r hr => ?_⟩
  rw [h.len] at hr
  obtain ⟨ad', B, c, e, _, hc, h0, hs⟩ := h.at_cap hr
  injection e with e
  subst e
  refine ⟨B, c, cellsAt_at hr hc, h0, hs.below hb, fun ad e hl q => ?_⟩
  obtain ⟨ad', e', hlt, _⟩ := hs.2.2 hl
  rw [e] at e'
  injection e' with e'
  subst e'
  have := hv _ q
  omega

set_option maxHeartbeats 400000 in
theorem cloneR_any (ad : Addr) (n c : Nat) (l : List Nat) (w : World) (ht : Bs w (some ad) n l) (h0 : 0 < n) (hn : n ≤ 255) :
    Calls Try.prog 28 #[.slice (some ad) n c] w (GivesC w n l) := by
  obtain ⟨i0, hi0, hz0, hz1, hz2⟩ := info_parts Try.infoByte
  have HT := Lib.hid ht
  clear ht
  have hq : ∀ w, (binOp .eql 24 (.slice (some ad) n c) (.slice none 0 0)).run Try.prog w = .ok (.bool false) w := fun w => Lib.run_eql_slice_nil w _ _ (some ad) n c 0 0 Try.underlying24
  go_enter Try.func28, Try.ntmps28
  have hal : Below w.heap.size w (w.alloc (.cells #[] 5)) := (Below.refl _ _).alloc (Nat.le_refl _) _
  have HT1 := Lib.hid (HT.out.below hal)
  have HAL := Lib.hid hal
  clear hal
  go_wp2_with (at_builtin; refine wpList_append_grows _ rfl _ _ 24 rfl 5 i0 (.int .u8 0) 1 1 Try.underlying24 hi0 hz0 hz1 hz2 rfl (by decide) (some ⟨w.heap.size, 0, none⟩) 0 0 [] rfl (by simp) rfl (by simp) ad n c (cells l) rfl (by rw [cells_len, HT1.out.len, Nat.mul_one]) HT1.out.source (cells_one l) (by omega) (by unfold maxLen; omega) (by omega) ?_; intro v1 w1 hown hgr; rw [Nat.zero_add, List.nil_append] at hown; have hb1 := (Below.refl _ _).grown hgr (Nat.le_refl _) (by simp); obtain ⟨g, cap, rfl, _, hcap, _, ho⟩ := own_of hown HT1.out.lt h0; have HO := Lib.hid ho; have HB := Lib.hid (HAL.out.trans (hb1.mono HAL.out.size)); clear hown hgr hb1 ho)
  go_ret
  exact ⟨_, _, rfl, hcap, HO.out.bs, HB.out⟩

/-- what Rank must answer: 0 beside an error; else the rank. -/
def RankIs (t : List (List Nat)) (r : Nat) : Prop := (chk t ≠ 0 → r = 0) ∧ (chk t = 0 → RankT t.length (rw_ t 0).length (tabT t) r)
theorem RankIs.only {t : List (List Nat)} {r s : Nat} (h : RankIs t r) (g : RankIs t s) : r = s := by
  by_cases e : chk t = 0
  · exact (h.2 e).only (g.2 e)
  · rw [h.1 e, g.1 e]
/-- What a Rank leaves. -/
def GivesRank (W : World) (t : List (List Nat)) (e : Ending) (w' : World) : Prop :=
  ∃ r, e = .returned (.tuple #[.int .i64 (r : Nat), .int .i64 (chk t : Nat)]) ∧ RankIs t r ∧ Below W.heap.size W w'

end Go.Proofs.Ytfndnlfinoeamaa

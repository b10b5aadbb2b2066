/- Proved: what slices.Delete answers of a slice of blocks from whose head some are taken. Conditions: those that the theorems name. -/
import Derived.Test.YtgnalabblhokmaaFlMem
import Derived.Test.YtgnalabblhokmaaRun
import Derived.Lib.SlicesDelete
import Derived.Lib.SliceRun
import Derived.Deep.RegionLaw
namespace Go.Proofs.Ytgnalabblhokmaa
open Go.ChangeShapes Go.WideShapes Go.ChangeAt Go.RowKit

set_option maxRecDepth 100000 in
set_option maxHeartbeats 2000000 in
theorem del_none (v : Value) (n : Nat) (A : Option Addr) (cap : Nat) (hv : v = .slice A n cap) (hc : n ≤ cap) (w : World) :
    Calls Try.prog 16 #[v, .int .i64 0, .int .i64 0] w fun e w' => e = .returned v ∧ w = w' := by
  subst hv
  go_enter Try.func16, Try.ntmps16
  go_wp2_with fail
  all_goals
    go_ret
    exact ⟨rfl, rfl⟩

/-! ### some are taken -/
theorem run_clear_cells {P : Program} (w : World) (t e ty : TypeId) (z : Value) (ht : P.underlying t = some (.slice e)) (hv : ∀ w, (zeroValue e).run P w = .ok z w) (g o n c : Nat) (hn : 0 < n) (cur : Array Value) (hg : w.heap[g]? = some (.cells cur e (0, 0)))
    (hfit : o + n * z.cells.size ≤ cur.size) (h1 : ∀ u ∈ (Builtin.zeroCells z.cells n).toList, u.oneCell' = true) :
    (Builtin.clear_ #[t] ty #[.slice (some ⟨g, o, none⟩) n c]).run P w = .ok (.tuple #[]) (w.setRow g (cur.toList.take o ++ (Builtin.zeroCells z.cells n).toList ++ cur.toList.drop (o + n * z.cells.size)).toArray) := by
  have hl : (Builtin.zeroCells z.cells n).toList.length = n * z.cells.size := by simp [Builtin.zeroCells]
  have hst := run_storeCells_at P g o e (Builtin.zeroCells z.cells n).toList 0 cur w hg (by rw [hl]; exact hfit) h1
  simp only [Nat.add_zero] at hst
  rw [hl] at hst
  obtain ⟨m, rfl⟩ : ∃ m, n = m + 1 := ⟨n - 1, by omega⟩
  simp [Builtin.clear_, run_underlying ht, hv, hst]
theorem zero_block (n : Nat) : ∀ u ∈ (Builtin.zeroCells bl0.val.cells n).toList, u.oneCell' = true := by
  intro u hu
  simp only [Builtin.zeroCells, Array.toList_map, List.mem_map] at hu
  obtain ⟨i, _, rfl⟩ := hu
  have h3 : bl0.val.cells.size = 3 := rfl
  rw [h3]
  have : i % 3 = 0 ∨ i % 3 = 1 ∨ i % 3 = 2 := by omega
  rcases this with h | h | h <;> rw [h] <;> rfl

set_option maxRecDepth 100000 in
set_option maxHeartbeats 2000000 in
theorem del_some (g o d cap k : Nat) (L : List Bl) (w : World) (r : Option Nat) (hq : Qu w r 45 3 (.slice (some ⟨g, o, none⟩) (d + k) cap) (d + k) (blcells L)) (h0 : 0 < k) (hn64 : d + k ≤ 64) :
    Calls Try.prog 16 #[.slice (some ⟨g, o, none⟩) (d + k) cap, .int .i64 0, .int .i64 (k : Nat)] w fun e w' =>
      e = .returned (.slice (some ⟨g, o, none⟩) d cap) ∧ Qu w' r 45 3 (.slice (some ⟨g, o, none⟩) d cap) d (blcells (L.drop k)) ∧ Tn (fun i => r = some i) w w' := by
  have hx := hq.1
  obtain ⟨cur, hr, hg, hc, hcm, hfit, hcells⟩ : ∃ cur, r = some g ∧ w.heap[g]? = some (.cells cur 45 (0, 0)) ∧ d + k ≤ cap ∧ cap ≤ maxLen ∧ o + cap * 3 ≤ cur.size ∧ (cur.toList.drop o).take ((d + k) * 3) = blcells L := by
    rcases hq.2 with ⟨h, _⟩ | ⟨g', o', cap', cur, hr, hv, h⟩
    · cases h
    · injection hv with hv _ hc
      injection hv with hv
      injection hv with hg ho
      subst hg; subst ho; subst hc
      exact ⟨cur, hr, h⟩
  obtain ⟨i0, hi0, hz0, hz1, hz2⟩ := info_parts infoBlock
  have hL : L.length = d + k := by have := blcells_len L; omega
  obtain ⟨news, hnews⟩ : ∃ news, news = blcells (L.drop k) := ⟨_, rfl⟩
  have hnl : news.length = d * 3 := by rw [hnews, blcells_len, List.length_drop, hL]; omega
  have hcl : cur.toList.length = cur.size := Array.length_toList
  have hck : (d + k) * 3 ≤ cap * 3 := Nat.mul_le_mul_right 3 hc
  -- the cells that are moved
  have hsrc : ∀ (W : World), W.heap[g]? = some (.cells cur 45 (0, 0)) → ∀ j u, news[j]? = some u → W.cell? ((⟨g, o + k * 3, none⟩ : Addr).add j) = some u := by
    intro W hW j u hu
    rw [hnews, blcells_drop, ← hcells, List.getElem?_drop, List.getElem?_take] at hu
    split at hu
    · rw [Addr.add_lit, cell_of_row W g _ cur _ (0, 0) hW]
      rw [List.getElem?_drop] at hu
      rw [← Array.getElem?_toList, Nat.add_assoc]
      exact hu
    · cases hu
  have h1 : ∀ u ∈ news, u.oneCell' = true := by rw [hnews]; exact blcells_one _
  have ha : ∀ W : World, W.heap[g]? = some (.cells cur 45 (0, 0)) → ∀ ty A, (A = (⟨g, o + k * 3, none⟩ : Addr) ∨ d = 0) → ∀ c, (Builtin.append_ #[41, 41] ty #[.slice (some ⟨g, o, none⟩) 0 cap, .slice (some A) d c]).run Try.prog W =
      .ok (.slice (some ⟨g, o, none⟩) d cap) (W.setRow g (cur.toList.take o ++ news ++ cur.toList.drop (o + d * 3)).toArray) := fun W hW ty A hA c => by
    have := run_append_room_off (P := Try.prog) W 41 ty 45 i0 Try.underlying41 hi0 g o 0 cap cur hW A d c news (by rw [hnl, hz1]) (by
      rcases hA with rfl | e
      · exact hsrc W hW
      · intro j u hu
        have hn0 : news = [] := List.eq_nil_of_length_eq_zero (by rw [hnl, e])
        rw [hn0] at hu; simp at hu) h1 (by omega) (by rw [hz1, hnl]; omega)
    rw [hz1, hnl] at this
    simpa using this
  obtain ⟨A, hA, hA'⟩ : ∃ A : Addr, (if cap = k then (some ⟨g, o, none⟩ : Option Addr) else some ⟨g, o + k * 3, none⟩) = some A ∧ (A = (⟨g, o + k * 3, none⟩ : Addr) ∨ d = 0) := by
    by_cases e : cap = k
    · exact ⟨_, by rw [if_pos e], .inr (by omega)⟩
    · exact ⟨_, by rw [if_neg e], .inl rfl⟩
  obtain ⟨c1, hc1⟩ : ∃ c1, c1 = (cur.toList.take o ++ news ++ cur.toList.drop (o + d * 3)).toArray := ⟨_, rfl⟩
  have hdc : d * 3 ≤ cap * 3 := Nat.mul_le_mul_right 3 (by omega)
  have hs1 : c1.size = cur.size := by
    rw [hc1]
    simp only [List.size_toArray, List.length_append, List.length_take, List.length_drop, hnl, hcl]
    omega
  have hap := ha w.drew hg 41 A hA' (cap - k)
  rw [← hc1] at hap
  obtain ⟨W1, hW1⟩ : ∃ W1, W1 = w.drew.setRow g c1 := ⟨_, rfl⟩
  rw [← hW1] at hap
  have hg1 : W1.heap[g]? = some (.cells c1 45 (0, 0)) := by rw [hW1]; exact setRow_heap w.drew g cur c1 _ _ hg
  have hz3 : bl0.val.cells.size = 3 := rfl
  have hclr := fun ty => run_clear_cells (P := Try.prog) W1 41 45 ty bl0.val Try.underlying41 Try.zeroValue45 g (o + d * 3) k (cap - d) h0 c1 hg1 (by rw [hz3, hs1]; omega) (zero_block k)
  rw [hz3] at hclr
  obtain ⟨c2, hc2⟩ : ∃ c2, c2 = (c1.toList.take (o + d * 3) ++ (Builtin.zeroCells bl0.val.cells k).toList ++ c1.toList.drop (o + d * 3 + k * 3)).toArray := ⟨_, rfl⟩
  rw [← hc2] at hclr
  obtain ⟨W2, hW2⟩ : ∃ W2, W2 = W1.setRow g c2 := ⟨_, rfl⟩
  rw [← hW2] at hclr
  have hzl : (Builtin.zeroCells bl0.val.cells k).toList.length = k * 3 := by simp [Builtin.zeroCells, hz3]
  have hl1 : c1.toList.length = cur.size := by rw [Array.length_toList, hs1]
  have HE : Hid (Qu W2 r 45 3 (.slice (some ⟨g, o, none⟩) d cap) d (blcells (L.drop k)) ∧ Tn (fun i => r = some i) w W2) := by
    refine Lib.hid ⟨⟨by rw [← hnews]; exact hnl, .inr ⟨g, o, cap, c2, hr, rfl, by rw [hW2]; exact setRow_heap W1 g c1 c2 _ _ hg1, by omega, hcm, ?_, ?_⟩⟩, ?_⟩
    · rw [hc2]
      simp only [List.size_toArray, List.length_append, List.length_take, List.length_drop, hzl, hl1]
      omega
    · rw [hc2, ← hnews, List.append_assoc]
      have e1 : (c1.toList.take (o + d * 3)) = cur.toList.take o ++ news := by
        rw [hc1]
        have e2 : (cur.toList.take o ++ news).length = o + d * 3 := by rw [List.length_append, List.length_take, hcl, hnl]; omega
        rw [← e2]
        exact List.take_left
      rw [e1, List.append_assoc]
      have e3 : (cur.toList.take o).length = o := by rw [List.length_take, hcl]; omega
      have e4 : ∀ R : List Value, (cur.toList.take o ++ (news ++ R)).drop o = news ++ R := fun R => by
        have := List.drop_left (l₁ := cur.toList.take o) (l₂ := news ++ R)
        rwa [e3] at this
      rw [e4, ← hnl, List.take_left]
    · have t1 : Tn (fun i => r = some i) w W1 := by
        rw [hW1]
        exact (Tn.refl _ w).drew.trans ⟨rfl, rfl, rfl, by simp [World.setRow], fun j hj hn => setRow_other _ g j _ (fun e => hn (by rw [hr, e]))⟩
      refine t1.trans ?_
      rw [hW2]
      exact ⟨rfl, rfl, rfl, by simp [World.setRow], fun j hj hn => setRow_other _ g j _ (fun e => hn (by rw [hr, e]))⟩
  have hdk : d + k - k = d := by omega
  have hk0 : ¬ (k : Int) = 0 := by omega
  have hk1 : (k : Int) ≤ ((d + k : Nat) : Int) := by omega
  have hk2 : (k : Int) ≤ (d : Int) + (k : Int) := by omega
  have hkc : k ≤ cap := by omega
  have hdk2 : d + k - d = k := by omega
  have hcd : ¬ cap = d := by omega
  have hd0 : (0 : Int) ≤ (d : Int) := by omega
  have hd2 : (d : Int) ≤ (d : Int) + (k : Int) := by omega
  clear ha hA' hsrc h1 hq hx hnews hcells hnl hW1 hW2 hc1 hc2 hg1 hg hr hs1 hl1 hzl hcl hz3 hdc hck hfit hcm
  go_enter Try.func16, Try.ntmps16
  go_wp2_with fail
  go_region_law (refine step_append_run rfl _ _ _ _ rfl _ _ rfl rfl _ _ hap ?_)
  go_wp2_with fail
  go_ret
  exact ⟨rfl, HE.out⟩
theorem del_any {v : Value} {n K : Nat} {L : List Bl} {w : World} {r : Option Nat} (hq : Qu w r 45 3 v n (blcells L)) (hn : n ≤ 64) (hK : K ≤ n) :
    ∃ v', (∃ A c, v' = .slice A (n - K) c) ∧ Calls Try.prog 16 #[v, .int .i64 0, .int .i64 (K : Nat)] w fun e w' =>
      e = .returned v' ∧ Qu w' r 45 3 v' (n - K) (blcells (L.drop K)) ∧ Tn (fun i => r = some i) w w' := by
  rcases Nat.eq_zero_or_pos K with rfl | h0
  · obtain ⟨A, cap, hv, hc⟩ : ∃ A cap, v = .slice A n cap ∧ n ≤ cap := by
      rcases hq.2 with ⟨rfl, rfl, _⟩ | ⟨g, o, cap, cur, _, rfl, _, hc, _⟩
      · exact ⟨_, _, rfl, Nat.le_refl _⟩
      · exact ⟨_, _, rfl, hc⟩
    refine ⟨v, ⟨A, cap, hv⟩, (del_none v n A cap hv hc w).mono ?_⟩
    rintro e w' ⟨rfl, rfl⟩
    exact ⟨rfl, hq, Tn.refl _ _⟩
  · have hq' := hq
    rcases hq.2 with ⟨_, rfl, _⟩ | ⟨g, o, cap, cur, _, rfl, _⟩
    · omega
    · obtain ⟨d, rfl⟩ : ∃ d, n = d + K := ⟨n - K, by omega⟩
      rw [Nat.add_sub_cancel]
      exact ⟨_, ⟨_, _, rfl⟩, del_some g o d cap K L w r hq' h0 hn⟩
end Go.Proofs.Ytgnalabblhokmaa

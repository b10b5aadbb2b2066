/- Proved: lemmas of one statement's proof, merged by program: what each part proves stands ahead of it. Conditions: those that the lemmas name. -/
import Derived.Test.YtodokgkchmpmnaaGreatM28
import Derived.Test.YtodokgkchmpmnaaGreatM36
import Derived.Lib.SlicesDelete
import Derived.Lib.SliceRun
import Derived.Deep.RegionLaw

/- Proved: what slices.Delete answers of a slice of blocks from whose head some are taken. Conditions: those that the theorems name. -/
namespace Go.Proofs.YtodokgkchmpmnaaGreat
open Go.ChangeShapes Go.WideShapes Go.ChangeAt Go.RowKit

set_option maxRecDepth 100000 in
set_option maxHeartbeats 2000000 in
theorem del_none (v : Value) (n : Nat) (A : Option Addr) (cap : Nat) (hv : v = .slice A n cap) (hc : n ≤ cap) (w : World) :
    Calls Tryz.prog 55 #[v, .int .i64 0, .int .i64 0] w fun e w' => e = .returned v ∧ w = w' := by
  subst hv
  go_enter Tryz.func55, Tryz.ntmps55
  go_wp2_with fail
  all_goals
    go_ret
    exact ⟨rfl, rfl⟩

/-! ### some are taken -/
theorem fl_clear_cells {P : Program} (w : World) (t e ty : TypeId) (z : Value) (ht : P.underlying t = some (.slice e)) (hv : ∀ w, (zeroValue e).run P w = .ok z w) (g o n c : Nat) (hn : 0 < n) (cur : Array Value) (hg : w.heap[g]? = some (.cells cur e (0, 0)))
    (hfit : o + n * z.cells.size ≤ cur.size) (h1 : ∀ u ∈ (Builtin.zeroCells z.cells n).toList, u.oneCell' = true) :
    (Builtin.clear_ #[t] ty #[.slice (some ⟨g, o, none⟩) n c]).run P w = .ok (.tuple #[]) (w.setRow g (cur.toList.take o ++ (Builtin.zeroCells z.cells n).toList ++ cur.toList.drop (o + n * z.cells.size)).toArray) := by
  have hl : (Builtin.zeroCells z.cells n).toList.length = n * z.cells.size := by simp [Builtin.zeroCells]
  have hst := run_storeCells_at P g o e (Builtin.zeroCells z.cells n).toList 0 cur w hg (by rw [hl]; exact hfit) h1
  simp only [Nat.add_zero] at hst
  rw [hl] at hst
  obtain ⟨m, rfl⟩ : ∃ m, n = m + 1 := ⟨n - 1, by omega⟩
  simp [Builtin.clear_, run_underlying ht, hv, hst]
theorem zero_block (n : Nat) : ∀ u ∈ (Builtin.zeroCells bl0.val.cells n).toList, u.oneCell' = true := by
  intro u hu
  simp only [Builtin.zeroCells, Array.toList_map, List.mem_map] at hu
  obtain ⟨i, _, rfl⟩ := hu
  have h3 : bl0.val.cells.size = 3 := rfl
  rw [h3]
  have : i % 3 = 0 ∨ i % 3 = 1 ∨ i % 3 = 2 := by omega
  rcases this with h | h | h <;> rw [h] <;> rfl

set_option maxRecDepth 100000 in
set_option maxHeartbeats 2000000 in
theorem del_some (g o d cap k : Nat) (L : List Bl) (w : World) (r : Option Nat) (hq : Qu w r 108 3 (.slice (some ⟨g, o, none⟩) (d + k) cap) (d + k) (blcells L)) (h0 : 0 < k) (hn64 : d + k ≤ 64) :
    Calls Tryz.prog 55 #[.slice (some ⟨g, o, none⟩) (d + k) cap, .int .i64 0, .int .i64 (k : Nat)] w fun e w' =>
      e = .returned (.slice (some ⟨g, o, none⟩) d cap) ∧ Qu w' r 108 3 (.slice (some ⟨g, o, none⟩) d cap) d (blcells (L.drop k)) ∧ Tn (fun i => r = some i) w w' := by
  have hx := hq.1
  obtain ⟨cur, hr, hg, hc, hcm, hfit, hcells⟩ : ∃ cur, r = some g ∧ w.heap[g]? = some (.cells cur 108 (0, 0)) ∧ d + k ≤ cap ∧ cap ≤ maxLen ∧ o + cap * 3 ≤ cur.size ∧ (cur.toList.drop o).take ((d + k) * 3) = blcells L := by
    rcases hq.2 with ⟨h, _⟩ | ⟨g', o', cap', cur, hr, hv, h⟩
    · cases h
    · injection hv with hv _ hc
      injection hv with hv
      injection hv with hg ho
      subst hg; subst ho; subst hc
      exact ⟨cur, hr, h⟩
  obtain ⟨i0, hi0, hz0, hz1, hz2⟩ := info_parts infoBlock
  have hL : L.length = d + k := by have := blcells_len L; omega
  obtain ⟨news, hnews⟩ : ∃ news, news = blcells (L.drop k) := ⟨_, rfl⟩
  have hnl : news.length = d * 3 := by rw [hnews, blcells_len, List.length_drop, hL]; omega
  have hcl : cur.toList.length = cur.size := Array.length_toList
  have hck : (d + k) * 3 ≤ cap * 3 := Nat.mul_le_mul_right 3 hc
  -- the cells that are moved
  have hsrc : ∀ (W : World), W.heap[g]? = some (.cells cur 108 (0, 0)) → ∀ j u, news[j]? = some u → W.cell? ((⟨g, o + k * 3, none⟩ : Addr).add j) = some u := by
    intro W hW j u hu
    rw [hnews, blcells_drop, ← hcells, List.getElem?_drop, List.getElem?_take] at hu
    split at hu
    · rw [Addr.add_lit, cell_of_row W g _ cur _ (0, 0) hW]
      rw [List.getElem?_drop] at hu
      rw [← Array.getElem?_toList, Nat.add_assoc]
      exact hu
    · cases hu
  have h1 : ∀ u ∈ news, u.oneCell' = true := by rw [hnews]; exact blcells_one _
  have ha : ∀ W : World, W.heap[g]? = some (.cells cur 108 (0, 0)) → ∀ ty A, (A = (⟨g, o + k * 3, none⟩ : Addr) ∨ d = 0) → ∀ c, (Builtin.append_ #[85, 85] ty #[.slice (some ⟨g, o, none⟩) 0 cap, .slice (some A) d c]).run Tryz.prog W =
      .ok (.slice (some ⟨g, o, none⟩) d cap) (W.setRow g (cur.toList.take o ++ news ++ cur.toList.drop (o + d * 3)).toArray) := fun W hW ty A hA c => by
    have := run_append_room_off (P := Tryz.prog) W 85 ty 108 i0 Tryz.underlying85 hi0 g o 0 cap cur hW A d c news (by rw [hnl, hz1]) (by
      rcases hA with rfl | e
      · exact hsrc W hW
      · intro j u hu
        have hn0 : news = [] := List.eq_nil_of_length_eq_zero (by rw [hnl, e])
        rw [hn0] at hu; simp at hu) h1 (by omega) (by rw [hz1, hnl]; omega)
    rw [hz1, hnl] at this
    simpa using this
  obtain ⟨A, hA, hA'⟩ : ∃ A : Addr, (if cap = k then (some ⟨g, o, none⟩ : Option Addr) else some ⟨g, o + k * 3, none⟩) = some A ∧ (A = (⟨g, o + k * 3, none⟩ : Addr) ∨ d = 0) := by
    by_cases e : cap = k
    · exact ⟨_, by rw [if_pos e], .inr (by omega)⟩
    · exact ⟨_, by rw [if_neg e], .inl rfl⟩
  obtain ⟨c1, hc1⟩ : ∃ c1, c1 = (cur.toList.take o ++ news ++ cur.toList.drop (o + d * 3)).toArray := ⟨_, rfl⟩
  have hdc : d * 3 ≤ cap * 3 := Nat.mul_le_mul_right 3 (by omega)
  have hs1 : c1.size = cur.size := by
    rw [hc1]
    simp only [List.size_toArray, List.length_append, List.length_take, List.length_drop, hnl, hcl]
    omega
  have hap := ha w.drew hg 85 A hA' (cap - k)
  rw [← hc1] at hap
  obtain ⟨W1, hW1⟩ : ∃ W1, W1 = w.drew.setRow g c1 := ⟨_, rfl⟩
  rw [← hW1] at hap
  have hg1 : W1.heap[g]? = some (.cells c1 108 (0, 0)) := by rw [hW1]; exact setRow_heap w.drew g cur c1 _ _ hg
  have hz3 : bl0.val.cells.size = 3 := rfl
  have hclr := fun ty => fl_clear_cells (P := Tryz.prog) W1 85 108 ty bl0.val Tryz.underlying85 Tryz.zeroValue108 g (o + d * 3) k (cap - d) h0 c1 hg1 (by rw [hz3, hs1]; omega) (zero_block k)
  rw [hz3] at hclr
  obtain ⟨c2, hc2⟩ : ∃ c2, c2 = (c1.toList.take (o + d * 3) ++ (Builtin.zeroCells bl0.val.cells k).toList ++ c1.toList.drop (o + d * 3 + k * 3)).toArray := ⟨_, rfl⟩
  rw [← hc2] at hclr
  obtain ⟨W2, hW2⟩ : ∃ W2, W2 = W1.setRow g c2 := ⟨_, rfl⟩
  rw [← hW2] at hclr
  have hzl : (Builtin.zeroCells bl0.val.cells k).toList.length = k * 3 := by simp [Builtin.zeroCells, hz3]
  have hl1 : c1.toList.length = cur.size := by rw [Array.length_toList, hs1]
  have HE : Hid (Qu W2 r 108 3 (.slice (some ⟨g, o, none⟩) d cap) d (blcells (L.drop k)) ∧ Tn (fun i => r = some i) w W2) := by
    refine Lib.hid ⟨⟨by rw [← hnews]; exact hnl, .inr ⟨g, o, cap, c2, hr, rfl, by rw [hW2]; exact setRow_heap W1 g c1 c2 _ _ hg1, by omega, hcm, ?_, ?_⟩⟩, ?_⟩
    · rw [hc2]
      simp only [List.size_toArray, List.length_append, List.length_take, List.length_drop, hzl, hl1]
      omega
    · rw [hc2, ← hnews, List.append_assoc]
      have e1 : (c1.toList.take (o + d * 3)) = cur.toList.take o ++ news := by
        rw [hc1]
        have e2 : (cur.toList.take o ++ news).length = o + d * 3 := by rw [List.length_append, List.length_take, hcl, hnl]; omega
        rw [← e2]
        exact List.take_left
      rw [e1, List.append_assoc]
      have e3 : (cur.toList.take o).length = o := by rw [List.length_take, hcl]; omega
      have e4 : ∀ R : List Value, (cur.toList.take o ++ (news ++ R)).drop o = news ++ R := fun R => by
        have := List.drop_left (l₁ := cur.toList.take o) (l₂ := news ++ R)
        rwa [e3] at this
      rw [e4, ← hnl, List.take_left]
    · have t1 : Tn (fun i => r = some i) w W1 := by
        rw [hW1]
        exact (Tn.refl _ w).drew.trans ⟨rfl, rfl, rfl, by simp [World.setRow], fun j hj hn => setRow_other _ g j _ (fun e => hn (by rw [hr, e]))⟩
      refine t1.trans ?_
      rw [hW2]
      exact ⟨rfl, rfl, rfl, by simp [World.setRow], fun j hj hn => setRow_other _ g j _ (fun e => hn (by rw [hr, e]))⟩
  have hdk : d + k - k = d := by omega
  have hk0 : ¬ (k : Int) = 0 := by omega
  have hk1 : (k : Int) ≤ ((d + k : Nat) : Int) := by omega
  have hk2 : (k : Int) ≤ (d : Int) + (k : Int) := by omega
  have hkc : k ≤ cap := by omega
  have hdk2 : d + k - d = k := by omega
  have hcd : ¬ cap = d := by omega
  have hd0 : (0 : Int) ≤ (d : Int) := by omega
  have hd2 : (d : Int) ≤ (d : Int) + (k : Int) := by omega
  clear ha hA' hsrc h1 hq hx hnews hcells hnl hW1 hW2 hc1 hc2 hg1 hg hr hs1 hl1 hzl hcl hz3 hdc hck hfit hcm
  go_enter Tryz.func55, Tryz.ntmps55
  go_wp2_with fail
  go_region_law (refine step_append_run rfl _ _ _ _ rfl _ _ rfl rfl _ _ hap ?_)
  go_wp2_with fail
  go_ret
  exact ⟨rfl, HE.out⟩
theorem del_any {v : Value} {n K : Nat} {L : List Bl} {w : World} {r : Option Nat} (hq : Qu w r 108 3 v n (blcells L)) (hn : n ≤ 64) (hK : K ≤ n) :
    ∃ v', (∃ A c, v' = .slice A (n - K) c) ∧ Calls Tryz.prog 55 #[v, .int .i64 0, .int .i64 (K : Nat)] w fun e w' =>
      e = .returned v' ∧ Qu w' r 108 3 v' (n - K) (blcells (L.drop K)) ∧ Tn (fun i => r = some i) w w' := by
  rcases Nat.eq_zero_or_pos K with rfl | h0
  · obtain ⟨A, cap, hv, hc⟩ : ∃ A cap, v = .slice A n cap ∧ n ≤ cap := by
      rcases hq.2 with ⟨rfl, rfl, _⟩ | ⟨g, o, cap, cur, _, rfl, _, hc, _⟩
      · exact ⟨_, _, rfl, Nat.le_refl _⟩
      · exact ⟨_, _, rfl, hc⟩
    refine ⟨v, ⟨A, cap, hv⟩, (del_none v n A cap hv hc w).mono ?_⟩
    rintro e w' ⟨rfl, rfl⟩
    exact ⟨rfl, hq, Tn.refl _ _⟩
  · have hq' := hq
    rcases hq.2 with ⟨_, rfl, _⟩ | ⟨g, o, cap, cur, _, rfl, _⟩
    · omega
    · obtain ⟨d, rfl⟩ : ∃ d, n = d + K := ⟨n - K, by omega⟩
      rw [Nat.add_sub_cancel]
      exact ⟨_, ⟨_, _, rfl⟩, del_some g o d cap K L w r hq' h0 hn⟩
end Go.Proofs.YtodokgkchmpmnaaGreat

/- Proved: what Ack of package flight answers, of a flight and of none. Conditions: those that the theorems name. -/
namespace Go.Proofs.YtodokgkchmpmnaaGreat
open Go.ChangeShapes Go.WideShapes Go.ChangeAt Go.RowKit
attribute [local go_sem] Oper.semAt_some

/-- how many of the places have numbers less than x. -/
def ackC (nx : Int) (k : Nat) (x : Int) (l : List Nat) : Nat := (l.filter fun i => decide (0 < ah (fno nx k i) x)).length
/-- how many are gone. -/
def ackN (nx : Int) (k : Nat) (x : Int) : Nat := if 0 < ah nx x then 0 else ackC nx k x (List.range k)
theorem ackC_le (nx : Int) (k : Nat) (x : Int) (l : List Nat) : ackC nx k x l ≤ l.length := List.length_filter_le _ _
theorem ackC_yes {nx : Int} {k : Nat} {x : Int} {l : List Nat} {i : Nat} (h : 0 < ah (fno nx k i) x) : ackC nx k x (l ++ [i]) = ackC nx k x l + 1 := by
  unfold ackC
  rw [List.filter_append, List.length_append, List.filter_cons_of_pos (by simpa using h)]
  rfl
theorem ackC_no {nx : Int} {k : Nat} {x : Int} {l : List Nat} {i : Nat} (h : ¬ 0 < ah (fno nx k i) x) : ackC nx k x (l ++ [i]) = ackC nx k x l := by
  unfold ackC
  rw [List.filter_append, List.length_append, List.filter_cons_of_neg (by simpa using h)]
  rfl
theorem ackN_le (nx : Int) (k : Nat) (x : Int) : ackN nx k x ≤ k := by
  unfold ackN
  split
  · exact Nat.zero_le _
  · have := ackC_le nx k x (List.range k)
    rwa [List.length_range] at this

/-- what holds between two rounds. -/
structure AckR (p : Option Addr) (x : Int) (n0 : Nat) (w : World) (c : Nat) (W : World) : Prop where
  b0 : Boxed W n0 22 (.int .u32 x)
  b1 : Boxed W (n0 + 1) 3 (.int .i64 (c : Nat))
  b2 : Boxed W (n0 + 1 + 1) 45 (.pointer p)
  low : Below n0 w W
theorem AckR.own {p : Option Addr} {x : Int} {n0 : Nat} {w : World} {c : Nat} {W W' : World} {row : Option Nat} {B : Nat} (h : AckR p x n0 w c W) (hg : W.grownBy W' row) (hr : ∀ i, row = some i → B ≤ i ∧ ∃ o : Obj, W.heap[i]? = some o ∧ o.isCells = false) (hn : n0 = w.heap.size) (hB : n0 ≤ B) : AckR p x n0 w c W' := by
  have hc : ∀ i, row = some i → ∃ o : Obj, W.heap[i]? = some o ∧ o.isCells = false := fun i e => (hr i e).2
  exact ⟨boxed_own_ h.b0 hg hc, boxed_own_ h.b1 hg hc, boxed_own_ h.b2 hg hc, h.low.grown hg (by have := h.low.size; omega) (fun i e => Nat.le_trans hB (hr i e).1)⟩
theorem AckR.count {p : Option Addr} {x : Int} {n0 : Nat} {w : World} {c : Nat} {W : World} (h : AckR p x n0 w c W) (c' : Nat) : AckR p x n0 w c' (W.setCell ⟨n0 + 1, 0, none⟩ (.int .i64 (c' : Nat))) :=
  ⟨h.b0.other (by omega) _, h.b1.set _, h.b2.other (by omega) _, h.low.setCell (p := ⟨n0 + 1, 0, none⟩) (by show n0 ≤ n0 + 1; omega) _⟩

/-- the first ones are gone: what holds behind. -/
structure AckE (f : Nat) (wd nx : Int) (r : Option Nat) (v' : Value) (L : List Bl) (K : Nat) (n0 D : Nat) (w : World) (W : World) : Prop where
  fl : Fl W f wd nx r v' (L.drop K)
  b1 : Boxed W (n0 + 1) 3 (.int .i64 (K : Nat))
  d : W.heap[D]? = some (.deferred (some []))
  tn : Tn (FlOwn f r) w W
theorem ackE_of {f : Nat} {wd nx : Int} {r : Option Nat} {v v' : Value} {L : List Bl} {K : Nat} {n0 D : Nat} {w W w1 : World} {x : Int} {p : Option Addr} (hf : Fl W f wd nx r v L) (hn : n0 = w.heap.size) (hfw : f < n0) (hr : ∀ g, r = some g → g < n0) (hI : AckR p x n0 w K W) (hD : W.heap[D]? = some (.deferred (some [])))
    (hq : Qu w1 r 108 3 v' (L.length - K) (blcells (L.drop K))) (ht : Tn (fun i => r = some i) W w1) : At w1 f 87 [.int .i64 wd, .int .u32 nx, v] ∧ AckE f wd nx r v' L K n0 D w (w1.setCell ⟨f, 2, none⟩ v') := by
  have ha : At w1 f 87 [.int .i64 wd, .int .u32 nx, v] := hf.own.tn ht (fun e => hf.ne f e rfl)
  have hb : Boxed w1 (n0 + 1) 3 (.int .i64 (K : Nat)) := (ht.block (n0 + 1) hI.b1.lt (fun e => by have := hr _ e; omega)).trans hI.b1
  have hDl : D < W.heap.size := (Array.getElem?_eq_some_iff.1 hD).1
  have hDn : ∀ g, FlOwn f r g → D ≠ g := fun g hg e => by
    obtain ⟨c, t, hc⟩ := hf.cells_ g hg
    rw [← e, hD] at hc; cases hc
  have hd : w1.heap[D]? = some (.deferred (some [])) := (ht.block D hDl (fun e => hDn D (.inr e) rfl)).trans hD
  have ts : Tn (fun i => i = f) w1 (w1.setCell ⟨f, 2, none⟩ v') := (Tn.refl (fun i => i = f) w1).set ⟨f, 2, none⟩ v' (fun _ => rfl)
  obtain ⟨w2, hw2⟩ : ∃ w2, w2 = w1.setCell ⟨f, 2, none⟩ v' := ⟨_, rfl⟩
  have hat : At w2 f 87 [.int .i64 wd, .int .u32 nx, v'] := by rw [hw2]; exact ha.set_ 2 v'
  have hbt : Boxed w2 (n0 + 1) 3 (.int .i64 (K : Nat)) := by rw [hw2]; exact hb.kept (grown_set w1 ⟨f, 2, none⟩ v') (fun e => by injection e with e; have e : n0 + 1 = f := e; omega)
  rw [← hw2] at ts ⊢
  have hrow : Qu w2 r 108 3 v' (L.drop K).length (blcells (L.drop K)) := by
    rw [List.length_drop]; exact hq.tn ts (fun g e => hf.ne g e)
  have hfew : ((L.drop K).length : Int) ≤ wd := by rw [List.length_drop]; have := hf.few; omega
  have t1 : Tn (FlOwn f r) w W := tn_below _ (by rw [← hn]; exact hI.low)
  have t2 : Tn (FlOwn f r) w w2 := (t1.trans (ht.mono fun i _ e => .inr e)).trans (ts.mono fun i _ e => .inl e)
  have hd2 : w2.heap[D]? = some (.deferred (some [])) := (ts.block D (Nat.lt_of_lt_of_le hDl ht.size) (fun e => hDn f (.inl rfl) e)).trans hd
  exact ⟨ha, ⟨⟨hat, hrow, hf.ne, hf.u32, hfew, hf.high⟩, hbt, hd2, t2⟩⟩

set_option maxRecDepth 100000 in
set_option maxHeartbeats 4000000 in
theorem ack_any (f : Nat) (wd nx : Int) (r : Option Nat) (v : Value) (L : List Bl) (x : Int) (w : World) (h : Fl w f wd nx r v L) (hx : U32 x) :
    Calls Tryz.prog 32 #[.pointer (some ⟨f, 0, none⟩), .int .u32 x] w fun e w' => ∃ v', e = .returned (.int .i64 (ackN nx L.length x : Nat)) ∧ Fl w' f wd nx r v' (L.drop (ackN nx L.length x)) ∧ Tn (FlOwn f r) w w' := by
  have HLS := Lib.hid (fun w => less_any nx x h.u32 hx w)
  have HLB := Lib.hid (fun i w => less_any (fno nx L.length i) x (wpl_u32 _ _) hx w)
  have HF := Lib.hid h
  have c1 := h.own.cell 1 rfl
  have hfw := h.lt
  have hlow := Lib.hid (show ∀ g, r = some g → g < w.heap.size from fun g e => h.row.lt e)
  have hc1d : ∀ o : Obj, (w.alloc o).cell? ⟨f, 1, none⟩ = some (.int .u32 nx) := fun o => (h.own.alloc o).cell 1 rfl
  have hc1e : ∀ o : Obj, (w.alloc o).drew.cell? ⟨f, 1, none⟩ = some (.int .u32 nx) := hc1d
  have hr0 : Tryz.prog.follows .mixedOrders = true := by kernel_rfl
  by_cases hle : 0 < ah nx x
  · have HN : Hid (ackN nx L.length x = 0) := Lib.hid (if_pos hle)
    rw [decide_eq_true hle] at HLS
    clear hle HLB h
    refine (callsIn_wide (n := 3)).1 ?_
    refine callsIn_of_wp_marks Tryz.func32 rfl trivial ?_ rfl
    simp only [Tryz.ntmps32, List.size_toArray, List.length_cons, List.length_nil, Nat.reduceAdd, Nat.reduceSub, Array.replicate_succ, Array.replicate_zero, List.push_toArray, List.append_toArray, List.nil_append, List.cons_append]
    gi_wp2
    apply wpIn_one (W' := (w.alloc (.cells #[Value.int .u32 x] 22)).drew)
    case h =>
      gi_region_with_o (refine ⟨trivial, ?_⟩; gi_at_call 31; refine (callsIn_wide.2 (HLS.out _)).mono ?_; rintro e w' ⟨rfl, rfl⟩)
      all_goals exact ⟨rfl, rfl⟩
    gi_wp2
    refine ⟨_, results_tmp rfl _ _ _, ?_⟩
    have hB : Below w.heap.size w (w.alloc (.cells #[Value.int .u32 x] 22)).drew := bel_drewN ((Below.refl _ w).alloc (Nat.le_refl _) _) (Nat.le_refl _) 1
    rw [HN.out]
    exact ⟨v, rfl, HF.out.below hB, tn_below _ hB⟩
  · obtain ⟨k, hk⟩ : ∃ k, L.length = k := ⟨_, rfl⟩
    have HN : Hid (ackN nx L.length x = ackC nx k x (List.range k)) := Lib.hid (by rw [hk]; exact if_neg hle)
    have hk64 := Lib.hid h.n64
    have HC := Lib.hid h.flo.c
    have HK := Lib.hid hk
    obtain ⟨g, o, cap, hrow⟩ : ∃ g o cap, 0 < k → v = .slice (some ⟨g, o, none⟩) k cap := by
      rcases Nat.eq_zero_or_pos k with e | e
      · exact ⟨0, 0, 0, fun h => by omega⟩
      · obtain ⟨g, o, cap, h1, h2, _⟩ := h.place (i := 0) (by omega)
        exact ⟨g, o, cap, fun _ => by rw [← hk]; exact h2⟩
    have HR := Lib.hid hrow
    have HFW := Lib.hid hfw
    rw [hk] at HC hk64 HLB
    rw [decide_eq_false hle] at HLS
    clear hle h hrow hk
    refine (callsIn_wide (n := 3)).1 ?_
    refine callsIn_of_wp_marks Tryz.func32 rfl trivial ?_ rfl
    simp only [Tryz.ntmps32, List.size_toArray, List.length_cons, List.length_nil, Nat.reduceAdd, Nat.reduceSub, Array.replicate_succ, Array.replicate_zero, List.push_toArray, List.append_toArray, List.nil_append, List.cons_append]
    gi_wp2
    apply wpIn_one (W' := (w.alloc (.cells #[Value.int .u32 x] 22)).drew)
    case h =>
      gi_region_with_o (refine ⟨trivial, ?_⟩; gi_at_call 31; refine (callsIn_wide.2 (HLS.out _)).mono ?_; rintro e w' ⟨rfl, rfl⟩)
      all_goals exact ⟨rfl, rfl⟩
    gi_wp2_with (refine ⟨trivial, ?_⟩; gi_at_call 54; refine (callsIn_wide.2 (flying_any (some ⟨f, 0, none⟩) _)).mono ?_; rintro e w' ⟨rfl, rfl⟩)
    obtain ⟨W0, hW0⟩ : ∃ W0, (((w.alloc (.cells #[Value.int .u32 x] 22)).alloc (.cells #[Value.int .i64 0] 3)).alloc (.cells #[Value.pointer (some ⟨f, 0, none⟩)] 45)).drew = W0 := ⟨_, rfl⟩
    have hz : W0.heap.size = w.heap.size + 3 := by rw [← hW0]; show (World.alloc _ _).heap.size = _; simp
    have hb : Below w.heap.size w W0 := by
      rw [← hW0]
      exact bel_drewN ((((Below.refl _ w).alloc (Nat.le_refl _) _).alloc (by simp) _).alloc (by simp; omega) _) (Nat.le_refl _) 1
    have hI0 : AckR (some ⟨f, 0, none⟩) x w.heap.size w 0 W0 := by
      refine ⟨?_, ?_, ?_, hb⟩
      · rw [← hW0]; exact ((Boxed.new w _ _).alloc _).alloc _
      · rw [← hW0]
        have h := Boxed.new (w.alloc (.cells #[Value.int .u32 x] 22)) 3 (.int .i64 0)
        simp only [World.size_alloc] at h
        exact h.alloc _
      · rw [← hW0]
        have h := Boxed.new ((w.alloc (.cells #[Value.int .u32 x] 22)).alloc (.cells #[Value.int .i64 0] 3)) 45 (.pointer (some ⟨f, 0, none⟩))
        simp only [World.size_alloc] at h
        exact h
    have hcC := hI0.b2.cell
    rw [hW0]
    have HI0 := Lib.hid hI0
    have HST := Lib.hid (fly_stops (3 - 1) (by decide) (w.heap.size + 1 + 1) (some ⟨f, 0, none⟩) nx v k g o cap W0 hk64.out HR.out (by omega) hcC (HC.out.below hb))
    clear hI0 hW0 hb hcC c1 hc1d hc1e hfw
    refine wpIn_rangeFunc_ownG (F := Fence.wide) rfl (by decide) (gf := 76) (lb := #[.pointer (some ⟨w.heap.size + 1 + 1, 0, none⟩)]) rfl trivial (enters_of Tryz.func76 (by kernel_rfl) rfl)
      HST.out keepsFl_t keepsFl_b (Below.refl _ _) (fun _ => rfl)
      (fun pre W => AckR (some ⟨f, 0, none⟩) x w.heap.size w (ackC nx k x (pre.map Fin.val)) W) (fun _ _ _ => False)
      (fun _ _ _ _ hs hg hr => hs.own hg hr rfl (by omega)) (fun _ _ _ _ _ hs _ _ => hs) HI0.out
      (fun y => { tmps := #[Value.pointer (some ⟨f, 0, none⟩), Value.int .u32 x, undef,
          Value.pointer (some ⟨w.heap.size, 0, none⟩), Value.int .i64 0, Value.pointer (some ⟨w.heap.size + 1, 0, none⟩), Value.int .u32 (fno nx k y.1),
          Value.pointer (some ⟨f, 0, none⟩), Value.bool false, Value.bool false,
          Value.pointer (some ⟨f, 0, none⟩), Value.pointer (some ⟨f, 0, none⟩),
          Value.pointer (some ⟨f, 1, none⟩), Value.int IntKind.u32 nx, Value.int IntKind.u32 x,
          Value.bool false, Value.bool false, Value.pointer (some ⟨f, 0, none⟩),
          Value.func (Fn.func 76) #[] #[Value.pointer (some ⟨w.heap.size + 1 + 1, 0, none⟩)], Value.int .u32 (fno nx k y.1), Value.pointer (some ⟨g, o + y.1 * 3, none⟩),
          undef, undef, undef, undef, undef, undef, undef, undef, undef, undef, undef, undef, undef, undef, undef], defers := [] }) ?assign ?body ?done ?stop
    case assign =>
      intro l x W K hK
      gi_wp2
      exact hK
    case body =>
      rintro l pre y W hI hlt
      have hpm : (pre ++ [y]).map Fin.val = pre.map Fin.val ++ [y.1] := by rw [List.map_append]; rfl
      have hcx := hI.b0.cell
      have hcc := hI.b1.cell
      have hfc := hI.b1.frozen
      have hcn : (ackC nx k x (pre.map Fin.val) : Int) ≤ 64 := by
        have h1 := ackC_le nx k x (pre.map Fin.val)
        rw [List.length_map] at h1
        have := hk64.out
        omega
      have hc0 : (0 : Int) ≤ (ackC nx k x (pre.map Fin.val) : Int) := Int.natCast_nonneg _
      have HI := Lib.hid hI
      have HL := Lib.hid (HLB.out y.1)
      clear hI HST HI0 HC HR HN hlow HLS HLB
      by_cases hl : 0 < ah (fno nx k y.1) x
      · have HE : Hid (KeepsFrom W0.heap.size W (W.setCell ⟨w.heap.size + 1, 0, none⟩ (.int .i64 ((ackC nx k x (pre.map Fin.val) + 1 : Nat) : Int))) ∧ KeepsFl (w.heap.size + 1 + 1) (some ⟨f, 0, none⟩) nx v k W (W.setCell ⟨w.heap.size + 1, 0, none⟩ (.int .i64 ((ackC nx k x (pre.map Fin.val) + 1 : Nat) : Int))) ∧
            AckR (some ⟨f, 0, none⟩) x w.heap.size w (ackC nx k x ((pre ++ [y]).map Fin.val)) (W.setCell ⟨w.heap.size + 1, 0, none⟩ (.int .i64 ((ackC nx k x (pre.map Fin.val) + 1 : Nat) : Int)))) := by
          refine Lib.hid ⟨(KeepsOthers.setCell _ _ _).from _, ⟨fun _ => ((HI.out.count _).b2).cell, fun _ => ?_⟩, ?_⟩
          · have := (HF.out.below (HI.out.count (ackC nx k x (pre.map Fin.val) + 1)).low).flo.c
            rwa [HK.out] at this
          · rw [hpm, ackC_yes hl]
            exact HI.out.count _
        rw [decide_eq_true hl] at HL
        clear hl
        gi_wp2_with (refine ⟨trivial, ?_⟩; gi_at_call 31; refine (CallsIn.inRound l (callsIn_wide.2 (HL.out _))).mono ?_; rintro e w' ⟨rfl, rfl⟩)
        exact HE.out
      · have HE : Hid (KeepsFrom W0.heap.size W W ∧ KeepsFl (w.heap.size + 1 + 1) (some ⟨f, 0, none⟩) nx v k W W ∧ AckR (some ⟨f, 0, none⟩) x w.heap.size w (ackC nx k x ((pre ++ [y]).map Fin.val)) W) :=
          Lib.hid ⟨(KeepsOthers.refl _).from _, keepsFl_refl, by rw [hpm, ackC_no hl]; exact HI.out⟩
        rw [decide_eq_false hl] at HL
        clear hl
        gi_wp2_with (refine ⟨trivial, ?_⟩; gi_at_call 31; refine (CallsIn.inRound l (callsIn_wide.2 (HL.out _))).mono ?_; rintro e w' ⟨rfl, rfl⟩)
        exact HE.out
    case done =>
      rintro D ys W hD rfl hI hK
      have hI' : AckR (some ⟨f, 0, none⟩) x w.heap.size w (ackN nx L.length x) W := by rw [HN.out, ← fin_vals k]; exact hI
      clear hI
      have hKk := ackN_le nx L.length x
      have hfW := HF.out.below hI'.low
      have hatd := hfW.own
      have c2 : W.drew.cell? ⟨f, 2, none⟩ = some v := hfW.own.cell 2 rfl
      have c5 : W.drew.cell? ⟨w.heap.size + 1, 0, none⟩ = some (.int .i64 (ackN nx L.length x : Nat)) := hI'.b1.cell
      obtain ⟨v', ⟨A', cap', hv'⟩, hdel⟩ := del_any (w := W.drew) (hfW.kept (grown_drew W none) (fun _ e => (nomatch e))).row HF.out.n64 hKk
      have HD := Lib.hid hdel
      have HFd := Lib.hid (hfW.kept (w' := W.drew) (grown_drew W none) (fun _ e => (nomatch e)))
      have HId := Lib.hid (hI'.own (W' := W.drew) (B := w.heap.size) (grown_drew W none) (fun _ e => (nomatch e)) rfl (Nat.le_refl _))
      have HKd : Hid (W.drew.heap[D]? = some (.deferred (some []))) := Lib.hid hK
      have HL := Lib.hid hlow.out
      generalize hKn : ackN nx L.length x = K at *
      subst hv'
      have HKn := Lib.hid hKn
      clear hfW hatd hdel hI' HST HI0 HC HR HLS HLB hlow hK hKn hKk HN
      gi_wp2
      apply wpIn_oneP (p := AckE f wd nx r (.slice A' (L.length - K) cap') L K w.heap.size D w)
      case h =>
        gi_region_with_o (refine ⟨trivial, ?_⟩; gi_at_call 55; refine (callsIn_wide.2 HD.out).mono ?_; rintro e w' ⟨rfl, hq, ht⟩; obtain ⟨hat, hE⟩ := ackE_of HFd.out rfl HFW.out HL.out HId.out HKd.out hq ht; have k2 := hat.cell 2 rfl; have f2 := hat.free 2; have HE := Lib.hid hE; clear hq ht hE hat)
        all_goals exact ⟨rfl, HE.out⟩
      rintro w' hE
      have c1 := hE.b1.cell
      have HE := Lib.hid hE
      clear hE
      gi_wp2
      refine ⟨by simp, .inl ⟨_, _, rfl, run_takeDeferred HE.out.d, ?_⟩⟩
      rw [HKn.out]
      have hg := grownBy_putObj' w' D (.deferred none)
      have hr : ∀ i, some D = some i → ∃ o : Obj, w'.heap[i]? = some o ∧ o.isCells = false := fun r e => by cases e; exact ⟨_, HE.out.d, rfl⟩
      exact ⟨_, results_tmp rfl _ _ _, _, rfl, HE.out.fl.kept hg hr, tn_own HE.out.tn hg (B := w.heap.size) (fun i e => by injection e with e; omega) (Nat.le_refl _)⟩
    case stop =>
      rintro D c pre W _ _ h _
      exact h.elim
end Go.Proofs.YtodokgkchmpmnaaGreat

/- Proved: lemmas of one statement's proof, merged by program: what each part proves stands ahead of it. Conditions: those that the lemmas name. -/
import Derived.Test.YtedecminaopgaaaRows
import Derived.KernelRfl
import Derived.WalkKit
import Derived.ProofKit
import Derived.LoopTactic
import Derived.Laws.BitsAllLaws
import Derived.Lib.Hide
import Derived.Deep.RegionLaw
import Derived.Lib.AppendZeros
import Derived.Test.YtedecminaopgaaaM3
import Derived.Lib.SlicesDelete
import Derived.Lib.SliceRun

/- Plain lemmas on regions that draw their order: an append whose run is known, and a region that comes to its end. No condition beyond those that each lemma names. -/
namespace Go.Proofs.Ytedecminaopgaaa
open Go.ChangeShapes Go.WideShapes Go.ChangeAt Go.RowKit

theorem step_append_run {P : Program} {w : World} {ops : Array Oper} {o : Oper} {a : Act} {K : Act → World → Prop} {Q : Exit → Act → World → Prop} {E : Prop} (hgd : o.guard = none) (s x : Operand) (t tn : TypeId)
    (ho : o.op = .call { callee := .builtin .append, args := #[s, x], argTypes := #[t, tn] }) (vs vx : Value) (hs : a.eval s = vs) (hx : a.eval x = vx)
    (v' : Value) (w' : World) (hr : (Builtin.append_ #[t, tn] o.type #[vs, vx]).run P w = .ok v' w') (h : K (a.put o.dst v') w') :
    if Region.wanted o (yielded ops a.tmps) = true then Oper.wp P o a w K Q else E := by
  have hw : Region.wanted o (yielded ops a.tmps) = true := by simp [Region.wanted, hgd]
  rw [if_pos hw]
  exact Lib.wp_append_run w s x t tn ho vs vx hs hx v' w' hr h
end Go.Proofs.Ytedecminaopgaaa

/- Plain lemmas on slices.Delete at the head of a slice that lies anywhere in a block of the call's own: what its append and its clear leave. No condition beyond those that each lemma names. -/
namespace Go.Proofs.Ytedecminaopgaaa
open Go.ChangeShapes Go.WideShapes Go.ChangeAt Go.RowKit

theorem run_clear_cells {P : Program} (w : World) (t e ty : TypeId) (z : Value) (ht : P.underlying t = some (.slice e)) (hv : ∀ w, (zeroValue e).run P w = .ok z w) (g o n c : Nat) (hn : 0 < n) (cur : Array Value) (hg : w.heap[g]? = some (.cells cur e (0, 0)))
    (hfit : o + n * z.cells.size ≤ cur.size) (h1 : ∀ u ∈ (Builtin.zeroCells z.cells n).toList, u.oneCell' = true) :
    (Builtin.clear_ #[t] ty #[.slice (some ⟨g, o, none⟩) n c]).run P w = .ok (.tuple #[]) (w.setRow g (cur.toList.take o ++ (Builtin.zeroCells z.cells n).toList ++ cur.toList.drop (o + n * z.cells.size)).toArray) := by
  have hl : (Builtin.zeroCells z.cells n).toList.length = n * z.cells.size := by simp [Builtin.zeroCells]
  have hst := run_storeCells_at P g o e (Builtin.zeroCells z.cells n).toList 0 cur w hg (by rw [hl]; exact hfit) h1
  simp only [Nat.add_zero] at hst
  rw [hl] at hst
  obtain ⟨m, rfl⟩ : ∃ m, n = m + 1 := ⟨n - 1, by omega⟩
  simp [Builtin.clear_, run_underlying ht, hv, hst]
/-- K are taken at the head, d are left: what the append does, and what the clear behind it. -/
theorem Qu.del {w : World} {r : Option Nat} {t e : TypeId} {k : Nat} {z : Value} {bytes : Nat} (ht : Try.prog.underlying t = some (.slice e)) (info : (Try.prog.info? e).map (fun i => (i.zero, i.size, i.bytes)) = some (some z, k, bytes)) (hzs : z.cells.size = k) (hv : ∀ w, (zeroValue e).run Try.prog w = .ok z w)
    (hz1' : ∀ n, ∀ u ∈ (Builtin.zeroCells z.cells n).toList, u.oneCell' = true) {g o d K cap : Nat} {xs : List Value} (hq : Qu w r e k (.slice (some ⟨g, o, none⟩) (d + K) cap) (d + K) xs) (one : ∀ u ∈ xs, u.oneCell' = true) (h0 : 0 < K) :
    d + K ≤ cap ∧ ∃ A W1 W2, (if cap = K then (some ⟨g, o, none⟩ : Option Addr) else some ⟨g, o + K * k, none⟩) = some A ∧
      (∀ ty, (Builtin.append_ #[t, t] ty #[.slice (some ⟨g, o, none⟩) 0 cap, .slice (some A) d (cap - K)]).run Try.prog w.drew = .ok (.slice (some ⟨g, o, none⟩) d cap) W1) ∧
      (∀ ty, (Builtin.clear_ #[t] ty #[.slice (some ⟨g, o + d * k, none⟩) K (cap - d)]).run Try.prog W1 = .ok (.tuple #[]) W2) ∧
      Qu W2 r e k (.slice (some ⟨g, o, none⟩) d cap) d (xs.drop (K * k)) ∧ Tn (fun i => r = some i) w W2 := by
  have hx := hq.1
  obtain ⟨cur, hr, hg, hc, hcm, hfit, hcells⟩ : ∃ cur, r = some g ∧ w.heap[g]? = some (.cells cur e (0, 0)) ∧ d + K ≤ cap ∧ cap ≤ maxLen ∧ o + cap * k ≤ cur.size ∧ (cur.toList.drop o).take ((d + K) * k) = xs := by
    rcases hq.2 with ⟨h, _⟩ | ⟨g', o', cap', cur, hr, hv, h⟩
    · cases h
    · injection hv with hv _ hc
      injection hv with hv
      injection hv with hg ho
      subst hg; subst ho; subst hc
      exact ⟨cur, hr, h⟩
  refine ⟨hc, ?_⟩
  obtain ⟨i0, hi0, hz0, hz1, hz2⟩ := info_parts info
  obtain ⟨news, hnews⟩ : ∃ news, news = xs.drop (K * k) := ⟨_, rfl⟩
  have hdk : (d + K) * k = d * k + K * k := Nat.add_mul _ _ _
  have hnl : news.length = d * k := by rw [hnews, List.length_drop, hx]; omega
  have hcl : cur.toList.length = cur.size := Array.length_toList
  have hck : (d + K) * k ≤ cap * k := Nat.mul_le_mul_right k hc
  have hdc : d * k ≤ cap * k := Nat.mul_le_mul_right k (by omega)
  have hsrc : ∀ (W : World), W.heap[g]? = some (.cells cur e (0, 0)) → ∀ j u, news[j]? = some u → W.cell? ((⟨g, o + K * k, none⟩ : Addr).add j) = some u := by
    intro W hW j u hu
    rw [hnews, ← hcells, List.getElem?_drop, List.getElem?_take] at hu
    split at hu
    · rw [Addr.add_lit, cell_of_row W g _ cur _ (0, 0) hW]
      rw [List.getElem?_drop] at hu
      rw [← Array.getElem?_toList, Nat.add_assoc]
      exact hu
    · cases hu
  have h1 : ∀ u ∈ news, u.oneCell' = true := fun u hu => one u (by rw [hnews] at hu; exact List.mem_of_mem_drop hu)
  have ha : ∀ W : World, W.heap[g]? = some (.cells cur e (0, 0)) → ∀ ty A, (A = (⟨g, o + K * k, none⟩ : Addr) ∨ d = 0) → ∀ c, (Builtin.append_ #[t, t] ty #[.slice (some ⟨g, o, none⟩) 0 cap, .slice (some A) d c]).run Try.prog W =
      .ok (.slice (some ⟨g, o, none⟩) d cap) (W.setRow g (cur.toList.take o ++ news ++ cur.toList.drop (o + d * k)).toArray) := fun W hW ty A hA c => by
    have := run_append_room_off (P := Try.prog) W t ty e i0 ht hi0 g o 0 cap cur hW A d c news (by rw [hnl, hz1]) (by
      rcases hA with rfl | e
      · exact hsrc W hW
      · intro j u hu
        have hn0 : news = [] := List.eq_nil_of_length_eq_zero (by rw [hnl, e, Nat.zero_mul])
        rw [hn0] at hu; simp at hu) h1 (by omega) (by rw [hz1, hnl]; omega)
    rw [hz1, hnl] at this
    simpa using this
  obtain ⟨A, hA, hA'⟩ : ∃ A : Addr, (if cap = K then (some ⟨g, o, none⟩ : Option Addr) else some ⟨g, o + K * k, none⟩) = some A ∧ (A = (⟨g, o + K * k, none⟩ : Addr) ∨ d = 0) := by
    by_cases e : cap = K
    · exact ⟨_, by rw [if_pos e], .inr (by omega)⟩
    · exact ⟨_, by rw [if_neg e], .inl rfl⟩
  obtain ⟨c1, hc1⟩ : ∃ c1, c1 = (cur.toList.take o ++ news ++ cur.toList.drop (o + d * k)).toArray := ⟨_, rfl⟩
  have hs1 : c1.size = cur.size := by
    rw [hc1]
    simp only [List.size_toArray, List.length_append, List.length_take, List.length_drop, hnl, hcl]
    omega
  have hap := fun ty => ha w.drew hg ty A hA' (cap - K)
  rw [← hc1] at hap
  obtain ⟨W1, hW1⟩ : ∃ W1, W1 = w.drew.setRow g c1 := ⟨_, rfl⟩
  rw [← hW1] at hap
  have hg1 : W1.heap[g]? = some (.cells c1 e (0, 0)) := by rw [hW1]; exact setRow_heap w.drew g cur c1 _ _ hg
  have hclr := fun ty => run_clear_cells (P := Try.prog) W1 t e ty z ht hv g (o + d * k) K (cap - d) h0 c1 hg1 (by rw [hzs, hs1]; omega) (hz1' K)
  rw [hzs] at hclr
  obtain ⟨c2, hc2⟩ : ∃ c2, c2 = (c1.toList.take (o + d * k) ++ (Builtin.zeroCells z.cells K).toList ++ c1.toList.drop (o + d * k + K * k)).toArray := ⟨_, rfl⟩
  rw [← hc2] at hclr
  obtain ⟨W2, hW2⟩ : ∃ W2, W2 = W1.setRow g c2 := ⟨_, rfl⟩
  rw [← hW2] at hclr
  have hzl : (Builtin.zeroCells z.cells K).toList.length = K * k := by simp [Builtin.zeroCells, hzs]
  have hl1 : c1.toList.length = cur.size := by rw [Array.length_toList, hs1]
  refine ⟨A, W1, W2, hA, hap, hclr, ⟨by rw [← hnews]; exact hnl, .inr ⟨g, o, cap, c2, hr, rfl, by rw [hW2]; exact setRow_heap W1 g c1 c2 _ _ hg1, by omega, hcm, ?_, ?_⟩⟩, ?_⟩
  · rw [hc2]
    simp only [List.size_toArray, List.length_append, List.length_take, List.length_drop, hzl, hl1]
    omega
  · rw [hc2, ← hnews, List.append_assoc]
    have e1 : (c1.toList.take (o + d * k)) = cur.toList.take o ++ news := by
      rw [hc1]
      have e2 : (cur.toList.take o ++ news).length = o + d * k := by rw [List.length_append, List.length_take, hcl, hnl]; omega
      rw [← e2]
      exact List.take_left
    rw [e1, List.append_assoc]
    have e3 : (cur.toList.take o).length = o := by rw [List.length_take, hcl]; omega
    have e4 : ∀ R : List Value, (cur.toList.take o ++ (news ++ R)).drop o = news ++ R := fun R => by
      have := List.drop_left (l₁ := cur.toList.take o) (l₂ := news ++ R)
      rwa [e3] at this
    rw [e4, ← hnl, List.take_left]
  · have t1 : Tn (fun i => r = some i) w W1 := by
      rw [hW1]
      exact (Tn.refl _ w).drew.trans ⟨rfl, rfl, rfl, by simp [World.setRow], fun j hj hn => setRow_other _ g j _ (fun e => hn (by rw [hr, e]))⟩
    refine t1.trans ?_
    rw [hW2]
    exact ⟨rfl, rfl, rfl, by simp [World.setRow], fun j hj hn => setRow_other _ g j _ (fun e => hn (by rw [hr, e]))⟩
end Go.Proofs.Ytedecminaopgaaa

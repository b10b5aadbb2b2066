/- Plain lemmas on zeros that come in at the end of a slice which lies anywhere in a block of the call's own ('append(s, make(S, m)...)'). No condition beyond those that each lemma names. -/
import Derived.Test.YtifekpdjenfnbaaQue
import Derived.Lib.AppendZerosOnto
namespace Go.Proofs.Ytifekpdjenfnbaa
open Go.ChangeShapes Go.WideShapes Go.ChangeAt Go.RowKit
set_option maxRecDepth 100000

theorem zeros_len (z : Array Value) (m : Nat) : (Builtin.zeroCells z m).toList.length = m * z.size := by simp [Builtin.zeroCells]
theorem run_append_no_zeros {P : Program} (w : World) (t tn ty e : TypeId) (i : TypeInfo) (kn : IntKind) (ht : P.underlying t = some (.slice e)) (htn : P.underlying tn = some (.int kn)) (hi : P.info? e = some i) (base : Option Addr) (sLen sCap : Nat) (hc : sLen ≤ sCap) :
    (Builtin.append_ #[t, tn] ty #[.slice base sLen sCap, .int .i64 0]).run P w = .ok (.slice base sLen sCap) w := by
  have hw : IntKind.i64.wrap 0 = 0 := by decide
  cases base <;> simp [Builtin.append_, run_underlying ht, run_underlying htn, sizeOf, typeInfo, hi, asInt, asIntOf, hw, hc, storeCells]
theorem run_append_room_zeros {P : Program} (w : World) (t tn ty e : TypeId) (i : TypeInfo) (z : Value) (kn : IntKind) (ht : P.underlying t = some (.slice e)) (htn : P.underlying tn = some (.int kn)) (hi : P.info? e = some i) (hz : i.zero = some z) (hsz : z.cells.size = i.size)
    (g o sLen sCap : Nat) (cur : Array Value) (hg : w.heap[g]? = some (.cells cur e (0, 0))) (m : Nat) (h0 : 0 < m) (hs : 0 < i.size) (hm : m ≤ 70000) (h48 : m * i.bytes ≤ 281474976710656) (h1 : ∀ u ∈ (Builtin.zeroCells z.cells m).toList, u.oneCell' = true)
    (hroom : sLen + m ≤ sCap) (hfit : o + sLen * i.size + m * i.size ≤ cur.size) :
    (Builtin.append_ #[t, tn] ty #[.slice (some ⟨g, o, none⟩) sLen sCap, .int .i64 m]).run P w =
      .ok (.slice (some ⟨g, o, none⟩) (sLen + m) sCap) (w.setRow g (cur.toList.take (o + sLen * i.size) ++ (Builtin.zeroCells z.cells m).toList ++ cur.toList.drop (o + sLen * i.size + m * i.size)).toArray) := by
  have hl := zeros_len z.cells m
  rw [hsz] at hl
  have hst := run_storeCells_at P g (o + sLen * i.size) e (Builtin.zeroCells z.cells m).toList 0 cur w hg (by rw [hl]; simpa using hfit) h1
  simp only [Nat.add_zero] at hst
  rw [hl] at hst
  have hw : IntKind.i64.wrap (m : Int) = m := by rw [IntKind.wrap_i64]; omega
  have h48i : ¬ (281474976710656 < (m : Int) * (i.bytes : Int)) := by
    rw [← Int.natCast_mul]
    omega
  have hneg : ¬ ((m : Int) < 0) := by omega
  have hm0 : m ≠ 0 := by omega
  have hns : ¬ (m * i.size = 0) := Nat.mul_ne_zero hm0 (by omega)
  simp [Builtin.append_, run_underlying ht, run_underlying htn, sizeOf, typeInfo, zeroValue, hi, hz, asInt, asIntOf, hw, hroom, hneg, hns, h48i, Addr.add_lit, hst]
section
variable {w : World} {r : Option Nat} {e : TypeId} {k n : Nat} {v : Value} {xs : List Value}
/-- m zeros more. -/
theorem Qu.zeros {t tn ty : TypeId} {z : Value} {bytes : Nat} {kn : IntKind} (ht : Try.prog.underlying t = some (.slice e)) (htn : Try.prog.underlying tn = some (.int kn)) (info : (Try.prog.info? e).map (fun i => (i.zero, i.size, i.bytes)) = some (some z, k, bytes)) (hzs : z.cells.size = k) (hk : 0 < k) (hby : bytes ≤ 1000)
    (one : ∀ m, ∀ u ∈ (Builtin.zeroCells z.cells m).toList, u.oneCell' = true) (h : Qu w r e k v n xs) {m : Nat} (hn : n + m ≤ 65536) :
    ∃ v' w' r', (Builtin.append_ #[t, tn] ty #[v, .int .i64 (m : Nat)]).run Try.prog w = .ok v' w' ∧ Qu w' r' e k v' (n + m) (xs ++ (Builtin.zeroCells z.cells m).toList) ∧ (r' = r ∨ ∃ g, r' = some g ∧ w.heap.size ≤ g) ∧ Tn (fun i => r = some i) w w' := by
  obtain ⟨i, hi, hz0, hz1, hz2⟩ := info_parts info
  have hcap : ∃ A cap, v = .slice A n cap ∧ n ≤ cap := by
    rcases h.2 with ⟨rfl, rfl, _⟩ | ⟨g, o, cap, cur, _, rfl, _, hc, _⟩
    · exact ⟨_, _, rfl, Nat.le_refl _⟩
    · exact ⟨_, _, rfl, hc⟩
  rcases Nat.eq_zero_or_pos m with rfl | h0
  · obtain ⟨A, cap, rfl, hc⟩ := hcap
    refine ⟨_, w, r, run_append_no_zeros w t tn ty e i kn ht htn hi A n cap hc, ?_, .inl rfl, Tn.refl _ _⟩
    have : (Builtin.zeroCells z.cells 0).toList = [] := List.eq_nil_of_length_eq_zero (by rw [zeros_len, Nat.zero_mul])
    rw [this, List.append_nil]
    exact h
  have hzl := zeros_len z.cells m
  rw [hzs] at hzl
  have hmb : m * bytes ≤ 281474976710656 := Nat.le_trans (Nat.mul_le_mul (by omega : m ≤ 70000) hby) (by decide)
  have hnb : (n + m) * bytes ≤ 140737488355328 := Nat.le_trans (Nat.mul_le_mul (by omega : n + m ≤ 70000) hby) (by decide)
  have grown : ∀ (A : Option Addr) (cap : Nat), v = .slice A n cap → cap < n + m → (Builtin.firstCells i.size n (.slice A n cap)).run Try.prog w.drew = .ok xs.toArray w.drew →
      ∃ v' w' r', (Builtin.append_ #[t, tn] ty #[v, .int .i64 (m : Nat)]).run Try.prog w = .ok v' w' ∧ Qu w' r' e k v' (n + m) (xs ++ (Builtin.zeroCells z.cells m).toList) ∧ (r' = r ∨ ∃ g, r' = some g ∧ w.heap.size ≤ g) ∧ Tn (fun i => r = some i) w w' := fun A cap hv hlt hold => by
    have hrun := Lib.run_append_grow_zeros (P := Try.prog) w t tn ty e i z .i64 kn ht htn hi hz0 A n cap xs hold m h0 (by omega) hlt (by omega) (by rw [hz2]; exact hmb) (growslice_fits hlt (by rw [hz2]; exact hnb))
    rw [← hv] at hrun
    have hge := grownCap_ge w (n + m) cap e
    have hle := grownCap_le_maxLen w (n + m) cap e (by unfold maxLen; omega)
    generalize grownCap w (n + m) cap e = G at hrun hge hle
    refine ⟨_, _, some w.heap.size, hrun, ⟨by rw [List.length_append, h.1, hzl, Nat.add_mul], .inr ⟨w.heap.size, 0, G, _, rfl, rfl, heap_alloc_new w.drew _, hge, hle, ?_, ?_⟩⟩, .inr ⟨_, rfl, Nat.le_refl _⟩, (Tn.refl _ w).drew.alloc _⟩
    · simp only [Array.size_append, size_zeroCells, hzs, List.size_toArray, h.1]
      rw [← Nat.add_mul, ← Nat.add_mul, Nat.zero_add]
      exact Nat.mul_le_mul_right k (by omega)
    · simp only [Array.toList_append, List.drop_zero]
      have e2 : (xs ++ (Builtin.zeroCells z.cells m).toList).length = (n + m) * k := by rw [List.length_append, h.1, hzl, Nat.add_mul]
      rw [← e2, List.take_left]
  rcases h.2 with ⟨hv, hn0, _⟩ | ⟨g, o, cap, cur, hr, hv, hg, q1, q2, q3, q4⟩
  · refine grown none 0 (by rw [hv, hn0]) (by omega) ?_
    have hx : xs = [] := List.eq_nil_of_length_eq_zero (by rw [h.1, hn0, Nat.zero_mul])
    rw [hx]
    exact run_firstCells_none w.drew i.size n n 0
  · have hcl : cur.toList.length = cur.size := Array.length_toList
    by_cases hroom : n + m ≤ cap
    · have hck : (n + m) * k ≤ cap * k := Nat.mul_le_mul_right k hroom
      rw [Nat.add_mul] at hck
      have hrun := run_append_room_zeros (P := Try.prog) w t tn ty e i z kn ht htn hi hz0 (by rw [hzs, hz1]) g o n cap cur hg m h0 (by omega) (by omega) (by rw [hz2]; exact hmb) (one m) hroom (by rw [hz1]; omega)
      rw [← hv, hz1] at hrun
      refine ⟨_, _, some g, hrun, ⟨by rw [List.length_append, h.1, hzl, Nat.add_mul], .inr ⟨g, o, cap, _, rfl, rfl, setRow_heap w g cur _ _ _ hg, hroom, q2, ?_, ?_⟩⟩, .inl hr.symm, ⟨rfl, rfl, rfl, by simp [World.setRow], fun j hj hn => setRow_other w g j _ (fun e => hn (by rw [hr, e]))⟩⟩
      · simp only [List.size_toArray, List.length_append, List.length_take, List.length_drop, hzl, hcl]
        omega
      · rw [← q4]
        have e1 : (cur.toList.take (o + n * k)).length = o + n * k := by rw [List.length_take, hcl]; omega
        rw [List.append_assoc, List.drop_append_of_le_length (by rw [e1]; omega), List.drop_take, show o + n * k - o = n * k by omega, ← List.append_assoc]
        have e2 : (List.take (n * k) (List.drop o cur.toList) ++ (Builtin.zeroCells z.cells m).toList).length = (n + m) * k := by
          rw [List.length_append, List.length_take, List.length_drop, hcl, hzl, Nat.add_mul]; omega
        rw [← e2, List.take_left]
    · refine grown (some ⟨g, o, none⟩) cap hv (by omega) ?_
      refine run_firstCells_some w.drew i.size n ⟨g, o, none⟩ n cap xs (by rw [h.1, hz1]) fun j u hu => ?_
      rw [Addr.add_lit]
      show w.cell? ⟨g, o + j, none⟩ = _
      rw [cell_of_row w g (o + j) cur _ (0, 0) hg]
      rw [← q4, List.getElem?_take] at hu
      split at hu
      · simpa using hu
      · cases hu
end
end Go.Proofs.Ytifekpdjenfnbaa

/- Proved: lemmas of one statement's proof, merged by program: what each part proves stands ahead of it. Conditions: those that the lemmas name. -/
import Derived.Test.YtedecminaopgaaaM2

/- Plain lemmas on slices that lie anywhere in a block of the call's own: items are taken at their head, and come in at their end. No condition beyond those that each lemma names. -/
namespace Go.Proofs.Ytedecminaopgaaa
open Go.ChangeShapes Go.WideShapes Go.ChangeAt Go.RowKit
set_option maxRecDepth 100000

/-- The slice v, of n elements of k cells each, holds these cells; r is its block, if it has one. -/
def Qu (w : World) (r : Option Nat) (e : TypeId) (k : Nat) (v : Value) (n : Nat) (xs : List Value) : Prop :=
  xs.length = n * k ∧ ((v = .slice none 0 0 ∧ n = 0 ∧ r = none) ∨
  ∃ g o cap cur, r = some g ∧ v = .slice (some ⟨g, o, none⟩) n cap ∧ w.heap[g]? = some (.cells cur e (0, 0)) ∧ n ≤ cap ∧ cap ≤ maxLen ∧ o + cap * k ≤ cur.size ∧ (cur.toList.drop o).take (n * k) = xs)
section
variable {w w' : World} {r : Option Nat} {e : TypeId} {k n : Nat} {v : Value} {xs : List Value}
theorem Qu.nil (w : World) (e : TypeId) (k : Nat) : Qu w none e k (.slice none 0 0) 0 [] := ⟨by simp, .inl ⟨rfl, rfl, rfl⟩⟩
theorem Qu.form (h : Qu w r e k v n xs) : ∃ A cap, v = .slice A n cap := by
  rcases h.2 with ⟨rfl, rfl, _⟩ | ⟨g, o, cap, cur, _, rfl, _⟩
  · exact ⟨_, _, rfl⟩
  · exact ⟨_, _, rfl⟩
theorem Qu.tn {c : Nat → Prop} (h : Qu w r e k v n xs) (t : Tn c w w') (hc : ∀ g, r = some g → ¬ c g) : Qu w' r e k v n xs := by
  refine ⟨h.1, ?_⟩
  rcases h.2 with h | ⟨g, o, cap, cur, hr, rfl, hb, q⟩
  · exact .inl h
  · exact .inr ⟨g, o, cap, cur, hr, rfl, (t.block g (Array.getElem?_eq_some_iff.1 hb).1 (hc g hr)).trans hb, q⟩
/-- what lies there. -/
theorem Qu.head (h : Qu w r e k v n xs) (hn : 0 < n) :
    ∃ g o cap, r = some g ∧ v = .slice (some ⟨g, o, none⟩) n cap ∧ g < w.heap.size ∧ n ≤ cap ∧ (∀ j u, xs[j]? = some u → w.cell? ⟨g, o + j, none⟩ = some u) ∧ ∀ j, w.frozen? ⟨g, j, none⟩ = false := by
  rcases h.2 with ⟨_, h0, _⟩ | ⟨g, o, cap, cur, hr, rfl, hb, h1, h2, h3, h4⟩
  · omega
  · refine ⟨g, o, cap, hr, rfl, (Array.getElem?_eq_some_iff.1 hb).1, h1, fun j u hj => ?_, fun j => by simp [World.frozen?, hb]⟩
    rw [cell_of_row w g (o + j) cur _ (0, 0) hb]
    rw [← h4, List.getElem?_take] at hj
    split at hj
    · simpa using hj
    · cases hj
/-- one of its cells is another one. -/
theorem Qu.set_ {g o cap : Nat} (h : Qu w r e k (.slice (some ⟨g, o, none⟩) n cap) n xs) {j : Nat} (hj : j < n * k) (u : Value) : Qu (w.setCell ⟨g, o + j, none⟩ u) r e k (.slice (some ⟨g, o, none⟩) n cap) n (xs.set j u) := by
  refine ⟨by rw [List.length_set]; exact h.1, ?_⟩
  rcases h.2 with ⟨h, _⟩ | ⟨g', o', cap', cur, hr, hv, hb, h1, h2, h3, h4⟩
  · cases h
  · injection hv with hv _ hc
    injection hv with hv
    injection hv with hg ho
    subst hg; subst ho; subst hc
    refine .inr ⟨g, o, cap, cur.setIfInBounds (o + j) u, hr, rfl, ?_, h1, h2, by simpa using h3, ?_⟩
    · simp [World.setCell, Array.getElem?_modify, hb]
    · rw [← h4]
      simp only [Array.toList_setIfInBounds]
      refine List.ext_getElem? fun i => ?_
      rw [List.getElem?_take, List.getElem?_set, List.getElem?_drop, List.getElem?_set, List.getElem?_take, List.getElem?_drop, List.length_take, List.length_drop]
      have hcl : cur.toList.length = cur.size := Array.length_toList
      have hle : n * k ≤ cap * k := Nat.mul_le_mul_right k h1
      by_cases hi : i < n * k
      · rw [if_pos hi, if_pos hi]
        by_cases he : j = i
        · subst he
          rw [if_pos rfl, if_pos rfl, if_pos (by rw [hcl]; omega), if_pos (by rw [hcl]; omega)]
        · rw [if_neg (by omega), if_neg he]
      · rw [if_neg hi, if_neg (by omega), if_neg hi]
theorem run_append_room_off {P : Program} (w : World) (t ty e : TypeId) (i : TypeInfo) (ht : P.underlying t = some (.slice e)) (hi : P.info? e = some i)
    (g o sLen sCap : Nat) (cur : Array Value) (hg : w.heap[g]? = some (.cells cur e (0, 0)))
    (a : Addr) (m c : Nat) (news : List Value) (hl : news.length = m * i.size) (hnews : ∀ j u, news[j]? = some u → w.cell? (a.add j) = some u) (h1 : ∀ u ∈ news, u.oneCell' = true)
    (hroom : sLen + m ≤ sCap) (hfit : o + sLen * i.size + news.length ≤ cur.size) :
    (Builtin.append_ #[t, t] ty #[.slice (some ⟨g, o, none⟩) sLen sCap, .slice (some a) m c]).run P w =
      .ok (.slice (some ⟨g, o, none⟩) (sLen + m) sCap) (w.setRow g (cur.toList.take (o + sLen * i.size) ++ news ++ cur.toList.drop (o + sLen * i.size + news.length)).toArray) := by
  have hf := run_firstCells_some (P := P) w i.size m a m c news hl hnews
  have hst := run_storeCells_at P g (o + sLen * i.size) e news 0 cur w hg (by simpa using hfit) h1
  simp only [Nat.add_zero] at hst
  simp [Builtin.append_, run_underlying ht, sizeOf, typeInfo, hi, Builtin.lenOf, hroom, hf, Addr.add_lit, hst]
end
end Go.Proofs.Ytedecminaopgaaa

/- Plain lemmas on a row of bytes that a call made of a text: what it holds, what a store leaves, and what it reads as. No condition beyond those that each lemma names. -/
import Derived.Test.YtgnalabblhokmaaTxt
namespace Go.Proofs.Ytgnalabblhokmaa
open Go.ChangeShapes Go.WideShapes Go.ChangeAt Go.RowKit

/-- Block g is a row of the call's own, made of a text, whose first n cells are the bytes l. -/
def OwnC (w : World) (g n : Nat) (l : List Nat) : Prop :=
  l.length = n ∧ (∀ j, l.getD j 0 < 256) ∧ ∃ (cur : Array Value) (m : Nat), w.heap[g]? = some (.cells cur 5 (m, m + 1)) ∧ n ≤ m ∧ ∀ j, j < n → cur[j]? = some (.int .u8 (l.getD j 0 : Nat))
theorem OwnC.lt {w : World} {g n : Nat} {l : List Nat} (h : OwnC w g n l) : g < w.heap.size := by
  obtain ⟨_, _, cur, m, hc, _⟩ := h
  exact (Array.getElem?_eq_some_iff.1 hc).1
theorem OwnC.cell {w : World} {g n : Nat} {l : List Nat} (h : OwnC w g n l) {j : Nat} (hj : j < n) : w.cell? ⟨g, j, none⟩ = some (.int .u8 (l.getD j 0 : Nat)) := by
  obtain ⟨_, _, cur, m, hc, _, hr⟩ := h
  rw [cell_of_row w g j cur _ (m, m + 1) hc]
  exact hr j hj
theorem OwnC.frozen {w : World} {g n : Nat} {l : List Nat} (h : OwnC w g n l) {j : Nat} (hj : j < n) : w.frozen? ⟨g, j, none⟩ = false := by
  obtain ⟨_, _, cur, m, hc, hm, _⟩ := h
  simp [World.frozen?, hc]
  omega
theorem OwnC.set_ {w : World} {g n : Nat} {l : List Nat} (h : OwnC w g n l) {j x : Nat} (hj : j < n) (hx : x < 256) : OwnC (w.setCell ⟨g, j, none⟩ (.int .u8 (x : Nat))) g n (l.set j x) := by
  obtain ⟨hl, hb, cur, m, hc, hm, hr⟩ := h
  have hget : ∀ i, (l.set j x).getD i 0 = if j = i then x else l.getD i 0 := by
    intro i
    rw [List.getD_eq_getElem?_getD, List.getElem?_set]
    by_cases e : j = i
    · rw [if_pos e, if_pos e, if_pos (by omega)]; rfl
    · rw [if_neg e, if_neg e, ← List.getD_eq_getElem?_getD]
  refine ⟨by rw [List.length_set, hl], fun i => ?_, cur.setIfInBounds j (.int .u8 (x : Nat)), m, ?_, hm, fun i hi => ?_⟩
  · rw [hget]; split
    · exact hx
    · exact hb i
  · simp [World.setCell, Array.getElem?_modify, hc]
  · rw [hget, Array.getElem?_setIfInBounds]
    have hsz : i < cur.size := (Array.getElem?_eq_some_iff.1 (hr i hi)).1
    by_cases e : j = i
    · rw [if_pos e, if_pos e, if_pos (by omega)]
    · rw [if_neg e, if_neg e]; exact hr i hi
theorem OwnC.bs {w : World} {g n : Nat} {l : List Nat} (h : OwnC w g n l) : Bs w (some ⟨g, 0, none⟩) n l :=
  ⟨h.1, h.2.1, fun _ => ⟨_, rfl, h.lt, fun j hj => by
    have e : (⟨g, 0, none⟩ : Addr).add j = ⟨g, j, none⟩ := by unfold Addr.add; split <;> simp_all
    rw [e]; exact h.cell hj⟩⟩
theorem OwnC.below {w w' : World} {B g n : Nat} {l : List Nat} (h : OwnC w g n l) (hb : Below B w w') (hg : g < B) : OwnC w' g n l := by
  obtain ⟨hl, hx, cur, m, hc, hm, hr⟩ := h
  exact ⟨hl, hx, cur, m, (hb.block g hg).trans hc, hm, hr⟩
/-- a text turned into bytes: a new row of the call's own. -/
theorem convert_own (w : World) (s : ByteArray) : ∃ cap W', s.size ≤ cap ∧ (convert 9 71 (.string s)).run Try.prog w = .ok (.slice (some ⟨w.heap.size, 0, none⟩) s.size cap) W' ∧ OwnC W' w.heap.size s.size (bts s) ∧ Below w.heap.size w W' := by
  refine ⟨_, _, grownCap_ge w s.size 0 5, run_bytes_of_string w 9 71 5 s Try.underlying9 Try.underlying71 Try.underlying5, ⟨bts_len s, bts_lt s, _, _, heap_alloc_new w.drew _, ?_, fun j hj => ?_⟩, ((Below.refl _ _).drew).alloc (by simp) _⟩
  · unfold bytesRow
    rw [Array.size_append, Array.size_map]
    show s.size ≤ s.data.size + _
    have : s.data.size = s.size := rfl
    omega
  · have hj' : j < s.data.size := hj
    unfold bytesRow bts
    rw [Array.getElem?_append_left (by simpa using hj'), Array.getElem?_map, Array.getElem?_eq_getElem hj', List.getD_eq_getElem?_getD, List.getElem?_map, Array.getElem?_toList, Array.getElem?_eq_getElem hj']
    rfl
end Go.Proofs.Ytgnalabblhokmaa

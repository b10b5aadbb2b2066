/- Plain lemmas on memory that holds a row of bytes: a slice that reads as a list of numbers below 256, and a block of the call's own that holds one. No condition beyond those that each lemma names. -/
import Derived.Test.YtamcpdhehipcfaaGfBase
import Derived.ArgAppend
import Derived.Below
namespace Go.Proofs.Ytamcpdhehipcfaa
open Go.ChangeShapes Go.WideShapes Go.ChangeAt Go.RowKit

theorem add_block (a : Addr) (n : Nat) : (a.add n).block = a.block := by unfold Addr.add; split <;> rfl

/-- The slice value with address A and length n holds the bytes l, in memory that is there. -/
def Bs (w : World) (A : Option Addr) (n : Nat) (l : List Nat) : Prop :=
  l.length = n ∧ (∀ j, l.getD j 0 < 256) ∧ (0 < n → ∃ ad, A = some ad ∧ ad.block < w.heap.size ∧ ∀ j, j < n → w.cell? (ad.add j) = some (.int .u8 (l.getD j 0 : Nat)))

theorem getD_lt {l : List Nat} (h : ∀ x ∈ l, x < 256) (j : Nat) : l.getD j 0 < 256 := by
  rw [List.getD_eq_getElem?_getD]
  cases e : l[j]? with
  | none => exact (by decide : 0 < 256)
  | some x => exact h x (List.mem_of_getElem? e)
theorem mem_lt {l : List Nat} (h : ∀ j, l.getD j 0 < 256) : ∀ x ∈ l, x < 256 := by
  intro x hx
  obtain ⟨j, hj, rfl⟩ := List.getElem_of_mem hx
  have := h j
  rwa [List.getD_eq_getElem?_getD, List.getElem?_eq_getElem hj] at this

theorem Bs.nil (w : World) (A : Option Addr) : Bs w A 0 [] := ⟨rfl, fun j => by simp, fun h => absurd h (by omega)⟩
theorem Bs.len {w : World} {A : Option Addr} {n : Nat} {l : List Nat} (h : Bs w A n l) : l.length = n := h.1
theorem Bs.lt {w : World} {A : Option Addr} {n : Nat} {l : List Nat} (h : Bs w A n l) (j : Nat) : l.getD j 0 < 256 := h.2.1 j
theorem Bs.at_ {w : World} {A : Option Addr} {n : Nat} {l : List Nat} (h : Bs w A n l) {k : Nat} (hk : k < n) :
    ∃ ad, A = some ad ∧ ad.block < w.heap.size ∧ w.cell? (ad.add k) = some (.int .u8 (l.getD k 0 : Nat)) := by
  obtain ⟨ad, e, hb, hc⟩ := h.2.2 (by omega)
  exact ⟨ad, e, hb, hc k hk⟩
theorem Bs.below {w w' : World} {A : Option Addr} {n : Nat} {l : List Nat} (h : Bs w A n l) (hb : Below w.heap.size w w') : Bs w' A n l := by
  refine ⟨h.1, h.2.1, fun hn => ?_⟩
  obtain ⟨ad, e, hlt, hc⟩ := h.2.2 hn
  exact ⟨ad, e, Nat.lt_of_lt_of_le hlt hb.size, fun j hj => (hb.cell (p := ad.add j) (by rw [add_block]; exact hlt)).trans (hc j hj)⟩

/-- Block g is a row of the call's own, whose first n cells are the bytes l. -/
def Own (w : World) (g n : Nat) (l : List Nat) : Prop :=
  l.length = n ∧ (∀ j, l.getD j 0 < 256) ∧ ∃ cur, w.heap[g]? = some (.cells cur 5 (0, 0)) ∧ ∀ j, j < n → cur[j]? = some (.int .u8 (l.getD j 0 : Nat))

theorem Own.block_lt {w : World} {g n : Nat} {l : List Nat} (h : Own w g n l) : g < w.heap.size := by
  obtain ⟨_, _, cur, hc, _⟩ := h
  exact (Array.getElem?_eq_some_iff.1 hc).1
theorem Own.cell {w : World} {g n : Nat} {l : List Nat} (h : Own w g n l) {j : Nat} (hj : j < n) : w.cell? ⟨g, j, none⟩ = some (.int .u8 (l.getD j 0 : Nat)) := by
  obtain ⟨_, _, cur, hc, hr⟩ := h
  rw [cell_of_row w g j cur _ (0, 0) hc]
  exact hr j hj
theorem Own.frozen {w : World} {g n : Nat} {l : List Nat} (h : Own w g n l) (j : Nat) : w.frozen? ⟨g, j, none⟩ = false := by
  obtain ⟨_, _, cur, hc, _⟩ := h
  simp [World.frozen?, hc]
theorem Own.set_ {w : World} {g n : Nat} {l : List Nat} (h : Own w g n l) {j x : Nat} (hj : j < n) (hx : x < 256) : Own (w.setCell ⟨g, j, none⟩ (.int .u8 (x : Nat))) g n (l.set j x) := by
  obtain ⟨hl, hb, cur, hc, hr⟩ := h
  have hget : ∀ i, (l.set j x).getD i 0 = if j = i then x else l.getD i 0 := by
    intro i
    rw [List.getD_eq_getElem?_getD, List.getElem?_set]
    by_cases e : j = i
    · rw [if_pos e, if_pos e, if_pos (by omega)]; rfl
    · rw [if_neg e, if_neg e, ← List.getD_eq_getElem?_getD]
  refine ⟨by rw [List.length_set, hl], fun i => ?_, cur.setIfInBounds j (.int .u8 (x : Nat)), ?_, fun i hi => ?_⟩
  · rw [hget]; split
    · exact hx
    · exact hb i
  · simp [World.setCell, Array.getElem?_modify, hc]
  · rw [hget, Array.getElem?_setIfInBounds]
    have hsz : i < cur.size := (Array.getElem?_eq_some_iff.1 (hr i hi)).1
    by_cases e : j = i
    · rw [if_pos e, if_pos e, if_pos (by omega)]
    · rw [if_neg e, if_neg e]; exact hr i hi
theorem Own.bs {w : World} {g n : Nat} {l : List Nat} (h : Own w g n l) : Bs w (some ⟨g, 0, none⟩) n l :=
  ⟨h.1, h.2.1, fun _ => ⟨_, rfl, h.block_lt, fun j hj => by
    have e : (⟨g, 0, none⟩ : Addr).add j = ⟨g, j, none⟩ := by unfold Addr.add; split <;> simp_all
    rw [e]; exact h.cell hj⟩⟩

def cells (l : List Nat) : List Value := l.map fun x => Value.int .u8 (x : Nat)
theorem cells_at (l : List Nat) (j : Nat) (hj : j < l.length) : (cells l)[j]? = some (.int .u8 (l.getD j 0 : Nat)) := by
  unfold cells
  rw [List.getElem?_map, List.getElem?_eq_getElem hj, List.getD_eq_getElem?_getD, List.getElem?_eq_getElem hj]; rfl
theorem cells_len (l : List Nat) : (cells l).length = l.length := by unfold cells; rw [List.length_map]
theorem cells_one (l : List Nat) : ∀ u ∈ cells l, u.oneCell' = true := by
  intro u hu
  unfold cells at hu
  obtain ⟨x, _, rfl⟩ := List.mem_map.1 hu
  rfl
/-- What an append of a whole row asks of its source. -/
theorem Bs.source {w : World} {ad : Addr} {n : Nat} {l : List Nat} (h : Bs w (some ad) n l) : ∀ j u, (cells l)[j]? = some u → w.cell? (ad.add j) = some u := by
  intro j u hu
  have hj : j < l.length := by
    have := (List.getElem?_eq_some_iff.1 hu).1
    rwa [cells_len] at this
  obtain ⟨ad', e, _, hc⟩ := h.2.2 (by rw [← h.1]; omega)
  injection e with e
  subst e
  rw [cells_at l j hj] at hu
  rw [← hu]
  exact hc j (by rw [← h.1]; exact hj)
/-- What an append onto nothing leaves, as a row of the call's own. -/
theorem own_of {w : World} {base n : Nat} {v : Value} {l : List Nat} (h : w.ownsRow base 5 1 v n (cells l)) (hb : ∀ j, l.getD j 0 < 256) (hn : 0 < n) :
    ∃ g cap, v = .slice (some ⟨g, 0, none⟩) n cap ∧ base ≤ g ∧ n ≤ cap ∧ cap ≤ maxLen ∧ Own w g n l := by
  obtain ⟨hl, hv⟩ := h
  rw [cells_len, Nat.mul_one] at hl
  rcases hv with ⟨_, h0⟩ | ⟨g, cap, cur, rfl, hg, hc, h1, h2, h3, h4⟩
  · omega
  · refine ⟨g, cap, rfl, hg, h1, h2, hl, hb, cur, hc, fun j hj => ?_⟩
    rw [Nat.mul_one] at h4
    have h5 := cells_at l j (by omega)
    rw [← h4, List.getElem?_take, if_pos hj] at h5
    simpa using h5
end Go.Proofs.Ytamcpdhehipcfaa

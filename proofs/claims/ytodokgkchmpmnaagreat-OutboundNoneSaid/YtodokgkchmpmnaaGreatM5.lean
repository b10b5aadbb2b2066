/- Proved: lemmas of one statement's proof, merged by program: what each part proves stands ahead of it. Conditions: those that the lemmas name. -/
import Derived.Test.YtodokgkchmpmnaaGreatM2
import Derived.Test.YtodokgkchmpmnaaGreatM3
import Derived.Laws.World
import Derived.Deep.OwnRows
import Derived.Test.YtodokgkchmpmnaaGreatM1

/- Plain lemmas on memory that holds a table: a slice of slices that reads as a list of lists of numbers below 256, and a block of the call's own that holds one. No condition beyond those that each lemma names. -/
namespace Go.Proofs.YtodokgkchmpmnaaGreat
open Go.ChangeShapes Go.WideShapes Go.ChangeAt Go.RowKit

/-- row r of a table. -/
def rw_ (t : List (List Nat)) (r : Nat) : List Nat := t.getD r []
theorem rw_set (t : List (List Nat)) (k : Nat) (x : List Nat) (j : Nat) (hk : k < t.length) : rw_ (t.set k x) j = if k = j then x else rw_ t j := by
  unfold rw_
  rw [List.getD_eq_getElem?_getD, List.getElem?_set]
  by_cases e : k = j
  · rw [if_pos e, if_pos e, if_pos (by omega)]; rfl
  · rw [if_neg e, if_neg e, ← List.getD_eq_getElem?_getD]

/-- The slice value with address A and length n holds the rows t, in memory that is there. -/
def Rows (w : World) (A : Option Addr) (n : Nat) (t : List (List Nat)) : Prop :=
  t.length = n ∧ (0 < n → ∃ ad, A = some ad ∧ ad.block < w.heap.size ∧ ∀ r, r < n → ∃ B c, w.cell? (ad.add r) = some (.slice B (rw_ t r).length c) ∧ (rw_ t r).length ≤ c ∧ Bs w B (rw_ t r).length (rw_ t r))
theorem Rows.nil (w : World) (A : Option Addr) : Rows w A 0 [] := ⟨rfl, fun h => absurd h (by omega)⟩
theorem Rows.len {w : World} {A : Option Addr} {n : Nat} {t : List (List Nat)} (h : Rows w A n t) : t.length = n := h.1
theorem Rows.at_ {w : World} {A : Option Addr} {n : Nat} {t : List (List Nat)} (h : Rows w A n t) {k : Nat} (hk : k < n) :
    ∃ ad B c, A = some ad ∧ ad.block < w.heap.size ∧ w.cell? (ad.add k) = some (.slice B (rw_ t k).length c) ∧ Bs w B (rw_ t k).length (rw_ t k) := by
  obtain ⟨ad, e, hb, hc⟩ := h.2 (by omega)
  obtain ⟨B, c, h1, _, h2⟩ := hc k hk
  exact ⟨ad, B, c, e, hb, h1, h2⟩
theorem Rows.below {w w' : World} {A : Option Addr} {n : Nat} {t : List (List Nat)} (h : Rows w A n t) (hb : Below w.heap.size w w') : Rows w' A n t := by
  refine ⟨h.1, fun hn => ?_⟩
  obtain ⟨ad, e, hlt, hc⟩ := h.2 hn
  refine ⟨ad, e, Nat.lt_of_lt_of_le hlt hb.size, fun r hr => ?_⟩
  obtain ⟨B, c, h1, h0, h2⟩ := hc r hr
  exact ⟨B, c, (hb.cell (p := ad.add r) (by rw [add_block]; exact hlt)).trans h1, h0, h2.below hb⟩

/-- a store into a cell that holds a slice spoils no byte. -/
theorem Bs.put {w : World} {B : Option Addr} {n : Nat} {l : List Nat} (h : Bs w B n l) {a : Addr} {C : Option Addr} {k c : Nat} (ha : w.cell? a = some (.slice C k c)) (v : Value) : Bs (w.setCell a v) B n l := by
  refine ⟨h.1, h.2.1, fun hn => ?_⟩
  obtain ⟨ad, e, hlt, hc⟩ := h.2.2 hn
  refine ⟨ad, e, by simpa using hlt, fun j hj => ?_⟩
  rw [World.cell?_setCell_other]
  · exact hc j hj
  · intro q
    have := hc j hj
    rw [← q, ha] at this
    exact absurd this (by simp)

/-- Block g is a row of slices of the call's own, whose first n are the rows t. -/
def OwnT (w : World) (g n : Nat) (t : List (List Nat)) : Prop :=
  t.length = n ∧ ∃ cur, w.heap[g]? = some (.cells cur 128 (0, 0)) ∧ ∀ r, r < n → ∃ B c, cur[r]? = some (.slice B (rw_ t r).length c) ∧ (rw_ t r).length ≤ c ∧ Bs w B (rw_ t r).length (rw_ t r)
theorem OwnT.block_lt {w : World} {g n : Nat} {t : List (List Nat)} (h : OwnT w g n t) : g < w.heap.size := by
  obtain ⟨_, cur, hc, _⟩ := h
  exact (Array.getElem?_eq_some_iff.1 hc).1
theorem OwnT.at_ {w : World} {g n : Nat} {t : List (List Nat)} (h : OwnT w g n t) {r : Nat} (hr : r < n) :
    ∃ B c, w.cell? ⟨g, r, none⟩ = some (.slice B (rw_ t r).length c) ∧ Bs w B (rw_ t r).length (rw_ t r) := by
  obtain ⟨_, cur, hc, h1⟩ := h
  obtain ⟨B, c, h2, _, h3⟩ := h1 r hr
  exact ⟨B, c, by rw [cell_of_row w g r cur _ (0, 0) hc]; exact h2, h3⟩
theorem OwnT.at_cap {w : World} {g n : Nat} {t : List (List Nat)} (h : OwnT w g n t) {r : Nat} (hr : r < n) :
    ∃ B c, w.cell? ⟨g, r, none⟩ = some (.slice B (rw_ t r).length c) ∧ (rw_ t r).length ≤ c ∧ Bs w B (rw_ t r).length (rw_ t r) := by
  obtain ⟨_, cur, hc, h1⟩ := h
  obtain ⟨B, c, h2, h0, h3⟩ := h1 r hr
  exact ⟨B, c, by rw [cell_of_row w g r cur _ (0, 0) hc]; exact h2, h0, h3⟩
theorem OwnT.frozen {w : World} {g n : Nat} {t : List (List Nat)} (h : OwnT w g n t) (j : Nat) : w.frozen? ⟨g, j, none⟩ = false := by
  obtain ⟨_, cur, hc, _⟩ := h
  simp [World.frozen?, hc]
theorem OwnT.below {w w' : World} {g n : Nat} {t : List (List Nat)} (h : OwnT w g n t) (hb : Below w.heap.size w w') : OwnT w' g n t := by
  have hlt := h.block_lt
  obtain ⟨h0, cur, hc, h1⟩ := h
  refine ⟨h0, cur, (hb.block g hlt).trans hc, fun r hr => ?_⟩
  obtain ⟨B, c, h2, hcap, h3⟩ := h1 r hr
  exact ⟨B, c, h2, hcap, h3.below hb⟩
theorem OwnT.set_ {w : World} {g n : Nat} {t : List (List Nat)} (h : OwnT w g n t) {r : Nat} (hr : r < n) {B : Option Addr} {k c : Nat} {x : List Nat} (hcap : k ≤ c) (hx : Bs w B k x) : OwnT (w.setCell ⟨g, r, none⟩ (.slice B k c)) g n (t.set r x) := by
  obtain ⟨B0, c0, h00, _⟩ := h.at_ hr
  obtain ⟨h0, cur, hc, h1⟩ := h
  refine ⟨by rw [List.length_set, h0], cur.setIfInBounds r (.slice B k c), by simp [World.setCell, Array.getElem?_modify, hc], fun i hi => ?_⟩
  rw [rw_set _ _ _ _ (by omega), Array.getElem?_setIfInBounds]
  obtain ⟨B1, c1, h2, hcap1, h3⟩ := h1 i hi
  have hsz : i < cur.size := (Array.getElem?_eq_some_iff.1 h2).1
  by_cases e : r = i
  · rw [if_pos e, if_pos e, if_pos (by omega)]
    have := hx.len
    exact ⟨B, c, by rw [this], by rw [this]; exact hcap, by rw [this]; exact hx.put h00 _⟩
  · rw [if_neg e, if_neg e]
    exact ⟨B1, c1, h2, hcap1, h3.put h00 _⟩
theorem OwnT.rows {w : World} {g n : Nat} {t : List (List Nat)} (h : OwnT w g n t) : Rows w (some ⟨g, 0, none⟩) n t :=
  ⟨h.1, fun _ => ⟨_, rfl, h.block_lt, fun r hr => by
    have e : (⟨g, 0, none⟩ : Addr).add r = ⟨g, r, none⟩ := by unfold Addr.add; split <;> simp_all
    rw [e]; exact h.at_cap hr⟩⟩

/-- a new block of n slices of nothing. -/
theorem ownT_new (w : World) (n : Nat) : OwnT (w.alloc (.cells (madeCells #[.slice none 0 0] n) 128)) w.heap.size n (List.replicate n []) := by
  have e : ∀ r, rw_ (List.replicate n []) r = [] := fun r => by
    unfold rw_
    rw [List.getD_eq_getElem?_getD, List.getElem?_replicate]
    split <;> rfl
  refine ⟨by simp, _, heap_alloc_new w _, fun r hr => ?_⟩
  rw [e]
  exact ⟨none, 0, by simp [madeCells, hr, Nat.mod_one], Nat.le_refl _, Bs.nil _ _⟩
end Go.Proofs.YtodokgkchmpmnaaGreat

/- Proved: what Add of package gf answers for every two bytes. Conditions: the bounds that the theorem names. -/
namespace Go.Proofs.YtodokgkchmpmnaaGreat
open Go.ChangeShapes Go.WideShapes Go.ChangeAt Go.RowKit

set_option maxHeartbeats 400000 in
theorem add_any (a b : Nat) (ha : a < 256) (hb : b < 256) (w : World) :
    Calls Tryz.prog 128 #[.int .u8 a, .int .u8 b] w fun e w' => e = .returned (.int .u8 (a ^^^ b : Nat)) ∧ w = w' := by
  go_enter Tryz.func128, Tryz.ntmps128
  go_wp2
  go_ret
  exact ⟨ret_int (u8_xor_nat a b ha hb), rfl⟩
end Go.Proofs.YtodokgkchmpmnaaGreat

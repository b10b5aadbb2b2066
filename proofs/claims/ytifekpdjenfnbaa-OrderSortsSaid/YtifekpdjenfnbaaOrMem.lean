/- Plain lemmas on an order (blocks put in order) in memory. No condition beyond those that each lemma names. -/
import Derived.Test.YtifekpdjenfnbaaQueDel
import Derived.Test.YtifekpdjenfnbaaOrMath
namespace Go.Proofs.Ytifekpdjenfnbaa
open Go.ChangeShapes Go.WideShapes Go.ChangeAt Go.RowKit

theorem scells_one (l : List ByteArray) : ∀ u ∈ scells l, u.oneCell' = true := by
  intro u hu
  unfold scells at hu
  obtain ⟨x, _, rfl⟩ := List.mem_map.1 hu
  rfl
theorem scells_app (l r : List ByteArray) : scells (l ++ r) = scells l ++ scells r := by unfold scells; rw [List.map_append]
theorem scells_set (l : List ByteArray) (i : Nat) (s : ByteArray) : (scells l).set i (.string s) = scells (l.set i s) := by unfold scells; rw [List.map_set]
theorem scells_drop (l : List ByteArray) (k : Nat) : (scells l).drop k = scells (l.drop k) := by unfold scells; rw [List.map_drop]
theorem scells_none (n : Nat) : scells (List.replicate n S0) = List.replicate n (Value.string S0) := by unfold scells; rw [List.map_replicate]

/-- a row of texts that a slice shows, from any place of its block on. -/
abbrev Qs (w : World) (r : Option Nat) (v : Value) (L : List ByteArray) : Prop := Qu w r 9 1 v L.length (scells L)
theorem Qs.at_ {w : World} {r : Option Nat} {v : Value} {L : List ByteArray} (h : Qs w r v L) {i : Nat} (hi : i < L.length) :
    ∃ g o cap, r = some g ∧ v = .slice (some ⟨g, o, none⟩) L.length cap ∧ g < w.heap.size ∧ L.length ≤ cap ∧ w.cell? ⟨g, o + i, none⟩ = some (.string (st_ L i)) ∧ ∀ j, w.frozen? ⟨g, j, none⟩ = false := by
  obtain ⟨g, o, cap, hr, hv, hg, hc, hx, hf⟩ := h.head (by omega)
  exact ⟨g, o, cap, hr, hv, hg, hc, hx _ _ (scells_at L i hi), hf⟩

/-! ### an order -/
/-- Block b is an order: its base is B, its window n; L waits from the base on, r is its row. -/
structure Od (w : World) (b : Nat) (B n : Int) (r : Option Nat) (v : Value) (L : List ByteArray) : Prop where
  own : At w b 52 [.int .u32 B, .int .i64 n, v]
  row : Qs w r v L
  ne : ∀ g, r = some g → g ≠ b
  u32 : U32 B
  low : 1 ≤ n
  high : n ≤ 64
  few : (L.length : Int) ≤ n
/-- an order's own blocks. -/
abbrev OdOwn (b : Nat) (r : Option Nat) : Nat → Prop := fun i => i = b ∨ r = some i
section
variable {w w' : World} {b : Nat} {B n : Int} {r : Option Nat} {v : Value} {L : List ByteArray}
theorem Od.lt (h : Od w b B n r v L) : b < w.heap.size := h.own.lt
theorem Od.tn {c : Nat → Prop} (h : Od w b B n r v L) (t : Tn c w w') (hf : ¬ c b) (hr : ∀ g, r = some g → ¬ c g) : Od w' b B n r v L :=
  ⟨h.own.tn t hf, h.row.tn t hr, h.ne, h.u32, h.low, h.high, h.few⟩
theorem Od.below (h : Od w b B n r v L) (t : Below w.heap.size w w') : Od w' b B n r v L := h.tn (tn_below Nil t) (fun e => e) (fun _ _ e => e)
theorem Od.form (h : Od w b B n r v L) : ∃ A cap, v = .slice A L.length cap := h.row.form
theorem Od.n64 (h : Od w b B n r v L) : L.length ≤ 64 := by have := h.few; have := h.high; omega
theorem Od.types (h : Od w b B n r v L) : ∀ g, OdOwn b r g → ∃ c t, w.heap[g]? = some (.cells c t (0, 0)) ∧ (t = 52 ∨ t = 9) := by
  rintro g (rfl | e)
  · exact ⟨_, _, h.own, .inl rfl⟩
  · rcases h.row.2 with ⟨_, _, e'⟩ | ⟨g', o, cap, cur, e', _, hb, _⟩
    · rw [e] at e'; cases e'
    · rw [e] at e'; injection e' with e'; subst e'; exact ⟨_, _, hb, .inr rfl⟩
end
/-- An order, or none. -/
def OdO (w : World) (p : Option Addr) (B : Int) (v : Value) (L : List ByteArray) : Prop :=
  (p = none ∧ B = 0 ∧ v = .slice none 0 0 ∧ L = []) ∨ ∃ b n r, p = some ⟨b, 0, none⟩ ∧ Od w b B n r v L
section
variable {w w' : World} {p : Option Addr} {B : Int} {v : Value} {L : List ByteArray}
theorem OdO.nil (w : World) : OdO w none 0 (.slice none 0 0) [] := .inl ⟨rfl, rfl, rfl, rfl⟩
theorem Od.odo {b : Nat} {n : Int} {r : Option Nat} (h : Od w b B n r v L) : OdO w (some ⟨b, 0, none⟩) B v L := .inr ⟨b, n, r, rfl, h⟩
theorem OdO.below (h : OdO w p B v L) (t : Below w.heap.size w w') : OdO w' p B v L := by
  rcases h with h | ⟨b, n, r, e, h⟩
  · exact .inl h
  · exact .inr ⟨b, n, r, e, h.below t⟩
theorem OdO.u32 (h : OdO w p B v L) : U32 B := by
  rcases h with ⟨_, rfl, _⟩ | ⟨b, n, r, e, h⟩
  · exact ⟨by decide, by decide⟩
  · exact h.u32
theorem OdO.n64 (h : OdO w p B v L) : L.length ≤ 64 := by
  rcases h with ⟨_, _, _, rfl⟩ | ⟨b, n, r, e, h⟩
  · exact Nat.zero_le _
  · exact h.n64
end
end Go.Proofs.Ytifekpdjenfnbaa

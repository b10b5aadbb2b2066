/- Plain lemmas on cells that lie in memory, from an address on, in a block of a type; and on parts of slices. No condition beyond those that each lemma names. -/
import Derived.Test.YtifekpdjenfnbaaCl
namespace Go.Proofs.Ytifekpdjenfnbaa
open Go.ChangeShapes Go.WideShapes Go.ChangeAt Go.RowKit

/-- These cells lie from address A on; their block is one of type t. -/
def Tw (w : World) (t : TypeId) (A : Option Addr) (xs : List Value) : Prop :=
  0 < xs.length → ∃ g o cur f, A = some ⟨g, o, none⟩ ∧ w.heap[g]? = some (.cells cur t f) ∧ ∀ j u, xs[j]? = some u → w.cell? ⟨g, o + j, none⟩ = some u
section
variable {w w' : World} {t : TypeId} {A : Option Addr} {xs : List Value}
theorem Tw.nil (w : World) (t : TypeId) (A : Option Addr) : Tw w t A [] := fun h => absurd h (Nat.lt_irrefl 0)
theorem Tw.move (h : Tw w t A xs) (hb : ∀ (g : Nat) (cur : Array Value) (f : Nat × Nat), w.heap[g]? = some (Obj.cells cur t f) → w'.heap[g]? = w.heap[g]?) : Tw w' t A xs := fun h0 => by
  obtain ⟨g, o, cur, f, e, hg, hx⟩ := h h0
  have hk := hb g cur f hg
  exact ⟨g, o, cur, f, e, hk.trans hg, fun j u hj => (World.cell?_of_block (a := ⟨g, o + j, none⟩) hk).trans (hx j u hj)⟩
theorem Tw.below (h : Tw w t A xs) (k : Below w.heap.size w w') : Tw w' t A xs := h.move fun g _ _ hg => k.block g (Array.getElem?_eq_some_iff.1 hg).1
/-- a store into a block of another type. -/
theorem Tw.set_ (h : Tw w t A xs) {b : Nat} {ty : TypeId} {vs : List Value} (k : At w b ty vs) (ht : ty ≠ t) (j : Nat) (v : Value) : Tw (w.setCell ⟨b, j, none⟩ v) t A xs :=
  h.move fun g cur f hg => Below.heap_setCell w ⟨b, j, none⟩ v g fun e => by
    have e : g = b := e
    subst e
    rw [show w.heap[g]? = some (.cells vs.toArray ty (0, 0)) from k] at hg
    injection hg with hg
    injection hg with _ hg _
    exact ht hg
theorem Tw.cl (h : Tw w t A xs) : Cl w (fun _ => True) A xs := fun h0 => by
  obtain ⟨g, o, cur, f, e, hg, hx⟩ := h h0
  exact ⟨g, o, e, trivial, (Array.getElem?_eq_some_iff.1 hg).1, hx⟩
theorem Tw.own {base k n : Nat} {v : Value} (h : w.ownsRow base t k v n xs) : ∃ A cap, v = .slice A n cap ∧ n ≤ cap ∧ (A = none → cap = 0) ∧ Tw w t A xs := by
  obtain ⟨hl, hv⟩ := h
  rcases hv with ⟨rfl, h0⟩ | ⟨g, cap, cur, rfl, hb, hg, h1, h2, h3, h4⟩
  · subst h0
    refine ⟨none, 0, rfl, Nat.le_refl _, fun _ => rfl, ?_⟩
    have : xs = [] := List.eq_nil_of_length_eq_zero (by rw [hl, Nat.zero_mul])
    subst this
    exact Tw.nil _ _ _
  · refine ⟨_, cap, rfl, h1, (fun e => nomatch e), fun _ => ⟨g, 0, cur, _, rfl, hg, fun j u hj => ?_⟩⟩
    rw [Nat.zero_add, cell_of_row w g j cur _ (0, 0) hg]
    rw [← h4, List.getElem?_take] at hj
    split at hj
    · simpa using hj
    · cases hj
end

/-! ### parts of slices -/
section
variable {t e : TypeId} {z : Value} {k bytes : Nat}
theorem head_part (ht : Try.prog.underlying t = some (.slice e)) (info : (Try.prog.info? e).map (fun i => (i.zero, i.size, i.bytes)) = some (some z, k, bytes)) (A : Option Addr) (n c i : Nat) (h : i ≤ c) (W : World) :
    (Instr.slice t (.slice A n c) none (some (.int .i64 (i : Nat))) none).run Try.prog W = .ok (.slice A i c) W := by
  obtain ⟨q, hi, hz0, hz1, hz2⟩ := info_parts info
  have he : Try.prog.elem t = e := by unfold Program.elem; rw [ht]
  have ht' : Try.prog.underlying t = some (.slice (Try.prog.elem t)) := by rw [he]; exact ht
  rw [run_slice_h W t A n c ht' .i64 (i : Int) (by omega) (by omega), he]
  have e0 : ∀ a : Addr, a.add 0 = a := fun a => rfl
  have e1 : A.map (fun a => a) = A := by cases A <;> rfl
  simp [sizeOf, typeInfo, hi, hz1, sliced, e0, e1]
theorem rest_part (ht : Try.prog.underlying t = some (.slice e)) (info : (Try.prog.info? e).map (fun i => (i.zero, i.size, i.bytes)) = some (some z, k, bytes)) (hk : 0 < k) (g o n c i : Nat) (h : i ≤ n) :
    ∃ A', (∀ W : World, (Instr.slice t (.slice (some ⟨g, o, none⟩) n c) (some (.int .i64 (i : Int))) none none).run Try.prog W = .ok (.slice A' (n - i) (c - i)) W) ∧ (A' = none → False) ∧ (i < c → A' = some ⟨g, o + i * k, none⟩) := by
  obtain ⟨q, hi, hz0, hz1, hz2⟩ := info_parts info
  have he : Try.prog.elem t = e := by unfold Program.elem; rw [ht]
  have ht' : Try.prog.underlying t = some (.slice (Try.prog.elem t)) := by rw [he]; exact ht
  refine ⟨if c = i then some ⟨g, o, none⟩ else some ⟨g, o + i * k, none⟩, fun W => ?_, ?_, ?_⟩
  · rw [run_slice_l W t (some ⟨g, o, none⟩) n c ht' .i64 (i : Int) (by omega) (by omega), he]
    simp [sizeOf, typeInfo, hi, hz1, sliced, Addr.add]
    rcases Nat.eq_zero_or_pos i with rfl | h0
    · simp
    · rw [if_neg (Nat.ne_of_gt (Nat.mul_pos h0 hk))]
  · split <;> intro e <;> cases e
  · intro hc
    rw [if_neg (by omega)]
end
end Go.Proofs.Ytifekpdjenfnbaa

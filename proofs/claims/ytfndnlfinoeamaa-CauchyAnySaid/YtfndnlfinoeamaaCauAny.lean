/- Proved: the walk of the law that any k unlike rows have an inverse, for every two bytes and every row of bytes. Conditions: those that the theorems name. -/
import Derived.Test.YtfndnlfinoeamaaCauWith
namespace Go.Proofs.Ytfndnlfinoeamaa
open Go.ChangeShapes Go.WideShapes Go.ChangeAt Go.RowKit

/-- at most k unlike numbers from 0 to m - 1. -/
structure Sel (k m : Nat) (l : List Int) : Prop where
  ne : l.Pairwise (· ≠ ·)
  rng : ∀ x ∈ l, 0 ≤ x ∧ x < m
  len : l.length ≤ k
theorem Sel.nil (k m : Nat) : Sel k m [] := ⟨List.Pairwise.nil, fun _ h => by simp at h, Nat.zero_le _⟩
theorem Sel.with {k m : Nat} {l : List Int} (h : Sel k m l) {x : Int} (hx : 0 ≤ x ∧ x < m) (hk : l.length < k) : Sel k m (withL l x) := by
  refine ⟨?_, fun y hy => ?_, by have := (withL_len l x).2; omega⟩
  · unfold withL
    split
    · exact h.ne
    · rename_i hn
      refine List.pairwise_append.2 ⟨h.ne, List.pairwise_singleton _ _, fun a ha b hb => ?_⟩
      rw [List.mem_singleton] at hb
      rintro rfl
      exact hn (hb ▸ ha)
  · rcases (withL_mem l x y).1 hy with h1 | rfl
    · exact h.rng y h1
    · exact hx
/-- the numbers up to j stand in it. -/
def Has (l : List Int) (j : Nat) : Prop := ∀ i : Nat, i < j → (i : Int) ∈ l
theorem Has.with {l : List Int} {j : Nat} (h : Has l j) : Has (withL l j) (j + 1) := fun i hi => by
  rw [withL_mem]
  rcases Nat.lt_or_ge i j with hlt | hge
  · exact Or.inl (h i hlt)
  · exact Or.inr (by rw [show i = j by omega])
theorem Has.le {l : List Int} {m : Nat} (h : Has l m) : m ≤ l.length := by
  have := nodup_le (List.range m) (l.map Int.toNat) (List.nodup_range) (fun x hx => by
    rw [List.mem_map]
    exact ⟨x, h x (List.mem_range.1 hx), by simp⟩)
  rwa [List.length_range, List.length_map] at this
theorem Sel.inj {k m : Nat} {l : List Int} (h : Sel k m l) (s t : Nat) (hs : s < l.length) (ht : t < l.length) (e : (l.getD s 0).toNat = (l.getD t 0).toNat) : s = t := by
  have h1 := h.rng _ (at_mem hs)
  have h2 := h.rng _ (at_mem ht)
  have e' : l.getD s 0 = l.getD t 0 := by omega
  rw [List.getD_eq_getElem?_getD, List.getD_eq_getElem?_getD, List.getElem?_eq_getElem hs, List.getElem?_eq_getElem ht] at e'
  have hp := List.pairwise_iff_getElem.1 h.ne
  rcases Nat.lt_trichotomy s t with hlt | heq | hgt
  · exact absurd e' (hp s t hs ht hlt)
  · exact heq
  · exact absurd e'.symm (hp t s ht hs hgt)
theorem Sel.err {k m : Nat} {l : List Int} (h : Sel k m l) (hk1 : 1 ≤ k) (hkm : k ≤ m) (hm : m ≤ 255) (hl : l.length = k) : pErr k m l = 0 := by
  rw [pErr_len (by omega)]
  refine fErr_end fun i hi => cErr_in (by unfold NoTab; omega) (h.rng _ (at_mem hi))
/-- what Invert must answer of k unlike rows: no error, and k rows. -/
theorem Sel.inv {k m k' : Nat} {l : List Int} {q : List (List Nat)} (h : Sel k m l) (hk1 : 1 ≤ k) (hk : k ≤ 255) (hm : m ≤ 256) (hl : l.length = k) (hi : InvIs (rowsC k l) q k') : k' = 0 ∧ q.length = k := by
  have g : Good k k (rowsC k l) := hl ▸ rowsC_good k l
  have hlt : ∀ j, j < l.length → 0 ≤ l.getD j 0 ∧ l.getD j 0 < 256 := fun j hj => by
    have := h.rng _ (at_mem hj)
    omega
  have c : chk (rowsC k l) = 0 := g.chk hk1 hk hk1 hk
  rcases hi with ⟨h1, _⟩ | ⟨_, h2, _⟩ | ⟨_, _, ⟨r, hr, h3⟩, _⟩ | ⟨_, _, h3, _, h5⟩
  · exact absurd c h1
  · exact absurd ((g.row 0 hk1).trans g.len.symm) h2
  · rw [g.len] at hr h3
    have e : EqT k k (tabT (rowsC k l)) (fun i j => cauT k ((l.getD i 0).toNat) j) := fun i hi j hj => tab_rowsC (by omega) hlt (by omega) hj
    have := pick_rank (k := k) (a := fun i => (l.getD i 0).toNat) (by omega) (fun t ht => by
      have := hlt t (by omega)
      show (l.getD t 0).toNat < 256
      omega) (fun s hs t ht e => h.inj s t (by omega) (by omega) e) (h3.congr e)
    omega
  · exact ⟨h5, h3.len.trans g.len⟩
end Go.Proofs.Ytfndnlfinoeamaa

/- Plain lemmas on slices of shards in memory. No condition beyond those that each lemma names. -/
import Derived.Test.YtgclgmfmcgacdaaTxt
namespace Go.Proofs.Ytgclgmfmcgacdaa
open Go.ChangeShapes Go.WideShapes Go.ChangeAt Go.RowKit

/-! ### shards -/
abbrev Shd := Int × ByteArray
/-- shard j of some. -/
def sh_ (l : List Shd) (j : Nat) : Shd := l.getD j (0, S0)
theorem sh_at {l : List Shd} {j : Nat} (h : j < l.length) : sh_ l j = l[j] := by
  unfold sh_
  rw [List.getD_eq_getElem?_getD, List.getElem?_eq_getElem h]; rfl
theorem sh_app (l r : List Shd) (j : Nat) : sh_ (l ++ r) j = if j < l.length then sh_ l j else sh_ r (j - l.length) := by
  unfold sh_
  rw [List.getD_eq_getElem?_getD, List.getElem?_append]
  split <;> rw [List.getD_eq_getElem?_getD]
theorem sh_snoc (l : List Shd) (x : Shd) (j : Nat) (h : j < l.length + 1) : sh_ (l ++ [x]) j = if j < l.length then sh_ l j else x := by
  rw [sh_app]
  split
  · rfl
  · rw [show j - l.length = 0 by omega]; rfl
theorem sh_take {l : List Shd} {k j : Nat} (h : j < k) : sh_ (l.take k) j = sh_ l j := by
  unfold sh_
  rw [List.getD_eq_getElem?_getD, List.getElem?_take, if_pos h, ← List.getD_eq_getElem?_getD]
/-- The slice value with address A and length n holds the shards l, in memory that is there. -/
def Sh (w : World) (A : Option Addr) (n : Nat) (l : List Shd) : Prop :=
  l.length = n ∧ (0 < n → ∃ ad, A = some ad ∧ ad.block < w.heap.size ∧ ∀ j, j < n → w.cell? (ad.add (j * 2)) = some (.int .i64 (sh_ l j).1) ∧ w.cell? ⟨(ad.add (j * 2)).block, (ad.add (j * 2)).off + 1, none⟩ = some (.string (sh_ l j).2))
theorem Sh.nil (w : World) (A : Option Addr) : Sh w A 0 [] := ⟨rfl, fun h => absurd h (by omega)⟩
theorem Sh.len {w : World} {A : Option Addr} {n : Nat} {l : List Shd} (h : Sh w A n l) : l.length = n := h.1
theorem Sh.at_ {w : World} {A : Option Addr} {n : Nat} {l : List Shd} (h : Sh w A n l) {k : Nat} (hk : k < n) :
    ∃ ad, A = some ad ∧ ad.block < w.heap.size ∧ w.cell? (ad.add (k * 2)) = some (.int .i64 (sh_ l k).1) ∧ w.cell? ⟨(ad.add (k * 2)).block, (ad.add (k * 2)).off + 1, none⟩ = some (.string (sh_ l k).2) := by
  obtain ⟨ad, e, hb, hc⟩ := h.2 (by omega)
  exact ⟨ad, e, hb, hc k hk⟩
theorem Sh.below {w w' : World} {A : Option Addr} {n : Nat} {l : List Shd} (h : Sh w A n l) (hb : Below w.heap.size w w') : Sh w' A n l := by
  refine ⟨h.1, fun hn => ?_⟩
  obtain ⟨ad, e, hlt, hc⟩ := h.2 hn
  exact ⟨ad, e, Nat.lt_of_lt_of_le hlt hb.size, fun j hj => ⟨(hb.cell (p := ad.add (j * 2)) (by rw [add_block]; exact hlt)).trans (hc j hj).1, (hb.cell (p := ⟨(ad.add (j * 2)).block, (ad.add (j * 2)).off + 1, none⟩) (by show (ad.add (j * 2)).block < _; rw [add_block]; exact hlt)).trans (hc j hj).2⟩⟩
theorem Sh.cut {w : World} {A : Option Addr} {n : Nat} {l : List Shd} (h : Sh w A n l) {k : Nat} (hk : k ≤ n) : Sh w A k (l.take k) := by
  refine ⟨by rw [List.length_take, h.1]; omega, fun h0 => ?_⟩
  obtain ⟨ad, e, hlt, hc⟩ := h.2 (by omega)
  exact ⟨ad, e, hlt, fun j hj => by rw [sh_take hj]; exact hc j (by omega)⟩
/-- shards as cells. -/
def hcells : List Shd → List Value
  | [] => []
  | x :: r => .int .i64 x.1 :: .string x.2 :: hcells r
theorem hcells_len (l : List Shd) : (hcells l).length = l.length * 2 := by
  induction l with
  | nil => rfl
  | cons x r ih => show (hcells r).length + 1 + 1 = _; rw [ih, List.length_cons]; omega
theorem hcells_app (l r : List Shd) : hcells (l ++ r) = hcells l ++ hcells r := by
  induction l with
  | nil => rfl
  | cons x l ih => show _ :: _ :: hcells (l ++ r) = _; rw [ih]; rfl
theorem hcells_snoc (l : List Shd) (i : Int) (s : ByteArray) : hcells l ++ [.int .i64 i, .string s] = hcells (l ++ [(i, s)]) := by rw [hcells_app]; rfl
theorem hcells_at (l : List Shd) (j : Nat) (hj : j < l.length) : (hcells l)[j * 2]? = some (.int .i64 (sh_ l j).1) ∧ (hcells l)[j * 2 + 1]? = some (.string (sh_ l j).2) := by
  induction l generalizing j with
  | nil => exact absurd hj (by simp)
  | cons x r ih =>
    rcases j with _ | j
    · exact ⟨rfl, rfl⟩
    · have := ih j (by simpa using hj)
      rw [Nat.succ_mul]
      exact this
/-- What was gathered, as a slice that reads as shards. -/
theorem sh_of {w : World} {base n : Nat} {v : Value} {l : List Shd} (h : w.ownsRow base 32 2 v n (hcells l)) : ∃ A c, v = .slice A n c ∧ n ≤ c ∧ Sh w A n l := by
  obtain ⟨hl, hv⟩ := h
  rw [hcells_len] at hl
  have hl : l.length = n := by omega
  rcases hv with ⟨rfl, h0⟩ | ⟨g, cap, cur, rfl, hg, hc, h1, h2, h3, h4⟩
  · have h0' : n = 0 := by simpa using h0
    subst h0'
    exact ⟨_, _, rfl, Nat.le_refl _, ⟨hl, fun h => absurd h (by omega)⟩⟩
  · refine ⟨_, _, rfl, h1, hl, fun _ => ⟨_, rfl, (Array.getElem?_eq_some_iff.1 hc).1, fun j hj => ?_⟩⟩
    have e : ∀ i, (⟨g, 0, none⟩ : Addr).add i = ⟨g, i, none⟩ := fun i => by unfold Addr.add; split <;> simp_all
    have h5 := hcells_at l j (by omega)
    rw [← h4, List.getElem?_take, if_pos (by omega), List.getElem?_take, if_pos (by omega)] at h5
    rw [e, cell_of_row w g _ cur _ (0, 0) hc, cell_of_row w g _ cur _ (0, 0) hc]
    simpa using h5
end Go.Proofs.Ytgclgmfmcgacdaa

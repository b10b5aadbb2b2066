/- Plain lemmas on a slice of deeds that came in. No condition beyond those that each lemma names. -/
import Derived.Test.YtgclgmfmcgacdaaTbArg
namespace Go.Proofs.Ytgclgmfmcgacdaa
open Go.ChangeShapes Go.WideShapes Go.ChangeAt Go.RowKit

/-- deed j. -/
def de_ (l : List De) (j : Nat) : De := l.getD j ⟨0, (0, 0), 0, 0, ⟨#[]⟩⟩
/-- a deed in memory. -/
structure DeAt (w : World) (a : Addr) (d : De) : Prop where
  c0 : w.cell? a = some (.int .i64 d.kd)
  c1 : w.cell? ⟨a.block, a.off + 1, none⟩ = some (.int .i64 d.k.1)
  c2 : w.cell? ⟨a.block, a.off + 2, none⟩ = some (.int .u32 d.k.2)
  c3 : w.cell? ⟨a.block, a.off + 3, none⟩ = some (.int .i64 d.need)
  c4 : w.cell? ⟨a.block, a.off + 4, none⟩ = some (.int .i64 d.i)
  c5 : w.cell? ⟨a.block, a.off + 5, none⟩ = some (.string d.t)
theorem DeAt.tn {w w' : World} {a : Addr} {d : De} (h : DeAt w a d) (t : Tn Nil w w') (ha : a.block < w.heap.size) : DeAt w' a d := by
  have hb : Below w.heap.size w w' := t.below (Below.refl w.heap.size w) (Nat.le_refl _) (fun _ _ e => e)
  exact ⟨(hb.cell ha).trans h.c0, (hb.cell (p := ⟨a.block, a.off + 1, none⟩) ha).trans h.c1, (hb.cell (p := ⟨a.block, a.off + 2, none⟩) ha).trans h.c2, (hb.cell (p := ⟨a.block, a.off + 3, none⟩) ha).trans h.c3, (hb.cell (p := ⟨a.block, a.off + 4, none⟩) ha).trans h.c4, (hb.cell (p := ⟨a.block, a.off + 5, none⟩) ha).trans h.c5⟩
/-- the slice reads as these deeds. -/
def Des (w : World) (A : Option Addr) (n : Nat) (l : List De) : Prop :=
  l.length = n ∧ (∀ j, j < n → (de_ l j).In) ∧ (0 < n → ∃ ad, A = some ad ∧ ad.block < w.heap.size ∧ ∀ j, j < n → DeAt w (ad.add (j * 6)) (de_ l j))
theorem Des.nil (w : World) (A : Option Addr) : Des w A 0 [] := ⟨rfl, fun _ h => absurd h (by omega), fun h => absurd h (by omega)⟩
theorem Des.at_ {w w' : World} {A : Option Addr} {n : Nat} {l : List De} (h : Des w A n l) (t : Tn Nil w w') {k : Nat} (hk : k < n) : ∃ ad, A = some ad ∧ (de_ l k).In ∧ DeAt w' (ad.add (k * 6)) (de_ l k) := by
  obtain ⟨ad, e, hlt, hc⟩ := h.2.2 (by omega)
  exact ⟨ad, e, h.2.1 k hk, (hc k hk).tn t (by rw [add_block]; exact hlt)⟩
section
variable {H : Type} {enc : TypeId × Value → H} {w : World} {base : Nat} {held : Bool}
theorem des_arg {a : Option Addr} {len cap : Nat} {d : DataW H} {p : List MemPlace} (h : DataW.Trod enc Try.prog w base (fun _ => true) held 22 (.slice a len cap) d p) : ∃ l, Des w a len l := by
  obtain ⟨fuel, hf⟩ := h
  rcases Go.Deep.open_slice Try.underlying22 hf with ⟨hcs, _⟩ | ⟨x, l, c, m, n, D, Pl, hcs, _, hl, _, hm, _, hi⟩
  · simp [Value.cells] at hcs
    obtain ⟨rfl, rfl, rfl⟩ := hcs
    exact ⟨[], Des.nil _ _⟩
  · simp [Value.cells] at hcs
    obtain ⟨rfl, rfl, rfl⟩ := hcs
    have hm' : m = cap := by simpa using hm
    have e38 : Try.prog.cellsOf 37 = 6 := by kernel_rfl
    have key : ∀ i, i < len → ∃ y : De, y.In ∧ DeAt w (x.add (i * 6)) y := fun i h => by
      obtain ⟨cs', hc, ht⟩ := hi i (by omega)
      rw [e38] at hc
      obtain ⟨_, hcl, hat⟩ := World.cells?_some hc
      obtain ⟨c0, c1, c2, c3, c4, c5, rfl⟩ := six_in hcl
      obtain ⟨y, hy, rfl, rfl, rfl, rfl, rfl, rfl⟩ := de_cells ht
      refine ⟨y, hy, ?_, hat 1 (by decide), hat 2 (by decide), hat 3 (by decide), hat 4 (by decide), hat 5 (by decide)⟩
      have h2 := hat 0 (by decide)
      rw [Addr.add_zero'] at h2
      rw [h2]; rfl
    obtain ⟨f, hf⟩ := Go.Deep.choose_lt key
    have hat : ∀ j, j < len → de_ ((List.range len).map f) j = f j := fun j hj => by
      unfold de_
      rw [List.getD_eq_getElem?_getD, List.getElem?_map, List.getElem?_range hj]; rfl
    refine ⟨(List.range len).map f, by simp, fun j hj => by rw [hat j hj]; exact (hf j hj).1, fun h0 => ?_⟩
    have h1 := World.block_lt_of_cell? w _ (hf 0 h0).2.c0
    rw [add_block] at h1
    exact ⟨x, rfl, h1, fun j hj => by rw [hat j hj]; exact (hf j hj).2⟩
end
end Go.Proofs.Ytgclgmfmcgacdaa

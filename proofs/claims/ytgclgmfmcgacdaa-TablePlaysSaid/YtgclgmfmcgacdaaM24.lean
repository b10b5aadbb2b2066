/- Proved: lemmas of one statement's proof, merged by program: what each part proves stands ahead of it. Conditions: those that the lemmas name. -/
import Derived.Test.YtgclgmfmcgacdaaM23
import Derived.Lib.SmallJoins
import Derived.Deep.Slices
import Derived.Deep.Strs
import Derived.ChangeSame
import Derived.OpenShut
import Derived.WideShapes

/- Plain lemmas on deeds that came in as arguments. No condition beyond those that each lemma names. -/
namespace Go.Proofs.Ytgclgmfmcgacdaa
open Go.ChangeShapes Go.WideShapes Go.ChangeAt Go.RowKit

theorem six_of {α : Type} {cs : Array α} (h : cs.size = 6) : ∃ c0 c1 c2 c3 c4 c5, cs = #[c0, c1, c2, c3, c4, c5] := by
  obtain ⟨l⟩ := cs
  match l, h with
  | [c0, c1, c2, c3, c4, c5], _ => exact ⟨c0, c1, c2, c3, c4, c5, rfl⟩
theorem six_in {l : List Value} (h : l.length = 6) : ∃ a b c d e f, l = [a, b, c, d, e, f] := by
  match l, h with
  | [a, b, c, d, e, f], _ => exact ⟨a, b, c, d, e, f, rfl⟩
instance : Inhabited De := ⟨⟨0, (0, 0), 0, 0, ⟨#[]⟩⟩⟩
/-- as a deed comes in. -/
def De.In (d : De) : Prop := KyOk d.k ∧ (Lit.int .i64 d.need).wf = true ∧ (Lit.int .i64 d.i).wf = true
section
variable {H : Type} {enc : TypeId × Value → H} {w : World} {base : Nat} {held : Bool} {spare : Nat → Bool}
theorem de_cells {fuel : Nat} {c0 c1 c2 c3 c4 c5 : Value} {x : DataW H × List MemPlace} (hf : DataW.trod enc Try.prog w base spare held fuel 37 [c0, c1, c2, c3, c4, c5] = some x) :
    ∃ a : De, a.In ∧ c0 = .int .i64 a.kd ∧ c1 = .int .i64 a.k.1 ∧ c2 = .int .u32 a.k.2 ∧ c3 = .int .i64 a.need ∧ c4 = .int .i64 a.i ∧ c5 = .string a.t := by
  have e3 : Try.prog.cellsOf 3 = 1 := by kernel_rfl
  have e9 : Try.prog.cellsOf 9 = 1 := by kernel_rfl
  have e30 : Try.prog.cellsOf 33 = 1 := by kernel_rfl
  have e32 : Try.prog.cellsOf 35 = 2 := by kernel_rfl
  have e33 : Try.prog.cellsOf 32 = 2 := by kernel_rfl
  obtain ⟨y0, y1, y2, y3, n, _, _, h0, h1, h2, h3⟩ := Go.Joins.trod_struct4 Try.underlying37 hf
  rw [e3] at h0 h2
  rw [e32] at h1
  rw [e33] at h3
  obtain ⟨z0, q0, _⟩ := DataW.trod_int Try.underlying3 h0
  obtain ⟨z3, q3, _, w3⟩ := DataW.trod_int Try.underlying3 h2
  obtain ⟨v0, v1, k, _, _, g0, g1⟩ := Go.ChangeShapes.trod_struct2 Try.underlying35 h1
  rw [e3] at g0
  rw [e30] at g1
  obtain ⟨z1, q1, _, w1⟩ := DataW.trod_int Try.underlying3 g0
  obtain ⟨z2, q2, _, w2⟩ := DataW.trod_int Try.underlying33 g1
  obtain ⟨v2, v3, k', _, _, g2, g3⟩ := Go.ChangeShapes.trod_struct2 Try.underlying32 h3
  rw [e3] at g2
  rw [e9] at g3
  obtain ⟨z4, q4, _, w4⟩ := DataW.trod_int Try.underlying3 g2
  obtain ⟨z5, q5, _⟩ := DataW.trod_string Try.underlying9 g3
  have q0' : c0 = .int .i64 z0 := by simpa using q0
  have q1' : c1 = .int .i64 z1 := by simpa using q1
  have q2' : c2 = .int .u32 z2 := by simpa using q2
  have q3' : c3 = .int .i64 z3 := by simpa using q3
  have q4' : c4 = .int .i64 z4 := by simpa using q4
  have q5' : c5 = .string z5 := by simpa using q5
  exact ⟨⟨z0, (z1, z2), z3, z4, z5⟩, ⟨ky_of_wf w1 w2, w3, w4⟩, q0', q1', q2', q3', q4', q5'⟩
set_option maxRecDepth 100000 in
theorem de_arg {d : DataW H} {p : List MemPlace} {r : Reach} {b0 : Nat} {v : Value} (hv : Value.okWide Try.prog w r b0 37 v) (h : DataW.Trod enc Try.prog w base spare held 37 v d p) : ∃ a : De, v = a.val ∧ a.In := by
  obtain ⟨cs, rfl, hsz⟩ := okWide_struct Try.underlying37 hv
  rw [show Try.prog.cellsOf 37 = 6 by kernel_rfl] at hsz
  obtain ⟨c0, c1, c2, c3, c4, c5, rfl⟩ := six_of hsz
  obtain ⟨fuel, hf⟩ := h
  obtain ⟨a, ha, rfl, rfl, rfl, rfl, rfl, rfl⟩ := de_cells hf
  exact ⟨a, rfl, ha⟩
end
end Go.Proofs.Ytgclgmfmcgacdaa

/- Plain lemmas on a slice of deeds that came in. No condition beyond those that each lemma names. -/
namespace Go.Proofs.Ytgclgmfmcgacdaa
open Go.ChangeShapes Go.WideShapes Go.ChangeAt Go.RowKit

/-- deed j. -/
def de_ (l : List De) (j : Nat) : De := l.getD j ⟨0, (0, 0), 0, 0, ⟨#[]⟩⟩
/-- a deed in memory. -/
structure DeAt (w : World) (a : Addr) (d : De) : Prop where
  c0 : w.cell? a = some (.int .i64 d.kd)
  c1 : w.cell? ⟨a.block, a.off + 1, none⟩ = some (.int .i64 d.k.1)
  c2 : w.cell? ⟨a.block, a.off + 2, none⟩ = some (.int .u32 d.k.2)
  c3 : w.cell? ⟨a.block, a.off + 3, none⟩ = some (.int .i64 d.need)
  c4 : w.cell? ⟨a.block, a.off + 4, none⟩ = some (.int .i64 d.i)
  c5 : w.cell? ⟨a.block, a.off + 5, none⟩ = some (.string d.t)
theorem DeAt.tn {w w' : World} {a : Addr} {d : De} (h : DeAt w a d) (t : Tn Nil w w') (ha : a.block < w.heap.size) : DeAt w' a d := by
  have hb : Below w.heap.size w w' := t.below (Below.refl w.heap.size w) (Nat.le_refl _) (fun _ _ e => e)
  exact ⟨(hb.cell ha).trans h.c0, (hb.cell (p := ⟨a.block, a.off + 1, none⟩) ha).trans h.c1, (hb.cell (p := ⟨a.block, a.off + 2, none⟩) ha).trans h.c2, (hb.cell (p := ⟨a.block, a.off + 3, none⟩) ha).trans h.c3, (hb.cell (p := ⟨a.block, a.off + 4, none⟩) ha).trans h.c4, (hb.cell (p := ⟨a.block, a.off + 5, none⟩) ha).trans h.c5⟩
/-- the slice reads as these deeds. -/
def Des (w : World) (A : Option Addr) (n : Nat) (l : List De) : Prop :=
  l.length = n ∧ (∀ j, j < n → (de_ l j).In) ∧ (0 < n → ∃ ad, A = some ad ∧ ad.block < w.heap.size ∧ ∀ j, j < n → DeAt w (ad.add (j * 6)) (de_ l j))
theorem Des.nil (w : World) (A : Option Addr) : Des w A 0 [] := ⟨rfl, fun _ h => absurd h (by omega), fun h => absurd h (by omega)⟩
theorem Des.at_ {w w' : World} {A : Option Addr} {n : Nat} {l : List De} (h : Des w A n l) (t : Tn Nil w w') {k : Nat} (hk : k < n) : ∃ ad, A = some ad ∧ (de_ l k).In ∧ DeAt w' (ad.add (k * 6)) (de_ l k) := by
  obtain ⟨ad, e, hlt, hc⟩ := h.2.2 (by omega)
  exact ⟨ad, e, h.2.1 k hk, (hc k hk).tn t (by rw [add_block]; exact hlt)⟩
section
variable {H : Type} {enc : TypeId × Value → H} {w : World} {base : Nat} {held : Bool}
theorem des_arg {a : Option Addr} {len cap : Nat} {d : DataW H} {p : List MemPlace} (h : DataW.Trod enc Try.prog w base (fun _ => true) held 22 (.slice a len cap) d p) : ∃ l, Des w a len l := by
  obtain ⟨fuel, hf⟩ := h
  rcases Go.Deep.open_slice Try.underlying22 hf with ⟨hcs, _⟩ | ⟨x, l, c, m, n, D, Pl, hcs, _, hl, _, hm, _, hi⟩
  · simp [Value.cells] at hcs
    obtain ⟨rfl, rfl, rfl⟩ := hcs
    exact ⟨[], Des.nil _ _⟩
  · simp [Value.cells] at hcs
    obtain ⟨rfl, rfl, rfl⟩ := hcs
    have hm' : m = cap := by simpa using hm
    have e38 : Try.prog.cellsOf 37 = 6 := by kernel_rfl
    have key : ∀ i, i < len → ∃ y : De, y.In ∧ DeAt w (x.add (i * 6)) y := fun i h => by
      obtain ⟨cs', hc, ht⟩ := hi i (by omega)
      rw [e38] at hc
      obtain ⟨_, hcl, hat⟩ := World.cells?_some hc
      obtain ⟨c0, c1, c2, c3, c4, c5, rfl⟩ := six_in hcl
      obtain ⟨y, hy, rfl, rfl, rfl, rfl, rfl, rfl⟩ := de_cells ht
      refine ⟨y, hy, ?_, hat 1 (by decide), hat 2 (by decide), hat 3 (by decide), hat 4 (by decide), hat 5 (by decide)⟩
      have h2 := hat 0 (by decide)
      rw [Addr.add_zero'] at h2
      rw [h2]; rfl
    obtain ⟨f, hf⟩ := Go.Deep.choose_lt key
    have hat : ∀ j, j < len → de_ ((List.range len).map f) j = f j := fun j hj => by
      unfold de_
      rw [List.getD_eq_getElem?_getD, List.getElem?_map, List.getElem?_range hj]; rfl
    refine ⟨(List.range len).map f, by simp, fun j hj => by rw [hat j hj]; exact (hf j hj).1, fun h0 => ?_⟩
    have h1 := World.block_lt_of_cell? w _ (hf 0 h0).2.c0
    rw [add_block] at h1
    exact ⟨x, rfl, h1, fun j hj => by rw [hat j hj]; exact (hf j hj).2⟩
end
end Go.Proofs.Ytgclgmfmcgacdaa

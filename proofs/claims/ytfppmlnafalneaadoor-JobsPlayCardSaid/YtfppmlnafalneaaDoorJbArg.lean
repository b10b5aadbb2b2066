/- Plain lemmas on a key, and on deeds, that came in as arguments. No condition beyond those that each lemma names. -/
import Derived.Test.YtfppmlnafalneaaDoorJbNone
import Derived.Lib.SmallJoins
import Derived.Deep.Slices
import Derived.Deep.Strs
import Derived.ChangeSame
import Derived.OpenShut
import Derived.WideShapes
namespace Go.Proofs.YtfppmlnafalneaaDoor
open Go.ChangeShapes Go.WideShapes Go.ChangeAt Go.RowKit

theorem add_block (a : Addr) (n : Nat) : (a.add n).block = a.block := by unfold Addr.add; split <;> rfl
/-- a deed. -/
structure De where
  kd : Int
  s : Int
  b : Int
instance : Inhabited De := ⟨⟨0, 0, 0⟩⟩
def Ke.In (_ : Ke) : Prop := True
theorem two_of {α : Type} {cs : Array α} (h : cs.size = 2) : ∃ c0 c1, cs = #[c0, c1] := by
  obtain ⟨l⟩ := cs
  match l, h with
  | [c0, c1], _ => exact ⟨c0, c1, rfl⟩
theorem three_in {l : List Value} (h : l.length = 3) : ∃ a b c, l = [a, b, c] := by
  match l, h with
  | [a, b, c], _ => exact ⟨a, b, c, rfl⟩
/-- deed j. -/
def de_ (l : List De) (j : Nat) : De := l.getD j ⟨0, 0, 0⟩
/-- a deed in memory. -/
structure DeAt (w : World) (a : Addr) (d : De) : Prop where
  c0 : w.cell? a = some (.int .i64 d.kd)
  c1 : w.cell? ⟨a.block, a.off + 1, none⟩ = some (.int .i64 d.s)
  c2 : w.cell? ⟨a.block, a.off + 2, none⟩ = some (.int .u32 d.b)
theorem DeAt.tn {w w' : World} {a : Addr} {d : De} (h : DeAt w a d) (t : Tn Nil w w') (ha : a.block < w.heap.size) : DeAt w' a d := by
  have hb : Below w.heap.size w w' := t.below (Below.refl w.heap.size w) (Nat.le_refl _) (fun _ _ e => e)
  exact ⟨(hb.cell ha).trans h.c0, (hb.cell (p := ⟨a.block, a.off + 1, none⟩) ha).trans h.c1, (hb.cell (p := ⟨a.block, a.off + 2, none⟩) ha).trans h.c2⟩
/-- the slice reads as these deeds. -/
def Des (w : World) (A : Option Addr) (n : Nat) (l : List De) : Prop :=
  l.length = n ∧ (0 < n → ∃ ad, A = some ad ∧ ad.block < w.heap.size ∧ ∀ j, j < n → DeAt w (ad.add (j * 3)) (de_ l j))
theorem Des.nil (w : World) (A : Option Addr) : Des w A 0 [] := ⟨rfl, fun h => absurd h (by omega)⟩
theorem Des.at_ {w w' : World} {A : Option Addr} {n : Nat} {l : List De} (h : Des w A n l) (t : Tn Nil w w') {k : Nat} (hk : k < n) : ∃ ad, A = some ad ∧ DeAt w' (ad.add (k * 3)) (de_ l k) := by
  obtain ⟨ad, e, hlt, hc⟩ := h.2 (by omega)
  exact ⟨ad, e, (hc k hk).tn t (by rw [add_block]; exact hlt)⟩
section
variable {H : Type} {enc : TypeId × Value → H} {w : World} {base : Nat} {held : Bool} {spare : Nat → Bool}
theorem ke_cells {fuel : Nat} {c0 c1 : Value} {x : DataW H × List MemPlace} (hf : DataW.trod enc Tryd.prog w base spare held fuel 31 [c0, c1] = some x) : ∃ a : Ke, c0 = .int .i64 a.s ∧ c1 = .int .u32 a.b := by
  have e3 : Tryd.prog.cellsOf 3 = 1 := by kernel_rfl
  have e30 : Tryd.prog.cellsOf 29 = 1 := by kernel_rfl
  obtain ⟨v0, v1, k, _, _, g0, g1⟩ := Go.ChangeShapes.trod_struct2 Tryd.underlying31 hf
  rw [e3] at g0
  rw [e30] at g1
  obtain ⟨z1, q1, _, w1⟩ := DataW.trod_int Tryd.underlying3 g0
  obtain ⟨z2, q2, _, w2⟩ := DataW.trod_int Tryd.underlying29 g1
  have q1' : c0 = .int .i64 z1 := by simpa using q1
  have q2' : c1 = .int .u32 z2 := by simpa using q2
  exact ⟨⟨z1, z2⟩, q1', q2'⟩
set_option maxRecDepth 100000 in
theorem ke_arg {d : DataW H} {p : List MemPlace} {r : Reach} {b0 : Nat} {v : Value} (hv : Value.okWide Tryd.prog w r b0 31 v) (h : DataW.Trod enc Tryd.prog w base spare held 31 v d p) : ∃ a : Ke, v = a.val ∧ a.In := by
  obtain ⟨cs, rfl, hsz⟩ := okWide_struct Tryd.underlying31 hv
  rw [show Tryd.prog.cellsOf 31 = 2 by kernel_rfl] at hsz
  obtain ⟨c0, c1, rfl⟩ := two_of hsz
  obtain ⟨fuel, hf⟩ := h
  obtain ⟨a, rfl, rfl⟩ := ke_cells hf
  exact ⟨a, rfl, trivial⟩
theorem de_cells {fuel : Nat} {c0 c1 c2 : Value} {x : DataW H × List MemPlace} (hf : DataW.trod enc Tryd.prog w base spare held fuel 33 [c0, c1, c2] = some x) : ∃ a : De, c0 = .int .i64 a.kd ∧ c1 = .int .i64 a.s ∧ c2 = .int .u32 a.b := by
  have e3 : Tryd.prog.cellsOf 3 = 1 := by kernel_rfl
  have e32 : Tryd.prog.cellsOf 31 = 2 := by kernel_rfl
  obtain ⟨v0, v1, k, _, _, g0, g1⟩ := Go.ChangeShapes.trod_struct2 Tryd.underlying33 hf
  rw [e3] at g0
  rw [e32] at g1
  obtain ⟨z0, q0, _⟩ := DataW.trod_int Tryd.underlying3 g0
  obtain ⟨a, q1, q2⟩ := ke_cells g1
  have q0' : c0 = .int .i64 z0 := by simpa using q0
  exact ⟨⟨z0, a.s, a.b⟩, q0', q1, q2⟩
theorem des_arg {a : Option Addr} {len cap : Nat} {d : DataW H} {p : List MemPlace} (h : DataW.Trod enc Tryd.prog w base (fun _ => true) held 22 (.slice a len cap) d p) : ∃ l, Des w a len l := by
  obtain ⟨fuel, hf⟩ := h
  rcases Go.Deep.open_slice Tryd.underlying22 hf with ⟨hcs, _⟩ | ⟨x, l, c, m, n, D, Pl, hcs, _, hl, _, hm, _, hi⟩
  · simp [Value.cells] at hcs
    obtain ⟨rfl, rfl, rfl⟩ := hcs
    exact ⟨[], Des.nil _ _⟩
  · simp [Value.cells] at hcs
    obtain ⟨rfl, rfl, rfl⟩ := hcs
    have hm' : m = cap := by simpa using hm
    have e38 : Tryd.prog.cellsOf 33 = 3 := by kernel_rfl
    have key : ∀ i, i < len → ∃ y : De, DeAt w (x.add (i * 3)) y := fun i h => by
      obtain ⟨cs', hc, ht⟩ := hi i (by omega)
      rw [e38] at hc
      obtain ⟨_, hcl, hat⟩ := World.cells?_some hc
      obtain ⟨c0, c1, c2, rfl⟩ := three_in hcl
      obtain ⟨y, rfl, rfl, rfl⟩ := de_cells ht
      refine ⟨y, ?_, hat 1 (by decide), hat 2 (by decide)⟩
      have h2 := hat 0 (by decide)
      rw [Addr.add_zero'] at h2
      rw [h2]; rfl
    obtain ⟨f, hf⟩ := Go.Deep.choose_lt key
    have hat : ∀ j, j < len → de_ ((List.range len).map f) j = f j := fun j hj => by
      unfold de_
      rw [List.getD_eq_getElem?_getD, List.getElem?_map, List.getElem?_range hj]; rfl
    refine ⟨(List.range len).map f, by simp, fun h0 => ?_⟩
    have h1 := World.block_lt_of_cell? w _ (hf 0 h0).c0
    rw [add_block] at h1
    exact ⟨x, rfl, h1, fun j hj => by rw [hat j hj]; exact hf j hj⟩
end
end Go.Proofs.YtfppmlnafalneaaDoor

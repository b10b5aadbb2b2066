/- Plain lemmas on deeds that came in as arguments, one by value and a slice of them. No condition beyond those that each lemma names. -/
import Derived.Test.YtifekpdjenfnbaaOrMath
import Derived.Test.YtifekpdjenfnbaaObj
import Derived.Lib.SmallJoins
import Derived.Deep.Slices
import Derived.Deep.Strs
import Derived.ChangeSame
import Derived.OpenShut
import Derived.WideShapes
namespace Go.Proofs.Ytifekpdjenfnbaa
open Go.ChangeShapes Go.WideShapes Go.ChangeAt Go.RowKit

/-- a deed. -/
structure Dd where
  kind : Int
  x : Int
  body : ByteArray
  room : Int
abbrev Dd.val (d : Dd) : Value := .agg #[.int .i64 d.kind, .int .u32 d.x, .string d.body, .int .i64 d.room]
def Dd.In (d : Dd) : Prop := U32 d.x
instance : Inhabited Dd := ⟨⟨0, 0, ⟨#[]⟩, 0⟩⟩
theorem four_of {α : Type} {cs : Array α} (h : cs.size = 4) : ∃ c0 c1 c2 c3, cs = #[c0, c1, c2, c3] := by
  obtain ⟨l⟩ := cs
  match l, h with
  | [c0, c1, c2, c3], _ => exact ⟨c0, c1, c2, c3, rfl⟩
theorem four_in {l : List Value} (h : l.length = 4) : ∃ a b c d, l = [a, b, c, d] := by
  match l, h with
  | [a, b, c, d], _ => exact ⟨a, b, c, d, rfl⟩
/-- deed j. -/
def dd_ (l : List Dd) (j : Nat) : Dd := l.getD j ⟨0, 0, ⟨#[]⟩, 0⟩
/-- a deed in memory. -/
structure DdAt (w : World) (a : Addr) (d : Dd) : Prop where
  c0 : w.cell? a = some (.int .i64 d.kind)
  c1 : w.cell? ⟨a.block, a.off + 1, none⟩ = some (.int .u32 d.x)
  c2 : w.cell? ⟨a.block, a.off + 2, none⟩ = some (.string d.body)
  c3 : w.cell? ⟨a.block, a.off + 3, none⟩ = some (.int .i64 d.room)
/-- the slice reads as these deeds. -/
def Dds (w : World) (A : Option Addr) (n : Nat) (l : List Dd) : Prop :=
  l.length = n ∧ (∀ j, j < n → (dd_ l j).In) ∧ (0 < n → ∃ ad, A = some ad ∧ ad.block < w.heap.size ∧ ∀ j, j < n → DdAt w (ad.add (j * 4)) (dd_ l j))
theorem Dds.nil (w : World) (A : Option Addr) : Dds w A 0 [] := ⟨rfl, fun _ h => absurd h (by omega), fun h => absurd h (by omega)⟩
theorem Dds.at_ {w : World} {A : Option Addr} {n : Nat} {l : List Dd} (h : Dds w A n l) {k : Nat} (hk : k < n) : ∃ ad, A = some ad ∧ (dd_ l k).In ∧ ∀ w', Below w.heap.size w w' → DdAt w' (ad.add (k * 4)) (dd_ l k) := by
  obtain ⟨ad, e, hlt, hc⟩ := h.2.2 (by omega)
  refine ⟨ad, e, h.2.1 k hk, fun w' hb => ?_⟩
  obtain ⟨q0, q1, q2, q3⟩ := hc k hk
  have hl : (ad.add (k * 4)).block < w.heap.size := by rw [add_block]; omega
  exact ⟨(hb.cell hl).trans q0, (hb.cell (p := ⟨(ad.add (k * 4)).block, (ad.add (k * 4)).off + 1, none⟩) hl).trans q1, (hb.cell (p := ⟨(ad.add (k * 4)).block, (ad.add (k * 4)).off + 2, none⟩) hl).trans q2, (hb.cell (p := ⟨(ad.add (k * 4)).block, (ad.add (k * 4)).off + 3, none⟩) hl).trans q3⟩
section
variable {H : Type} {enc : TypeId × Value → H} {w : World} {base : Nat} {held : Bool} {spare : Nat → Bool}
theorem dd_cells {fuel : Nat} {c0 c1 c2 c3 : Value} {x : DataW H × List MemPlace} (hf : DataW.trod enc Try.prog w base spare held fuel 33 [c0, c1, c2, c3] = some x) :
    ∃ a : Dd, a.In ∧ c0 = .int .i64 a.kind ∧ c1 = .int .u32 a.x ∧ c2 = .string a.body ∧ c3 = .int .i64 a.room := by
  have e3 : Try.prog.cellsOf 3 = 1 := by kernel_rfl
  have e9 : Try.prog.cellsOf 9 = 1 := by kernel_rfl
  have e30 : Try.prog.cellsOf 22 = 1 := by kernel_rfl
  obtain ⟨y0, y1, y2, y3, n, _, _, h0, h1, h2, h3⟩ := Go.Joins.trod_struct4 Try.underlying33 hf
  rw [e3] at h0 h3
  rw [e30] at h1
  rw [e9] at h2
  obtain ⟨z0, q0, _⟩ := DataW.trod_int Try.underlying3 h0
  obtain ⟨z1, q1, _, w1⟩ := DataW.trod_int Try.underlying22 h1
  obtain ⟨z2, q2, _⟩ := DataW.trod_string Try.underlying9 h2
  obtain ⟨z3, q3, _⟩ := DataW.trod_int Try.underlying3 h3
  have q0' : c0 = .int .i64 z0 := by simpa using q0
  have q1' : c1 = .int .u32 z1 := by simpa using q1
  have q2' : c2 = .string z2 := by simpa using q2
  have q3' : c3 = .int .i64 z3 := by simpa using q3
  exact ⟨⟨z0, z1, z2, z3⟩, u32_of w1, q0', q1', q2', q3'⟩
set_option maxRecDepth 100000 in
theorem dd_arg {d : DataW H} {p : List MemPlace} {r : Reach} {b0 : Nat} {v : Value} (hv : Value.okWide Try.prog w r b0 33 v) (h : DataW.Trod enc Try.prog w base spare held 33 v d p) : ∃ a : Dd, v = a.val ∧ a.In := by
  obtain ⟨cs, rfl, hsz⟩ := okWide_struct Try.underlying33 hv
  rw [show Try.prog.cellsOf 33 = 4 by kernel_rfl] at hsz
  obtain ⟨c0, c1, c2, c3, rfl⟩ := four_of hsz
  obtain ⟨fuel, hf⟩ := h
  obtain ⟨a, ha, rfl, rfl, rfl, rfl⟩ := dd_cells hf
  exact ⟨a, rfl, ha⟩
theorem dds_arg {a : Option Addr} {len cap : Nat} {d : DataW H} {p : List MemPlace} (h : DataW.Trod enc Try.prog w base (fun _ => true) held 23 (.slice a len cap) d p) : ∃ l, Dds w a len l := by
  obtain ⟨fuel, hf⟩ := h
  rcases Go.Deep.open_slice Try.underlying23 hf with ⟨hcs, _⟩ | ⟨x, l, c, m, n, D, Pl, hcs, _, hl, _, hm, _, hi⟩
  · simp [Value.cells] at hcs
    obtain ⟨rfl, rfl, rfl⟩ := hcs
    exact ⟨[], Dds.nil _ _⟩
  · simp [Value.cells] at hcs
    obtain ⟨rfl, rfl, rfl⟩ := hcs
    have hm' : m = cap := by simpa using hm
    have e38 : Try.prog.cellsOf 33 = 4 := by kernel_rfl
    have key : ∀ i, i < len → ∃ y : Dd, y.In ∧ DdAt w (x.add (i * 4)) y := fun i h => by
      obtain ⟨cs', hc, ht⟩ := hi i (by omega)
      rw [e38] at hc
      obtain ⟨_, hcl, hat⟩ := World.cells?_some hc
      obtain ⟨c0, c1, c2, c3, rfl⟩ := four_in hcl
      obtain ⟨y, hy, rfl, rfl, rfl, rfl⟩ := dd_cells ht
      refine ⟨y, hy, ?_, hat 1 (by decide), hat 2 (by decide), hat 3 (by decide)⟩
      have h2 := hat 0 (by decide)
      rw [Addr.add_zero'] at h2
      rw [h2]; rfl
    obtain ⟨f, hf⟩ := Go.Deep.choose_lt key
    have hat : ∀ j, j < len → dd_ ((List.range len).map f) j = f j := fun j hj => by
      unfold dd_
      rw [List.getD_eq_getElem?_getD, List.getElem?_map, List.getElem?_range hj]; rfl
    refine ⟨(List.range len).map f, by simp, fun j hj => by rw [hat j hj]; exact (hf j hj).1, fun h0 => ?_⟩
    have h1 := World.block_lt_of_cell? w _ (hf 0 h0).2.c0
    rw [add_block] at h1
    exact ⟨x, rfl, h1, fun j hj => by rw [hat j hj]; exact (hf j hj).2⟩
end
end Go.Proofs.Ytifekpdjenfnbaa

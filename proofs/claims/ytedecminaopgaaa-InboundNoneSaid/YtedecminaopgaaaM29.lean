/- Proved: lemmas of one statement's proof, merged by program: what each part proves stands ahead of it. Conditions: those that the lemmas name. -/
import Derived.Test.YtedecminaopgaaaM8
import Derived.Test.YtedecminaopgaaaM2
import Derived.Lib.SmallJoins
import Derived.Deep.Slices
import Derived.Deep.Strs
import Derived.ChangeSame
import Derived.OpenShut
import Derived.WideShapes

/- Plain lemmas on deeds that came in as arguments, one by value and a slice of them. No condition beyond those that each lemma names. -/
namespace Go.Proofs.Ytedecminaopgaaa
open Go.ChangeShapes Go.WideShapes Go.ChangeAt Go.RowKit

/-- a deed. -/
structure Di where
  kind : Int
  x : Int
  body : ByteArray
  room : Int
abbrev Di.val (d : Di) : Value := .agg #[.int .i64 d.kind, .int .u32 d.x, .string d.body, .int .i64 d.room]
def Di.In (d : Di) : Prop := U32 d.x
theorem ib_four_of {α : Type} {cs : Array α} (h : cs.size = 4) : ∃ c0 c1 c2 c3, cs = #[c0, c1, c2, c3] := by
  obtain ⟨l⟩ := cs
  match l, h with
  | [c0, c1, c2, c3], _ => exact ⟨c0, c1, c2, c3, rfl⟩
section
variable {H : Type} {enc : TypeId × Value → H} {w : World} {base : Nat} {held : Bool} {spare : Nat → Bool}
theorem di_cells {fuel : Nat} {c0 c1 c2 c3 : Value} {x : DataW H × List MemPlace} (hf : DataW.trod enc Try.prog w base spare held fuel 41 [c0, c1, c2, c3] = some x) :
    ∃ a : Di, a.In ∧ c0 = .int .i64 a.kind ∧ c1 = .int .u32 a.x ∧ c2 = .string a.body ∧ c3 = .int .i64 a.room := by
  have e3 : Try.prog.cellsOf 3 = 1 := by kernel_rfl
  have e9 : Try.prog.cellsOf 9 = 1 := by kernel_rfl
  have e30 : Try.prog.cellsOf 32 = 1 := by kernel_rfl
  obtain ⟨y0, y1, y2, y3, n, _, _, h0, h1, h2, h3⟩ := Go.Joins.trod_struct4 Try.underlying41 hf
  rw [e3] at h0 h3
  rw [e30] at h1
  rw [e9] at h2
  obtain ⟨z0, q0, _⟩ := DataW.trod_int Try.underlying3 h0
  obtain ⟨z1, q1, _, w1⟩ := DataW.trod_int Try.underlying32 h1
  obtain ⟨z2, q2, _⟩ := DataW.trod_string Try.underlying9 h2
  obtain ⟨z3, q3, _⟩ := DataW.trod_int Try.underlying3 h3
  have q0' : c0 = .int .i64 z0 := by simpa using q0
  have q1' : c1 = .int .u32 z1 := by simpa using q1
  have q2' : c2 = .string z2 := by simpa using q2
  have q3' : c3 = .int .i64 z3 := by simpa using q3
  exact ⟨⟨z0, z1, z2, z3⟩, u32_of w1, q0', q1', q2', q3'⟩
set_option maxRecDepth 100000 in
theorem di_arg {d : DataW H} {p : List MemPlace} {r : Reach} {b0 : Nat} {v : Value} (hv : Value.okWide Try.prog w r b0 41 v) (h : DataW.Trod enc Try.prog w base spare held 41 v d p) : ∃ a : Di, v = a.val ∧ a.In := by
  obtain ⟨cs, rfl, hsz⟩ := okWide_struct Try.underlying41 hv
  rw [show Try.prog.cellsOf 41 = 4 by kernel_rfl] at hsz
  obtain ⟨c0, c1, c2, c3, rfl⟩ := ib_four_of hsz
  obtain ⟨fuel, hf⟩ := h
  obtain ⟨a, ha, rfl, rfl, rfl, rfl⟩ := di_cells hf
  exact ⟨a, rfl, ha⟩
end
end Go.Proofs.Ytedecminaopgaaa

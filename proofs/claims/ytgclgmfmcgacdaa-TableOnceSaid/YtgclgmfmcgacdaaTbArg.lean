/- Plain lemmas on deeds that came in as arguments. No condition beyond those that each lemma names. -/
import Derived.Test.YtgclgmfmcgacdaaTbNone
import Derived.Lib.SmallJoins
import Derived.Deep.Slices
import Derived.Deep.Strs
import Derived.ChangeSame
import Derived.OpenShut
import Derived.WideShapes
namespace Go.Proofs.Ytgclgmfmcgacdaa
open Go.ChangeShapes Go.WideShapes Go.ChangeAt Go.RowKit

theorem six_of {α : Type} {cs : Array α} (h : cs.size = 6) : ∃ c0 c1 c2 c3 c4 c5, cs = #[c0, c1, c2, c3, c4, c5] := by
  obtain ⟨l⟩ := cs
  match l, h with
  | [c0, c1, c2, c3, c4, c5], _ => exact ⟨c0, c1, c2, c3, c4, c5, rfl⟩
theorem six_in {l : List Value} (h : l.length = 6) : ∃ a b c d e f, l = [a, b, c, d, e, f] := by
  match l, h with
  | [a, b, c, d, e, f], _ => exact ⟨a, b, c, d, e, f, rfl⟩
instance : Inhabited De := ⟨⟨0, (0, 0), 0, 0, ⟨#[]⟩⟩⟩
/-- as a deed comes in. -/
def De.In (d : De) : Prop := KyOk d.k ∧ (Lit.int .i64 d.need).wf = true ∧ (Lit.int .i64 d.i).wf = true
section
variable {H : Type} {enc : TypeId × Value → H} {w : World} {base : Nat} {held : Bool} {spare : Nat → Bool}
theorem de_cells {fuel : Nat} {c0 c1 c2 c3 c4 c5 : Value} {x : DataW H × List MemPlace} (hf : DataW.trod enc Try.prog w base spare held fuel 37 [c0, c1, c2, c3, c4, c5] = some x) :
    ∃ a : De, a.In ∧ c0 = .int .i64 a.kd ∧ c1 = .int .i64 a.k.1 ∧ c2 = .int .u32 a.k.2 ∧ c3 = .int .i64 a.need ∧ c4 = .int .i64 a.i ∧ c5 = .string a.t := by
  have e3 : Try.prog.cellsOf 3 = 1 := by kernel_rfl
  have e9 : Try.prog.cellsOf 9 = 1 := by kernel_rfl
  have e30 : Try.prog.cellsOf 33 = 1 := by kernel_rfl
  have e32 : Try.prog.cellsOf 35 = 2 := by kernel_rfl
  have e33 : Try.prog.cellsOf 32 = 2 := by kernel_rfl
  obtain ⟨y0, y1, y2, y3, n, _, _, h0, h1, h2, h3⟩ := Go.Joins.trod_struct4 Try.underlying37 hf
  rw [e3] at h0 h2
  rw [e32] at h1
  rw [e33] at h3
  obtain ⟨z0, q0, _⟩ := DataW.trod_int Try.underlying3 h0
  obtain ⟨z3, q3, _, w3⟩ := DataW.trod_int Try.underlying3 h2
  obtain ⟨v0, v1, k, _, _, g0, g1⟩ := Go.ChangeShapes.trod_struct2 Try.underlying35 h1
  rw [e3] at g0
  rw [e30] at g1
  obtain ⟨z1, q1, _, w1⟩ := DataW.trod_int Try.underlying3 g0
  obtain ⟨z2, q2, _, w2⟩ := DataW.trod_int Try.underlying33 g1
  obtain ⟨v2, v3, k', _, _, g2, g3⟩ := Go.ChangeShapes.trod_struct2 Try.underlying32 h3
  rw [e3] at g2
  rw [e9] at g3
  obtain ⟨z4, q4, _, w4⟩ := DataW.trod_int Try.underlying3 g2
  obtain ⟨z5, q5, _⟩ := DataW.trod_string Try.underlying9 g3
  have q0' : c0 = .int .i64 z0 := by simpa using q0
  have q1' : c1 = .int .i64 z1 := by simpa using q1
  have q2' : c2 = .int .u32 z2 := by simpa using q2
  have q3' : c3 = .int .i64 z3 := by simpa using q3
  have q4' : c4 = .int .i64 z4 := by simpa using q4
  have q5' : c5 = .string z5 := by simpa using q5
  exact ⟨⟨z0, (z1, z2), z3, z4, z5⟩, ⟨ky_of_wf w1 w2, w3, w4⟩, q0', q1', q2', q3', q4', q5'⟩
set_option maxRecDepth 100000 in
theorem de_arg {d : DataW H} {p : List MemPlace} {r : Reach} {b0 : Nat} {v : Value} (hv : Value.okWide Try.prog w r b0 37 v) (h : DataW.Trod enc Try.prog w base spare held 37 v d p) : ∃ a : De, v = a.val ∧ a.In := by
  obtain ⟨cs, rfl, hsz⟩ := okWide_struct Try.underlying37 hv
  rw [show Try.prog.cellsOf 37 = 6 by kernel_rfl] at hsz
  obtain ⟨c0, c1, c2, c3, c4, c5, rfl⟩ := six_of hsz
  obtain ⟨fuel, hf⟩ := h
  obtain ⟨a, ha, rfl, rfl, rfl, rfl, rfl, rfl⟩ := de_cells hf
  exact ⟨a, rfl, ha⟩
end
end Go.Proofs.Ytgclgmfmcgacdaa

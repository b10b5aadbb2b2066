/- Proved: an array of two bytes that came in. No condition beyond those that each lemma names. -/
import Derived.Test.YtplbdeaoeocgkaaDrFair2
import Derived.OpenShut
import Derived.WideShapes
namespace Go.Proofs.Ytplbdeaoeocgkaa
open Go.ChangeShapes Go.WideShapes Go.ChangeAt Go.RowKit

/-- two bytes in an array that came in. -/
structure Two8 where
  x : Int
  y : Int
def Two8.val (a : Two8) : Value := .agg #[.int .u8 a.x, .int .u8 a.y]
def Two8.In (a : Two8) : Prop := (0 ≤ a.x ∧ a.x ≤ 255) ∧ (0 ≤ a.y ∧ a.y ≤ 255)
section
variable {H : Type} {enc : TypeId × Value → H} {w : World} {base : Nat} {held : Bool} {d : DataW H} {p : List MemPlace} {spare : Nat → Bool}
theorem okWide_two8 {r : Reach} {b0 : Nat} {v : Value} (h : Value.okWide Try.prog w r b0 43 v) : ∃ c0 c1, v = .agg #[c0, c1] := by
  simp only [Value.okWide, Try.underlying43] at h
  obtain ⟨cs, h1, h2, _⟩ := h
  rw [show Try.prog.cellsOf 43 = 2 by kernel_rfl] at h2
  obtain ⟨l⟩ := cs
  match l, h2 with
  | [c0, c1], _ => exact ⟨c0, c1, h1⟩
theorem two8_arg {r : Reach} {b0 : Nat} {v : Value} (hv : Value.okWide Try.prog w r b0 43 v) (h : DataW.Trod enc Try.prog w base spare held 43 v d p) : ∃ a : Two8, v = a.val ∧ a.In := by
  obtain ⟨c0, c1, rfl⟩ := okWide_two8 hv
  obtain ⟨fuel, hf⟩ := h
  obtain ⟨xs, n, _, _, _, hlen, hat⟩ := DataW.trod_array Try.underlying43 hf
  have e3 : Try.prog.cellsOf 5 = 1 := by kernel_rfl
  rw [e3] at hat
  obtain ⟨y0, j0⟩ : ∃ y, xs[0]? = some y := ⟨_, List.getElem?_eq_getElem (by omega)⟩
  obtain ⟨y1, j1⟩ : ∃ y, xs[1]? = some y := ⟨_, List.getElem?_eq_getElem (by omega)⟩
  have g0 : DataW.trod enc Try.prog w base spare held n 5 [c0] = some y0 := (hat 0 (by decide)).trans j0
  have g1 : DataW.trod enc Try.prog w base spare held n 5 [c1] = some y1 := (hat 1 (by decide)).trans j1
  obtain ⟨z0, q0, _, f0⟩ := DataW.trod_int Try.underlying5 g0
  obtain ⟨z1, q1, _, f1⟩ := DataW.trod_int Try.underlying5 g1
  simp at q0 q1
  subst q0 q1
  exact ⟨⟨z0, z1⟩, rfl, bounds_u8 f0, bounds_u8 f1⟩
end
end Go.Proofs.Ytplbdeaoeocgkaa

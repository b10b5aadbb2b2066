/- Proved: lemmas of one statement's proof, merged by program: what each part proves stands ahead of it. Conditions: those that the lemmas name. -/
import Derived.Test.YtmnbkghihdbepaaM32
import Derived.Deep.Slices
import Derived.ChangeSame
import Derived.OpenShut
import Derived.WideShapes

/- Plain lemmas on a datagram that came in as an argument. No condition beyond those that each lemma names. -/
namespace Go.Proofs.Ytmnbkghihdbepaa
open Go.ChangeShapes Go.WideShapes Go.ChangeAt Go.RowKit

theorem ten_of {α : Type} {cs : Array α} (h : cs.size = 10) : ∃ c0 c1 c2 c3 c4 c5 c6 c7 c8 c9, cs = #[c0, c1, c2, c3, c4, c5, c6, c7, c8, c9] := by
  obtain ⟨l⟩ := cs
  match l, h with
  | [c0, c1, c2, c3, c4, c5, c6, c7, c8, c9], _ => exact ⟨c0, c1, c2, c3, c4, c5, c6, c7, c8, c9, rfl⟩
section
variable {H : Type} {enc : TypeId × Value → H} {w : World} {base : Nat} {held : Bool} {d : DataW H} {p : List MemPlace} {spare : Nat → Bool}
theorem dg_arg {r : Reach} {b0 : Nat} {v : Value} (hv : Value.okWide Try.prog w r b0 29 v) (h : DataW.Trod enc Try.prog w base spare held 29 v d p) : ∃ a : Dg, v = a.val ∧ a.In := by
  obtain ⟨cs, rfl, hsz⟩ := okWide_struct Try.underlying29 hv
  rw [show Try.prog.cellsOf 29 = 10 by kernel_rfl] at hsz
  obtain ⟨c0, c1, c2, c3, c4, c5, c6, c7, c8, c9, rfl⟩ := ten_of hsz
  obtain ⟨fuel, hf⟩ := h
  obtain ⟨xs, n, _, _, _, hlen, hat⟩ := DataW.trod_struct Try.underlying29 hf
  have e3 : Try.prog.cellsOf 3 = 1 := by kernel_rfl
  have e9 : Try.prog.cellsOf 9 = 1 := by kernel_rfl
  have e22 : Try.prog.cellsOf 27 = 1 := by kernel_rfl
  have hx : xs.length = 10 := hlen
  have hin : ∀ (i : Nat), i < 10 → ∃ y, xs[i]? = some y := fun i hi => ⟨_, List.getElem?_eq_getElem (by rw [hx]; exact hi)⟩
  obtain ⟨y0, j0⟩ := hin 0 (by decide)
  have g0 : DataW.trod enc Try.prog w base spare held n 3 [c0] = some y0 := by
    have h : DataW.trod enc Try.prog w base spare held n 3 (List.take (Try.prog.cellsOf 3) (List.drop 0 [c0, c1, c2, c3, c4, c5, c6, c7, c8, c9])) = xs[0]? := hat 0 _ rfl
    rw [e3, j0] at h
    exact h
  obtain ⟨y1, j1⟩ := hin 1 (by decide)
  have g1 : DataW.trod enc Try.prog w base spare held n 3 [c1] = some y1 := by
    have h : DataW.trod enc Try.prog w base spare held n 3 (List.take (Try.prog.cellsOf 3) (List.drop 1 [c0, c1, c2, c3, c4, c5, c6, c7, c8, c9])) = xs[1]? := hat 1 _ rfl
    rw [e3, j1] at h
    exact h
  obtain ⟨y2, j2⟩ := hin 2 (by decide)
  have g2 : DataW.trod enc Try.prog w base spare held n 27 [c2] = some y2 := by
    have h : DataW.trod enc Try.prog w base spare held n 27 (List.take (Try.prog.cellsOf 27) (List.drop 2 [c0, c1, c2, c3, c4, c5, c6, c7, c8, c9])) = xs[2]? := hat 2 _ rfl
    rw [e22, j2] at h
    exact h
  obtain ⟨y3, j3⟩ := hin 3 (by decide)
  have g3 : DataW.trod enc Try.prog w base spare held n 3 [c3] = some y3 := by
    have h : DataW.trod enc Try.prog w base spare held n 3 (List.take (Try.prog.cellsOf 3) (List.drop 3 [c0, c1, c2, c3, c4, c5, c6, c7, c8, c9])) = xs[3]? := hat 3 _ rfl
    rw [e3, j3] at h
    exact h
  obtain ⟨y4, j4⟩ := hin 4 (by decide)
  have g4 : DataW.trod enc Try.prog w base spare held n 3 [c4] = some y4 := by
    have h : DataW.trod enc Try.prog w base spare held n 3 (List.take (Try.prog.cellsOf 3) (List.drop 4 [c0, c1, c2, c3, c4, c5, c6, c7, c8, c9])) = xs[4]? := hat 4 _ rfl
    rw [e3, j4] at h
    exact h
  obtain ⟨y5, j5⟩ := hin 5 (by decide)
  have g5 : DataW.trod enc Try.prog w base spare held n 3 [c5] = some y5 := by
    have h : DataW.trod enc Try.prog w base spare held n 3 (List.take (Try.prog.cellsOf 3) (List.drop 5 [c0, c1, c2, c3, c4, c5, c6, c7, c8, c9])) = xs[5]? := hat 5 _ rfl
    rw [e3, j5] at h
    exact h
  obtain ⟨y6, j6⟩ := hin 6 (by decide)
  have g6 : DataW.trod enc Try.prog w base spare held n 3 [c6] = some y6 := by
    have h : DataW.trod enc Try.prog w base spare held n 3 (List.take (Try.prog.cellsOf 3) (List.drop 6 [c0, c1, c2, c3, c4, c5, c6, c7, c8, c9])) = xs[6]? := hat 6 _ rfl
    rw [e3, j6] at h
    exact h
  obtain ⟨y7, j7⟩ := hin 7 (by decide)
  have g7 : DataW.trod enc Try.prog w base spare held n 3 [c7] = some y7 := by
    have h : DataW.trod enc Try.prog w base spare held n 3 (List.take (Try.prog.cellsOf 3) (List.drop 7 [c0, c1, c2, c3, c4, c5, c6, c7, c8, c9])) = xs[7]? := hat 7 _ rfl
    rw [e3, j7] at h
    exact h
  obtain ⟨y8, j8⟩ := hin 8 (by decide)
  have g8 : DataW.trod enc Try.prog w base spare held n 9 [c8] = some y8 := by
    have h : DataW.trod enc Try.prog w base spare held n 9 (List.take (Try.prog.cellsOf 9) (List.drop 8 [c0, c1, c2, c3, c4, c5, c6, c7, c8, c9])) = xs[8]? := hat 8 _ rfl
    rw [e9, j8] at h
    exact h
  obtain ⟨y9, j9⟩ := hin 9 (by decide)
  have g9 : DataW.trod enc Try.prog w base spare held n 9 [c9] = some y9 := by
    have h : DataW.trod enc Try.prog w base spare held n 9 (List.take (Try.prog.cellsOf 9) (List.drop 9 [c0, c1, c2, c3, c4, c5, c6, c7, c8, c9])) = xs[9]? := hat 9 _ rfl
    rw [e9, j9] at h
    exact h
  obtain ⟨z0, q0, _, _⟩ := DataW.trod_int Try.underlying3 g0
  obtain ⟨z1, q1, _, _⟩ := DataW.trod_int Try.underlying3 g1
  obtain ⟨z2, q2, _, f2⟩ := DataW.trod_int Try.underlying27 g2
  obtain ⟨z3, q3, _, _⟩ := DataW.trod_int Try.underlying3 g3
  obtain ⟨z4, q4, _, _⟩ := DataW.trod_int Try.underlying3 g4
  obtain ⟨z5, q5, _, _⟩ := DataW.trod_int Try.underlying3 g5
  obtain ⟨z6, q6, _, _⟩ := DataW.trod_int Try.underlying3 g6
  obtain ⟨z7, q7, _, _⟩ := DataW.trod_int Try.underlying3 g7
  obtain ⟨z8, q8, _, f8⟩ := DataW.trod_string Try.underlying9 g8
  obtain ⟨z9, q9, _, f9⟩ := DataW.trod_string Try.underlying9 g9
  have hb : 0 ≤ z2 ∧ z2 ≤ 4294967295 := by simpa [Lit.wf, IntKind.min, IntKind.max, IntKind.signed, IntKind.bits] using f2
  obtain ⟨m, rfl⟩ := Int.eq_ofNat_of_zero_le hb.1
  simp at q0 q1 q2 q3 q4 q5 q6 q7 q8 q9
  subst q0 q1 q2 q3 q4 q5 q6 q7 q8 q9
  exact ⟨⟨z0, z1, m, z3, z4, z5, z6, z7, z8, z9⟩, rfl, by show m < 4294967296; omega, f8, f9⟩
end
end Go.Proofs.Ytmnbkghihdbepaa

/- Plain lemmas on deeds that came in as arguments. No condition beyond those that each lemma names. -/
import Derived.Test.YtjeangfcnkhamaaRgLaw2
import Derived.Deep.Slices
import Derived.Deep.Strs
import Derived.ChangeSame
import Derived.OpenShut
import Derived.WideShapes
namespace Go.Proofs.Ytjeangfcnkhamaa
open Go.ChangeShapes Go.WideShapes Go.ChangeAt Go.RowKit

theorem three_of {α : Type} {cs : Array α} (h : cs.size = 3) : ∃ c0 c1 c2, cs = #[c0, c1, c2] := by
  obtain ⟨l⟩ := cs
  match l, h with
  | [c0, c1, c2], _ => exact ⟨c0, c1, c2, rfl⟩
theorem three_in {l : List Value} (h : l.length = 3) : ∃ a b c, l = [a, b, c] := by
  match l, h with
  | [a, b, c], _ => exact ⟨a, b, c, rfl⟩
instance : Inhabited Dee := ⟨⟨0, 0, S0⟩⟩
def Dee.In (_ : Dee) : Prop := True
section
variable {H : Type} {enc : TypeId × Value → H} {w : World} {base : Nat} {held : Bool} {d : DataW H} {p : List MemPlace} {spare : Nat → Bool}
theorem deed_arg {r : Reach} {b0 : Nat} {v : Value} (hv : Value.okWide Try.prog w r b0 29 v) (h : DataW.Trod enc Try.prog w base spare held 29 v d p) : ∃ a : Dee, v = a.val ∧ a.In := by
  obtain ⟨cs, rfl, hsz⟩ := okWide_struct Try.underlying29 hv
  rw [show Try.prog.cellsOf 29 = 3 by kernel_rfl] at hsz
  obtain ⟨c0, c1, c2, rfl⟩ := three_of hsz
  obtain ⟨fuel, hf⟩ := h
  have e3 : Try.prog.cellsOf 3 = 1 := by kernel_rfl
  have e9 : Try.prog.cellsOf 9 = 1 := by kernel_rfl
  obtain ⟨y0, y1, y2, n, _, _, h0, h1, h2⟩ := Go.Deep.trod_struct3 Try.underlying29 hf
  rw [e3] at h0 h1
  rw [e9] at h2
  obtain ⟨z0, q0, _⟩ := DataW.trod_int Try.underlying3 h0
  obtain ⟨z1, q1, _⟩ := DataW.trod_int Try.underlying3 h1
  obtain ⟨z2, q2, _⟩ := DataW.trod_string Try.underlying9 h2
  have q0' : c0 = .int .i64 z0 := by simpa [Value.cells] using q0
  have q1' : c1 = .int .i64 z1 := by simpa [Value.cells] using q1
  have q2' : c2 = .string z2 := by simpa [Value.cells] using q2
  subst q0' q1' q2'
  exact ⟨⟨z0, z1, z2⟩, rfl, trivial⟩
end
section
variable {H : Type} {enc : TypeId × Value → H} {w : World} {base : Nat} {held : Bool} {a : Option Addr} {len cap : Nat} {d : DataW H} {p : List MemPlace}
theorem deeds_arg (h : DataW.Trod enc Try.prog w base (fun _ => true) held 22 (.slice a len cap) d p) : ∃ l, Ds w a len l := by
  obtain ⟨fuel, hf⟩ := h
  rcases Go.Deep.open_slice Try.underlying22 hf with ⟨hcs, _⟩ | ⟨x, l, c, m, n, D, Pl, hcs, _, hl, _, hm, _, hi⟩
  · simp [Value.cells] at hcs
    obtain ⟨rfl, rfl, rfl⟩ := hcs
    exact ⟨[], Ds.nil _ _⟩
  · simp [Value.cells] at hcs
    obtain ⟨rfl, rfl, rfl⟩ := hcs
    have hm' : m = cap := by simpa using hm
    have e38 : Try.prog.cellsOf 29 = 3 := by kernel_rfl
    have e3 : Try.prog.cellsOf 3 = 1 := by kernel_rfl
    have e9 : Try.prog.cellsOf 9 = 1 := by kernel_rfl
    have key : ∀ i, i < len → ∃ y : Dee, w.cell? (x.add (i * 3)) = some (.int .i64 y.kind) ∧ w.cell? ⟨(x.add (i * 3)).block, (x.add (i * 3)).off + 1, none⟩ = some (.int .i64 y.n) ∧ w.cell? ⟨(x.add (i * 3)).block, (x.add (i * 3)).off + 2, none⟩ = some (.string y.body) := fun i h => by
      obtain ⟨cs', hc, ht⟩ := hi i (by omega)
      rw [e38] at hc
      obtain ⟨_, hcl, hat⟩ := World.cells?_some hc
      obtain ⟨y0, y1, y2, k, _, _, h0, h1, h2⟩ := Go.Deep.trod_struct3 Try.underlying29 ht
      obtain ⟨c0, c1, c2, rfl⟩ := three_in hcl
      rw [e3] at h0 h1
      rw [e9] at h2
      obtain ⟨z0, q0, _⟩ := DataW.trod_int Try.underlying3 h0
      obtain ⟨z1, q1, _⟩ := DataW.trod_int Try.underlying3 h1
      obtain ⟨z2, q2, _⟩ := DataW.trod_string Try.underlying9 h2
      have q0' : c0 = .int .i64 z0 := by simpa using q0
      have q1' : c1 = .int .i64 z1 := by simpa using q1
      have q2' : c2 = .string z2 := by simpa using q2
      subst q0' q1' q2'
      refine ⟨⟨z0, z1, z2⟩, ?_, ?_, ?_⟩
      · have h2 := hat 0 (by decide)
        rw [Addr.add_zero'] at h2
        rw [h2]; rfl
      · exact hat 1 (by decide)
      · exact hat 2 (by decide)
    obtain ⟨f, hf⟩ := Go.Deep.choose_lt key
    have hat : ∀ j, j < len → dee_ ((List.range len).map f) j = f j := fun j hj => by
      unfold dee_
      rw [List.getD_eq_getElem?_getD, List.getElem?_map, List.getElem?_range hj]; rfl
    refine ⟨(List.range len).map f, by simp, fun h0 => ?_⟩
    have h1 := World.block_lt_of_cell? w _ (hf 0 h0).1
    rw [add_block] at h1
    exact ⟨x, rfl, h1, fun j hj => by rw [hat j hj]; exact hf j hj⟩
end
end Go.Proofs.Ytjeangfcnkhamaa

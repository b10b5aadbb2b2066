/- Plain lemmas on deeds that came in as arguments. No condition beyond those that each lemma names. -/
import Derived.Test.YtkmnlpohbemlgaaBlPlay
import Derived.Deep.Slices
import Derived.Deep.Strs
import Derived.ChangeSame
import Derived.OpenShut
import Derived.WideShapes
namespace Go.Proofs.Ytkmnlpohbemlgaa
open Go.ChangeShapes Go.WideShapes Go.ChangeAt Go.RowKit

theorem two_in {l : List Value} (h : l.length = 2) : ∃ a b, l = [a, b] := by
  match l, h with
  | [a, b], _ => exact ⟨a, b, rfl⟩
instance : Inhabited Bd := ⟨⟨0, S0⟩⟩
section
variable {H : Type} {enc : TypeId × Value → H} {w : World} {base : Nat} {held : Bool} {a : Option Addr} {len cap : Nat} {d : DataW H} {p : List MemPlace}
theorem bds_arg (h : DataW.Trod enc Try.prog w base (fun _ => true) held 22 (.slice a len cap) d p) : ∃ l, Bds w a len l := by
  obtain ⟨fuel, hf⟩ := h
  rcases Go.Deep.open_slice Try.underlying22 hf with ⟨hcs, _⟩ | ⟨x, l, c, m, n, D, Pl, hcs, _, hl, _, hm, _, hi⟩
  · simp [Value.cells] at hcs
    obtain ⟨rfl, rfl, rfl⟩ := hcs
    exact ⟨[], Bds.nil _ _⟩
  · simp [Value.cells] at hcs
    obtain ⟨rfl, rfl, rfl⟩ := hcs
    have hm' : m = cap := by simpa using hm
    have e38 : Try.prog.cellsOf 29 = 2 := by kernel_rfl
    have e3 : Try.prog.cellsOf 3 = 1 := by kernel_rfl
    have e9 : Try.prog.cellsOf 9 = 1 := by kernel_rfl
    have key : ∀ i, i < len → ∃ y : Bd, w.cell? (x.add (i * 2)) = some (.int .i64 y.kind) ∧ w.cell? ⟨(x.add (i * 2)).block, (x.add (i * 2)).off + 1, none⟩ = some (.string y.body) := fun i h => by
      obtain ⟨cs', hc, ht⟩ := hi i (by omega)
      rw [e38] at hc
      obtain ⟨_, hcl, hat⟩ := World.cells?_some hc
      obtain ⟨y0, y1, k, _, _, h0, h1⟩ := Go.ChangeShapes.trod_struct2 Try.underlying29 ht
      obtain ⟨c0, c1, rfl⟩ := two_in hcl
      rw [e3] at h0
      rw [e9] at h1
      obtain ⟨z0, q0, _⟩ := DataW.trod_int Try.underlying3 h0
      obtain ⟨z1, q1, _⟩ := DataW.trod_string Try.underlying9 h1
      have q0' : c0 = .int .i64 z0 := by simpa using q0
      have q1' : c1 = .string z1 := by simpa using q1
      subst q0' q1'
      refine ⟨⟨z0, z1⟩, ?_, ?_⟩
      · have h2 := hat 0 (by decide)
        rw [Addr.add_zero'] at h2
        rw [h2]; rfl
      · exact hat 1 (by decide)
    obtain ⟨f, hf⟩ := Go.Deep.choose_lt key
    have hat : ∀ j, j < len → bd_ ((List.range len).map f) j = f j := fun j hj => by
      unfold bd_
      rw [List.getD_eq_getElem?_getD, List.getElem?_map, List.getElem?_range hj]; rfl
    refine ⟨(List.range len).map f, by simp, fun h0 => ?_⟩
    have h1 := World.block_lt_of_cell? w _ (hf 0 h0).1
    rw [add_block] at h1
    exact ⟨x, rfl, h1, fun j hj => by rw [hat j hj]; exact hf j hj⟩
end
end Go.Proofs.Ytkmnlpohbemlgaa

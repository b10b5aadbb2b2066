/- Plain lemmas on texts that came in as an argument. No condition beyond those that each lemma names. -/
import Derived.Test.YtkmnlpohbemlgaaTxt
import Derived.SliceStrings
import Derived.OpenShut
namespace Go.Proofs.Ytkmnlpohbemlgaa
open Go.ChangeShapes Go.WideShapes Go.ChangeAt Go.RowKit

section
variable {H : Type} {enc : TypeId × Value → H} {w : World} {base : Nat} {held : Bool} {a : Option Addr} {len cap : Nat} {d : DataW H} {p : List MemPlace}
theorem texts_arg (h : DataW.Trod enc Try.prog w base (fun _ => true) held 37 (.slice a len cap) d p) : ∃ l, Ss w a len l := by
  obtain ⟨fuel, hf⟩ := h
  rcases open_strings Try.underlying37 Try.underlying9 (by kernel_rfl) hf with ⟨hcs, _⟩ | ⟨x, l, c, ss, hcs, _, hl, _, hz, _, hcell, _⟩
  · simp [Value.cells] at hcs
    obtain ⟨rfl, rfl, rfl⟩ := hcs
    exact ⟨[], Ss.nil _ _⟩
  · simp [Value.cells] at hcs
    obtain ⟨rfl, rfl, rfl⟩ := hcs
    have hz' : ss.length = cap := by simpa using hz
    refine ⟨ss.take len, by rw [List.length_take]; omega, fun h0 => ?_⟩
    have h1 := World.block_lt_of_cell? w _ (hcell 0 (by omega))
    rw [add_block] at h1
    refine ⟨x, rfl, h1, fun j hj => ?_⟩
    rw [hcell j (by omega)]
    unfold st_
    rw [List.getD_eq_getElem?_getD, List.getD_eq_getElem?_getD, List.getElem?_take, if_pos hj]
end
end Go.Proofs.Ytkmnlpohbemlgaa

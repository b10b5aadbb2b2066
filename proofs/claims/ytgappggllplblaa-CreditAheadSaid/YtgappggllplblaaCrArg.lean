/- Plain lemmas on deeds that came in as arguments. No condition beyond those that each lemma names. -/
import Derived.Test.YtgappggllplblaaCrLaw
import Derived.Deep.Slices
import Derived.Deep.Strs
import Derived.ChangeSame
import Derived.OpenShut
import Derived.WideShapes
namespace Go.Proofs.Ytgappggllplblaa
open Go.ChangeShapes Go.WideShapes Go.ChangeAt Go.RowKit

theorem two_in {l : List Value} (h : l.length = 2) : ∃ a b, l = [a, b] := by
  match l, h with
  | [a, b], _ => exact ⟨a, b, rfl⟩
instance : Inhabited Cd := ⟨⟨0, 0⟩⟩
section
variable {H : Type} {enc : TypeId × Value → H} {w : World} {base : Nat} {held : Bool} {a : Option Addr} {len cap : Nat} {d : DataW H} {p : List MemPlace}
theorem cds_arg (h : DataW.Trod enc Try.prog w base (fun _ => true) held 23 (.slice a len cap) d p) : ∃ l, Cds w a len l := by
  obtain ⟨fuel, hf⟩ := h
  rcases Go.Deep.open_slice Try.underlying23 hf with ⟨hcs, _⟩ | ⟨x, l, c, m, n, D, Pl, hcs, _, hl, _, hm, _, hi⟩
  · simp [Value.cells] at hcs
    obtain ⟨rfl, rfl, rfl⟩ := hcs
    exact ⟨[], Cds.nil _ _⟩
  · simp [Value.cells] at hcs
    obtain ⟨rfl, rfl, rfl⟩ := hcs
    have hm' : m = cap := by simpa using hm
    have e38 : Try.prog.cellsOf 30 = 2 := by kernel_rfl
    have e3 : Try.prog.cellsOf 3 = 1 := by kernel_rfl
    have e9 : Try.prog.cellsOf 22 = 1 := by kernel_rfl
    have key : ∀ i, i < len → ∃ y : Cd, U32 y.x ∧ w.cell? (x.add (i * 2)) = some (.int .u32 y.x) ∧ w.cell? ⟨(x.add (i * 2)).block, (x.add (i * 2)).off + 1, none⟩ = some (.int .i64 y.n) := fun i h => by
      obtain ⟨cs', hc, ht⟩ := hi i (by omega)
      rw [e38] at hc
      obtain ⟨_, hcl, hat⟩ := World.cells?_some hc
      obtain ⟨c0, c1, rfl⟩ := two_in hcl
      obtain ⟨y0, y1, k, _, _, h0, h1⟩ := Go.ChangeShapes.trod_struct2 Try.underlying30 ht
      rw [e9] at h0
      rw [e3] at h1
      obtain ⟨z0, q0, _, w0⟩ := DataW.trod_int Try.underlying22 h0
      obtain ⟨z1, q1, _⟩ := DataW.trod_int Try.underlying3 h1
      have q0' : c0 = .int .u32 z0 := by simpa using q0
      have q1' : c1 = .int .i64 z1 := by simpa using q1
      subst q0' q1'
      refine ⟨⟨z0, z1⟩, u32_of w0, ?_, ?_⟩
      · have h2 := hat 0 (by decide)
        rw [Addr.add_zero'] at h2
        rw [h2]; rfl
      · exact hat 1 (by decide)
    obtain ⟨f, hf⟩ := Go.Deep.choose_lt key
    have hat : ∀ j, j < len → cd_ ((List.range len).map f) j = f j := fun j hj => by
      unfold cd_
      rw [List.getD_eq_getElem?_getD, List.getElem?_map, List.getElem?_range hj]; rfl
    refine ⟨(List.range len).map f, by simp, fun j hj => by rw [hat j hj]; exact (hf j hj).1, fun h0 => ?_⟩
    have h1 := World.block_lt_of_cell? w _ (hf 0 h0).2.1
    rw [cr_add_block] at h1
    exact ⟨x, rfl, h1, fun j hj => by rw [hat j hj]; exact (hf j hj).2⟩
end
end Go.Proofs.Ytgappggllplblaa

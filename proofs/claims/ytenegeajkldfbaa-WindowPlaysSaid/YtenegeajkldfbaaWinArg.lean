/- Plain lemmas on deeds that came in as arguments. No condition beyond those that each lemma names. -/
import Derived.Test.YtenegeajkldfbaaWinPlay
import Derived.Deep.Slices
import Derived.Deep.Strs
import Derived.ChangeSame
import Derived.OpenShut
import Derived.WideShapes
namespace Go.Proofs.Ytenegeajkldfbaa
open Go.ChangeShapes Go.WideShapes Go.ChangeAt Go.RowKit

theorem three_in {l : List Value} (h : l.length = 3) : ∃ a b c, l = [a, b, c] := by
  match l, h with
  | [a, b, c], _ => exact ⟨a, b, c, rfl⟩
instance : Inhabited Wd := ⟨⟨0, 0, 0⟩⟩
section
variable {H : Type} {enc : TypeId × Value → H} {w : World} {base : Nat} {held : Bool} {a : Option Addr} {len cap : Nat} {d : DataW H} {p : List MemPlace}
theorem wds_arg (h : DataW.Trod enc Try.prog w base (fun _ => true) held 23 (.slice a len cap) d p) : ∃ l, Wds w a len l := by
  obtain ⟨fuel, hf⟩ := h
  rcases Go.Deep.open_slice Try.underlying23 hf with ⟨hcs, _⟩ | ⟨x, l, c, m, n, D, Pl, hcs, _, hl, _, hm, _, hi⟩
  · simp [Value.cells] at hcs
    obtain ⟨rfl, rfl, rfl⟩ := hcs
    exact ⟨[], Wds.nil _ _⟩
  · simp [Value.cells] at hcs
    obtain ⟨rfl, rfl, rfl⟩ := hcs
    have hm' : m = cap := by simpa using hm
    have e38 : Try.prog.cellsOf 33 = 3 := by kernel_rfl
    have e3 : Try.prog.cellsOf 3 = 1 := by kernel_rfl
    have e9 : Try.prog.cellsOf 22 = 1 := by kernel_rfl
    have key : ∀ i, i < len → ∃ y : Wd, U32 y.x ∧ w.cell? (x.add (i * 3)) = some (.int .i64 y.kind) ∧ w.cell? ⟨(x.add (i * 3)).block, (x.add (i * 3)).off + 1, none⟩ = some (.int .u32 y.x) ∧ w.cell? ⟨(x.add (i * 3)).block, (x.add (i * 3)).off + 2, none⟩ = some (.int .i64 y.n) := fun i h => by
      obtain ⟨cs', hc, ht⟩ := hi i (by omega)
      rw [e38] at hc
      obtain ⟨_, hcl, hat⟩ := World.cells?_some hc
      obtain ⟨y0, y1, y2, k, _, _, h0, h1, h2⟩ := Go.Deep.trod_struct3 Try.underlying33 ht
      obtain ⟨c0, c1, c2, rfl⟩ := three_in hcl
      rw [e3] at h0 h2
      rw [e9] at h1
      obtain ⟨z0, q0, _⟩ := DataW.trod_int Try.underlying3 h0
      obtain ⟨z1, q1, _, w1⟩ := DataW.trod_int Try.underlying22 h1
      obtain ⟨z2, q2, _⟩ := DataW.trod_int Try.underlying3 h2
      have q0' : c0 = .int .i64 z0 := by simpa using q0
      have q1' : c1 = .int .u32 z1 := by simpa using q1
      have q2' : c2 = .int .i64 z2 := by simpa using q2
      subst q0' q1' q2'
      refine ⟨⟨z0, z1, z2⟩, u32_of w1, ?_, ?_, ?_⟩
      · have h2 := hat 0 (by decide)
        rw [Addr.add_zero'] at h2
        rw [h2]; rfl
      · exact hat 1 (by decide)
      · exact hat 2 (by decide)
    obtain ⟨f, hf⟩ := Go.Deep.choose_lt key
    have hat : ∀ j, j < len → wd_ ((List.range len).map f) j = f j := fun j hj => by
      unfold wd_
      rw [List.getD_eq_getElem?_getD, List.getElem?_map, List.getElem?_range hj]; rfl
    refine ⟨(List.range len).map f, by simp, fun j hj => by rw [hat j hj]; exact (hf j hj).1, fun h0 => ?_⟩
    have h1 := World.block_lt_of_cell? w _ (hf 0 h0).2.1
    rw [add_block] at h1
    exact ⟨x, rfl, h1, fun j hj => by rw [hat j hj]; exact (hf j hj).2⟩
end
end Go.Proofs.Ytenegeajkldfbaa

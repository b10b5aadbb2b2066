/- Plain lemmas on deeds that came in as arguments. No condition beyond those that each lemma names. -/
import Derived.Test.YtmjnlmcbcclbkaaTmLaw2
import Derived.Deep.Slices
import Derived.Deep.Strs
import Derived.ChangeSame
import Derived.OpenShut
import Derived.WideShapes
namespace Go.Proofs.Ytmjnlmcbcclbkaa
open Go.ChangeShapes Go.WideShapes Go.ChangeAt Go.RowKit

theorem four_of {α : Type} {cs : Array α} (h : cs.size = 4) : ∃ c0 c1 c2 c3, cs = #[c0, c1, c2, c3] := by
  obtain ⟨l⟩ := cs
  match l, h with
  | [c0, c1, c2, c3], _ => exact ⟨c0, c1, c2, c3, rfl⟩
theorem four_in {l : List Value} (h : l.length = 4) : ∃ a b c d, l = [a, b, c, d] := by
  match l, h with
  | [a, b, c, d], _ => exact ⟨a, b, c, d, rfl⟩
instance : Inhabited Dt := ⟨⟨0, (0, 0), 0⟩⟩
def Dt.In (d : Dt) : Prop := KyOk d.key
section
variable {H : Type} {enc : TypeId × Value → H} {w : World} {base : Nat} {held : Bool} {spare : Nat → Bool}
theorem dt_cells {fuel : Nat} {c0 c1 c2 c3 : Value} {x : DataW H × List MemPlace} (hf : DataW.trod enc Try.prog w base spare held fuel 34 [c0, c1, c2, c3] = some x) : ∃ a : Dt, a.In ∧ c0 = .int .i64 a.kind ∧ c1 = .int .i64 a.key.1 ∧ c2 = .int .u32 a.key.2 ∧ c3 = .int .i64 a.z := by
  have e3 : Try.prog.cellsOf 3 = 1 := by kernel_rfl
  have e30 : Try.prog.cellsOf 30 = 1 := by kernel_rfl
  have e32 : Try.prog.cellsOf 32 = 2 := by kernel_rfl
  obtain ⟨y0, y1, y2, n, _, _, h0, h1, h2⟩ := Go.Deep.trod_struct3 Try.underlying34 hf
  rw [e3] at h0 h2
  rw [e32] at h1
  obtain ⟨z0, q0, _⟩ := DataW.trod_int Try.underlying3 h0
  obtain ⟨z3, q3, _⟩ := DataW.trod_int Try.underlying3 h2
  obtain ⟨v0, v1, k, _, _, g0, g1⟩ := Go.ChangeShapes.trod_struct2 Try.underlying32 h1
  rw [e3] at g0
  rw [e30] at g1
  obtain ⟨z1, q1, _, w1⟩ := DataW.trod_int Try.underlying3 g0
  obtain ⟨z2, q2, _, w2⟩ := DataW.trod_int Try.underlying30 g1
  have q0' : c0 = .int .i64 z0 := by simpa using q0
  have q1' : c1 = .int .i64 z1 := by simpa using q1
  have q2' : c2 = .int .u32 z2 := by simpa using q2
  have q3' : c3 = .int .i64 z3 := by simpa using q3
  exact ⟨⟨z0, (z1, z2), z3⟩, ky_of_wf w1 w2, q0', q1', q2', q3'⟩
theorem dt_arg {d : DataW H} {p : List MemPlace} {r : Reach} {b0 : Nat} {v : Value} (hv : Value.okWide Try.prog w r b0 34 v) (h : DataW.Trod enc Try.prog w base spare held 34 v d p) : ∃ a : Dt, v = a.val ∧ a.In := by
  obtain ⟨cs, rfl, hsz⟩ := okWide_struct Try.underlying34 hv
  rw [show Try.prog.cellsOf 34 = 4 by kernel_rfl] at hsz
  obtain ⟨c0, c1, c2, c3, rfl⟩ := four_of hsz
  obtain ⟨fuel, hf⟩ := h
  obtain ⟨a, ha, rfl, rfl, rfl, rfl⟩ := dt_cells hf
  exact ⟨a, rfl, ha⟩
theorem dts_arg {a : Option Addr} {len cap : Nat} {d : DataW H} {p : List MemPlace} (h : DataW.Trod enc Try.prog w base (fun _ => true) held 22 (.slice a len cap) d p) : ∃ l, Dts w a len l := by
  obtain ⟨fuel, hf⟩ := h
  rcases Go.Deep.open_slice Try.underlying22 hf with ⟨hcs, _⟩ | ⟨x, l, c, m, n, D, Pl, hcs, _, hl, _, hm, _, hi⟩
  · simp [Value.cells] at hcs
    obtain ⟨rfl, rfl, rfl⟩ := hcs
    exact ⟨[], Dts.nil _ _⟩
  · simp [Value.cells] at hcs
    obtain ⟨rfl, rfl, rfl⟩ := hcs
    have hm' : m = cap := by simpa using hm
    have e38 : Try.prog.cellsOf 34 = 4 := by kernel_rfl
    have key : ∀ i, i < len → ∃ y : Dt, y.In ∧ w.cell? (x.add (i * 4)) = some (.int .i64 y.kind) ∧ w.cell? ⟨(x.add (i * 4)).block, (x.add (i * 4)).off + 1, none⟩ = some (.int .i64 y.key.1) ∧ w.cell? ⟨(x.add (i * 4)).block, (x.add (i * 4)).off + 2, none⟩ = some (.int .u32 y.key.2) ∧ w.cell? ⟨(x.add (i * 4)).block, (x.add (i * 4)).off + 3, none⟩ = some (.int .i64 y.z) := fun i h => by
      obtain ⟨cs', hc, ht⟩ := hi i (by omega)
      rw [e38] at hc
      obtain ⟨_, hcl, hat⟩ := World.cells?_some hc
      obtain ⟨c0, c1, c2, c3, rfl⟩ := four_in hcl
      obtain ⟨y, hy, rfl, rfl, rfl, rfl⟩ := dt_cells ht
      refine ⟨y, hy, ?_, hat 1 (by decide), hat 2 (by decide), hat 3 (by decide)⟩
      have h2 := hat 0 (by decide)
      rw [Addr.add_zero'] at h2
      rw [h2]; rfl
    obtain ⟨f, hf⟩ := Go.Deep.choose_lt key
    have hat : ∀ j, j < len → dt_ ((List.range len).map f) j = f j := fun j hj => by
      unfold dt_
      rw [List.getD_eq_getElem?_getD, List.getElem?_map, List.getElem?_range hj]; rfl
    refine ⟨(List.range len).map f, by simp, fun j hj => by rw [hat j hj]; exact (hf j hj).1, fun h0 => ?_⟩
    have h1 := World.block_lt_of_cell? w _ (hf 0 h0).2.1
    rw [add_block] at h1
    exact ⟨x, rfl, h1, fun j hj => by rw [hat j hj]; exact (hf j hj).2⟩
end
end Go.Proofs.Ytmjnlmcbcclbkaa

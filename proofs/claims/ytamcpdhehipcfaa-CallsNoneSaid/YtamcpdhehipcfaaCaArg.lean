/- Plain lemmas on calls and deeds that came in as arguments, one by value and a slice of them. No condition beyond those that each lemma names. -/
import Derived.Test.YtamcpdhehipcfaaCaMem
import Derived.Lib.SmallJoins
import Derived.Deep.Slices
import Derived.Deep.Strs
import Derived.ChangeSame
import Derived.OpenShut
import Derived.WideShapes
namespace Go.Proofs.Ytamcpdhehipcfaa
open Go.ChangeShapes Go.WideShapes Go.ChangeAt Go.RowKit

abbrev Wt.val (x : Wt) : Value := wtV x
def Wt.In (x : Wt) : Prop := PkOk x.key
/-- a deed. -/
structure Dw where
  kind : Int
  w : Wt
instance : Inhabited Dw := ⟨⟨0, wt0⟩⟩
def Dw.In (d : Dw) : Prop := PkOk d.w.key
theorem ca_five_of {α : Type} {cs : Array α} (h : cs.size = 5) : ∃ c0 c1 c2 c3 c4, cs = #[c0, c1, c2, c3, c4] := by
  obtain ⟨l⟩ := cs
  match l, h with
  | [c0, c1, c2, c3, c4], _ => exact ⟨c0, c1, c2, c3, c4, rfl⟩
theorem ca_six_in {l : List Value} (h : l.length = 6) : ∃ a b c d e f, l = [a, b, c, d, e, f] := by
  match l, h with
  | [a, b, c, d, e, f], _ => exact ⟨a, b, c, d, e, f, rfl⟩
/-- deed j. -/
def dw_ (l : List Dw) (j : Nat) : Dw := l.getD j ⟨0, wt0⟩
/-- a deed in memory. -/
structure DwAt (w : World) (a : Addr) (d : Dw) : Prop where
  c0 : w.cell? a = some (.int .i64 d.kind)
  c1 : WtC w ⟨a.block, a.off + 1, none⟩ d.w
/-- the slice reads as these deeds. -/
def Dws (w : World) (A : Option Addr) (n : Nat) (l : List Dw) : Prop :=
  l.length = n ∧ (∀ j, j < n → (dw_ l j).In) ∧ (0 < n → ∃ ad, A = some ad ∧ ad.block < w.heap.size ∧ ∀ j, j < n → DwAt w (ad.add (j * 6)) (dw_ l j))
theorem Dws.nil (w : World) (A : Option Addr) : Dws w A 0 [] := ⟨rfl, fun _ h => absurd h (by omega), fun h => absurd h (by omega)⟩
theorem Dws.at_ {w : World} {A : Option Addr} {n : Nat} {l : List Dw} (h : Dws w A n l) {k : Nat} (hk : k < n) : ∃ ad, A = some ad ∧ (dw_ l k).In ∧ ∀ w', Below w.heap.size w w' → DwAt w' (ad.add (k * 6)) (dw_ l k) := by
  obtain ⟨ad, e, hlt, hc⟩ := h.2.2 (by omega)
  refine ⟨ad, e, h.2.1 k hk, fun w' hb => ?_⟩
  obtain ⟨q0, q1⟩ := hc k hk
  have hl : (ad.add (k * 6)).block < w.heap.size := by rw [add_block]; omega
  exact ⟨(hb.cell hl).trans q0, q1.below hb hl⟩
section
variable {H : Type} {enc : TypeId × Value → H} {w : World} {base : Nat} {held : Bool} {spare : Nat → Bool}
theorem wt_cells {fuel : Nat} {c0 c1 c2 c3 c4 : Value} {x : DataW H × List MemPlace} (hf : DataW.trod enc Try.prog w base spare held fuel 30 [c0, c1, c2, c3, c4] = some x) :
    ∃ a : Wt, PkOk a.key ∧ c0 = .int .i64 a.id ∧ c1 = .int .i64 a.kind ∧ c2 = .int .i64 a.str ∧ c3 = .int .i64 a.num ∧ c4 = .string a.body := by
  have e3 : Try.prog.cellsOf 3 = 1 := by kernel_rfl
  have e9 : Try.prog.cellsOf 9 = 1 := by kernel_rfl
  have e28 : Try.prog.cellsOf 28 = 4 := by kernel_rfl
  obtain ⟨v0, v1, k, _, _, g0, g1⟩ := Go.ChangeShapes.trod_struct2 Try.underlying30 hf
  rw [e3] at g0
  rw [e28] at g1
  obtain ⟨z0, q0, _⟩ := DataW.trod_int Try.underlying3 g0
  obtain ⟨y0, y1, y2, y3, n, _, _, h0, h1, h2, h3⟩ := Go.Joins.trod_struct4 Try.underlying28 g1
  rw [e3] at h0 h1 h2
  rw [e9] at h3
  obtain ⟨z1, q1, _, w1⟩ := DataW.trod_int Try.underlying3 h0
  obtain ⟨z2, q2, _, w2⟩ := DataW.trod_int Try.underlying3 h1
  obtain ⟨z3, q3, _⟩ := DataW.trod_int Try.underlying3 h2
  obtain ⟨z4, q4, _⟩ := DataW.trod_string Try.underlying9 h3
  have q0' : c0 = .int .i64 z0 := by simpa using q0
  have q1' : c1 = .int .i64 z1 := by simpa using q1
  have q2' : c2 = .int .i64 z2 := by simpa using q2
  have q3' : c3 = .int .i64 z3 := by simpa using q3
  have q4' : c4 = .string z4 := by simpa using q4
  exact ⟨⟨z0, z1, z2, z3, z4⟩, pk_of_wf w2 w1, q0', q1', q2', q3', q4'⟩
theorem wt_arg {d : DataW H} {p : List MemPlace} {r : Reach} {b0 : Nat} {v : Value} (hv : Value.okWide Try.prog w r b0 30 v) (h : DataW.Trod enc Try.prog w base spare held 30 v d p) : ∃ a : Wt, v = a.val ∧ a.In := by
  obtain ⟨cs, rfl, hsz⟩ := okWide_struct Try.underlying30 hv
  rw [show Try.prog.cellsOf 30 = 5 by kernel_rfl] at hsz
  obtain ⟨c0, c1, c2, c3, c4, rfl⟩ := ca_five_of hsz
  obtain ⟨fuel, hf⟩ := h
  obtain ⟨a, ha, rfl, rfl, rfl, rfl, rfl⟩ := wt_cells hf
  exact ⟨a, rfl, ha⟩
theorem dw_cells {fuel : Nat} {c0 c1 c2 c3 c4 c5 : Value} {x : DataW H × List MemPlace} (hf : DataW.trod enc Try.prog w base spare held fuel 32 [c0, c1, c2, c3, c4, c5] = some x) :
    ∃ a : Dw, a.In ∧ c0 = .int .i64 a.kind ∧ c1 = .int .i64 a.w.id ∧ c2 = .int .i64 a.w.kind ∧ c3 = .int .i64 a.w.str ∧ c4 = .int .i64 a.w.num ∧ c5 = .string a.w.body := by
  have e3 : Try.prog.cellsOf 3 = 1 := by kernel_rfl
  have e30 : Try.prog.cellsOf 30 = 5 := by kernel_rfl
  obtain ⟨v0, v1, k, _, _, g0, g1⟩ := Go.ChangeShapes.trod_struct2 Try.underlying32 hf
  rw [e3] at g0
  rw [e30] at g1
  obtain ⟨z0, q0, _⟩ := DataW.trod_int Try.underlying3 g0
  have q0' : c0 = .int .i64 z0 := by simpa using q0
  obtain ⟨a, ha, r1, r2, r3, r4, r5⟩ := wt_cells (c0 := c1) (c1 := c2) (c2 := c3) (c3 := c4) (c4 := c5) g1
  exact ⟨⟨z0, a⟩, ha, q0', r1, r2, r3, r4, r5⟩
theorem dws_arg {a : Option Addr} {len cap : Nat} {d : DataW H} {p : List MemPlace} (h : DataW.Trod enc Try.prog w base (fun _ => true) held 22 (.slice a len cap) d p) : ∃ l, Dws w a len l := by
  obtain ⟨fuel, hf⟩ := h
  rcases Go.Deep.open_slice Try.underlying22 hf with ⟨hcs, _⟩ | ⟨x, l, c, m, n, D, Pl, hcs, _, hl, _, hm, _, hi⟩
  · simp [Value.cells] at hcs
    obtain ⟨rfl, rfl, rfl⟩ := hcs
    exact ⟨[], Dws.nil _ _⟩
  · simp [Value.cells] at hcs
    obtain ⟨rfl, rfl, rfl⟩ := hcs
    have hm' : m = cap := by simpa using hm
    have e38 : Try.prog.cellsOf 32 = 6 := by kernel_rfl
    have key : ∀ i, i < len → ∃ y : Dw, y.In ∧ DwAt w (x.add (i * 6)) y := fun i h => by
      obtain ⟨cs', hc, ht⟩ := hi i (by omega)
      rw [e38] at hc
      obtain ⟨_, hcl, hat⟩ := World.cells?_some hc
      obtain ⟨c0, c1, c2, c3, c4, c5, rfl⟩ := ca_six_in hcl
      obtain ⟨y, hy, rfl, rfl, rfl, rfl, rfl, rfl⟩ := dw_cells ht
      refine ⟨y, hy, ?_, hat 1 (by decide), hat 2 (by decide), hat 3 (by decide), hat 4 (by decide), hat 5 (by decide)⟩
      have h2 := hat 0 (by decide)
      rw [Addr.add_zero'] at h2
      rw [h2]; rfl
    obtain ⟨f, hf⟩ := Go.Deep.choose_lt key
    have hat : ∀ j, j < len → dw_ ((List.range len).map f) j = f j := fun j hj => by
      unfold dw_
      rw [List.getD_eq_getElem?_getD, List.getElem?_map, List.getElem?_range hj]; rfl
    refine ⟨(List.range len).map f, by simp, fun j hj => by rw [hat j hj]; exact (hf j hj).1, fun h0 => ?_⟩
    have h1 := World.block_lt_of_cell? w _ (hf 0 h0).2.c0
    rw [add_block] at h1
    exact ⟨x, rfl, h1, fun j hj => by rw [hat j hj]; exact (hf j hj).2⟩
end
end Go.Proofs.Ytamcpdhehipcfaa

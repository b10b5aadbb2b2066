/- Proved: lemmas of one statement's proof, merged by program: what each part proves stands ahead of it. Conditions: those that the lemmas name. -/
import Derived.Test.YtedecminaopgaaaM8
import Derived.Test.YtedecminaopgaaaM2
import Derived.Lib.SmallJoins
import Derived.Deep.Slices
import Derived.Deep.Strs
import Derived.ChangeSame
import Derived.OpenShut
import Derived.WideShapes
import Derived.Test.YtedecminaopgaaaM19

/- Plain lemmas on deeds that came in as arguments, one by value and a slice of them. No condition beyond those that each lemma names. -/
namespace Go.Proofs.Ytedecminaopgaaa
open Go.ChangeShapes Go.WideShapes Go.ChangeAt Go.RowKit

/-- a deed. -/
structure Di where
  kind : Int
  x : Int
  body : ByteArray
  room : Int
abbrev Di.val (d : Di) : Value := .agg #[.int .i64 d.kind, .int .u32 d.x, .string d.body, .int .i64 d.room]
def Di.In (d : Di) : Prop := U32 d.x
instance : Inhabited Di := ⟨⟨0, 0, ⟨#[]⟩, 0⟩⟩
theorem ib_four_in {l : List Value} (h : l.length = 4) : ∃ a b c d, l = [a, b, c, d] := by
  match l, h with
  | [a, b, c, d], _ => exact ⟨a, b, c, d, rfl⟩
/-- deed j. -/
def di_ (l : List Di) (j : Nat) : Di := l.getD j ⟨0, 0, ⟨#[]⟩, 0⟩
/-- a deed in memory. -/
structure DiAt (w : World) (a : Addr) (d : Di) : Prop where
  c0 : w.cell? a = some (.int .i64 d.kind)
  c1 : w.cell? ⟨a.block, a.off + 1, none⟩ = some (.int .u32 d.x)
  c2 : w.cell? ⟨a.block, a.off + 2, none⟩ = some (.string d.body)
  c3 : w.cell? ⟨a.block, a.off + 3, none⟩ = some (.int .i64 d.room)
/-- the slice reads as these deeds. -/
def Dis (w : World) (A : Option Addr) (n : Nat) (l : List Di) : Prop :=
  l.length = n ∧ (∀ j, j < n → (di_ l j).In) ∧ (0 < n → ∃ ad, A = some ad ∧ ad.block < w.heap.size ∧ ∀ j, j < n → DiAt w (ad.add (j * 4)) (di_ l j))
theorem Dis.nil (w : World) (A : Option Addr) : Dis w A 0 [] := ⟨rfl, fun _ h => absurd h (by omega), fun h => absurd h (by omega)⟩
theorem Dis.at_ {w : World} {A : Option Addr} {n : Nat} {l : List Di} (h : Dis w A n l) {k : Nat} (hk : k < n) : ∃ ad, A = some ad ∧ (di_ l k).In ∧ ∀ w', Below w.heap.size w w' → DiAt w' (ad.add (k * 4)) (di_ l k) := by
  obtain ⟨ad, e, hlt, hc⟩ := h.2.2 (by omega)
  refine ⟨ad, e, h.2.1 k hk, fun w' hb => ?_⟩
  obtain ⟨q0, q1, q2, q3⟩ := hc k hk
  have hl : (ad.add (k * 4)).block < w.heap.size := by rw [add_block]; omega
  exact ⟨(hb.cell hl).trans q0, (hb.cell (p := ⟨(ad.add (k * 4)).block, (ad.add (k * 4)).off + 1, none⟩) hl).trans q1, (hb.cell (p := ⟨(ad.add (k * 4)).block, (ad.add (k * 4)).off + 2, none⟩) hl).trans q2, (hb.cell (p := ⟨(ad.add (k * 4)).block, (ad.add (k * 4)).off + 3, none⟩) hl).trans q3⟩
section
variable {H : Type} {enc : TypeId × Value → H} {w : World} {base : Nat} {held : Bool} {spare : Nat → Bool}
theorem di_cells {fuel : Nat} {c0 c1 c2 c3 : Value} {x : DataW H × List MemPlace} (hf : DataW.trod enc Try.prog w base spare held fuel 41 [c0, c1, c2, c3] = some x) :
    ∃ a : Di, a.In ∧ c0 = .int .i64 a.kind ∧ c1 = .int .u32 a.x ∧ c2 = .string a.body ∧ c3 = .int .i64 a.room := by
  have e3 : Try.prog.cellsOf 3 = 1 := by kernel_rfl
  have e9 : Try.prog.cellsOf 9 = 1 := by kernel_rfl
  have e30 : Try.prog.cellsOf 32 = 1 := by kernel_rfl
  obtain ⟨y0, y1, y2, y3, n, _, _, h0, h1, h2, h3⟩ := Go.Joins.trod_struct4 Try.underlying41 hf
  rw [e3] at h0 h3
  rw [e30] at h1
  rw [e9] at h2
  obtain ⟨z0, q0, _⟩ := DataW.trod_int Try.underlying3 h0
  obtain ⟨z1, q1, _, w1⟩ := DataW.trod_int Try.underlying32 h1
  obtain ⟨z2, q2, _⟩ := DataW.trod_string Try.underlying9 h2
  obtain ⟨z3, q3, _⟩ := DataW.trod_int Try.underlying3 h3
  have q0' : c0 = .int .i64 z0 := by simpa using q0
  have q1' : c1 = .int .u32 z1 := by simpa using q1
  have q2' : c2 = .string z2 := by simpa using q2
  have q3' : c3 = .int .i64 z3 := by simpa using q3
  exact ⟨⟨z0, z1, z2, z3⟩, u32_of w1, q0', q1', q2', q3'⟩
theorem dis_arg {a : Option Addr} {len cap : Nat} {d : DataW H} {p : List MemPlace} (h : DataW.Trod enc Try.prog w base (fun _ => true) held 24 (.slice a len cap) d p) : ∃ l, Dis w a len l := by
  obtain ⟨fuel, hf⟩ := h
  rcases Go.Deep.open_slice Try.underlying24 hf with ⟨hcs, _⟩ | ⟨x, l, c, m, n, D, Pl, hcs, _, hl, _, hm, _, hi⟩
  · simp [Value.cells] at hcs
    obtain ⟨rfl, rfl, rfl⟩ := hcs
    exact ⟨[], Dis.nil _ _⟩
  · simp [Value.cells] at hcs
    obtain ⟨rfl, rfl, rfl⟩ := hcs
    have hm' : m = cap := by simpa using hm
    have e38 : Try.prog.cellsOf 41 = 4 := by kernel_rfl
    have key : ∀ i, i < len → ∃ y : Di, y.In ∧ DiAt w (x.add (i * 4)) y := fun i h => by
      obtain ⟨cs', hc, ht⟩ := hi i (by omega)
      rw [e38] at hc
      obtain ⟨_, hcl, hat⟩ := World.cells?_some hc
      obtain ⟨c0, c1, c2, c3, rfl⟩ := ib_four_in hcl
      obtain ⟨y, hy, rfl, rfl, rfl, rfl⟩ := di_cells ht
      refine ⟨y, hy, ?_, hat 1 (by decide), hat 2 (by decide), hat 3 (by decide)⟩
      have h2 := hat 0 (by decide)
      rw [Addr.add_zero'] at h2
      rw [h2]; rfl
    obtain ⟨f, hf⟩ := Go.Deep.choose_lt key
    have hat : ∀ j, j < len → di_ ((List.range len).map f) j = f j := fun j hj => by
      unfold di_
      rw [List.getD_eq_getElem?_getD, List.getElem?_map, List.getElem?_range hj]; rfl
    refine ⟨(List.range len).map f, by simp, fun j hj => by rw [hat j hj]; exact (hf j hj).1, fun h0 => ?_⟩
    have h1 := World.block_lt_of_cell? w _ (hf 0 h0).2.c0
    rw [add_block] at h1
    exact ⟨x, rfl, h1, fun j hj => by rw [hat j hj]; exact (hf j hj).2⟩
end
end Go.Proofs.Ytedecminaopgaaa

/- Plain lemmas on settings that came in as an argument. No condition beyond those that each lemma names. -/
namespace Go.Proofs.Ytedecminaopgaaa
open Go.ChangeShapes Go.WideShapes Go.ChangeAt Go.RowKit

def cf0 : Cf := ⟨0, 0, 0, 0, 0, 0, 0, 0, 0, 0, 0⟩
theorem eleven_of {α : Type} {cs : Array α} (h : cs.size = 11) : ∃ c0 c1 c2 c3 c4 c5 c6 c7 c8 c9 c10, cs = #[c0, c1, c2, c3, c4, c5, c6, c7, c8, c9, c10] := by
  obtain ⟨l⟩ := cs
  match l, h with
  | [c0, c1, c2, c3, c4, c5, c6, c7, c8, c9, c10], _ => exact ⟨c0, c1, c2, c3, c4, c5, c6, c7, c8, c9, c10, rfl⟩
section
variable {H : Type} {enc : TypeId × Value → H} {w : World} {base : Nat} {held : Bool} {d : DataW H} {p : List MemPlace} {spare : Nat → Bool}
set_option maxRecDepth 100000 in
theorem cf_arg {r : Reach} {b0 : Nat} {v : Value} (hv : Value.okWide Try.prog w r b0 23 v) (h : DataW.Trod enc Try.prog w base spare held 23 v d p) : ∃ a : Cf, v = a.val ∧ a.In := by
  obtain ⟨cs, rfl, hsz⟩ := okWide_struct Try.underlying23 hv
  rw [show Try.prog.cellsOf 23 = 11 by kernel_rfl] at hsz
  obtain ⟨c0, c1, c2, c3, c4, c5, c6, c7, c8, c9, c10, rfl⟩ := eleven_of hsz
  obtain ⟨fuel, hf⟩ := h
  obtain ⟨xs, n, _, _, _, hlen, hat⟩ := DataW.trod_struct Try.underlying23 hf
  have e3 : Try.prog.cellsOf 3 = 1 := by kernel_rfl
  have hx : xs.length = 11 := hlen
  have hin : ∀ (i : Nat), i < 11 → ∃ y, xs[i]? = some y := fun i hi => ⟨_, List.getElem?_eq_getElem (by rw [hx]; exact hi)⟩
  obtain ⟨y0, j0⟩ := hin 0 (by decide)
  have g0 : DataW.trod enc Try.prog w base spare held n 3 [c0] = some y0 := by
    have h : DataW.trod enc Try.prog w base spare held n 3 (List.take (Try.prog.cellsOf 3) (List.drop 0 [c0, c1, c2, c3, c4, c5, c6, c7, c8, c9, c10])) = xs[0]? := hat 0 _ rfl
    rw [e3, j0] at h
    exact h
  obtain ⟨z0, q0, _, f0⟩ := DataW.trod_int Try.underlying3 g0
  have b0 : -9223372036854775808 ≤ z0 ∧ z0 ≤ 9223372036854775807 := by simpa [Lit.wf, IntKind.min, IntKind.max, IntKind.signed, IntKind.bits] using f0
  obtain ⟨y1, j1⟩ := hin 1 (by decide)
  have g1 : DataW.trod enc Try.prog w base spare held n 3 [c1] = some y1 := by
    have h : DataW.trod enc Try.prog w base spare held n 3 (List.take (Try.prog.cellsOf 3) (List.drop 1 [c0, c1, c2, c3, c4, c5, c6, c7, c8, c9, c10])) = xs[1]? := hat 1 _ rfl
    rw [e3, j1] at h
    exact h
  obtain ⟨z1, q1, _, f1⟩ := DataW.trod_int Try.underlying3 g1
  have b1 : -9223372036854775808 ≤ z1 ∧ z1 ≤ 9223372036854775807 := by simpa [Lit.wf, IntKind.min, IntKind.max, IntKind.signed, IntKind.bits] using f1
  obtain ⟨y2, j2⟩ := hin 2 (by decide)
  have g2 : DataW.trod enc Try.prog w base spare held n 3 [c2] = some y2 := by
    have h : DataW.trod enc Try.prog w base spare held n 3 (List.take (Try.prog.cellsOf 3) (List.drop 2 [c0, c1, c2, c3, c4, c5, c6, c7, c8, c9, c10])) = xs[2]? := hat 2 _ rfl
    rw [e3, j2] at h
    exact h
  obtain ⟨z2, q2, _, f2⟩ := DataW.trod_int Try.underlying3 g2
  have b2 : -9223372036854775808 ≤ z2 ∧ z2 ≤ 9223372036854775807 := by simpa [Lit.wf, IntKind.min, IntKind.max, IntKind.signed, IntKind.bits] using f2
  obtain ⟨y3, j3⟩ := hin 3 (by decide)
  have g3 : DataW.trod enc Try.prog w base spare held n 3 [c3] = some y3 := by
    have h : DataW.trod enc Try.prog w base spare held n 3 (List.take (Try.prog.cellsOf 3) (List.drop 3 [c0, c1, c2, c3, c4, c5, c6, c7, c8, c9, c10])) = xs[3]? := hat 3 _ rfl
    rw [e3, j3] at h
    exact h
  obtain ⟨z3, q3, _, f3⟩ := DataW.trod_int Try.underlying3 g3
  have b3 : -9223372036854775808 ≤ z3 ∧ z3 ≤ 9223372036854775807 := by simpa [Lit.wf, IntKind.min, IntKind.max, IntKind.signed, IntKind.bits] using f3
  obtain ⟨y4, j4⟩ := hin 4 (by decide)
  have g4 : DataW.trod enc Try.prog w base spare held n 3 [c4] = some y4 := by
    have h : DataW.trod enc Try.prog w base spare held n 3 (List.take (Try.prog.cellsOf 3) (List.drop 4 [c0, c1, c2, c3, c4, c5, c6, c7, c8, c9, c10])) = xs[4]? := hat 4 _ rfl
    rw [e3, j4] at h
    exact h
  obtain ⟨z4, q4, _, f4⟩ := DataW.trod_int Try.underlying3 g4
  have b4 : -9223372036854775808 ≤ z4 ∧ z4 ≤ 9223372036854775807 := by simpa [Lit.wf, IntKind.min, IntKind.max, IntKind.signed, IntKind.bits] using f4
  obtain ⟨y5, j5⟩ := hin 5 (by decide)
  have g5 : DataW.trod enc Try.prog w base spare held n 3 [c5] = some y5 := by
    have h : DataW.trod enc Try.prog w base spare held n 3 (List.take (Try.prog.cellsOf 3) (List.drop 5 [c0, c1, c2, c3, c4, c5, c6, c7, c8, c9, c10])) = xs[5]? := hat 5 _ rfl
    rw [e3, j5] at h
    exact h
  obtain ⟨z5, q5, _, f5⟩ := DataW.trod_int Try.underlying3 g5
  have b5 : -9223372036854775808 ≤ z5 ∧ z5 ≤ 9223372036854775807 := by simpa [Lit.wf, IntKind.min, IntKind.max, IntKind.signed, IntKind.bits] using f5
  obtain ⟨y6, j6⟩ := hin 6 (by decide)
  have g6 : DataW.trod enc Try.prog w base spare held n 3 [c6] = some y6 := by
    have h : DataW.trod enc Try.prog w base spare held n 3 (List.take (Try.prog.cellsOf 3) (List.drop 6 [c0, c1, c2, c3, c4, c5, c6, c7, c8, c9, c10])) = xs[6]? := hat 6 _ rfl
    rw [e3, j6] at h
    exact h
  obtain ⟨z6, q6, _, f6⟩ := DataW.trod_int Try.underlying3 g6
  have b6 : -9223372036854775808 ≤ z6 ∧ z6 ≤ 9223372036854775807 := by simpa [Lit.wf, IntKind.min, IntKind.max, IntKind.signed, IntKind.bits] using f6
  obtain ⟨y7, j7⟩ := hin 7 (by decide)
  have g7 : DataW.trod enc Try.prog w base spare held n 3 [c7] = some y7 := by
    have h : DataW.trod enc Try.prog w base spare held n 3 (List.take (Try.prog.cellsOf 3) (List.drop 7 [c0, c1, c2, c3, c4, c5, c6, c7, c8, c9, c10])) = xs[7]? := hat 7 _ rfl
    rw [e3, j7] at h
    exact h
  obtain ⟨z7, q7, _, f7⟩ := DataW.trod_int Try.underlying3 g7
  have b7 : -9223372036854775808 ≤ z7 ∧ z7 ≤ 9223372036854775807 := by simpa [Lit.wf, IntKind.min, IntKind.max, IntKind.signed, IntKind.bits] using f7
  obtain ⟨y8, j8⟩ := hin 8 (by decide)
  have g8 : DataW.trod enc Try.prog w base spare held n 3 [c8] = some y8 := by
    have h : DataW.trod enc Try.prog w base spare held n 3 (List.take (Try.prog.cellsOf 3) (List.drop 8 [c0, c1, c2, c3, c4, c5, c6, c7, c8, c9, c10])) = xs[8]? := hat 8 _ rfl
    rw [e3, j8] at h
    exact h
  obtain ⟨z8, q8, _, f8⟩ := DataW.trod_int Try.underlying3 g8
  have b8 : -9223372036854775808 ≤ z8 ∧ z8 ≤ 9223372036854775807 := by simpa [Lit.wf, IntKind.min, IntKind.max, IntKind.signed, IntKind.bits] using f8
  obtain ⟨y9, j9⟩ := hin 9 (by decide)
  have g9 : DataW.trod enc Try.prog w base spare held n 3 [c9] = some y9 := by
    have h : DataW.trod enc Try.prog w base spare held n 3 (List.take (Try.prog.cellsOf 3) (List.drop 9 [c0, c1, c2, c3, c4, c5, c6, c7, c8, c9, c10])) = xs[9]? := hat 9 _ rfl
    rw [e3, j9] at h
    exact h
  obtain ⟨z9, q9, _, f9⟩ := DataW.trod_int Try.underlying3 g9
  have b9 : -9223372036854775808 ≤ z9 ∧ z9 ≤ 9223372036854775807 := by simpa [Lit.wf, IntKind.min, IntKind.max, IntKind.signed, IntKind.bits] using f9
  obtain ⟨y10, j10⟩ := hin 10 (by decide)
  have g10 : DataW.trod enc Try.prog w base spare held n 3 [c10] = some y10 := by
    have h : DataW.trod enc Try.prog w base spare held n 3 (List.take (Try.prog.cellsOf 3) (List.drop 10 [c0, c1, c2, c3, c4, c5, c6, c7, c8, c9, c10])) = xs[10]? := hat 10 _ rfl
    rw [e3, j10] at h
    exact h
  obtain ⟨z10, q10, _, f10⟩ := DataW.trod_int Try.underlying3 g10
  have b10 : -9223372036854775808 ≤ z10 ∧ z10 ≤ 9223372036854775807 := by simpa [Lit.wf, IntKind.min, IntKind.max, IntKind.signed, IntKind.bits] using f10
  simp at q0 q1 q2 q3 q4 q5 q6 q7 q8 q9 q10
  subst q0 q1 q2 q3 q4 q5 q6 q7 q8 q9 q10
  exact ⟨⟨z0, z1, z2, z3, z4, z5, z6, z7, z8, z9, z10⟩, rfl, b0, b1, b2, b3, b4, b5, b6, b7, b8, b9, b10⟩
end
end Go.Proofs.Ytedecminaopgaaa

/- Proved: what FlightNone answers, for every deed. Conditions: those that the theorems name. -/
import Derived.Test.YtgnalabblhokmaaFlAwake
import Derived.Deep.Slices
import Derived.Deep.Strs
import Derived.ChangeSame
import Derived.OpenShut
import Derived.WideShapes
namespace Go.Proofs.Ytgnalabblhokmaa
open Go.ChangeShapes Go.WideShapes Go.ChangeAt Go.RowKit

/-! ### a deed -/
structure Fd where
  kind : Int
  body : ByteArray
  n : Int
  at_ : Int
  block : Int
  have_ : ByteArray
def Fd.cells (x : Fd) : List Value := [.int .i64 x.kind, .string x.body, .int .i64 x.n, .int .i64 x.at_, .int .u32 x.block, .string x.have_]
abbrev Fd.val (x : Fd) : Value := .agg #[.int .i64 x.kind, .string x.body, .int .i64 x.n, .int .i64 x.at_, .int .u32 x.block, .string x.have_]
def Fd.In (x : Fd) : Prop := -9223372036854775808 ≤ x.n ∧ x.n ≤ 9223372036854775807
theorem six_of {α : Type} {cs : Array α} (h : cs.size = 6) : ∃ c0 c1 c2 c3 c4 c5, cs = #[c0, c1, c2, c3, c4, c5] := by
  obtain ⟨l⟩ := cs
  match l, h with
  | [c0, c1, c2, c3, c4, c5], _ => exact ⟨c0, c1, c2, c3, c4, c5, rfl⟩
section
variable {H : Type} {enc : TypeId × Value → H} {w : World} {base : Nat} {held : Bool} {d : DataW H} {p : List MemPlace} {spare : Nat → Bool}
theorem fd_arg {r : Reach} {b0 : Nat} {v : Value} (hv : Value.okWide Try.prog w r b0 24 v) (h : DataW.Trod enc Try.prog w base spare held 24 v d p) : ∃ a : Fd, v = a.val ∧ a.In := by
  obtain ⟨cs, rfl, hsz⟩ := okWide_struct Try.underlying24 hv
  rw [show Try.prog.cellsOf 24 = 6 by kernel_rfl] at hsz
  obtain ⟨c0, c1, c2, c3, c4, c5, rfl⟩ := six_of hsz
  obtain ⟨fuel, hf⟩ := h
  obtain ⟨xs, n, _, _, _, hlen, hat⟩ := DataW.trod_struct Try.underlying24 hf
  have e3 : Try.prog.cellsOf 3 = 1 := by kernel_rfl
  have e9 : Try.prog.cellsOf 9 = 1 := by kernel_rfl
  have e22 : Try.prog.cellsOf 22 = 1 := by kernel_rfl
  have hx : xs.length = 6 := hlen
  have hin : ∀ (i : Nat), i < 6 → ∃ y, xs[i]? = some y := fun i hi => ⟨_, List.getElem?_eq_getElem (by rw [hx]; exact hi)⟩
  obtain ⟨y0, j0⟩ := hin 0 (by decide)
  have g0 : DataW.trod enc Try.prog w base spare held n 3 [c0] = some y0 := by
    have h : DataW.trod enc Try.prog w base spare held n 3 (List.take (Try.prog.cellsOf 3) (List.drop 0 [c0, c1, c2, c3, c4, c5])) = xs[0]? := hat 0 _ rfl
    rw [e3, j0] at h
    exact h
  obtain ⟨y1, j1⟩ := hin 1 (by decide)
  have g1 : DataW.trod enc Try.prog w base spare held n 9 [c1] = some y1 := by
    have h : DataW.trod enc Try.prog w base spare held n 9 (List.take (Try.prog.cellsOf 9) (List.drop 1 [c0, c1, c2, c3, c4, c5])) = xs[1]? := hat 1 _ rfl
    rw [e9, j1] at h
    exact h
  obtain ⟨y2, j2⟩ := hin 2 (by decide)
  have g2 : DataW.trod enc Try.prog w base spare held n 3 [c2] = some y2 := by
    have h : DataW.trod enc Try.prog w base spare held n 3 (List.take (Try.prog.cellsOf 3) (List.drop 2 [c0, c1, c2, c3, c4, c5])) = xs[2]? := hat 2 _ rfl
    rw [e3, j2] at h
    exact h
  obtain ⟨y3, j3⟩ := hin 3 (by decide)
  have g3 : DataW.trod enc Try.prog w base spare held n 3 [c3] = some y3 := by
    have h : DataW.trod enc Try.prog w base spare held n 3 (List.take (Try.prog.cellsOf 3) (List.drop 3 [c0, c1, c2, c3, c4, c5])) = xs[3]? := hat 3 _ rfl
    rw [e3, j3] at h
    exact h
  obtain ⟨y4, j4⟩ := hin 4 (by decide)
  have g4 : DataW.trod enc Try.prog w base spare held n 22 [c4] = some y4 := by
    have h : DataW.trod enc Try.prog w base spare held n 22 (List.take (Try.prog.cellsOf 22) (List.drop 4 [c0, c1, c2, c3, c4, c5])) = xs[4]? := hat 4 _ rfl
    rw [e22, j4] at h
    exact h
  obtain ⟨y5, j5⟩ := hin 5 (by decide)
  have g5 : DataW.trod enc Try.prog w base spare held n 9 [c5] = some y5 := by
    have h : DataW.trod enc Try.prog w base spare held n 9 (List.take (Try.prog.cellsOf 9) (List.drop 5 [c0, c1, c2, c3, c4, c5])) = xs[5]? := hat 5 _ rfl
    rw [e9, j5] at h
    exact h
  obtain ⟨z0, q0, _, _⟩ := DataW.trod_int Try.underlying3 g0
  obtain ⟨z1, q1, _, _⟩ := DataW.trod_string Try.underlying9 g1
  obtain ⟨z2, q2, _, f2⟩ := DataW.trod_int Try.underlying3 g2
  obtain ⟨z3, q3, _, _⟩ := DataW.trod_int Try.underlying3 g3
  obtain ⟨z4, q4, _, _⟩ := DataW.trod_int Try.underlying22 g4
  obtain ⟨z5, q5, _, _⟩ := DataW.trod_string Try.underlying9 g5
  have hb : -9223372036854775808 ≤ z2 ∧ z2 ≤ 9223372036854775807 := by simpa [Lit.wf, IntKind.min, IntKind.max, IntKind.signed, IntKind.bits] using f2
  simp at q0 q1 q2 q3 q4 q5
  subst q0 q1 q2 q3 q4 q5
  exact ⟨⟨z0, z1, z2, z3, z4, z5⟩, rfl, hb⟩
end

/-! ### a flight that is none -/
theorem fln_is {x : Int} {y : Bl} {is : Bool} (h : BodyIs 0 [] x y is) : y = bl0 ∧ is = false := by
  rcases h with ⟨i, hi, _⟩ | ⟨_, h⟩
  · exact absurd hi (by simp)
  · exact h
theorem fln_body (x : Int) (w : World) :
    Calls Try.prog 5 #[.pointer none, .int .u32 x] w fun e w' => e = .returned (.tuple #[.string { data := #[] }, .int .i64 0, .bool false]) ∧ Below w.heap.size w w' := by
  refine (body_any none 0 none _ [] x w (FlO.nil w)).mono ?_
  rintro e w' ⟨y, is, hy, rfl, k⟩
  obtain ⟨rfl, rfl⟩ := fln_is hy
  exact ⟨rfl, k⟩
theorem fln_wants (x : Int) (s : ByteArray) (need : Int) (w : World) (h1 : -9223372036854775808 ≤ need) (h2 : need ≤ 9223372036854775807) :
    Calls Try.prog 7 #[.pointer none, .int .u32 x, .string s, .int .i64 need] w fun e w' => ∃ A c, e = .returned (.slice A 0 c) ∧ Below w.heap.size w w' := by
  refine (wants_any none 0 none _ [] x s need w (FlO.nil w) h1 h2).mono ?_
  rintro e w' ⟨y, is, hy, A, c, rfl, _, k⟩
  obtain ⟨rfl, rfl⟩ := fln_is hy
  have e : (fun y : Bl => wantL x s y.n need) bl0 = [] := by
    show wantL x s 0 need = []
    unfold wantL misL
    split <;> rfl
  rw [e]
  exact ⟨A, c, rfl, k⟩
theorem fln_due (now wait : Int) (w : World) :
    Calls Try.prog 8 #[.pointer none, .int .i64 now, .int .i64 wait] w fun e w' => ∃ A c, e = .returned (.slice A 0 c) ∧ Below w.heap.size w w' := by
  refine (due_any none 0 none _ [] now wait w (FlO.nil w)).mono ?_
  rintro e w' ⟨A, c, rfl, _, _, t⟩
  have e : (dueL 0 now wait []).2 = [] := by
    unfold dueL
    split <;> rfl
  rw [e]
  exact ⟨A, c, rfl, t.os, t.tape, t.output, t.size, fun i hi => t.block i hi (fun e => (nomatch e))⟩

set_option maxRecDepth 100000 in
set_option maxHeartbeats 3200000 in
theorem fl_none_walk (d : Fd) (hd : d.In) (w : World) :
    Calls Try.prog 3 #[d.val] w fun e w' => e = .returned (.bool true) ∧ Below w.heap.size w w' := by
  obtain ⟨k, s, n, a, x, t⟩ := d
  show Calls Try.prog 3 #[.agg #[.int .i64 k, .string s, .int .i64 n, .int .i64 a, .int .u32 x, .string t]] w _
  have HD : Hid (-9223372036854775808 ≤ n ∧ n ≤ 9223372036854775807) := Lib.hid hd
  have HX := Lib.hid (At.new w 24 [.int .i64 k, .string s, .int .i64 n, .int .i64 a, .int .u32 x, .string t])
  have HB := Lib.hid ((Below.refl w.heap.size w).alloc (Nat.le_refl _) (.cells #[.int .i64 k, .string s, .int .i64 n, .int .i64 a, .int .u32 x, .string t] 24))
  clear hd
  have HS : Hid (w.heap.size < (w.alloc (.cells #[.int .i64 k, .string s, .int .i64 n, .int .i64 a, .int .u32 x, .string t] 24)).heap.size) := Lib.hid HX.out.lt
  go_enter Try.func3, Try.ntmps3
  go_wp2_with fail
  refine (add_nil s n a _).mono ?_; rintro e w1 ⟨rfl, hw1⟩
  rw [← hw1]
  generalize w.alloc (.cells #[.int .i64 k, .string s, .int .i64 n, .int .i64 a, .int .u32 x, .string t] 24) = w2 at *
  clear hw1
  have x4 := HX.out.cell 4 rfl
  go_wp2_with fail
  refine (fln_body x _).mono ?_; rintro e w3 ⟨rfl, k3⟩
  have X3 := Lib.hid (HX.out.below k3 HX.out.lt)
  have B3 := Lib.hid (HB.out.trans (k3.mono HB.out.size))
  clear k3 HX HB x4 HS
  have x4 := X3.out.cell 4 rfl
  go_wp2_with fail
  refine (ack_nil x _).mono ?_; rintro e w4 ⟨rfl, k4⟩
  have X4 := Lib.hid (X3.out.below k4 X3.out.lt)
  have B4 := Lib.hid (B3.out.trans (k4.mono B3.out.size))
  clear k4 X3 B3 x4
  have x4 := X4.out.cell 4 rfl
  have x5 := X4.out.cell 5 rfl
  have x2 := X4.out.cell 2 rfl
  go_wp2_with fail
  refine (fln_wants x t n _ HD.out.1 HD.out.2).mono ?_; rintro e w5 ⟨A5, c5, rfl, k5⟩
  have X5 := Lib.hid (X4.out.below k5 X4.out.lt)
  have B5 := Lib.hid (B4.out.trans (k5.mono B4.out.size))
  clear k5 X4 B4 x4 x5 x2
  have x3 := X5.out.cell 3 rfl
  have x2 := X5.out.cell 2 rfl
  go_wp2_with fail
  refine (fln_due a n _).mono ?_; rintro e w6 ⟨A6, c6, rfl, k6⟩
  have B6 := Lib.hid (B5.out.trans (k6.mono B5.out.size))
  clear k6 X5 B5 x3 x2
  go_wp2_with fail
  refine (flc_next none 0 (.slice none 0 0) 0 _ (.inl ⟨rfl, rfl, rfl⟩)).mono ?_; rintro e w7 ⟨rfl, rfl⟩
  go_wp2_with fail
  refine (flc_base none 0 (.slice none 0 0) 0 _ (.inl ⟨rfl, rfl, rfl⟩) (by decide)).mono ?_; rintro e w7 ⟨rfl, rfl⟩
  rw [show fb 0 0 = 0 by decide]
  go_wp2_with fail
  refine (flc_len none 0 (.slice none 0 0) 0 _ (.inl ⟨rfl, rfl, rfl⟩)).mono ?_; rintro e w7 ⟨rfl, rfl⟩
  go_wp2_with fail
  refine (fl_awake_any _).mono ?_; rintro e w8 ⟨rfl, k8⟩
  have B8 := Lib.hid (B6.out.trans (k8.mono B6.out.size))
  clear k8 B6
  go_wp2_with fail
  go_ret
  exact ⟨rfl, B8.out⟩
end Go.Proofs.Ytgnalabblhokmaa

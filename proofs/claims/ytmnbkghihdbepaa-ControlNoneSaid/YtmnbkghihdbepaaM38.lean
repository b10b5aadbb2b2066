/- Proved: lemmas of one statement's proof, merged by program: what each part proves stands ahead of it. Conditions: those that the lemmas name. -/
import Derived.Test.YtmnbkghihdbepaaM25

/- Proved: what ControlNone answers, for every datagram. Conditions: those that the theorems name. -/
namespace Go.Proofs.Ytmnbkghihdbepaa
open Go.ChangeShapes Go.WideShapes Go.ChangeAt Go.RowKit

set_option maxRecDepth 100000 in
set_option maxHeartbeats 3200000 in
theorem ct_none_walk (d : Dg) (w : World) :
    Calls Try.prog 4 #[d.val] w fun e w' => e = .returned (.bool true) ∧ Below w.heap.size w w' := by
  have HX := Lib.hid (At.new w 29 d.cells)
  have HB : Hid (Below w.heap.size w (w.alloc (.cells d.cells.toArray 29))) := Lib.hid ((Below.refl w.heap.size w).alloc (Nat.le_refl _) _)
  have he : ∀ W : World, (binOp .eql 29 (.agg #[.int .i64 0, .int .i64 0, .int .u32 0, .int .i64 0, .int .i64 0, .int .i64 0, .int .i64 0, .int .i64 0, .string ⟨#[]⟩, .string ⟨#[]⟩]) (.agg #[.int .i64 0, .int .i64 0, .int .u32 0, .int .i64 0, .int .i64 0, .int .i64 0, .int .i64 0, .int .i64 0, .string ⟨#[]⟩, .string ⟨#[]⟩])).run Try.prog W = .ok (.bool true) W := fun W => by
    have := eq_dg dgZ dgZ W
    rw [eqB_refl] at this
    exact this
  have HA := Lib.hid (fun W => ct_ask_nil d W)
  obtain ⟨a0, a1, a2, a3, a4, a5, a6, a7, a8, a9⟩ := d
  unfold Dg.val at *
  unfold Dg.cells at *
  dsimp only at *
  go_enter Try.func4, Try.ntmps4
  go_wp2_with fail
  refine (ct_next_nil _).mono ?_; rintro e w1 ⟨rfl, k1⟩
  have X1 := Lib.hid (HX.out.below k1 HX.out.lt)
  have B1 := Lib.hid (HB.out.trans (k1.mono HB.out.size))
  clear k1 HX HB
  have al : Below w1.heap.size w1 (w1.alloc (.cells #[.int .i64 0, .int .i64 0, .int .u32 0, .int .i64 0, .int .i64 0, .int .i64 0, .int .i64 0, .int .i64 0, .string ⟨#[]⟩, .string ⟨#[]⟩] 29)) := (Below.refl _ _).alloc (Nat.le_refl _) _
  have Y2 : Hid (At (w1.alloc (.cells #[.int .i64 0, .int .i64 0, .int .u32 0, .int .i64 0, .int .i64 0, .int .i64 0, .int .i64 0, .int .i64 0, .string ⟨#[]⟩, .string ⟨#[]⟩] 29)) w1.heap.size 29 [.int .i64 0, .int .i64 0, .int .u32 0, .int .i64 0, .int .i64 0, .int .i64 0, .int .i64 0, .int .i64 0, .string ⟨#[]⟩, .string ⟨#[]⟩]) := Lib.hid (At.new w1 _ _)
  have X2 := Lib.hid (X1.out.below al X1.out.lt)
  have B2 := Lib.hid (B1.out.trans (al.mono B1.out.size))
  clear al X1 B1
  rw [show dgZ.val = (.agg #[.int .i64 0, .int .i64 0, .int .u32 0, .int .i64 0, .int .i64 0, .int .i64 0, .int .i64 0, .int .i64 0, .string ⟨#[]⟩, .string ⟨#[]⟩] : Value) from rfl]
  go_upto_region 3 with fail
  generalize w1.alloc (.cells #[.int .i64 0, .int .i64 0, .int .u32 0, .int .i64 0, .int .i64 0, .int .i64 0, .int .i64 0, .int .i64 0, .string ⟨#[]⟩, .string ⟨#[]⟩] 29) = w2 at *
  generalize w1.heap.size = yb at *
  have x0 := X2.out.cell 0 rfl
  have x1 := X2.out.cell 1 rfl
  have x2 := X2.out.cell 2 rfl
  have x3 := X2.out.cell 3 rfl
  have x4 := X2.out.cell 4 rfl
  have x5 := X2.out.cell 5 rfl
  have x6 := X2.out.cell 6 rfl
  have x7 := X2.out.cell 7 rfl
  have x8 := X2.out.cell 8 rfl
  have x9 := X2.out.cell 9 rfl
  go_wp2_with fail
  refine (HA.out _).mono ?_; rintro e w3 ⟨rfl, k3⟩
  have X3 := X2.out.below k3 X2.out.lt
  have Y3 := Y2.out.below k3 Y2.out.lt
  have B3 := Lib.hid (B2.out.trans (k3.mono B2.out.size))
  clear k3 B2 X2 Y2 x0 x1 x2 x3 x4 x5 x6 x7 x8 x9
  have y0 := Y3.cell 0 rfl
  have y1 := Y3.cell 1 rfl
  have y2 := Y3.cell 2 rfl
  have y3 := Y3.cell 3 rfl
  have y4 := Y3.cell 4 rfl
  have y5 := Y3.cell 5 rfl
  have y6 := Y3.cell 6 rfl
  have y7 := Y3.cell 7 rfl
  have y8 := Y3.cell 8 rfl
  have y9 := Y3.cell 9 rfl
  have x1 := X3.cell 1 rfl
  have HX3 := Lib.hid X3
  clear X3 Y3
  go_wp2_with fail
  refine (ct_drop_nil a1 _).mono ?_; rintro e w4 ⟨rfl, k4⟩
  have X4 := HX3.out.below k4 HX3.out.lt
  have B4 := Lib.hid (B3.out.trans (k4.mono B3.out.size))
  clear k4 B3 x1 y0 y1 y2 y3 y4 y5 y6 y7 y8 y9
  have x1 := X4.cell 1 rfl
  have x2 := X4.cell 2 rfl
  clear X4
  go_wp2_with fail
  refine (ct_clean_nil a1 (a2 : Int) _).mono ?_; rintro e w5 ⟨rfl, k5⟩
  have B5 := Lib.hid (B4.out.trans (k5.mono B4.out.size))
  clear k5 B4 x1 x2
  go_wp2_with fail
  refine (ct_len_nil _).mono ?_; rintro e w6 ⟨rfl, rfl⟩
  go_wp2_with fail
  refine (ct_awake_any _).mono ?_; rintro e w7 ⟨rfl, k7⟩
  have B7 := Lib.hid (B5.out.trans (k7.mono B5.out.size))
  clear k7
  go_wp2_with fail
  go_ret
  exact ⟨rfl, B7.out⟩
end Go.Proofs.Ytmnbkghihdbepaa

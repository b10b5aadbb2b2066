/- Proved: the first calls of stage 19's laws answer as they should. Conditions: those that the theorem names. -/
import Derived.Test.YtfppmlnafalneaaDoorJbLaw
namespace Go.Proofs.YtfppmlnafalneaaDoor
open Go.ChangeShapes Go.WideShapes Go.ChangeAt Go.RowKit Go.MuLone

set_option maxRecDepth 100000 in
set_option maxHeartbeats 3200000 in
theorem jb_awake {w : World} {B : Nat} {a0 a1 : Addr} (E : Er w B a0 a1) (hB : B ≤ szW w) :
    Calls Tryd.prog 5 #[] w fun e w' => e = .returned (.bool true) ∧ Tn Nil w w' := by
  have HE := Lib.hid E
  have HB := Lib.hid hB
  have HN := Lib.hid (jB_new (w0 := w) 1 (by decide) (Tn.refl Nil w))
  clear E hB
  go_enter Tryd.func5, Tryd.ntmps5
  go_wp2_with fail
  refine HN.out.mono ?_; rintro e w1 ⟨rfl, h1, t1⟩
  have H1 := Lib.hid h1
  clear h1 t1 HN
  generalize w.heap.size = b at *
  go_wp2_with fail
  refine (jb_new_bad 0 _ (by decide)).mono ?_; rintro e w2 ⟨rfl, rfl⟩
  go_wp2_with fail
  refine (jB_push HE.out HB.out H1.out (by decide) ⟨0, 0, 0, 0, 1⟩ (n := 0) (S' := [⟨0, 0, 0, 0, 1⟩]) rfl rfl).mono ?_; rintro e w2 ⟨rfl, r2, h2, -⟩
  have H2 := Lib.hid h2
  clear h2 H1
  go_wp2_with fail
  refine (jB_push HE.out HB.out H2.out (by decide) ⟨0, 0, 0, 0, 2⟩ (n := 9) (S' := [⟨0, 0, 0, 0, 1⟩]) rfl rfl).mono ?_; rintro e w3 ⟨rfl, r3, h3, -⟩
  have H3 := Lib.hid h3
  clear h3 H2
  go_wp2_with fail
  refine (jB_pop H3.out (x := ⟨0, 0, 0, 0, 1⟩) (z := true) (S' := []) rfl rfl rfl).mono ?_; rintro e w4 ⟨rfl, h4, -⟩
  have H5 := Lib.hid (h4.free ((Tn.refl Nil w4).alloc (.cells #[.int .i64 0, .int .u32 0, .int .i64 0, .int .i64 0, .int .i64 1, .slice none 0 0] 37)))
  have HP5 := Lib.hid h4.new
  have HX5 := Lib.hid (At.new w4 37 [.int .i64 0, .int .u32 0, .int .i64 0, .int .i64 0, .int .i64 1, .slice none 0 0])
  clear h4 H3
  go_wp2_with fail
  generalize w4.heap.size = bx at *
  generalize w4.alloc (.cells #[.int .i64 0, .int .u32 0, .int .i64 0, .int .i64 0, .int .i64 1, .slice none 0 0] 37) = w5 at *
  refine (jB_pop H5.out (x := ⟨0, 0, 0, 0, 0⟩) (z := false) (S' := []) rfl rfl rfl).mono ?_; rintro e w6 ⟨rfl, h6, f6⟩
  have H7 := Lib.hid (h6.free ((Tn.refl Nil w6).alloc (.cells #[.int .i64 0, .int .u32 0, .int .i64 0, .int .i64 0, .int .i64 0, .slice none 0 0] 37)))
  have HX7 := Lib.hid ((f6.at_ HX5.out HP5.out).1.alloc (.cells #[.int .i64 0, .int .u32 0, .int .i64 0, .int .i64 0, .int .i64 0, .slice none 0 0] 37))
  have HP7 := Lib.hid (f6.at_ HX5.out HP5.out).2
  clear h6 f6 H5 HX5 HP5
  go_wp2_with fail
  generalize w6.alloc (.cells #[.int .i64 0, .int .u32 0, .int .i64 0, .int .i64 0, .int .i64 0, .slice none 0 0] 37) = w7 at *
  refine (jB_push HE.out HB.out H7.out (by decide) ⟨0, 0, 0, 0, 3⟩ (n := 0) (S' := [⟨0, 0, 0, 0, 3⟩]) rfl rfl).mono ?_; rintro e w8 ⟨rfl, r8, h8, f8⟩
  have H8 := Lib.hid h8
  have HX8 := Lib.hid (f8.at_ HX7.out HP7.out)
  clear h8 f8 H7 HX7 HP7
  go_wp2_with fail
  refine (jB_close H8.out (n := 0) rfl).mono ?_; rintro e w9 ⟨rfl, h9, f9⟩
  have H9 := Lib.hid h9
  have HX9 := Lib.hid (f9.at_ HX8.out.1 HX8.out.2)
  clear h9 f9 H8 HX8
  go_wp2_with fail
  refine (jB_close H9.out (n := 11) rfl).mono ?_; rintro e w10 ⟨rfl, h10, f10⟩
  have H10 := Lib.hid h10
  have HX10 := Lib.hid (f10.at_ HX9.out.1 HX9.out.2)
  clear h10 f10 H9 HX9
  go_wp2_with fail
  refine (jB_push HE.out HB.out H10.out (by decide) ⟨0, 0, 0, 0, 0⟩ (n := 11) (S' := [⟨0, 0, 0, 0, 3⟩]) rfl rfl).mono ?_; rintro e w11 ⟨rfl, r11, h11, f11⟩
  have H11 := Lib.hid h11
  have HX11 := Lib.hid (f11.at_ HX10.out.1 HX10.out.2)
  clear h11 f11 H10 HX10
  have x4 := HX11.out.1.cell 4 rfl
  go_wp2_with fail
  refine (jB_closed H11.out).mono ?_; rintro e w12 ⟨rfl, h12, f12⟩
  have H12 := Lib.hid h12
  clear h12 f12 H11 HX11 x4
  go_wp2_with fail
  refine (jB_len H12.out (n := 1) rfl).mono ?_; rintro e w13 ⟨rfl, h13, f13⟩
  have H13 := Lib.hid h13
  clear h13 f13 H12
  go_wp2_with fail
  go_ret
  exact ⟨rfl, H13.out.t⟩
end Go.Proofs.YtfppmlnafalneaaDoor

/- Proved: TableNone. No condition. -/
import Derived.Test.YtgclgmfmcgacdaaTbAwake
namespace Go.Proofs.Ytgclgmfmcgacdaa
open Go.ChangeShapes Go.WideShapes Go.ChangeAt Go.RowKit Go.MuLone

/-- a deed. -/
structure De where
  kd : Int
  k : Ky
  need : Int
  i : Int
  t : ByteArray
def De.val (d : De) : Value := .agg #[.int .i64 d.kd, .int .i64 d.k.1, .int .u32 d.k.2, .int .i64 d.need, .int .i64 d.i, .string d.t]
set_option maxRecDepth 100000 in
set_option maxHeartbeats 3200000 in
theorem tb_none_walk (d : De) (w : World) :
    Calls Try.prog 5 #[d.val] w fun e w' => e = .returned (.bool true) ∧ Below w.heap.size w w' := by
  obtain ⟨kd, ⟨k0, k1⟩, nd, i, t⟩ := d
  show Calls Try.prog 5 #[.agg #[.int .i64 kd, .int .i64 k0, .int .u32 k1, .int .i64 nd, .int .i64 i, .string t]] w _
  have HX := Lib.hid (At.new w 37 [.int .i64 kd, .int .i64 k0, .int .u32 k1, .int .i64 nd, .int .i64 i, .string t])
  have HT := Lib.hid ((Tn.refl Nil w).alloc (.cells #[.int .i64 kd, .int .i64 k0, .int .u32 k1, .int .i64 nd, .int .i64 i, .string t] 37))
  go_enter Try.func5, Try.ntmps5
  go_wp2_with fail
  refine (tbget_none (k0, k1) _).mono ?_; rintro e w1 ⟨rfl, t1⟩
  have h1 := HX.out.tn t1 (fun e => e)
  have T1 := Lib.hid (HT.out.trans t1)
  have HL : Hid (w.heap.size < w1.heap.size) := Lib.hid h1.lt
  have HB : Hid (szW w ≤ w.heap.size) := Lib.hid (Nat.le_refl _)
  clear HX HT t1
  generalize w.heap.size = db at *
  have c1 := h1.cell 1 rfl
  have c2 := h1.cell 2 rfl
  have H1 := Lib.hid h1
  clear h1
  go_wp2_with fail
  refine (tbtake_none (k0, k1) _).mono ?_; rintro e w2 ⟨rfl, t2⟩
  clear c1 c2
  have H2 := Lib.hid (H1.out.tn t2 (fun e => e))
  have T2 := Lib.hid (T1.out.trans t2)
  clear t2 H1 T1
  go_wp2_with fail
  refine (tboldest_none _).mono ?_; rintro e w3 ⟨rfl, t3⟩
  have h3 := H2.out.tn t3 (fun e => e)
  have h4 := h3.alloc (.cells #[.int .i64 0, .int .u32 0] 35)
  have hk4 := At.new w3 35 [.int .i64 0, .int .u32 0]
  have T4 := Lib.hid ((T2.out.trans t3).alloc (.cells #[.int .i64 0, .int .u32 0] 35))
  have c1 := h4.cell 1 rfl
  have c2 := h4.cell 2 rfl
  have c3 := h4.cell 3 rfl
  have c4 := h4.cell 4 rfl
  have c5 := h4.cell 5 rfl
  have H4 := Lib.hid h4
  have HK4 := Lib.hid hk4
  clear h3 h4 hk4 t3 H2 T2
  go_wp2_with fail
  refine (put_bad none (k0, k1) nd (i, t) (.inl rfl)).mono ?_; rintro e w5 ⟨rfl, t5⟩
  clear c1 c2 c3 c4 c5
  have H5 := Lib.hid (H4.out.tn t5 (fun e => e))
  have HK5 := Lib.hid (HK4.out.tn t5 (fun e => e))
  have T5 := Lib.hid (T4.out.trans t5)
  clear t5 H4 HK4 T4
  have c1 := H5.out.cell 1 rfl
  have o0 := HK5.out.cell 0 rfl
  have o1 := HK5.out.cell 1 rfl
  generalize w3.heap.size = ob at *
  go_wp2_with fail
  refine (tbdrop_none k0 _).mono ?_; rintro e w6 ⟨rfl, rfl⟩
  go_wp2_with fail
  refine (tblen_none _).mono ?_; rintro e w6 ⟨rfl, rfl⟩
  go_wp2_with fail
  refine (tb_awake _).mono ?_; rintro e w6 ⟨rfl, t6⟩
  have T6 := Lib.hid (T5.out.trans t6)
  clear t6 T5 c1 o0 o1
  go_wp2_with fail
  go_ret
  exact ⟨rfl, T6.out.below (Below.refl w.heap.size w) (Nat.le_refl _) (fun _ _ e => e)⟩
end Go.Proofs.Ytgclgmfmcgacdaa

/- Proved: the walk of JobsNone. Conditions: those that the theorem names. -/
import Derived.Test.YtfppmlnafalneaaDoorJbAwake
namespace Go.Proofs.YtfppmlnafalneaaDoor
open Go.ChangeShapes Go.WideShapes Go.ChangeAt Go.RowKit Go.MuLone

/-- a key. -/
structure Ke where
  s : Int
  b : Int
def Ke.val (k : Ke) : Value := .agg #[.int .i64 k.s, .int .u32 k.b]
set_option maxRecDepth 100000 in
set_option maxHeartbeats 3200000 in
theorem jb_none_walk (k : Ke) {w : World} {B : Nat} {a0 a1 : Addr} (E : Er w B a0 a1) (hB : B ≤ szW w) :
    Calls Tryd.prog 4 #[k.val] w fun e w' => e = .returned (.bool true) ∧ Tn Nil w w' := by
  obtain ⟨s, b⟩ := k
  show Calls Tryd.prog 4 #[.agg #[.int .i64 s, .int .u32 b]] w _
  have HX := Lib.hid (At.new w 31 [.int .i64 s, .int .u32 b])
  have HT := Lib.hid ((Tn.refl Nil w).alloc (.cells #[.int .i64 s, .int .u32 b] 31))
  have HE := Lib.hid E
  have HB := Lib.hid hB
  clear E hB
  go_enter Tryd.func4, Tryd.ntmps4
  go_wp2_with fail
  generalize w.heap.size = kx at *
  generalize w.alloc (.cells #[.int .i64 s, .int .u32 b] 31) = w1 at *
  refine (jb_pop_none _).mono ?_; rintro e w2 ⟨rfl, t2⟩
  have HX3 := Lib.hid ((HX.out.tn t2 (fun e => e)).alloc (.cells #[.int .i64 0, .int .u32 0, .int .i64 0, .int .i64 0, .int .i64 0, .slice none 0 0] 37))
  have HT3 := Lib.hid ((HT.out.trans t2).alloc (.cells #[.int .i64 0, .int .u32 0, .int .i64 0, .int .i64 0, .int .i64 0, .slice none 0 0] 37))
  clear t2 HX HT
  have k0 := HX3.out.cell 0 rfl
  have k1 := HX3.out.cell 1 rfl
  rw [show jb0.val = .agg #[.int .i64 0, .int .u32 0, .int .i64 0, .int .i64 0, .int .i64 0, .slice none 0 0] from rfl]
  go_wp2_with fail
  generalize w2.alloc (.cells #[.int .i64 0, .int .u32 0, .int .i64 0, .int .i64 0, .int .i64 0, .slice none 0 0] 37) = w3 at *
  refine (jb_push_none ⟨s, b, 0, 0, 0⟩ _).mono ?_; rintro e w4 ⟨rfl, t4⟩
  have HT4 := Lib.hid (HT3.out.trans t4)
  clear t4 HX3 HT3 k0 k1
  go_wp2_with fail
  refine (jb_close_none _).mono ?_; rintro e w5 ⟨rfl, rfl⟩
  go_wp2_with fail
  refine (jb_closed_none _).mono ?_; rintro e w5 ⟨rfl, rfl⟩
  go_wp2_with fail
  refine (jb_len_none _).mono ?_; rintro e w5 ⟨rfl, rfl⟩
  go_wp2_with fail
  have HE4 := HE.out.free HT4.out
  refine (jb_awake HE4 (Nat.le_trans HB.out HT4.out.size)).mono ?_; rintro e w6 ⟨rfl, t6⟩
  have HT6 := Lib.hid (HT4.out.trans t6)
  clear t6 HE4
  go_wp2_with fail
  go_ret
  exact ⟨rfl, HT6.out⟩
end Go.Proofs.YtfppmlnafalneaaDoor

/- Proved: what OrderNone answers, for every deed. Conditions: those that the theorems name. -/
import Derived.Test.YtifekpdjenfnbaaOrAwake
import Derived.Test.YtifekpdjenfnbaaOrArg
namespace Go.Proofs.Ytifekpdjenfnbaa
open Go.ChangeShapes Go.WideShapes Go.ChangeAt Go.RowKit

set_option maxRecDepth 100000 in
set_option maxHeartbeats 3200000 in
theorem or_none_walk (d : Dd) (hd : d.In) (w : World) :
    Calls Try.prog 5 #[d.val] w fun e w' => e = .returned (.bool true) ∧ Below w.heap.size w w' := by
  obtain ⟨k, x, s, z⟩ := d
  have hx : U32 x := hd
  show Calls Try.prog 5 #[.agg #[.int .i64 k, .int .u32 x, .string s, .int .i64 z]] w _
  have HX := Lib.hid (At.new w 33 [.int .i64 k, .int .u32 x, .string s, .int .i64 z])
  have HB := Lib.hid ((Below.refl w.heap.size w).alloc (Nat.le_refl _) (.cells #[.int .i64 k, .int .u32 x, .string s, .int .i64 z] 33))
  have HH := Lib.hid (fun W => or_has_any none 0 _ [] x W (OdO.nil W) hx)
  have e0 : hasO 0 [] x = false := by
    unfold hasO atO atZ
    split
    · rw [st_none (Nat.zero_le _), em_S0]; rfl
    · rw [em_S0]; rfl
  rw [e0] at HH
  clear hd hx e0
  go_enter Try.func5, Try.ntmps5
  go_wp2_with fail
  refine (or_next_nil z _).mono ?_; rintro e w1 ⟨rfl, k1⟩
  have X1 := Lib.hid (HX.out.below k1 HX.out.lt)
  have B1 := Lib.hid (HB.out.trans (k1.mono HB.out.size))
  clear k1 HX HB
  have x1 := X1.out.cell 1 rfl
  have x2 := X1.out.cell 2 rfl
  go_wp2_with fail
  refine (or_put_nil x s _).mono ?_; rintro e w2 ⟨rfl, rfl⟩
  go_wp2_with fail
  refine (or_base_any none 0 _ [] _ (OdO.nil _)).mono ?_; rintro e w3 ⟨rfl, rfl⟩
  go_wp2_with fail
  refine (HH.out _).mono ?_; rintro e w4 ⟨rfl, q, rfl⟩
  have B2 := Lib.hid (below_drawn_of B1.out q)
  go_wp2_with fail
  refine (or_len_any none 0 _ [] _ (OdO.nil _)).mono ?_; rintro e w5 ⟨rfl, rfl⟩
  rw [oa12]
  go_wp2_with fail
  refine (or_awake_any _).mono ?_; rintro e w6 ⟨rfl, k6⟩
  have B6 := Lib.hid (B2.out.trans (k6.mono B2.out.size))
  clear k6
  go_wp2_with fail
  go_ret
  exact ⟨rfl, B6.out⟩
end Go.Proofs.Ytifekpdjenfnbaa

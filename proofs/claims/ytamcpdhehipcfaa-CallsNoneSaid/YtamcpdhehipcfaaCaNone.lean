/- Proved: the walk of the law on calls that are none. Conditions: those that the theorems name. -/
import Derived.Test.YtamcpdhehipcfaaCaAwake
namespace Go.Proofs.Ytamcpdhehipcfaa
open Go.ChangeShapes Go.WideShapes Go.ChangeAt Go.RowKit

set_option maxRecDepth 100000 in
set_option maxHeartbeats 3200000 in
theorem ca_none_walk (x : Wt) (w : World) :
    Calls Try.prog 4 #[wtV x] w fun e w' => e = .returned (.bool true) ∧ Below w.heap.size w w' := by
  obtain ⟨W1, HW, A1, B1, hz⟩ := wbox x w
  have HA1 := Lib.hid A1
  have HB1 := Lib.hid B1
  have HL1 : Hid (w.heap.size < W1.heap.size) := Lib.hid A1.lt
  have HG := Lib.hid (fun W => ca_get_nil (x.str, x.kind) W)
  have HT := Lib.hid (fun W => ca_take_nil (x.str, x.kind) W)
  have HK := Lib.hid (fun W => ca_ask_nil x W)
  have HD := Lib.hid (fun W => ca_drop_nil x.str W)
  have x1 := A1.cell 1 rfl
  have x2 := A1.cell 2 rfl
  clear A1 B1 hz
  go_enter Try.func4, Try.ntmps4
  go_upto_region 1 with fail
  change Code.wp _ _ _ _ (w.alloc (.cells (wtC x).toArray tW))
  rw [← HW]; clear HW
  go_wp2_with fail
  refine (HG.out _).mono ?_; rintro e W2 ⟨rfl, g2⟩
  have hB2 := HB1.out.trans (g2.mono HB1.out.size)
  have hA2 := HA1.out.below g2 HA1.out.lt
  have HX2 := Lib.hid (At.new W2 tW (wtC wt0))
  have HL2 : Hid (w.heap.size < W2.heap.size) := Lib.hid hA2.lt
  have HA2 := Lib.hid (hA2.alloc (.cells (wtC wt0).toArray tW))
  have HB2 := Lib.hid (hB2.alloc hB2.size (.cells (wtC wt0).toArray tW))
  clear g2 hB2 hA2 x1 x2 HA1 HB1 HG HL1
  go_upto_region 3 with (refine wpw_store rfl _ _ rfl rfl wt0 rfl HX2.out rfl ?_; intro W3 ha3 hg3 _; have HA3 := Lib.hid (HA2.out.kept hg3 (fun e => by injection e with e; have := HL2.out; omega)); have HB3 := Lib.hid (HB2.out.grown hg3 HB2.out.size (fun q e => by injection e with e; have := HL2.out; omega)); clear ha3 hg3)
  have x1 := HA3.out.cell 1 rfl
  have x2 := HA3.out.cell 2 rfl
  clear HX2 HA2 HB2 HL2
  go_wp2_with fail
  refine (HT.out _).mono ?_; rintro e W4 ⟨rfl, g4⟩
  have hB4 := HB3.out.trans (g4.mono HB3.out.size)
  have hA4 := HA3.out.below g4 HA3.out.lt
  have HX4 := Lib.hid (At.new W4 tW (wtC wt0))
  have HL4 : Hid (w.heap.size < W4.heap.size) := Lib.hid hA4.lt
  have HA4 := Lib.hid (hA4.alloc (.cells (wtC wt0).toArray tW))
  have HB4 := Lib.hid (hB4.alloc hB4.size (.cells (wtC wt0).toArray tW))
  clear g4 hB4 hA4 x1 x2 HA3 HB3 HT
  go_upto_region 4 with (refine wpw_store rfl _ _ rfl rfl wt0 rfl HX4.out rfl ?_; intro W5 ha5 hg5 _; have HA5 := Lib.hid (HA4.out.kept hg5 (fun e => by injection e with e; have := HL4.out; omega)); have HB5 := Lib.hid (HB4.out.grown hg5 HB4.out.size (fun q e => by injection e with e; have := HL4.out; omega)); clear ha5 hg5)
  clear HX4 HA4 HB4 HL4
  go_wp2_with (refine wpw_load rfl _ rfl rfl (wtc_at HA5.out) ?_)
  refine (HK.out _).mono ?_; rintro e W6 ⟨rfl, g6⟩
  have HB6 := Lib.hid (HB5.out.trans (g6.mono HB5.out.size))
  have HA6 := Lib.hid (HA5.out.below g6 HA5.out.lt)
  have x1 := HA6.out.cell 1 rfl
  have x2 := HA6.out.cell 2 rfl
  clear g6 HA5 HB5 HK
  go_wp2_with fail
  refine (HD.out _).mono ?_; rintro e W7 ⟨rfl, g7⟩
  have HB7 := Lib.hid (HB6.out.trans (g7.mono HB6.out.size))
  clear g7 HA6 HB6 HD x1 x2
  go_wp2_with fail
  refine (ca_all_nil _).mono ?_; rintro e W8 ⟨rfl, rfl⟩
  go_wp2_with fail
  refine (ca_len_nil _).mono ?_; rintro e W8 ⟨rfl, rfl⟩
  go_wp2_with fail
  refine (ca_awake _).mono ?_; rintro e W9 ⟨rfl, g9⟩
  have HB9 := Lib.hid (HB7.out.trans (g9.mono HB7.out.size))
  clear g9 HB7
  go_wp2_with fail
  go_ret
  exact ⟨rfl, HB9.out⟩
end Go.Proofs.Ytamcpdhehipcfaa

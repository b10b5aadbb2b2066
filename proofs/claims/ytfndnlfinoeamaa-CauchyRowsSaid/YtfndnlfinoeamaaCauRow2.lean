/- Proved: what Row of package cauchy answers for every three ints. Conditions: those that the theorems name. -/
import Derived.Test.YtfndnlfinoeamaaCauRow
import Derived.Test.YtfndnlfinoeamaaGfInvKeep
namespace Go.Proofs.Ytfndnlfinoeamaa
open Go.ChangeShapes Go.WideShapes Go.ChangeAt Go.RowKit

theorem xor_conv (i j : Nat) (hi : i < 256) (hj : j < 256) : IntKind.u8.wrap (bits BinOp.xor IntKind.i64 (i : Int) (j : Int)) = ((i ^^^ j : Nat) : Int) := by
  rw [i64_xor_nat i j (by omega) (by omega)]
  have := xor_lt i j hi hj
  show ((i ^^^ j : Nat) : Int) % 256 = _
  omega

theorem Own.below {w w' : World} {g n : Nat} {l : List Nat} (h : Own w g n l) (hb : Below w.heap.size w w') : Own w' g n l := by
  have hlt := h.block_lt
  obtain ⟨h0, h1, cur, hc, h2⟩ := h
  exact ⟨h0, h1, cur, (hb.block g hlt).trans hc, h2⟩

set_option maxRecDepth 100000 in
set_option maxHeartbeats 800000 in
theorem inverses_any (k i : Nat) (h1 : 1 ≤ k) (hi : k ≤ i) (hn : i < 255) (w : World) :
    Calls Try.prog 19 #[.int .i64 (k : Nat), .int .i64 (i : Nat)] w (GivesC w k (rowC k i)) := by
  have hmR := run_make_row' (P := Try.prog) 24 5 (.int .u8 0) 1 Try.underlying24 Try.infoByte rfl .i64 .i64 k (by omega) (by omega)
  have hpos : (0 : Int) ≤ (k : Int) := by omega
  have HR := Lib.hid (rowC_inv hi)
  go_enter Try.func19, Try.ntmps19
  go_wp2_with fail
  have HO := Lib.hid (own_new w k)
  have HW := Lib.hid ((Below.refl w.heap.size w).alloc (Nat.le_refl _) (.cells (madeCells #[.int .u8 0] k) 5))
  have hg : w.heap.size ≤ w.heap.size := Nat.le_refl _
  generalize hgg : w.heap.size = g at *
  go_loopw [11] (fun v wr => ∃ j : Nat, j ≤ k ∧ v = .int .i64 j ∧ ∃ l, Upto k j (fun j => ginv (i ^^^ j)) (List.replicate k 0) l ∧ Own wr g k l ∧ Below g w wr) (fun v _ => k - (intOf v).toNat)
  case atStart => exact ⟨0, by omega, rfl, _, Upto.start (by simp), HO.out, HW.out⟩
  case round =>
    obtain ⟨j, hj, rfl, l, hu, ho, hbel⟩ := hrel
    have HU := Lib.hid hu
    have HO' := Lib.hid ho
    have HW' := Lib.hid hbel
    clear hu ho hbel HO HW
    by_cases hlt : j < k
    · have hx := xor_conv i j (by omega) (by omega)
      have hx0 := Lib.hid (xor_ne (a := i) (b := j) (by omega))
      have hx1 := Lib.hid (xor_lt i j (by omega) (by omega))
      generalize hxx : i ^^^ j = x at *
      have HX := Lib.hid hxx
      clear hxx
      go_wp2_with (go_at_call 29; refine (inv_keep x hx0.out hx1.out _).mono ?_; rintro e w2 ⟨rfl, g2⟩; have HO2 := Lib.hid (HO'.out.below g2); have HW2 := Lib.hid (HW'.out.trans (g2.mono (hgg ▸ HW'.out.size))); have hc0 := HO2.out.cell hlt; have hfz := HO2.out.frozen j; clear g2)
      go_roundw
      case rel =>
        refine ⟨j + 1, by omega, by go_num, _, HU.out.next hlt, ?_, HW2.out.setCell (Nat.le_refl _) _⟩
        rw [HX.out]
        exact HO2.out.set_ hlt (ginv_lt _)
      case measure => simp [intOf]; omega
    · obtain rfl : j = k := by omega
      go_wp2_with fail
      go_ret
      refine ⟨_, _, rfl, Nat.le_refl _, ?_, by rw [hgg]; exact HW'.out⟩
      have e := HU.out.done
      have h := HO'.out.bs
      rw [e] at h
      rw [HR.out]
      exact h
end Go.Proofs.Ytfndnlfinoeamaa

/- Proved: what Slide of package window answers. Conditions: those that the theorems name. -/
import Derived.Test.YtenegeajkldfbaaWinBase
namespace Go.Proofs.Ytenegeajkldfbaa
open Go.ChangeShapes Go.WideShapes Go.ChangeAt Go.RowKit

theorem wn_slide_nil (z : Int) (w : World) :
    Calls Try.prog 11 #[.pointer none, .int .i64 z] w fun e w' => e = .returned (.int .i64 0) ∧ w = w' := by
  by_cases h : 0 < z
  · go_enter Try.func11, Try.ntmps11
    go_wp2_with fail
    go_loopw [5] (fun i wr => i = .int .i64 0 ∧ wr = w) (fun _ _ => 0)
    case atStart => exact ⟨rfl, rfl⟩
    case round =>
      obtain ⟨rfl, rfl⟩ := hrel
      go_wp2_with fail
      refine (wn_base_nil _).mono ?_; rintro e w1 ⟨rfl, rfl⟩
      go_wp2_with fail
      refine (wn_has_nil 0 _).mono ?_; rintro e w1 ⟨rfl, rfl⟩
      go_wp2_with fail
      go_ret
      exact ⟨rfl, rfl⟩
  · go_enter Try.func11, Try.ntmps11
    go_wp2_with fail
    go_loopw [5] (fun i wr => i = .int .i64 0 ∧ wr = w) (fun _ _ => 0)
    case atStart => exact ⟨rfl, rfl⟩
    case round =>
      obtain ⟨rfl, rfl⟩ := hrel
      go_wp2_with fail
      go_ret
      exact ⟨rfl, rfl⟩
set_option maxRecDepth 100000 in
set_option maxHeartbeats 1600000 in
theorem wn_slide_any {b m n : Nat} {B : Int} {L : List Int} {w : World} (h : Wn w b m B n L) (most : Int) :
    Calls Try.prog 11 #[.pointer (some ⟨b, 0, none⟩), .int .i64 most] w fun e w' => e = .returned (.int .i64 (slK B L most : Nat)) ∧ Wn w' b m (wpl B (slK B L most)) n (keepL B L (slK B L most)) ∧ Turn2 w w' b m := by
  have HO := Lib.hid h.ok
  have HW : Hid (Wn w b m (wpl B 0) n (keepL B L 0)) := Lib.hid (by rw [wpl_zero h.ok.base, keep_zero]; exact h)
  clear h
  go_enter Try.func11, Try.ntmps11
  go_wp2_with fail
  go_loopw [5] (fun i wr => ∃ k : Nat, i = .int .i64 k ∧ (∀ j, j < k → (j : Int) < most ∧ wpl B j ∈ L) ∧ Wn wr b m (wpl B k) n (keepL B L k) ∧ Turn2 w wr b m) (fun i _ => 64 - (intOf i).toNat)
  case atStart => exact ⟨0, rfl, fun j hj => absurd hj (by omega), HW.out, Turn2.refl _ _ _⟩
  case round =>
    obtain ⟨k, rfl, hls, hwn, htn⟩ := hrel
    have HS := Lib.hid hls
    have HN := Lib.hid hwn
    have HT := Lib.hid htn
    have hk64 : k ≤ 64 := Nat.le_trans (HO.out.sl_low fun j hj => (hls j hj).2) HO.out.high
    have hk0 : (0 : Int) ≤ (k : Int) := Int.natCast_nonneg _
    clear hls hwn htn HW
    by_cases hm : (k : Int) < most
    · have HB := Lib.hid (wn_base HN.out)
      have HH := Lib.hid (fun W (g : Wn W b m (wpl B k) n (keepL B L k)) => wn_has g (wpl_u32 B k))
      have HD := Lib.hid (fun W (g : Wm W m (keepL B L k)) ty => wm_del g (wpl_u32 B k) ty)
      have HX := Lib.hid (wpl_next B k)
      by_cases hin : wpl B k ∈ L
      · rw [keep_step HO.out.u32 (by omega)] at HD
        have hin2 : decide (wpl B k ∈ keepL B L k) = true := decide_eq_true ((keep_mem (by omega)).2 hin)
        rw [hin2] at HH
        have HIN := Lib.hid hin
        have HLT : Hid (k < 64) := Lib.hid (by have := HO.out.at_ (i := k) (by omega) hin; have := HO.out.high; omega)
        have HMM := Lib.hid hm
        have HWN : Hid (WOk (wpl B (k + 1)) n (keepL B L (k + 1))) := Lib.hid (HO.out.slide (k + 1))
        have HY := Lib.hid (show wpl B k = wpl B k from rfl)
        generalize hy : wpl B k = y at *
        generalize hl1 : keepL B L (k + 1) = L1 at *
        generalize hy1 : wpl B (k + 1) = y1 at *
        have HE := Lib.hid (And.intro hy (And.intro hl1 hy1))
        clear hy hl1 hy1 hin2 hin HY
        go_wp2_with fail
        refine HB.out.mono ?_; rintro e w1 ⟨rfl, rfl⟩
        go_wp2_with fail
        refine (HH.out _ HN.out).mono ?_; rintro e w2 ⟨rfl, g2⟩
        have HN2 := Lib.hid (HN.out.below g2)
        have HT2 := Lib.hid (HT.out.trans (turn2_below g2))
        have hc0 := HN2.out.1.cell 0 rfl
        have hc2 := HN2.out.1.cell 2 rfl
        clear g2 HN HT HH HB
        go_wp2_with fail
        refine wp_region_still_tail 8 (by kernel_rfl) (by kernel_rfl) ?_
        simp only [List.take_succ_cons, List.take_zero, List.drop_succ_cons, List.drop_zero]
        repeat still_step
        refine wpStill_nil ?_
        change wpList _ _ _ _ _ w2.drew
        have HN3 := Lib.hid (HN2.out.kept (grown_drew w2 none) (by simp) (by simp))
        have HT3 := Lib.hid (HT2.out.trans (turn2_grown (grown_drew w2 _)))
        clear HN2 HT2 hc0 hc2
        generalize w2.drew = w3 at *
        obtain ⟨w4, hrun, hm4, hg4⟩ := HD.out w3 HN3.out.2.1 0
        have HA4 := Lib.hid (HN3.out.1.kept hg4 (fun e => HN3.out.ne (by injection e with e; exact e.symm)))
        have HM4 := Lib.hid hm4
        have HT4 := Lib.hid (HT3.out.trans (turn2_grown hg4))
        have hc0 := HA4.out.cell 0 rfl
        have hf0 := HA4.out.free 0
        have HNE := Lib.hid HN3.out.ne
        clear hm4 hg4 HD HT3 HN3
        go_wp2_with fail
        go_roundw
        case rel =>
          refine ⟨k + 1, by go_num, fun j hj => ?_, ⟨?_, ?_, ?_⟩, ?_⟩
          · rcases Nat.lt_or_ge j k with q | q
            · exact HS.out j q
            · obtain rfl : j = k := by omega
              exact ⟨HMM.out, by rw [HE.out.1]; exact HIN.out⟩
          · have := HA4.out.set_ 0 (.int .u32 ((y + 1) % 4294967296))
            rw [HX.out] at this
            rw [HE.out.2.2, HX.out]
            exact this
          · rw [HE.out.2.1]
            exact HM4.out.kept (grown_set w4 ⟨b, 0, none⟩ _) (fun e => HNE.out (by injection e))
          · rw [HE.out.2.1, HE.out.2.2]; exact HWN.out
          · exact HT4.out.trans (turn2_grown' (grown_set w4 ⟨b, 0, none⟩ _))
        case measure => simp [intOf]; have := HLT.out; omega
      · have hin2 : decide (wpl B k ∈ keepL B L k) = false := decide_eq_false fun e => hin ((keep_mem (by omega)).1 e)
        rw [hin2] at HH
        have HK : Hid (slK B L most = k) := Lib.hid ((HO.out.sl most).only ⟨HS.out, fun e => hin e.2⟩)
        clear hin hin2 HD HX
        generalize hy : wpl B k = y at *
        have HY := Lib.hid hy
        clear hy
        go_wp2_with fail
        refine HB.out.mono ?_; rintro e w1 ⟨rfl, rfl⟩
        go_wp2_with fail
        refine (HH.out _ HN.out).mono ?_; rintro e w2 ⟨rfl, g2⟩
        have HN2 := Lib.hid (HN.out.below g2)
        have HT2 := Lib.hid (HT.out.trans (turn2_below g2))
        clear g2 HN HT HH HB
        go_wp2_with fail
        go_ret
        rw [HK.out, HY.out]
        exact ⟨rfl, HN2.out, HT2.out⟩
    · have HK : Hid (slK B L most = k) := Lib.hid ((HO.out.sl most).only ⟨HS.out, fun e => hm e.1⟩)
      go_wp2_with fail
      go_ret
      rw [HK.out]
      exact ⟨rfl, HN.out, HT.out⟩
end Go.Proofs.Ytenegeajkldfbaa

/- Proved: what last and Missing of package window answer. Conditions: those that the theorems name. -/
import Derived.Test.YtenegeajkldfbaaWinBase
namespace Go.Proofs.Ytenegeajkldfbaa
open Go.ChangeShapes Go.WideShapes Go.ChangeAt Go.RowKit

set_option maxRecDepth 100000 in
set_option maxHeartbeats 1600000 in
theorem wn_last_any {b m n : Nat} {B : Int} {L : List Int} {w : World} (h : Wn w b m B n L) :
    Calls Try.prog 22 #[.pointer (some ⟨b, 0, none⟩)] w fun e w' => e = .returned (.int .u32 (wpl B (topN B L n))) ∧ Below w.heap.size w w' := by
  have HO := Lib.hid h.ok
  have HU := Lib.hid h.ok.u32
  have hc0 := h.1.cell 0 rfl
  have hc2 := h.1.cell 2 rfl
  have HM := Lib.hid h.2.1
  have HZ := Lib.hid (wpl_zero h.ok.base)
  clear h
  go_enter Try.func22, Try.ntmps22
  go_wp2_with (first | (at_range; refine wrng_start _ rfl _ rfl m L rfl HM.out HU.out ?_; intro w2 hr2 hg2 hs2))
  go_frame
  have HR2 := Lib.hid hr2
  have HB2 := Lib.hid ((Below.refl w.heap.size w).grown hg2 (Nat.le_refl _) (by simp))
  clear hr2 hg2 hs2 HM hc0 hc2
  have HSZ : Hid (w.heap.size ≤ w.heap.size) := Lib.hid (Nat.le_refl _)
  generalize hr : w.heap.size = r at HR2 HSZ ⊢
  have HRE := Lib.hid hr
  clear hr
  go_loopw [3] (fun v wr => ∃ p cnt t, v = .int .u32 (wpl B t) ∧ LastOk B L p t ∧ WRng wr m r L p cnt ∧ Below w.heap.size w wr) (fun _ wr => wr.rangeLeft m r)
  case atStart => exact ⟨_, _, 0, by rw [HZ.out], ⟨by omega, Or.inl rfl, fun x _ h => by simp at h⟩, HR2.out, HB2.out⟩
  case round =>
    obtain ⟨p, cnt, t, rfl, hok, hrng, hbel⟩ := hrel
    have HK := Lib.hid hok
    have HR := Lib.hid hrng
    have HB := Lib.hid hbel
    clear hok hrng hbel HR2 HB2
    go_wp2_with (first
      | (at_next; refine wrng_next _ rfl _ rfl m r L p cnt rfl HR.out ?_ ?_))
    · intro hd
      have HT := Lib.hid (HK.out.is HO.out hd)
      clear hd
      go_wp2_with fail
      go_ret
      rw [← HT.out]
      exact ⟨rfl, HB.out⟩
    · intro x w3 cnt' hx hp hr3 hlt hg3 hs3 hen
      have HR3 := Lib.hid hr3
      obtain ⟨s, hs, hmx⟩ := HK.out.step HO.out hx
      have HK3 := Lib.hid hs
      have HC := Lib.hid (fun W => smax_any (wpl B t) x (wpl_u32 B t) (HU.out x hx) W)
      rw [hmx] at HC
      have HB3 := Lib.hid (HB.out.grown hg3 HB.out.size (fun q e => by injection e with e; have := HRE.out; omega))
      have HLT := Lib.hid hlt
      have HMR := Lib.hid HR.out.left_eq
      clear hr3 hg3 hx hp hlt hs hmx
      generalize wpl B t = y at *
      go_wp2_with fail
      refine (HC.out _).mono ?_; rintro e w4 ⟨rfl, rfl⟩
      go_wp2_with fail
      go_roundw
      case rel => exact ⟨_, _, s, rfl, HK3.out, HR3.out, HB3.out⟩
      case measure => rw [HR3.out.left_eq, HMR.out]; exact HLT.out

theorem wn_missing_nil (w : World) :
    Calls Try.prog 16 #[.pointer none] w fun e w' => e = .returned (.slice none 0 0) ∧ w = w' := by
  go_enter Try.func16, Try.ntmps16
  go_wp2_with fail
  go_ret
  exact ⟨rfl, rfl⟩
set_option maxRecDepth 100000 in
set_option maxHeartbeats 1600000 in
theorem wn_missing_any {b m n : Nat} {B : Int} {L : List Int} {w : World} (h : Wn w b m B n L) :
    Calls Try.prog 16 #[.pointer (some ⟨b, 0, none⟩)] w (GivesU w (misL B L (topN B L n))) := by
  have HW := Lib.hid h
  have HL := Lib.hid (wn_last_any h)
  have HZ := Lib.hid (wpl_zero h.ok.base)
  have HT : Hid (topN B L n < 64) := Lib.hid (by have := h.ok.top; have := h.ok.high; omega)
  have HBM : Hid (b < w.heap.size ∧ m < w.heap.size) := Lib.hid ⟨h.1.lt, h.2.1.lt⟩
  clear h
  generalize htop : topN B L n = top at *
  clear htop
  go_enter Try.func16, Try.ntmps16
  go_wp2_with fail
  refine HL.out.mono ?_; rintro e w1 ⟨rfl, g1⟩
  have HW1 := Lib.hid (HW.out.below g1)
  have HB1 := Lib.hid g1
  have hc0 := HW1.out.1.cell 0 rfl
  clear g1 HW HL
  go_wp2_with fail
  clear hc0
  go_loopw [3, 5] (fun v x wr => ∃ k : Nat, k ≤ top ∧ x = .int .u32 (wpl B k) ∧ wr.ownsRow w.heap.size 22 1 v (misL B L k).length (ucells (misL B L k)) ∧ Wn wr b m B n L ∧ Below w.heap.size w wr) (fun _ x _ => top - (off B (intOf x)).toNat)
  case atStart => exact ⟨0, by omega, by rw [HZ.out], World.ownsRow_nil _ _ _ _, HW1.out, HB1.out⟩
  case round =>
    obtain ⟨k, hk, rfl, hown, hwn, hbel⟩ := hrel
    have HN := Lib.hid hwn
    have HB := Lib.hid hbel
    have HO := Lib.hid hown
    have HX := Lib.hid (wpl_next B k)
    have ht64 := HT.out
    clear hown hwn hbel HW1 HB1
    by_cases hlt : k < top
    · have hne : (wpl B k == wpl B top) = false := by
        have := fun e => wpl_inj (B := B) (i := k) (j := top) (by omega) (by omega) e
        simp only [beq_eq_false_iff_ne, ne_eq]
        intro e
        have := this e
        omega
      have hne2 : (wpl B k != wpl B top) = true := by unfold bne; rw [hne]; rfl
      have HH := Lib.hid (wn_has HN.out (wpl_u32 B k))
      have HM0 : Hid (64 < 4294967296 ∧ off B (wpl B k) = k ∧ off B (wpl B (k + 1)) = (k + 1 : Nat)) := Lib.hid ⟨by omega, off_wpl (by omega), off_wpl (by omega)⟩
      by_cases hin : wpl B k ∈ L
      · have HI := Lib.hid (misL_in hin)
        rw [decide_eq_true hin] at HH
        clear hin
        have HXK := Lib.hid (show wpl B k = wpl B k from rfl)
        generalize hy : wpl B k = y at HH HX hne hne2 HM0 HXK ⊢
        generalize hz : wpl B top = z at hne hne2 ⊢
        clear hy HXK
        go_wp2_with fail
        refine HH.out.mono ?_; rintro e w2 ⟨rfl, g2⟩
        have HN2 := Lib.hid (HN.out.below g2)
        have HB2 := Lib.hid (HB.out.trans (g2.mono HB.out.size))
        have HO2 := Lib.hid (HO.out.kept (grown_below g2 none) (Classical.em _))
        clear g2 HN HB HO HH
        go_wp2_with fail
        go_roundw
        case rel => exact ⟨k + 1, by omega, by rw [HX.out], by rw [HI.out]; exact HO2.out, HN2.out, HB2.out⟩
        case measure => simp only [intOf]; rw [HX.out, HM0.out.2.1, HM0.out.2.2]; omega
      · have HI := Lib.hid (misL_out hin)
        rw [decide_eq_false hin] at HH
        have HQ : Hid ((misL B L k).length ≤ 64) := Lib.hid (by have := misL_len B L k; omega)
        clear hin
        have HXK := Lib.hid (show wpl B k = wpl B k from rfl)
        generalize hp : misL B L k = p at *
        generalize hy : wpl B k = y at HH HX hne hne2 HM0 HI HXK ⊢
        generalize hz : wpl B top = z at hne hne2 ⊢
        clear hy HXK hp
        go_wp2_with fail
        refine HH.out.mono ?_; rintro e w2 ⟨rfl, g2⟩
        have HN2 := Lib.hid (HN.out.below g2)
        have HB2 := Lib.hid (HB.out.trans (g2.mono HB.out.size))
        have HO2 := Lib.hid ((HO.out.kept (grown_below g2 none) (Classical.em _)).alloc (.cells #[.int .u32 y] 22))
        have hb3 := (Below.refl w2.heap.size w2).alloc (Nat.le_refl _) (.cells #[.int .u32 y] 22)
        have HN3 := Lib.hid (HN2.out.below hb3)
        have HB3 := Lib.hid (HB2.out.trans (hb3.mono HB2.out.size))
        have hs3 : w.heap.size ≤ (w2.alloc (.cells #[.int .u32 y] 22)).heap.size := HB3.out.size
        have HRB : Hid (∀ q, u3.ownBlock = some q → w.heap.size ≤ q) := Lib.hid fun q e => (HO.out.lt q e).1
        have hq := HQ.out
        have HC := Lib.hid (uw_one w2 y)
        clear g2 HN HB HO HH hb3 HN2 HB2
        go_wp2_with (at_builtin; refine uw_append rfl _ _ rfl _ _ _ p rfl HO2.out _ 1 1 [y] rfl HC.out (fun e => nomatch e) (by omega) hs3 ?_; intro v4 w4 hown4 hg4; have HO4 := Lib.hid hown4; have HG4 := Lib.hid hg4; clear hown4 hg4)
        go_roundw
        case rel =>
          refine ⟨k + 1, by omega, by rw [HX.out], ?_, ?_, HB3.out.grown HG4.out HB3.out.size HRB.out⟩
          · rw [HI.out, List.length_append]; exact HO4.out
          · exact HN3.out.kept HG4.out (fun e => by have := HRB.out _ e; have := HBM.out; omega) (fun e => by have := HRB.out _ e; have := HBM.out; omega)
        case measure => simp only [intOf]; rw [HX.out, HM0.out.2.1, HM0.out.2.2]; omega
    · obtain rfl : k = top := by omega
      go_wp2_with fail
      go_ret
      obtain ⟨A, c, e1, e2, e3, e4⟩ := uw_of HO.out
      rw [e1]
      exact ⟨A, c, rfl, e2, e3, e4, HB.out⟩
end Go.Proofs.Ytenegeajkldfbaa

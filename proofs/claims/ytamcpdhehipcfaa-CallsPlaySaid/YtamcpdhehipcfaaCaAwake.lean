/- Proved: the laws' example on calls. Conditions: those that the theorems name. -/
import Derived.Test.YtamcpdhehipcfaaCaLaw
namespace Go.Proofs.Ytamcpdhehipcfaa
open Go.ChangeShapes Go.WideShapes Go.ChangeAt Go.RowKit

set_option maxRecDepth 100000 in
set_option maxHeartbeats 3200000 in
theorem ca_awake (w : World) :
    Calls Try.prog 5 #[] w fun e w' => e = .returned (.bool true) ∧ Below w.heap.size w w' := by
  have HN := Lib.hid (cx_new w w (Below.refl _ _))
  go_enter Try.func5, Try.ntmps5
  go_wp2_with fail
  refine HN.out.mono ?_; rintro e w1 ⟨rfl, r1⟩
  have R1 := Lib.hid r1
  have HX1 := Lib.hid (At.new w1 tW (wtC wt0))
  clear r1 HN
  generalize w.heap.size + 1 = b at *
  go_upto_region 5 with (refine wpw_store rfl _ _ rfl rfl wq1 rfl HX1.out rfl ?_; intro w2 ha2 hg2 _; have HA2 := Lib.hid ha2; have R2 := Lib.hid (cx_fill R1.out hg2).1; clear ha2 hg2)
  have QA : Hid (At w2.drew w1.heap.size tW (wtC wq1)) := Lib.hid (HA2.out.kept (grown_drew w2 none) (by simp))
  have QR : Hid (CX w w2.drew b []) := Lib.hid (R2.out.below (below_grown (grown_drew w2 none) (Nat.le_refl w2.heap.size) (by simp)))
  clear HX1 R1 HA2 R2
  generalize w1.heap.size = b2 at *
  refine wp_region_held_drew (S := fun W => At W b2 tW (wtC wq1)) (by kernel_rfl) QA.out (fun hHeld => ?_)
  refine wpAnyH_take (i := 0) (v := .pointer (some ⟨b, 0, none⟩)) (by simp only [List.getElem?_toArray, List.getElem?_cons_zero]; rfl) (by kernel_rfl) (by kernel_rfl) (by kernel_rfl) (by exact fun _ _ _ h => h) (Or.inl ⟨by rfl, fun V hV => by go_simp⟩) hHeld ?_
  simp only [Act.put, List.setIfInBounds_toArray, List.set_cons_zero, List.set_cons_succ]
  refine wpAnyH_take (i := 1) (v := wtV wq1) (by simp only [List.getElem?_toArray, List.getElem?_cons_zero, List.getElem?_cons_succ]; rfl) (by kernel_rfl) (by kernel_rfl) (by kernel_rfl) (by exact fun _ _ _ h => h) (yieldsIf_load_mid (by rfl) tW _ (by rfl) b2 0 (by rfl) (wtC wq1) _ (fun W h => h.range) Try.underlying30 rfl tW_size) hHeld ?_
  simp only [Act.put, List.setIfInBounds_toArray, List.set_cons_zero, List.set_cons_succ]
  refine wpAnyH_take (i := 3) (v := .pointer (some ⟨b, 0, none⟩)) (by simp only [List.getElem?_toArray, List.getElem?_cons_zero, List.getElem?_cons_succ]; rfl) (by kernel_rfl) (by kernel_rfl) (by kernel_rfl) (by exact fun _ _ _ h => h) (Or.inl ⟨by rfl, fun V hV => by go_simp⟩) hHeld ?_
  simp only [Act.put, List.setIfInBounds_toArray, List.set_cons_zero, List.set_cons_succ]
  refine wpAnyH_take (i := 4) (v := wtV wq1) (by simp only [List.getElem?_toArray, List.getElem?_cons_zero, List.getElem?_cons_succ]; rfl) (by kernel_rfl) (by kernel_rfl) (by kernel_rfl) (by exact fun _ _ _ h => h) (yieldsIf_load_mid (by rfl) tW _ (by rfl) b2 0 (by rfl) (wtC wq1) _ (fun W h => h.range) Try.underlying30 rfl tW_size) hHeld ?_
  simp only [Act.put, List.setIfInBounds_toArray, List.set_cons_zero, List.set_cons_succ]
  refine wpAnyH_ready (rs := [2]) (by kernel_rfl) (by simp) ?_
  refine AllReadyH.cons (by simp only [List.getElem?_toArray, List.getElem?_cons_zero, List.getElem?_cons_succ]; rfl) (fun K hK => ?_) AllReadyH.nil
  go_simp
  have h3 := cx_ask QR.out (by decide) wq1 (pk_small (by decide) (by decide) (by decide) (by decide))
  rw [show askE [] wq1 = 0 by decide +kernel, show askM [] wq1 = [wq1] by decide +kernel] at h3
  refine h3.mono ?_; rintro e w3 ⟨rfl, r3, k3⟩
  have R3 := Lib.hid r3
  have HA3 := Lib.hid (k3.box QA.out)
  clear r3 k3 h3 QA QR hHeld
  go_wp2_with fail
  refine hK.out _ _ HA3.out (fun hHeld => ?_)
  clear hK K
  try simp only [Act.put, List.setIfInBounds_toArray, List.set_cons_zero, List.set_cons_succ]
  refine wpAnyH_ready (rs := [5]) (by kernel_rfl) (by simp) ?_
  refine AllReadyH.cons (by simp only [List.getElem?_toArray, List.getElem?_cons_zero, List.getElem?_cons_succ]; rfl) (fun K hK => ?_) AllReadyH.nil
  go_simp
  have h4 := cx_ask R3.out (by decide) wq1 (pk_small (by decide) (by decide) (by decide) (by decide))
  rw [show askE [wq1] wq1 = 18 by decide +kernel, show askM [wq1] wq1 = [wq1] by decide +kernel] at h4
  refine h4.mono ?_; rintro e w4 ⟨rfl, r4, k4⟩
  have R4 := Lib.hid r4
  have HA4 := Lib.hid (k4.box HA3.out)
  clear r4 k4 h4 R3 HA3 hHeld
  go_wp2_with fail
  refine hK.out _ _ HA4.out (fun hHeld => ?_)
  clear hK K
  try simp only [Act.put, List.setIfInBounds_toArray, List.set_cons_zero, List.set_cons_succ]
  refine wpAnyH_take (i := 6) (v := .int .i64 0) (by simp only [List.getElem?_toArray, List.getElem?_cons_zero, List.getElem?_cons_succ]; rfl) (by kernel_rfl) (by kernel_rfl) (by kernel_rfl) (by exact fun _ _ _ h => h) (Or.inl ⟨by rfl, fun V hV => by go_simp⟩) hHeld ?_
  simp only [Act.put, List.setIfInBounds_toArray, List.set_cons_zero, List.set_cons_succ]
  refine wpAnyH_take (i := 7) (v := .int .i64 18) (by simp only [List.getElem?_toArray, List.getElem?_cons_zero, List.getElem?_cons_succ]; rfl) (by kernel_rfl) (by kernel_rfl) (by kernel_rfl) (by exact fun _ _ _ h => h) (Or.inl ⟨by rfl, fun V hV => by go_simp⟩) hHeld ?_
  simp only [Act.put, List.setIfInBounds_toArray, List.set_cons_zero, List.set_cons_succ]
  refine wpAnyH_done (by kernel_rfl) ?_ _
  clear hHeld
  go_wp2_with fail
  have h5 := cx_ask R4.out (by decide) wq2 (pk_small (by decide) (by decide) (by decide) (by decide))
  rw [show askE [wq1] wq2 = 0 by decide +kernel, show askM [wq1] wq2 = [wq2, wq1] by decide +kernel] at h5
  refine h5.mono ?_; rintro e w5 ⟨rfl, r5, k5⟩
  have R5 := Lib.hid r5
  have HA5 := Lib.hid (k5.box HA4.out)
  clear r5 k5 h5 R4 HA4
  go_wp2_with fail
  have h6 := cx_ask R5.out (by decide) wq3 (pk_small (by decide) (by decide) (by decide) (by decide))
  rw [show askE [wq2, wq1] wq3 = 1 by decide +kernel, show askM [wq2, wq1] wq3 = [wq2, wq1] by decide +kernel] at h6
  refine h6.mono ?_; rintro e w6 ⟨rfl, r6, k6⟩
  have R6 := Lib.hid r6
  have HA6 := Lib.hid (k6.box HA5.out)
  clear r6 k6 h6 R5 HA5
  go_wp2_with fail
  refine (cx_all R6.out (by decide)).mono ?_; rintro e w7 ⟨AL, cL, rfl, t7, r7, k7⟩
  have R7 := Lib.hid r7
  have HA7 := Lib.hid (k7.box HA6.out)
  have T7 := Lib.hid t7
  clear r7 k7 t7 R6 HA6
  go_wp2_with fail
  have h8 := cx_get R7.out (k := (2, 3)) (pk_small (by decide) (by decide) (by decide) (by decide))
  rw [show atW [wq2, wq1] (2, 3) = wq1 by decide +kernel, show wasW [wq2, wq1] (2, 3) = true by decide +kernel] at h8
  refine h8.mono ?_; rintro e w8 ⟨rfl, r8, k8⟩
  have R8 := Lib.hid r8
  have HA8 := Lib.hid (k8.box HA7.out)
  have T8 := Lib.hid (k8.row T7.out)
  have HX8 := Lib.hid (At.new w8 tW (wtC wt0))
  clear r8 k8 h8 R7 HA7 T7
  go_upto_region 10 with (refine wpw_store rfl _ _ rfl rfl wq1 rfl HX8.out rfl ?_; intro w9 ha9 hg9 _; have HB9 := Lib.hid ha9; have R9 := Lib.hid (cx_fill R8.out hg9).1; have HA9 := Lib.hid ((cx_fill R8.out hg9).2.box HA8.out); have T9 := Lib.hid ((cx_fill R8.out hg9).2.row T8.out); clear ha9 hg9)
  generalize w8.heap.size = b8 at *
  clear R8 HA8 T8 HX8
  go_wp2_with fail
  have h10 := cx_take R9.out (k := (2, 3)) (pk_small (by decide) (by decide) (by decide) (by decide))
  rw [show atW [wq2, wq1] (2, 3) = wq1 by decide +kernel, show wasW [wq2, wq1] (2, 3) = true by decide +kernel, show dropW [wq2, wq1] (2, 3) = [wq2] by decide +kernel] at h10
  refine h10.mono ?_; rintro e w10 ⟨rfl, r10, k10⟩
  have R10 := Lib.hid r10
  have HA10 := Lib.hid (k10.box HA9.out)
  have HB10 := Lib.hid (k10.box HB9.out)
  have T10 := Lib.hid (k10.row T9.out)
  have HX10 := Lib.hid (At.new w10 tW (wtC wt0))
  clear r10 k10 h10 R9 HA9 HB9 T9
  go_upto_region 11 with (refine wpw_store rfl _ _ rfl rfl wq1 rfl HX10.out rfl ?_; intro w11 ha11 hg11 _; have HC11 := Lib.hid ha11; have R11 := Lib.hid (cx_fill R10.out hg11).1; have HA11 := Lib.hid ((cx_fill R10.out hg11).2.box HA10.out); have HB11 := Lib.hid ((cx_fill R10.out hg11).2.box HB10.out); have T11 := Lib.hid ((cx_fill R10.out hg11).2.row T10.out); clear ha11 hg11)
  generalize w10.heap.size = b10 at *
  clear R10 HA10 HB10 T10 HX10
  go_wp2_with fail
  have h12 := cx_take R11.out (k := (2, 3)) (pk_small (by decide) (by decide) (by decide) (by decide))
  rw [show atW [wq2] (2, 3) = wt0 by decide +kernel, show wasW [wq2] (2, 3) = false by decide +kernel, show dropW [wq2] (2, 3) = [wq2] by decide +kernel] at h12
  refine h12.mono ?_; rintro e w12 ⟨rfl, r12, k12⟩
  have R12 := Lib.hid r12
  have HA12 := Lib.hid (k12.box HA11.out)
  have HB12 := Lib.hid (k12.box HB11.out)
  have HC12 := Lib.hid (k12.box HC11.out)
  have T12 := Lib.hid (k12.row T11.out)
  have HX12 := Lib.hid (At.new w12 tW (wtC wt0))
  clear r12 k12 h12 R11 HA11 HB11 HC11 T11
  go_upto_region 12 with (refine wpw_store rfl _ _ rfl rfl wt0 rfl HX12.out rfl ?_; intro w13 ha13 hg13 _; have R13 := Lib.hid (cx_fill R12.out hg13).1; have HA13 := Lib.hid ((cx_fill R12.out hg13).2.box HA12.out); have HB13 := Lib.hid ((cx_fill R12.out hg13).2.box HB12.out); have HC13 := Lib.hid ((cx_fill R12.out hg13).2.box HC12.out); have T13 := Lib.hid ((cx_fill R12.out hg13).2.row T12.out); clear ha13 hg13)
  clear R12 HA12 HB12 HC12 T12 HX12
  go_wp2_with fail
  refine (cx_drop R13.out (by decide) 2 (by decide) (by decide)).mono ?_; rintro e w14 ⟨AD, cD, rfl, _, r14, k14⟩
  rw [show (goneW [wq2] 2 0).length = 1 by decide +kernel]
  rw [show leftW [wq2] 2 0 = [] by decide +kernel] at r14
  have R14 := Lib.hid r14
  have hA := k14.box HA13.out
  have hB := k14.box HB13.out
  have hC := k14.box HC13.out
  have T14 := k14.row T13.out
  obtain ⟨ad, rfl, _, hw0⟩ := T14.at_ (k := 0) (by decide)
  rw [Nat.zero_mul, Addr.add_zero' ad, show wt_ [wq2, wq1] 0 = wq2 from rfl] at hw0
  have i0 : w14.cell? ad = some (.int .i64 2) := hw0.1
  have x0 : w14.cell? ⟨b2, 0, none⟩ = some (.int .i64 1) := hA.cell 0 rfl
  have x1 : w14.cell? ⟨b2, 1, none⟩ = some (.int .i64 3) := hA.cell 1 rfl
  have x2 : w14.cell? ⟨b2, 2, none⟩ = some (.int .i64 2) := hA.cell 2 rfl
  have x3 : w14.cell? ⟨b2, 3, none⟩ = some (.int .i64 5) := hA.cell 3 rfl
  have x4 : w14.cell? ⟨b2, 4, none⟩ = some (.string ByteArray.empty) := hA.cell 4 rfl
  have y0 : w14.cell? ⟨b8, 0, none⟩ = some (.int .i64 1) := hB.cell 0 rfl
  have y1 : w14.cell? ⟨b8, 1, none⟩ = some (.int .i64 3) := hB.cell 1 rfl
  have y2 : w14.cell? ⟨b8, 2, none⟩ = some (.int .i64 2) := hB.cell 2 rfl
  have y3 : w14.cell? ⟨b8, 3, none⟩ = some (.int .i64 5) := hB.cell 3 rfl
  have y4 : w14.cell? ⟨b8, 4, none⟩ = some (.string ByteArray.empty) := hB.cell 4 rfl
  have z0 : w14.cell? ⟨b10, 0, none⟩ = some (.int .i64 1) := hC.cell 0 rfl
  have z1 : w14.cell? ⟨b10, 1, none⟩ = some (.int .i64 3) := hC.cell 1 rfl
  have z2 : w14.cell? ⟨b10, 2, none⟩ = some (.int .i64 2) := hC.cell 2 rfl
  have z3 : w14.cell? ⟨b10, 3, none⟩ = some (.int .i64 5) := hC.cell 3 rfl
  have z4 : w14.cell? ⟨b10, 4, none⟩ = some (.string ByteArray.empty) := hC.cell 4 rfl
  have he : ∀ W, (binOp .eql tW (.agg #[.int .i64 1, .int .i64 3, .int .i64 2, .int .i64 5, .string ByteArray.empty]) (.agg #[.int .i64 1, .int .i64 3, .int .i64 2, .int .i64 5, .string ByteArray.empty])).run Try.prog W = .ok (.bool true) W := fun W => by
    have := eq_wt wq1 wq1 W
    rw [decide_eq_true rfl] at this
    exact this
  have HLn := Lib.hid (cx_len R14.out)
  clear r14 k14 hA hB hC T14 hw0 R13 HA13 HB13 HC13 T13
  go_wp2_with fail
  refine HLn.out.mono ?_; rintro e w15 ⟨rfl, rfl⟩
  go_wp2_with fail
  go_ret
  exact ⟨rfl, R14.out.bel⟩
end Go.Proofs.Ytamcpdhehipcfaa

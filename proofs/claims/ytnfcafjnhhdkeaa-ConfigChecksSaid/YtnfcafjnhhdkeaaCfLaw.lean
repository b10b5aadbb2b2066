/- Proved: chapter 26's example, and the law on settings. Conditions: those that the theorems name. Conditions: those that the theorems name. -/
import Derived.Test.YtnfcafjnhhdkeaaCfRef
namespace Go.Proofs.Ytnfcafjnhhdkeaa
open Go.ChangeShapes Go.WideShapes Go.ChangeAt Go.RowKit

theorem cfchk_as (a0 a1 a2 a3 a4 a5 a6 a7 a8 a9 a10 z : Int) (w : World) (h : Cf.chk ⟨a0, a1, a2, a3, a4, a5, a6, a7, a8, a9, a10⟩ = z) : Calls Try.prog 4 #[.agg #[.int .i64 a0, .int .i64 a1, .int .i64 a2, .int .i64 a3, .int .i64 a4, .int .i64 a5, .int .i64 a6, .int .i64 a7, .int .i64 a8, .int .i64 a9, .int .i64 a10]] w (GivesI w z) := h ▸ cf_check ⟨a0, a1, a2, a3, a4, a5, a6, a7, a8, a9, a10⟩ w
theorem cfblk_as (a0 a1 a2 a3 a4 a5 a6 a7 a8 a9 a10 z : Int) (w : World) (h : Cf.blk ⟨a0, a1, a2, a3, a4, a5, a6, a7, a8, a9, a10⟩ = z) : Calls Try.prog 6 #[.agg #[.int .i64 a0, .int .i64 a1, .int .i64 a2, .int .i64 a3, .int .i64 a4, .int .i64 a5, .int .i64 a6, .int .i64 a7, .int .i64 a8, .int .i64 a9, .int .i64 a10]] w (GivesI w z) := h ▸ cf_block ⟨a0, a1, a2, a3, a4, a5, a6, a7, a8, a9, a10⟩ w
theorem cfplain_as (w : World) : Calls Try.prog 8 #[] w fun e w' => e = .returned (.agg #[.int .i64 4, .int .i64 2, .int .i64 16, .int .i64 4, .int .i64 256, .int .i64 256, .int .i64 64, .int .i64 4096, .int .i64 16, .int .i64 2, .int .i64 8]) ∧ Below w.heap.size w w' := cf_plain w
theorem cfrplain_as (w : World) : Calls Try.prog 9 #[] w fun e w' => e = .returned (.agg #[.int .i64 4, .int .i64 2, .int .i64 16, .int .i64 4, .int .i64 256, .int .i64 256, .int .i64 64, .int .i64 4096, .int .i64 16, .int .i64 2, .int .i64 8]) ∧ Below w.heap.size w w' := cf_rplain w
set_option maxRecDepth 100000 in
set_option maxHeartbeats 3200000 in
theorem cf_awake (w : World) : Calls Try.prog 10 #[] w fun e w' => e = .returned (.bool true) ∧ Below w.heap.size w w' := by
  go_enter Try.func10, Try.ntmps10
  go_wp2_with fail
  refine (cfplain_as _).mono ?_; rintro e w1 ⟨rfl, g⟩
  have B1 : Hid (Below w.heap.size w ((w1.alloc (.cells #[.int .i64 4, .int .i64 2, .int .i64 16, .int .i64 4, .int .i64 256, .int .i64 256, .int .i64 64, .int .i64 4096, .int .i64 16, .int .i64 2, .int .i64 8] 23)).alloc (.cells #[.int .i64 4, .int .i64 2, .int .i64 16, .int .i64 4, .int .i64 63, .int .i64 256, .int .i64 64, .int .i64 4096, .int .i64 16, .int .i64 2, .int .i64 8] 23))) := Lib.hid ((g.alloc g.size _).alloc (by have := g.size; simp; omega) _)
  have X0 : Hid (At ((w1.alloc (.cells #[.int .i64 4, .int .i64 2, .int .i64 16, .int .i64 4, .int .i64 256, .int .i64 256, .int .i64 64, .int .i64 4096, .int .i64 16, .int .i64 2, .int .i64 8] 23)).alloc (.cells #[.int .i64 4, .int .i64 2, .int .i64 16, .int .i64 4, .int .i64 63, .int .i64 256, .int .i64 64, .int .i64 4096, .int .i64 16, .int .i64 2, .int .i64 8] 23)) w1.heap.size 23 [.int .i64 4, .int .i64 2, .int .i64 16, .int .i64 4, .int .i64 256, .int .i64 256, .int .i64 64, .int .i64 4096, .int .i64 16, .int .i64 2, .int .i64 8]) := Lib.hid ((At.new w1 23 [.int .i64 4, .int .i64 2, .int .i64 16, .int .i64 4, .int .i64 256, .int .i64 256, .int .i64 64, .int .i64 4096, .int .i64 16, .int .i64 2, .int .i64 8]).alloc _)
  have X1 : Hid (At ((w1.alloc (.cells #[.int .i64 4, .int .i64 2, .int .i64 16, .int .i64 4, .int .i64 256, .int .i64 256, .int .i64 64, .int .i64 4096, .int .i64 16, .int .i64 2, .int .i64 8] 23)).alloc (.cells #[.int .i64 4, .int .i64 2, .int .i64 16, .int .i64 4, .int .i64 63, .int .i64 256, .int .i64 64, .int .i64 4096, .int .i64 16, .int .i64 2, .int .i64 8] 23)) (w1.heap.size + 1) 23 [.int .i64 4, .int .i64 2, .int .i64 16, .int .i64 4, .int .i64 63, .int .i64 256, .int .i64 64, .int .i64 4096, .int .i64 16, .int .i64 2, .int .i64 8]) := Lib.hid (by
    have h := At.new (w1.alloc (.cells #[.int .i64 4, .int .i64 2, .int .i64 16, .int .i64 4, .int .i64 256, .int .i64 256, .int .i64 64, .int .i64 4096, .int .i64 16, .int .i64 2, .int .i64 8] 23)) 23 [.int .i64 4, .int .i64 2, .int .i64 16, .int .i64 4, .int .i64 63, .int .i64 256, .int .i64 64, .int .i64 4096, .int .i64 16, .int .i64 2, .int .i64 8]
    simpa using h)
  clear g
  go_wp2_with fail
  generalize (w1.alloc (.cells #[.int .i64 4, .int .i64 2, .int .i64 16, .int .i64 4, .int .i64 256, .int .i64 256, .int .i64 64, .int .i64 4096, .int .i64 16, .int .i64 2, .int .i64 8] 23)).alloc (.cells #[.int .i64 4, .int .i64 2, .int .i64 16, .int .i64 4, .int .i64 63, .int .i64 256, .int .i64 64, .int .i64 4096, .int .i64 16, .int .i64 2, .int .i64 8] 23) = W at *
  refine (cfblk_as 4 2 16 4 256 256 64 4096 16 2 8 64 _ (by kernel_rfl)).mono ?_; rintro e w2 ⟨rfl, g⟩
  have N1 := Lib.hid (B1.out.trans (g.mono B1.out.size))
  have MX0 := Lib.hid (X0.out.below g X0.out.lt)
  have MX1 := Lib.hid (X1.out.below g X1.out.lt)
  clear g B1 X0 X1
  have B1 := N1
  clear N1
  have X0 := MX0
  clear MX0
  have X1 := MX1
  clear MX1
  obtain ⟨k0, k1, k2, k3, k4, k5, k6, k7, k8, k9, k10⟩ : w2.cell? ⟨w1.heap.size, 0, none⟩ = some (.int .i64 4) ∧ w2.cell? ⟨w1.heap.size, 1, none⟩ = some (.int .i64 2) ∧ w2.cell? ⟨w1.heap.size, 2, none⟩ = some (.int .i64 16) ∧ w2.cell? ⟨w1.heap.size, 3, none⟩ = some (.int .i64 4) ∧ w2.cell? ⟨w1.heap.size, 4, none⟩ = some (.int .i64 256) ∧ w2.cell? ⟨w1.heap.size, 5, none⟩ = some (.int .i64 256) ∧ w2.cell? ⟨w1.heap.size, 6, none⟩ = some (.int .i64 64) ∧ w2.cell? ⟨w1.heap.size, 7, none⟩ = some (.int .i64 4096) ∧ w2.cell? ⟨w1.heap.size, 8, none⟩ = some (.int .i64 16) ∧ w2.cell? ⟨w1.heap.size, 9, none⟩ = some (.int .i64 2) ∧ w2.cell? ⟨w1.heap.size, 10, none⟩ = some (.int .i64 8) := by have d := X0.out; exact ⟨d.cell 0 rfl, d.cell 1 rfl, d.cell 2 rfl, d.cell 3 rfl, d.cell 4 rfl, d.cell 5 rfl, d.cell 6 rfl, d.cell 7 rfl, d.cell 8 rfl, d.cell 9 rfl, d.cell 10 rfl⟩
  go_wp2_with fail
  refine (cfchk_as 4 2 16 4 256 256 64 4096 16 2 8 0 _ (by kernel_rfl)).mono ?_; rintro e w3 ⟨rfl, g⟩
  have N1 := Lib.hid (B1.out.trans (g.mono B1.out.size))
  have MX0 := Lib.hid (X0.out.below g X0.out.lt)
  have MX1 := Lib.hid (X1.out.below g X1.out.lt)
  clear g B1 X0 X1 k0 k1 k2 k3 k4 k5 k6 k7 k8 k9 k10
  have B1 := N1
  clear N1
  have X0 := MX0
  clear MX0
  have X1 := MX1
  clear MX1
  obtain ⟨k0, k1, k2, k3, k4, k5, k6, k7, k8, k9, k10⟩ : w3.cell? ⟨w1.heap.size + 1, 0, none⟩ = some (.int .i64 4) ∧ w3.cell? ⟨w1.heap.size + 1, 1, none⟩ = some (.int .i64 2) ∧ w3.cell? ⟨w1.heap.size + 1, 2, none⟩ = some (.int .i64 16) ∧ w3.cell? ⟨w1.heap.size + 1, 3, none⟩ = some (.int .i64 4) ∧ w3.cell? ⟨w1.heap.size + 1, 4, none⟩ = some (.int .i64 63) ∧ w3.cell? ⟨w1.heap.size + 1, 5, none⟩ = some (.int .i64 256) ∧ w3.cell? ⟨w1.heap.size + 1, 6, none⟩ = some (.int .i64 64) ∧ w3.cell? ⟨w1.heap.size + 1, 7, none⟩ = some (.int .i64 4096) ∧ w3.cell? ⟨w1.heap.size + 1, 8, none⟩ = some (.int .i64 16) ∧ w3.cell? ⟨w1.heap.size + 1, 9, none⟩ = some (.int .i64 2) ∧ w3.cell? ⟨w1.heap.size + 1, 10, none⟩ = some (.int .i64 8) := by have d := X1.out; exact ⟨d.cell 0 rfl, d.cell 1 rfl, d.cell 2 rfl, d.cell 3 rfl, d.cell 4 rfl, d.cell 5 rfl, d.cell 6 rfl, d.cell 7 rfl, d.cell 8 rfl, d.cell 9 rfl, d.cell 10 rfl⟩
  go_wp2_with fail
  refine (cfchk_as 4 2 16 4 63 256 64 4096 16 2 8 2 _ (by kernel_rfl)).mono ?_; rintro e w4 ⟨rfl, g⟩
  have N1 := Lib.hid (B1.out.trans (g.mono B1.out.size))
  have MX0 := Lib.hid (X0.out.below g X0.out.lt)
  have MX1 := Lib.hid (X1.out.below g X1.out.lt)
  clear g B1 X0 X1 k0 k1 k2 k3 k4 k5 k6 k7 k8 k9 k10
  have B1 := N1
  clear N1
  have X0 := MX0
  clear MX0
  have X1 := MX1
  clear MX1
  go_wp2_with fail
  refine (cfchk_as 0 0 0 0 0 0 0 0 0 0 0 2 _ (by kernel_rfl)).mono ?_; rintro e w5 ⟨rfl, g⟩
  have N1 := Lib.hid (B1.out.trans (g.mono B1.out.size))
  have MX0 := Lib.hid (X0.out.below g X0.out.lt)
  have MX1 := Lib.hid (X1.out.below g X1.out.lt)
  clear g B1 X0 X1
  have B1 := N1
  clear N1
  have X0 := MX0
  clear MX0
  have X1 := MX1
  clear MX1
  go_wp2_with fail
  refine (cfblk_as 33 0 1 0 0 0 0 0 0 0 0 0 _ (by kernel_rfl)).mono ?_; rintro e w6 ⟨rfl, g⟩
  have N1 := Lib.hid (B1.out.trans (g.mono B1.out.size))
  have MX0 := Lib.hid (X0.out.below g X0.out.lt)
  have MX1 := Lib.hid (X1.out.below g X1.out.lt)
  clear g B1 X0 X1
  have B1 := N1
  clear N1
  have X0 := MX0
  clear MX0
  have X1 := MX1
  clear MX1
  go_wp2_with fail
  go_ret
  exact ⟨rfl, B1.out⟩
theorem plain_same (w : World) : (binOp .eql 23 (.agg #[.int .i64 4, .int .i64 2, .int .i64 16, .int .i64 4, .int .i64 256, .int .i64 256, .int .i64 64, .int .i64 4096, .int .i64 16, .int .i64 2, .int .i64 8]) (.agg #[.int .i64 4, .int .i64 2, .int .i64 16, .int .i64 4, .int .i64 256, .int .i64 256, .int .i64 64, .int .i64 4096, .int .i64 16, .int .i64 2, .int .i64 8])).run Try.prog w = .ok (.bool true) w := cf_eql plainC plainC w
set_option maxRecDepth 100000 in
set_option maxHeartbeats 3200000 in
theorem cf_walk (c : Cf) (w : World) (hc : c.In) : Calls Try.prog 3 #[c.val] w fun e w' => e = .returned (.bool true) ∧ Below w.heap.size w w' := by
  have H1 := Lib.hid (fun w => cf_check c w)
  have H2 := Lib.hid (fun w => cf_rcheck c hc w)
  have H3 := Lib.hid (fun w => cf_block c w)
  have H4 := Lib.hid (fun w => cf_rblock c w)
  have E := plain_same
  clear hc
  generalize c.chk = z at *
  generalize c.blk = n at *
  obtain ⟨a0, a1, a2, a3, a4, a5, a6, a7, a8, a9, a10⟩ := c
  unfold GivesI Cf.val at *
  dsimp only at *
  have X0 : Hid (At (w.alloc (.cells #[.int .i64 a0, .int .i64 a1, .int .i64 a2, .int .i64 a3, .int .i64 a4, .int .i64 a5, .int .i64 a6, .int .i64 a7, .int .i64 a8, .int .i64 a9, .int .i64 a10] 23)) w.heap.size 23 [.int .i64 a0, .int .i64 a1, .int .i64 a2, .int .i64 a3, .int .i64 a4, .int .i64 a5, .int .i64 a6, .int .i64 a7, .int .i64 a8, .int .i64 a9, .int .i64 a10]) := Lib.hid (At.new w 23 [.int .i64 a0, .int .i64 a1, .int .i64 a2, .int .i64 a3, .int .i64 a4, .int .i64 a5, .int .i64 a6, .int .i64 a7, .int .i64 a8, .int .i64 a9, .int .i64 a10])
  have XB : Hid (Below w.heap.size w (w.alloc (.cells #[.int .i64 a0, .int .i64 a1, .int .i64 a2, .int .i64 a3, .int .i64 a4, .int .i64 a5, .int .i64 a6, .int .i64 a7, .int .i64 a8, .int .i64 a9, .int .i64 a10] 23))) := Lib.hid ((Below.refl _ _).alloc (Nat.le_refl _) _)
  obtain ⟨V, HV⟩ : ∃ V, V = w.alloc (.cells #[.int .i64 a0, .int .i64 a1, .int .i64 a2, .int .i64 a3, .int .i64 a4, .int .i64 a5, .int .i64 a6, .int .i64 a7, .int .i64 a8, .int .i64 a9, .int .i64 a10] 23) := ⟨_, rfl⟩
  rw [← HV] at X0 XB
  go_enter Try.func3, Try.ntmps3
  go_upto_region 1 with fail
  rw [← HV]
  clear HV
  have KP : Hid (∀ W, Below V.heap.size V W → W.cell? ⟨w.heap.size, 0, none⟩ = some (.int .i64 a0) ∧ W.cell? ⟨w.heap.size, 1, none⟩ = some (.int .i64 a1) ∧ W.cell? ⟨w.heap.size, 2, none⟩ = some (.int .i64 a2) ∧ W.cell? ⟨w.heap.size, 3, none⟩ = some (.int .i64 a3) ∧ W.cell? ⟨w.heap.size, 4, none⟩ = some (.int .i64 a4) ∧ W.cell? ⟨w.heap.size, 5, none⟩ = some (.int .i64 a5) ∧ W.cell? ⟨w.heap.size, 6, none⟩ = some (.int .i64 a6) ∧ W.cell? ⟨w.heap.size, 7, none⟩ = some (.int .i64 a7) ∧ W.cell? ⟨w.heap.size, 8, none⟩ = some (.int .i64 a8) ∧ W.cell? ⟨w.heap.size, 9, none⟩ = some (.int .i64 a9) ∧ W.cell? ⟨w.heap.size, 10, none⟩ = some (.int .i64 a10)) := Lib.hid fun W h => by
    have d := X0.out.below h X0.out.lt
    exact ⟨d.cell 0 rfl, d.cell 1 rfl, d.cell 2 rfl, d.cell 3 rfl, d.cell 4 rfl, d.cell 5 rfl, d.cell 6 rfl, d.cell 7 rfl, d.cell 8 rfl, d.cell 9 rfl, d.cell 10 rfl⟩
  have QQ : Hid (Below V.heap.size V V.drew) := Lib.hid (Below.refl V.heap.size V).drew
  obtain ⟨k0, k1, k2, k3, k4, k5, k6, k7, k8, k9, k10⟩ := KP.out V.drew QQ.out
  go_region_held3 (fun W => W.cell? ⟨w.heap.size, 0, none⟩ = some (.int .i64 a0) ∧ W.cell? ⟨w.heap.size, 1, none⟩ = some (.int .i64 a1) ∧ W.cell? ⟨w.heap.size, 2, none⟩ = some (.int .i64 a2) ∧ W.cell? ⟨w.heap.size, 3, none⟩ = some (.int .i64 a3) ∧ W.cell? ⟨w.heap.size, 4, none⟩ = some (.int .i64 a4) ∧ W.cell? ⟨w.heap.size, 5, none⟩ = some (.int .i64 a5) ∧ W.cell? ⟨w.heap.size, 6, none⟩ = some (.int .i64 a6) ∧ W.cell? ⟨w.heap.size, 7, none⟩ = some (.int .i64 a7) ∧ W.cell? ⟨w.heap.size, 8, none⟩ = some (.int .i64 a8) ∧ W.cell? ⟨w.heap.size, 9, none⟩ = some (.int .i64 a9) ∧ W.cell? ⟨w.heap.size, 10, none⟩ = some (.int .i64 a10))
    (first | go_keep | exact KP.out _ QQ.out)
    (first
    | ((with_reducible refine (H1.out _).mono ?_); rintro e wq ⟨rfl, gq⟩; have QN := Lib.hid (QQ.out.trans (gq.mono QQ.out.size)); clear gq QQ; have QQ := QN; clear QN)
    | ((with_reducible refine (H2.out _).mono ?_); rintro e wq ⟨rfl, gq⟩; have QN := Lib.hid (QQ.out.trans (gq.mono QQ.out.size)); clear gq QQ; have QQ := QN; clear QN)
    | ((with_reducible refine (H3.out _).mono ?_); rintro e wq ⟨rfl, gq⟩; have QN := Lib.hid (QQ.out.trans (gq.mono QQ.out.size)); clear gq QQ; have QQ := QN; clear QN)
    | ((with_reducible refine (H4.out _).mono ?_); rintro e wq ⟨rfl, gq⟩; have QN := Lib.hid (QQ.out.trans (gq.mono QQ.out.size)); clear gq QQ; have QQ := QN; clear QN)
    | ((with_reducible refine (cfplain_as _).mono ?_); rintro e wq ⟨rfl, gq⟩; have QN := Lib.hid (QQ.out.trans (gq.mono QQ.out.size)); clear gq QQ; have QQ := QN; clear QN)
    | ((with_reducible refine (cfrplain_as _).mono ?_); rintro e wq ⟨rfl, gq⟩; have QN := Lib.hid (QQ.out.trans (gq.mono QQ.out.size)); clear gq QQ; have QQ := QN; clear QN)
    | ((with_reducible refine (cf_awake _).mono ?_); rintro e wq ⟨rfl, gq⟩; have QN := Lib.hid (QQ.out.trans (gq.mono QQ.out.size)); clear gq QQ; have QQ := QN; clear QN))
  go_wp2_with fail
  go_ret
  exact ⟨rfl, XB.out.trans (QQ.out.mono XB.out.size)⟩
end Go.Proofs.Ytnfcafjnhhdkeaa

/- Proved: lemmas of one statement's proof, merged by program: what each part proves stands ahead of it. Conditions: those that the lemmas name. -/
import Derived.Test.YtedecminaopgaaaM19

/- Proved: what the law's Small answers of settings. Conditions: those that the theorem names. -/
namespace Go.Proofs.Ytedecminaopgaaa
open Go.ChangeShapes Go.WideShapes Go.ChangeAt Go.RowKit

/-- are settings not too great? -/
def smB (c : Cf) : Bool := c.ok && (decide (c.k ≤ 6) && (decide (c.r ≤ 6) && (decide (c.s ≤ 20) && (decide (c.w ≤ 8) && (decide (c.b ≤ 2000) && decide (c.q ≤ 2000))))))
set_option maxRecDepth 100000 in
set_option maxHeartbeats 3200000 in
theorem sm_any (c : Cf) (hi : c.In) (w : World) : Calls Try.prog 5 #[c.val] w fun e w' => e = .returned (.bool (smB c)) ∧ Below w.heap.size w w' := by
  have HC := Lib.hid (fun W => cf_rcheck c hi W)
  unfold smB
  have hk : c.ok = true → c.chk = 0 := fun h => if_pos h
  have hk2 : c.ok = false → c.chk = 2 := fun h => if_neg (by rw [h]; decide)
  generalize c.ok = o at *
  generalize c.chk = z at *
  obtain ⟨a0, a1, a2, a3, a4, a5, a6, a7, a8, a9, a10⟩ := c
  unfold GivesCI Cf.val at *
  dsimp only at *
  clear hi
  have X0 := Lib.hid (At.new w 23 [.int .i64 a0, .int .i64 a1, .int .i64 a2, .int .i64 a3, .int .i64 a4, .int .i64 a5, .int .i64 a6, .int .i64 a7, .int .i64 a8, .int .i64 a9, .int .i64 a10])
  have XB : Hid (Below w.heap.size w (w.alloc (.cells #[.int .i64 a0, .int .i64 a1, .int .i64 a2, .int .i64 a3, .int .i64 a4, .int .i64 a5, .int .i64 a6, .int .i64 a7, .int .i64 a8, .int .i64 a9, .int .i64 a10] 23))) := Lib.hid ((Below.refl _ _).alloc (Nat.le_refl _) _)
  obtain ⟨V, HV⟩ : ∃ V, V = w.alloc (.cells #[.int .i64 a0, .int .i64 a1, .int .i64 a2, .int .i64 a3, .int .i64 a4, .int .i64 a5, .int .i64 a6, .int .i64 a7, .int .i64 a8, .int .i64 a9, .int .i64 a10] 23) := ⟨_, rfl⟩
  rw [← HV] at XB
  have X0 : Hid (At V w.heap.size 23 [.int .i64 a0, .int .i64 a1, .int .i64 a2, .int .i64 a3, .int .i64 a4, .int .i64 a5, .int .i64 a6, .int .i64 a7, .int .i64 a8, .int .i64 a9, .int .i64 a10]) := Lib.hid (by rw [HV]; exact X0.out)
  have k0 := X0.out.cell 0 rfl
  have k1 := X0.out.cell 1 rfl
  have k2 := X0.out.cell 2 rfl
  have k3 := X0.out.cell 3 rfl
  have k4 := X0.out.cell 4 rfl
  have k5 := X0.out.cell 5 rfl
  have k6 := X0.out.cell 6 rfl
  have k7 := X0.out.cell 7 rfl
  have k8 := X0.out.cell 8 rfl
  have k9 := X0.out.cell 9 rfl
  have k10 := X0.out.cell 10 rfl
  cases o
  · obtain rfl := hk2 rfl
    clear hk hk2
    go_enter Try.func5, Try.ntmps5
    go_upto_region 1 with fail
    rw [← HV]; clear HV
    go_wp2_with fail
    refine (HC.out _).mono ?_; rintro e w2 ⟨rfl, g2⟩
    have X2 := Lib.hid (X0.out.below g2 X0.out.lt)
    have B2 := Lib.hid (XB.out.trans (g2.mono XB.out.size))
    clear g2 k0 k1 k2 k3 k4 k5 k6 k7 k8 k9 k10
    have k0 := X2.out.cell 0 rfl
    have k1 := X2.out.cell 1 rfl
    have k2 := X2.out.cell 2 rfl
    have k3 := X2.out.cell 3 rfl
    have k4 := X2.out.cell 4 rfl
    have k5 := X2.out.cell 5 rfl
    go_wp2_with fail
    go_ret
    exact ⟨rfl, B2.out⟩
  obtain rfl := hk rfl
  clear hk hk2
  cases h0 : decide (a0 ≤ 6)
  · simp only [Bool.true_and, Bool.false_and]
    go_enter Try.func5, Try.ntmps5
    go_upto_region 1 with fail
    rw [← HV]; clear HV
    go_wp2_with fail
    refine (HC.out _).mono ?_; rintro e w2 ⟨rfl, g2⟩
    have X2 := Lib.hid (X0.out.below g2 X0.out.lt)
    have B2 := Lib.hid (XB.out.trans (g2.mono XB.out.size))
    clear g2 k0 k1 k2 k3 k4 k5 k6 k7 k8 k9 k10
    have k0 := X2.out.cell 0 rfl
    have k1 := X2.out.cell 1 rfl
    have k2 := X2.out.cell 2 rfl
    have k3 := X2.out.cell 3 rfl
    have k4 := X2.out.cell 4 rfl
    have k5 := X2.out.cell 5 rfl
    go_wp2_with fail
    go_ret
    exact ⟨rfl, B2.out⟩
  cases h1 : decide (a1 ≤ 6)
  · simp only [Bool.true_and, Bool.false_and]
    go_enter Try.func5, Try.ntmps5
    go_upto_region 1 with fail
    rw [← HV]; clear HV
    go_wp2_with fail
    refine (HC.out _).mono ?_; rintro e w2 ⟨rfl, g2⟩
    have X2 := Lib.hid (X0.out.below g2 X0.out.lt)
    have B2 := Lib.hid (XB.out.trans (g2.mono XB.out.size))
    clear g2 k0 k1 k2 k3 k4 k5 k6 k7 k8 k9 k10
    have k0 := X2.out.cell 0 rfl
    have k1 := X2.out.cell 1 rfl
    have k2 := X2.out.cell 2 rfl
    have k3 := X2.out.cell 3 rfl
    have k4 := X2.out.cell 4 rfl
    have k5 := X2.out.cell 5 rfl
    go_wp2_with fail
    go_ret
    exact ⟨rfl, B2.out⟩
  cases h2 : decide (a2 ≤ 20)
  · simp only [Bool.true_and, Bool.false_and]
    go_enter Try.func5, Try.ntmps5
    go_upto_region 1 with fail
    rw [← HV]; clear HV
    go_wp2_with fail
    refine (HC.out _).mono ?_; rintro e w2 ⟨rfl, g2⟩
    have X2 := Lib.hid (X0.out.below g2 X0.out.lt)
    have B2 := Lib.hid (XB.out.trans (g2.mono XB.out.size))
    clear g2 k0 k1 k2 k3 k4 k5 k6 k7 k8 k9 k10
    have k0 := X2.out.cell 0 rfl
    have k1 := X2.out.cell 1 rfl
    have k2 := X2.out.cell 2 rfl
    have k3 := X2.out.cell 3 rfl
    have k4 := X2.out.cell 4 rfl
    have k5 := X2.out.cell 5 rfl
    go_wp2_with fail
    go_ret
    exact ⟨rfl, B2.out⟩
  cases h3 : decide (a3 ≤ 8)
  · simp only [Bool.true_and, Bool.false_and]
    go_enter Try.func5, Try.ntmps5
    go_upto_region 1 with fail
    rw [← HV]; clear HV
    go_wp2_with fail
    refine (HC.out _).mono ?_; rintro e w2 ⟨rfl, g2⟩
    have X2 := Lib.hid (X0.out.below g2 X0.out.lt)
    have B2 := Lib.hid (XB.out.trans (g2.mono XB.out.size))
    clear g2 k0 k1 k2 k3 k4 k5 k6 k7 k8 k9 k10
    have k0 := X2.out.cell 0 rfl
    have k1 := X2.out.cell 1 rfl
    have k2 := X2.out.cell 2 rfl
    have k3 := X2.out.cell 3 rfl
    have k4 := X2.out.cell 4 rfl
    have k5 := X2.out.cell 5 rfl
    go_wp2_with fail
    go_ret
    exact ⟨rfl, B2.out⟩
  cases h4 : decide (a4 ≤ 2000)
  · simp only [Bool.true_and, Bool.false_and]
    go_enter Try.func5, Try.ntmps5
    go_upto_region 1 with fail
    rw [← HV]; clear HV
    go_wp2_with fail
    refine (HC.out _).mono ?_; rintro e w2 ⟨rfl, g2⟩
    have X2 := Lib.hid (X0.out.below g2 X0.out.lt)
    have B2 := Lib.hid (XB.out.trans (g2.mono XB.out.size))
    clear g2 k0 k1 k2 k3 k4 k5 k6 k7 k8 k9 k10
    have k0 := X2.out.cell 0 rfl
    have k1 := X2.out.cell 1 rfl
    have k2 := X2.out.cell 2 rfl
    have k3 := X2.out.cell 3 rfl
    have k4 := X2.out.cell 4 rfl
    have k5 := X2.out.cell 5 rfl
    go_wp2_with fail
    go_ret
    exact ⟨rfl, B2.out⟩
  cases h5 : decide (a5 ≤ 2000)
  · simp only [Bool.true_and]
    go_enter Try.func5, Try.ntmps5
    go_upto_region 1 with fail
    rw [← HV]; clear HV
    go_wp2_with fail
    refine (HC.out _).mono ?_; rintro e w2 ⟨rfl, g2⟩
    have X2 := Lib.hid (X0.out.below g2 X0.out.lt)
    have B2 := Lib.hid (XB.out.trans (g2.mono XB.out.size))
    clear g2 k0 k1 k2 k3 k4 k5 k6 k7 k8 k9 k10
    have k0 := X2.out.cell 0 rfl
    have k1 := X2.out.cell 1 rfl
    have k2 := X2.out.cell 2 rfl
    have k3 := X2.out.cell 3 rfl
    have k4 := X2.out.cell 4 rfl
    have k5 := X2.out.cell 5 rfl
    go_wp2_with fail
    go_ret
    exact ⟨rfl, B2.out⟩
  simp only [Bool.true_and]
  go_enter Try.func5, Try.ntmps5
  go_upto_region 1 with fail
  rw [← HV]; clear HV
  go_wp2_with fail
  refine (HC.out _).mono ?_; rintro e w2 ⟨rfl, g2⟩
  have X2 := Lib.hid (X0.out.below g2 X0.out.lt)
  have B2 := Lib.hid (XB.out.trans (g2.mono XB.out.size))
  clear g2 k0 k1 k2 k3 k4 k5 k6 k7 k8 k9 k10
  have k0 := X2.out.cell 0 rfl
  have k1 := X2.out.cell 1 rfl
  have k2 := X2.out.cell 2 rfl
  have k3 := X2.out.cell 3 rfl
  have k4 := X2.out.cell 4 rfl
  have k5 := X2.out.cell 5 rfl
  go_wp2_with fail
  go_ret
  exact ⟨rfl, B2.out⟩
end Go.Proofs.Ytedecminaopgaaa

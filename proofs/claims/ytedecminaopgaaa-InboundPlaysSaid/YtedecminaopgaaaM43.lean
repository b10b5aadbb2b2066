/- Proved: lemmas of one statement's proof, merged by program: what each part proves stands ahead of it. Conditions: those that the lemmas name. -/
import Derived.Test.YtedecminaopgaaaM41
import Derived.Test.YtedecminaopgaaaM42

/- Proved: the law that plays streams, at settings that may not be or are great, and at too many deeds. Conditions: those that the theorems name. -/
namespace Go.Proofs.Ytedecminaopgaaa
open Go.ChangeShapes Go.WideShapes Go.ChangeAt Go.RowKit

set_option maxRecDepth 100000 in
set_option maxHeartbeats 6400000 in
theorem ib_play_great (c : Cf) (hi : c.In) (A : Option Addr) (m cp : Nat) (w : World) (h : smB c = false ∨ (smB c = true ∧ 60 < m)) :
    Calls Try.prog 3 #[c.val, .slice A m cp] w fun e w' => e = .returned (.bool true) ∧ Below w.heap.size w w' := by
  have HS := Lib.hid (fun W => sm_any c hi W)
  have HK := Lib.hid (fun W => cf_rcheck c hi W)
  have HG := Lib.hid (fun W (h : c.ok = true) => ib_new c 3 W h (by decide) (by decide))
  have HO := Lib.hid (fun W (h : c.ok = false) => ib_new_bad c 3 W h)
  have hk : c.ok = true → c.chk = 0 := fun h => if_pos h
  have hk2 : c.ok = false → c.chk = 2 := fun h => if_neg (by rw [h]; decide)
  have hsm : smB c = true → c.ok = true := fun h => by unfold smB at h; rw [Bool.and_eq_true] at h; exact h.1
  generalize smB c = sb at *
  generalize c.ok = o at *
  generalize c.chk = z at *
  obtain ⟨a0, a1, a2, a3, a4, a5, a6, a7, a8, a9, a10⟩ := c
  unfold GivesCI Cf.val at *
  dsimp only at *
  clear hi
  obtain ⟨V, HV⟩ : ∃ V, V = w.alloc (.cells #[.int .i64 a0, .int .i64 a1, .int .i64 a2, .int .i64 a3, .int .i64 a4, .int .i64 a5, .int .i64 a6, .int .i64 a7, .int .i64 a8, .int .i64 a9, .int .i64 a10] 23) := ⟨_, rfl⟩
  have X0 := Lib.hid (At.new w 23 [.int .i64 a0, .int .i64 a1, .int .i64 a2, .int .i64 a3, .int .i64 a4, .int .i64 a5, .int .i64 a6, .int .i64 a7, .int .i64 a8, .int .i64 a9, .int .i64 a10])
  have XB : Hid (Below w.heap.size w (w.alloc (.cells #[.int .i64 a0, .int .i64 a1, .int .i64 a2, .int .i64 a3, .int .i64 a4, .int .i64 a5, .int .i64 a6, .int .i64 a7, .int .i64 a8, .int .i64 a9, .int .i64 a10] 23))) := Lib.hid ((Below.refl _ _).alloc (Nat.le_refl _) _)
  rw [← HV] at XB
  have X0 : Hid (At V w.heap.size 23 [.int .i64 a0, .int .i64 a1, .int .i64 a2, .int .i64 a3, .int .i64 a4, .int .i64 a5, .int .i64 a6, .int .i64 a7, .int .i64 a8, .int .i64 a9, .int .i64 a10]) := Lib.hid (by rw [HV]; exact X0.out)
  have KP : Hid (∀ W, Below V.heap.size V W → W.cell? ⟨w.heap.size, 0, none⟩ = some (.int .i64 a0) ∧ W.cell? ⟨w.heap.size, 1, none⟩ = some (.int .i64 a1) ∧ W.cell? ⟨w.heap.size, 2, none⟩ = some (.int .i64 a2) ∧ W.cell? ⟨w.heap.size, 3, none⟩ = some (.int .i64 a3) ∧ W.cell? ⟨w.heap.size, 4, none⟩ = some (.int .i64 a4) ∧ W.cell? ⟨w.heap.size, 5, none⟩ = some (.int .i64 a5) ∧ W.cell? ⟨w.heap.size, 6, none⟩ = some (.int .i64 a6) ∧ W.cell? ⟨w.heap.size, 7, none⟩ = some (.int .i64 a7) ∧ W.cell? ⟨w.heap.size, 8, none⟩ = some (.int .i64 a8) ∧ W.cell? ⟨w.heap.size, 9, none⟩ = some (.int .i64 a9) ∧ W.cell? ⟨w.heap.size, 10, none⟩ = some (.int .i64 a10)) := Lib.hid fun W hW => by
    have d := X0.out.below hW X0.out.lt
    exact ⟨d.cell 0 rfl, d.cell 1 rfl, d.cell 2 rfl, d.cell 3 rfl, d.cell 4 rfl, d.cell 5 rfl, d.cell 6 rfl, d.cell 7 rfl, d.cell 8 rfl, d.cell 9 rfl, d.cell 10 rfl⟩
  obtain ⟨k0, k1, k2, k3, k4, k5, k6, k7, k8, k9, k10⟩ := KP.out V (Below.refl _ _)
  rcases h with rfl | ⟨rfl, hm⟩
  · cases o
    · obtain rfl := hk2 rfl
      have HN := Lib.hid (fun W => HO.out W rfl)
      clear hk hk2 hsm HG HO
      go_enter Try.func3, Try.ntmps3
      go_upto_region 1 with fail
      rw [← HV]; clear HV
      go_wp2_with fail
      refine (HS.out _).mono ?_; rintro e w2 ⟨rfl, g2⟩
      have Q2 := Lib.hid g2
      clear g2 k0 k1 k2 k3 k4 k5 k6 k7 k8 k9 k10
      obtain ⟨k0, k1, k2, k3, k4, k5, k6, k7, k8, k9, k10⟩ := KP.out _ Q2.out
      go_wp2_with fail
      refine (HN.out _).mono ?_; rintro e w3 ⟨rfl, b3⟩
      have Q3 := Lib.hid (Q2.out.trans (b3.mono Q2.out.size))
      clear b3
      clear k0 k1 k2 k3 k4 k5 k6 k7 k8 k9 k10
      obtain ⟨k0, k1, k2, k3, k4, k5, k6, k7, k8, k9, k10⟩ := KP.out _ Q3.out
      go_wp2_with fail
      refine (HK.out _).mono ?_; rintro e w4 ⟨rfl, g4⟩
      have Q4 := Lib.hid (Q3.out.trans (g4.mono Q3.out.size))
      clear g4 k0 k1 k2 k3 k4 k5 k6 k7 k8 k9 k10
      obtain ⟨k0, k1, k2, k3, k4, k5, k6, k7, k8, k9, k10⟩ := KP.out _ Q4.out
      go_wp2_with fail
      refine (HK.out _).mono ?_; rintro e w5 ⟨rfl, g5⟩
      have Q5 := Lib.hid (Q4.out.trans (g5.mono Q4.out.size))
      clear g5 k0 k1 k2 k3 k4 k5 k6 k7 k8 k9 k10
      go_wp2_with fail
      refine (ib_awake_any _).mono ?_; rintro e w6 ⟨rfl, g6⟩
      have Q6 := Lib.hid (Q5.out.trans (g6.mono Q5.out.size))
      clear g6
      go_wp2_with fail
      go_ret
      exact ⟨rfl, XB.out.trans (Q6.out.mono XB.out.size)⟩
    · obtain rfl := hk rfl
      have HN := Lib.hid (fun W => HG.out W rfl)
      clear hk hk2 hsm HG HO
      go_enter Try.func3, Try.ntmps3
      go_upto_region 1 with fail
      rw [← HV]; clear HV
      go_wp2_with fail
      refine (HS.out _).mono ?_; rintro e w2 ⟨rfl, g2⟩
      have Q2 := Lib.hid g2
      clear g2 k0 k1 k2 k3 k4 k5 k6 k7 k8 k9 k10
      obtain ⟨k0, k1, k2, k3, k4, k5, k6, k7, k8, k9, k10⟩ := KP.out _ Q2.out
      go_wp2_with fail
      refine (HN.out _).mono ?_; rintro e w3 ⟨Y, rfl, _, b3, _⟩
      have Q3 := Lib.hid (Q2.out.trans (b3.mono Q2.out.size))
      clear b3
      clear k0 k1 k2 k3 k4 k5 k6 k7 k8 k9 k10
      obtain ⟨k0, k1, k2, k3, k4, k5, k6, k7, k8, k9, k10⟩ := KP.out _ Q3.out
      go_wp2_with fail
      refine (HK.out _).mono ?_; rintro e w4 ⟨rfl, g4⟩
      have Q4 := Lib.hid (Q3.out.trans (g4.mono Q3.out.size))
      clear g4 k0 k1 k2 k3 k4 k5 k6 k7 k8 k9 k10
      obtain ⟨k0, k1, k2, k3, k4, k5, k6, k7, k8, k9, k10⟩ := KP.out _ Q4.out
      go_wp2_with fail
      refine (HK.out _).mono ?_; rintro e w5 ⟨rfl, g5⟩
      have Q5 := Lib.hid (Q4.out.trans (g5.mono Q4.out.size))
      clear g5 k0 k1 k2 k3 k4 k5 k6 k7 k8 k9 k10
      go_wp2_with fail
      refine (ib_awake_any _).mono ?_; rintro e w6 ⟨rfl, g6⟩
      have Q6 := Lib.hid (Q5.out.trans (g6.mono Q5.out.size))
      clear g6
      go_wp2_with fail
      go_ret
      exact ⟨rfl, XB.out.trans (Q6.out.mono XB.out.size)⟩
  · obtain rfl := hsm rfl
    obtain rfl := hk rfl
    have HN := Lib.hid (fun W => HG.out W rfl)
    have hm' : (60 : Int) < (m : Int) := by omega
    clear hk hk2 hsm HG HO hm
    go_enter Try.func3, Try.ntmps3
    go_upto_region 1 with fail
    rw [← HV]; clear HV
    go_wp2_with fail
    refine (HS.out _).mono ?_; rintro e w2 ⟨rfl, g2⟩
    have Q2 := Lib.hid g2
    clear g2 k0 k1 k2 k3 k4 k5 k6 k7 k8 k9 k10
    obtain ⟨k0, k1, k2, k3, k4, k5, k6, k7, k8, k9, k10⟩ := KP.out _ Q2.out
    go_wp2_with fail
    refine (HN.out _).mono ?_; rintro e w3 ⟨Y, rfl, _, b3, _⟩
    have Q3 := Lib.hid (Q2.out.trans (b3.mono Q2.out.size))
    clear b3
    clear k0 k1 k2 k3 k4 k5 k6 k7 k8 k9 k10
    obtain ⟨k0, k1, k2, k3, k4, k5, k6, k7, k8, k9, k10⟩ := KP.out _ Q3.out
    go_wp2_with fail
    refine (HK.out _).mono ?_; rintro e w4 ⟨rfl, g4⟩
    have Q4 := Lib.hid (Q3.out.trans (g4.mono Q3.out.size))
    clear g4 k0 k1 k2 k3 k4 k5 k6 k7 k8 k9 k10
    obtain ⟨k0, k1, k2, k3, k4, k5, k6, k7, k8, k9, k10⟩ := KP.out _ Q4.out
    go_wp2_with fail
    refine (HK.out _).mono ?_; rintro e w5 ⟨rfl, g5⟩
    have Q5 := Lib.hid (Q4.out.trans (g5.mono Q4.out.size))
    clear g5 k0 k1 k2 k3 k4 k5 k6 k7 k8 k9 k10
    go_wp2_with fail
    refine (ib_awake_any _).mono ?_; rintro e w6 ⟨rfl, g6⟩
    have Q6 := Lib.hid (Q5.out.trans (g6.mono Q5.out.size))
    clear g6
    go_wp2_with fail
    go_ret
    exact ⟨rfl, XB.out.trans (Q6.out.mono XB.out.size)⟩
end Go.Proofs.Ytedecminaopgaaa

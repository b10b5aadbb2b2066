/- Proved: what Check, Block and Plain of package config answer for all settings. Conditions: those that the theorems name. -/
import Derived.Test.YtnfcafjnhhdkeaaCfBase
import Derived.Deep.RegionHeld3
import Derived.Deep.DeepCutAuto
namespace Go.Proofs.Ytnfcafjnhhdkeaa
open Go.ChangeShapes Go.WideShapes Go.ChangeAt Go.RowKit

/-- may a number be? -/
def inZ (n a b : Int) : Bool := decide (a ≤ n) && decide (n ≤ b)
theorem inZ_iff (n a b : Int) : inZ n a b = true ↔ a ≤ n ∧ n ≤ b := by unfold inZ; simp
/-- may settings be? -/
def Cf.ok (c : Cf) : Bool := inZ c.k 1 32 && (inZ c.r 0 (255 - c.k) && (inZ c.s 1 1024 && (inZ c.w 1 64 && (inZ c.b (c.k * c.s) 1048576 && (inZ c.q (c.k * c.s) 1048576 && (inZ c.u 1 65536 && (inZ c.t 1 65536 && (inZ c.o 1 4096 && (inZ c.x 1 64 && (inZ c.i 1 1048576))))))))))
def Cf.chk (c : Cf) : Int := if c.ok = true then 0 else 2
/-- how many bytes a block has. -/
def Cf.blk (c : Cf) : Int := if (inZ c.k 1 32 && inZ c.s 1 1024) = true then c.k * c.s else 0
/-- are two settings the same? -/
def Cf.eqB (d e : Cf) : Bool := d.k == e.k && (d.r == e.r && (d.s == e.s && (d.w == e.w && (d.b == e.b && (d.q == e.q && (d.u == e.u && (d.t == e.t && (d.o == e.o && (d.x == e.x && (d.i == e.i))))))))))
theorem cf_eq_iff (d e : Cf) : d.eqB e = true ↔ d = e := by
  obtain ⟨a0, a1, a2, a3, a4, a5, a6, a7, a8, a9, a10⟩ := d
  obtain ⟨b0, b1, b2, b3, b4, b5, b6, b7, b8, b9, b10⟩ := e
  unfold Cf.eqB
  simp
theorem cf_eql (d e : Cf) (w : World) : (binOp .eql 23 d.val e.val).run Try.prog w = .ok (.bool (d.eqB e)) w := by
  unfold Cf.val Cf.eqB
  rw [run_eql_struct, run_equalIn_agg w _ 23 _ _ (by kernel_rfl) (by kernel_rfl)]
  simp [go_sem, Try.underlying23]
  repeat' (split <;> simp_all)
theorem cf_neq (d e : Cf) (w : World) : (binOp .neq 23 d.val e.val).run Try.prog w = .ok (.bool (!d.eqB e)) w := by
  unfold Cf.val Cf.eqB
  rw [run_neq_struct, run_equalIn_agg w _ 23 _ _ (by kernel_rfl) (by kernel_rfl)]
  simp [go_sem, Try.underlying23]
  repeat' (split <;> simp_all)
/-- the nearest settings are the same ones, if all may be. -/
theorem near_ok (c : Cf) : c.near.eqB c = c.ok := by
  rw [Bool.eq_iff_iff, cf_eq_iff]
  obtain ⟨a0, a1, a2, a3, a4, a5, a6, a7, a8, a9, a10⟩ := c
  unfold Cf.near Cf.ok
  simp only [Bool.and_eq_true, inZ_iff, Cf.mk.injEq]
  have hk := wz_in 1 a0 32 (by decide)
  have hs := wz_in 1 a2 1024 (by decide)
  have ek := wz_id 1 a0 32 (by decide)
  have es := wz_id 1 a2 1024 (by decide)
  generalize wz 1 a0 32 = kk at *
  generalize wz 1 a2 1024 = ss at *
  have hp := block_in kk ss hk.1 hk.2 hs.1 hs.2
  rw [ek, es, wz_id 0 a1 (255 - kk) (by omega), wz_id 1 a3 64 (by decide), wz_id (kk * ss) a4 1048576 (by omega), wz_id (kk * ss) a5 1048576 (by omega), wz_id 1 a6 65536 (by decide), wz_id 1 a7 65536 (by decide), wz_id 1 a8 4096 (by decide), wz_id 1 a9 64 (by decide), wz_id 1 a10 1048576 (by decide)]
  constructor
  · rintro ⟨h0, h1, h2, h⟩
    have e0 := ek.2 h0
    have e2 := es.2 h2
    subst e0 e2
    exact ⟨h0, h1, h2, h⟩
  · rintro ⟨h0, h1, h2, h⟩
    have e0 := ek.2 h0
    have e2 := es.2 h2
    subst e0 e2
    exact ⟨h0, h1, h2, h⟩
theorem near_blk (c : Cf) : (if (c.k == c.near.k && c.s == c.near.s) = true then c.k * c.s else 0) = c.blk := by
  have e : (c.k == c.near.k && c.s == c.near.s) = (inZ c.k 1 32 && inZ c.s 1 1024) := by
    rw [Bool.eq_iff_iff]
    simp only [Bool.and_eq_true, inZ_iff, beq_iff_eq]
    have ek := wz_id 1 c.k 32 (by decide)
    have es := wz_id 1 c.s 1024 (by decide)
    show c.k = wz 1 c.k 32 ∧ c.s = wz 1 c.s 1024 ↔ _
    rw [← ek, ← es]
    exact ⟨fun h => ⟨h.1.symm, h.2.symm⟩, fun h => ⟨h.1.symm, h.2.symm⟩⟩
  rw [e]
  rfl
set_option maxRecDepth 100000 in
set_option maxHeartbeats 3200000 in
theorem cf_check (c : Cf) (w : World) : Calls Try.prog 4 #[c.val] w (GivesI w c.chk) := by
  have HN := Lib.hid (fun w => cf_nearest c w)
  have HE := Lib.hid (near_ok c)
  have E := fun w => cf_neq c.near c w
  rw [HE.out] at E
  unfold Cf.chk
  generalize c.near = d at *
  generalize c.ok = o at *
  clear HE
  obtain ⟨a0, a1, a2, a3, a4, a5, a6, a7, a8, a9, a10⟩ := c
  obtain ⟨b0, b1, b2, b3, b4, b5, b6, b7, b8, b9, b10⟩ := d
  unfold GivesCf Cf.val at *
  dsimp only at *
  have X0 : Hid (At (w.alloc (.cells #[.int .i64 a0, .int .i64 a1, .int .i64 a2, .int .i64 a3, .int .i64 a4, .int .i64 a5, .int .i64 a6, .int .i64 a7, .int .i64 a8, .int .i64 a9, .int .i64 a10] 23)) w.heap.size 23 [.int .i64 a0, .int .i64 a1, .int .i64 a2, .int .i64 a3, .int .i64 a4, .int .i64 a5, .int .i64 a6, .int .i64 a7, .int .i64 a8, .int .i64 a9, .int .i64 a10]) := Lib.hid (At.new w 23 [.int .i64 a0, .int .i64 a1, .int .i64 a2, .int .i64 a3, .int .i64 a4, .int .i64 a5, .int .i64 a6, .int .i64 a7, .int .i64 a8, .int .i64 a9, .int .i64 a10])
  have XB : Hid (Below w.heap.size w (w.alloc (.cells #[.int .i64 a0, .int .i64 a1, .int .i64 a2, .int .i64 a3, .int .i64 a4, .int .i64 a5, .int .i64 a6, .int .i64 a7, .int .i64 a8, .int .i64 a9, .int .i64 a10] 23))) := Lib.hid ((Below.refl _ _).alloc (Nat.le_refl _) _)
  obtain ⟨V, HV⟩ : ∃ V, V = w.alloc (.cells #[.int .i64 a0, .int .i64 a1, .int .i64 a2, .int .i64 a3, .int .i64 a4, .int .i64 a5, .int .i64 a6, .int .i64 a7, .int .i64 a8, .int .i64 a9, .int .i64 a10] 23) := ⟨_, rfl⟩
  rw [← HV] at X0 XB
  go_enter Try.func4, Try.ntmps4
  go_upto_region 1 with fail
  rw [← HV]
  clear HV
  have KP : Hid (∀ W, Below V.heap.size V W → W.cell? ⟨w.heap.size, 0, none⟩ = some (.int .i64 a0) ∧ W.cell? ⟨w.heap.size, 1, none⟩ = some (.int .i64 a1) ∧ W.cell? ⟨w.heap.size, 2, none⟩ = some (.int .i64 a2) ∧ W.cell? ⟨w.heap.size, 3, none⟩ = some (.int .i64 a3) ∧ W.cell? ⟨w.heap.size, 4, none⟩ = some (.int .i64 a4) ∧ W.cell? ⟨w.heap.size, 5, none⟩ = some (.int .i64 a5) ∧ W.cell? ⟨w.heap.size, 6, none⟩ = some (.int .i64 a6) ∧ W.cell? ⟨w.heap.size, 7, none⟩ = some (.int .i64 a7) ∧ W.cell? ⟨w.heap.size, 8, none⟩ = some (.int .i64 a8) ∧ W.cell? ⟨w.heap.size, 9, none⟩ = some (.int .i64 a9) ∧ W.cell? ⟨w.heap.size, 10, none⟩ = some (.int .i64 a10)) := Lib.hid fun W h => by
    have d := X0.out.below h X0.out.lt
    exact ⟨d.cell 0 rfl, d.cell 1 rfl, d.cell 2 rfl, d.cell 3 rfl, d.cell 4 rfl, d.cell 5 rfl, d.cell 6 rfl, d.cell 7 rfl, d.cell 8 rfl, d.cell 9 rfl, d.cell 10 rfl⟩
  have QQ : Hid (Below V.heap.size V V.drew) := Lib.hid (Below.refl V.heap.size V).drew
  obtain ⟨k0, k1, k2, k3, k4, k5, k6, k7, k8, k9, k10⟩ := KP.out V.drew QQ.out
  cases o
  all_goals
    go_region_held3 (fun W => W.cell? ⟨w.heap.size, 0, none⟩ = some (.int .i64 a0) ∧ W.cell? ⟨w.heap.size, 1, none⟩ = some (.int .i64 a1) ∧ W.cell? ⟨w.heap.size, 2, none⟩ = some (.int .i64 a2) ∧ W.cell? ⟨w.heap.size, 3, none⟩ = some (.int .i64 a3) ∧ W.cell? ⟨w.heap.size, 4, none⟩ = some (.int .i64 a4) ∧ W.cell? ⟨w.heap.size, 5, none⟩ = some (.int .i64 a5) ∧ W.cell? ⟨w.heap.size, 6, none⟩ = some (.int .i64 a6) ∧ W.cell? ⟨w.heap.size, 7, none⟩ = some (.int .i64 a7) ∧ W.cell? ⟨w.heap.size, 8, none⟩ = some (.int .i64 a8) ∧ W.cell? ⟨w.heap.size, 9, none⟩ = some (.int .i64 a9) ∧ W.cell? ⟨w.heap.size, 10, none⟩ = some (.int .i64 a10))
      (first | go_keep | exact KP.out _ QQ.out)
      (first
      | ((with_reducible refine (HN.out _).mono ?_); rintro e wq ⟨rfl, gq⟩; have QN := Lib.hid (QQ.out.trans (gq.mono QQ.out.size)); clear gq QQ; have QQ := QN; clear QN))
    go_wp2_with fail
    go_ret
    exact ⟨rfl, XB.out.trans (QQ.out.mono XB.out.size)⟩
set_option maxRecDepth 100000 in
set_option maxHeartbeats 3200000 in
theorem cf_block (c : Cf) (w : World) : Calls Try.prog 6 #[c.val] w (GivesI w c.blk) := by
  have HN := Lib.hid (fun w => cf_nearest c w)
  have HK : Hid (c.k = c.near.k → c.s = c.near.s → 1 ≤ c.k * c.s ∧ c.k * c.s ≤ 32768) := Lib.hid (by
    intro e1 e2
    rw [e1, e2]
    have hk := wz_in 1 c.k 32 (by decide)
    have hs := wz_in 1 c.s 1024 (by decide)
    exact block_in _ _ hk.1 hk.2 hs.1 hs.2)
  rw [← near_blk c]
  generalize c.near = d at *
  obtain ⟨a0, a1, a2, a3, a4, a5, a6, a7, a8, a9, a10⟩ := c
  obtain ⟨b0, b1, b2, b3, b4, b5, b6, b7, b8, b9, b10⟩ := d
  unfold GivesCf Cf.val at *
  dsimp only at *
  by_cases h0 : a0 = b0
  · by_cases h2 : a2 = b2
    · obtain ⟨hp0, hp1⟩ := HK.out h0 h2
      subst h0 h2
      rw [if_pos (by simp)]
      clear HK
      go_enter Try.func6, Try.ntmps6
      go_wp2_with fail
      refine (HN.out _).mono ?_; rintro e w1 ⟨rfl, g1⟩
      have D1 := Lib.hid ((At.new w 23 [.int .i64 a0, .int .i64 a1, .int .i64 a2, .int .i64 a3, .int .i64 a4, .int .i64 a5, .int .i64 a6, .int .i64 a7, .int .i64 a8, .int .i64 a9, .int .i64 a10]).below g1 (by simp))
      have B1 : Hid (Below w.heap.size w w1) := Lib.hid (((Below.refl _ _).alloc (Nat.le_refl _) _).trans (g1.mono (by simp)))
      clear g1
      have D2 := D1.out.alloc (.cells #[.int .i64 a0, .int .i64 b1, .int .i64 a2, .int .i64 b3, .int .i64 b4, .int .i64 b5, .int .i64 b6, .int .i64 b7, .int .i64 b8, .int .i64 b9, .int .i64 b10] 23)
      have E2 := At.new w1 23 [.int .i64 a0, .int .i64 b1, .int .i64 a2, .int .i64 b3, .int .i64 b4, .int .i64 b5, .int .i64 b6, .int .i64 b7, .int .i64 b8, .int .i64 b9, .int .i64 b10]
      have k0 := D2.cell 0 rfl
      have k2 := D2.cell 2 rfl
      have m0 := E2.cell 0 rfl
      have m2 := E2.cell 2 rfl
      clear D2 E2
      go_wp2_with fail
      go_ret
      exact ⟨rfl, B1.out.alloc B1.out.size _⟩
    · have n1 : (a2 == b2) = false := by simpa using h2
      subst h0
      rw [if_neg (by simp [h2])]
      clear HK
      go_enter Try.func6, Try.ntmps6
      go_wp2_with fail
      refine (HN.out _).mono ?_; rintro e w1 ⟨rfl, g1⟩
      have D1 := Lib.hid ((At.new w 23 [.int .i64 a0, .int .i64 a1, .int .i64 a2, .int .i64 a3, .int .i64 a4, .int .i64 a5, .int .i64 a6, .int .i64 a7, .int .i64 a8, .int .i64 a9, .int .i64 a10]).below g1 (by simp))
      have B1 : Hid (Below w.heap.size w w1) := Lib.hid (((Below.refl _ _).alloc (Nat.le_refl _) _).trans (g1.mono (by simp)))
      clear g1
      have D2 := D1.out.alloc (.cells #[.int .i64 a0, .int .i64 b1, .int .i64 b2, .int .i64 b3, .int .i64 b4, .int .i64 b5, .int .i64 b6, .int .i64 b7, .int .i64 b8, .int .i64 b9, .int .i64 b10] 23)
      have E2 := At.new w1 23 [.int .i64 a0, .int .i64 b1, .int .i64 b2, .int .i64 b3, .int .i64 b4, .int .i64 b5, .int .i64 b6, .int .i64 b7, .int .i64 b8, .int .i64 b9, .int .i64 b10]
      have k0 := D2.cell 0 rfl
      have k2 := D2.cell 2 rfl
      have m0 := E2.cell 0 rfl
      have m2 := E2.cell 2 rfl
      clear D2 E2
      go_wp2_with fail
      go_ret
      exact ⟨rfl, B1.out.alloc B1.out.size _⟩
  · have n0 : (a0 == b0) = false := by simpa using h0
    rw [if_neg (by simp [h0])]
    clear HK
    go_enter Try.func6, Try.ntmps6
    go_wp2_with fail
    refine (HN.out _).mono ?_; rintro e w1 ⟨rfl, g1⟩
    have D1 := Lib.hid ((At.new w 23 [.int .i64 a0, .int .i64 a1, .int .i64 a2, .int .i64 a3, .int .i64 a4, .int .i64 a5, .int .i64 a6, .int .i64 a7, .int .i64 a8, .int .i64 a9, .int .i64 a10]).below g1 (by simp))
    have B1 : Hid (Below w.heap.size w w1) := Lib.hid (((Below.refl _ _).alloc (Nat.le_refl _) _).trans (g1.mono (by simp)))
    clear g1
    have D2 := D1.out.alloc (.cells #[.int .i64 b0, .int .i64 b1, .int .i64 b2, .int .i64 b3, .int .i64 b4, .int .i64 b5, .int .i64 b6, .int .i64 b7, .int .i64 b8, .int .i64 b9, .int .i64 b10] 23)
    have E2 := At.new w1 23 [.int .i64 b0, .int .i64 b1, .int .i64 b2, .int .i64 b3, .int .i64 b4, .int .i64 b5, .int .i64 b6, .int .i64 b7, .int .i64 b8, .int .i64 b9, .int .i64 b10]
    have k0 := D2.cell 0 rfl
    have k2 := D2.cell 2 rfl
    have m0 := E2.cell 0 rfl
    have m2 := E2.cell 2 rfl
    clear D2 E2
    go_wp2_with fail
    go_ret
    exact ⟨rfl, B1.out.alloc B1.out.size _⟩
/-- settings that may be. -/
def plainC : Cf := ⟨4, 2, 16, 4, 256, 256, 64, 4096, 16, 2, 8⟩
theorem cf_plain (w : World) : Calls Try.prog 8 #[] w (GivesCf w plainC) := by
  go_enter Try.func8, Try.ntmps8
  go_wp2_with fail
  refine bodyPost_ret (v := plainC.val) (by simp [results, Try.results8, plainC, Cf.val, go_sem]) rfl ⟨rfl, ?_⟩
  exact (Below.refl _ _).alloc (Nat.le_refl _) _
end Go.Proofs.Ytnfcafjnhhdkeaa

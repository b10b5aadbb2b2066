/- Proved: lemmas of one statement's proof, merged by program: what each part proves stands ahead of it. Conditions: those that the lemmas name. -/
import Derived.Test.YtedecminaopgaaaM2
import Derived.WalkKit
import Derived.ProofKit
import Derived.LoopTactic
import Derived.StillTailTactics
import Derived.Laws.BitsAllLaws
import Derived.Laws.EntriesVeiled
import Derived.Laws.StructEq
import Derived.Lib.Hide
import Derived.Lib.MinMax
import Derived.Deep.RegionHeld3
import Derived.Deep.DeepCutAuto

/- Proved: settings as values; the nearest ones that may be, for all ints. Conditions: those that the theorems name. -/
namespace Go.Proofs.Ytedecminaopgaaa
open Go.ChangeShapes Go.WideShapes Go.ChangeAt Go.RowKit

/-- settings. -/
structure Cf where
  k : Int
  r : Int
  s : Int
  w : Int
  b : Int
  q : Int
  u : Int
  t : Int
  o : Int
  x : Int
  i : Int

def Cf.val (c : Cf) : Value := .agg #[.int .i64 c.k, .int .i64 c.r, .int .i64 c.s, .int .i64 c.w, .int .i64 c.b, .int .i64 c.q, .int .i64 c.u, .int .i64 c.t, .int .i64 c.o, .int .i64 c.x, .int .i64 c.i]
/-- a number, brought between two ends. -/
def wz (a n m : Int) : Int := min (max a n) m
theorem wz_id (a n m : Int) (h : a ≤ m) : wz a n m = n ↔ a ≤ n ∧ n ≤ m := by unfold wz; omega
theorem wz_in (a n m : Int) (h : a ≤ m) : a ≤ wz a n m ∧ wz a n m ≤ m := by unfold wz; omega
theorem cf_within (a n m : Int) (w : World) : Calls Try.prog 69 #[.int .i64 a, .int .i64 n, .int .i64 m] w fun e w' => e = .returned (.int .i64 (wz a n m)) ∧ w = w' := by
  unfold wz
  go_enter Try.func69, Try.ntmps69
  go_wp2_with fail
  go_ret
  exact ⟨rfl, rfl⟩

/-- the nearest settings that may be. -/
def Cf.near (c : Cf) : Cf := ⟨wz 1 c.k 32, wz 0 c.r (255 - wz 1 c.k 32), wz 1 c.s 1024, wz 1 c.w 64, wz (wz 1 c.k 32 * wz 1 c.s 1024) c.b 1048576, wz (wz 1 c.k 32 * wz 1 c.s 1024) c.q 1048576, wz 1 c.u 65536, wz 1 c.t 65536, wz 1 c.o 4096, wz 1 c.x 64, wz 1 c.i 1048576⟩
theorem block_in (k s : Int) (h0 : 1 ≤ k) (h1 : k ≤ 32) (h2 : 1 ≤ s) (h3 : s ≤ 1024) : 1 ≤ k * s ∧ k * s ≤ 32768 := by
  constructor
  · have := Int.mul_le_mul h0 h2 (by decide) (by omega); simpa using this
  · have := Int.mul_le_mul h1 h3 (by omega) (by decide); simpa using this
/-- Settings come back; nothing that was there has turned. -/
def GivesCf (W : World) (c : Cf) (e : Ending) (w' : World) : Prop := e = .returned c.val ∧ Below W.heap.size W w'
/-- A number comes back; nothing that was there has turned. -/
def GivesCI (W : World) (z : Int) (e : Ending) (w' : World) : Prop := e = .returned (.int .i64 z) ∧ Below W.heap.size W w'

theorem below_set {W w : World} {B b j : Nat} {v : Value} (h : Below B w W) (hw : B ≤ w.heap.size) (hb : B ≤ b) : Below B w (W.setCell ⟨b, j, none⟩ v) := h.grown (grown_set W ⟨b, j, none⟩ v) (Nat.le_trans hw h.size) (fun k e => by injection e with e; show B ≤ k; rw [← e]; exact hb)
/-- eleven numbers, stored into the cells of a struct. -/
def set11 (W : World) (b : Nat) (z0 z1 z2 z3 z4 z5 z6 z7 z8 z9 z10 : Int) : World := ((((((((((W.setCell ⟨b, 0, none⟩ (.int .i64 z0)).setCell ⟨b, 1, none⟩ (.int .i64 z1)).setCell ⟨b, 2, none⟩ (.int .i64 z2)).setCell ⟨b, 3, none⟩ (.int .i64 z3)).setCell ⟨b, 4, none⟩ (.int .i64 z4)).setCell ⟨b, 5, none⟩ (.int .i64 z5)).setCell ⟨b, 6, none⟩ (.int .i64 z6)).setCell ⟨b, 7, none⟩ (.int .i64 z7)).setCell ⟨b, 8, none⟩ (.int .i64 z8)).setCell ⟨b, 9, none⟩ (.int .i64 z9)).setCell ⟨b, 10, none⟩ (.int .i64 z10)
theorem set11_at {W : World} {b : Nat} {a0 a1 a2 a3 a4 a5 a6 a7 a8 a9 a10 : Value} {z0 z1 z2 z3 z4 z5 z6 z7 z8 z9 z10 : Int} (h : At W b 23 [a0, a1, a2, a3, a4, a5, a6, a7, a8, a9, a10]) : At (set11 W b z0 z1 z2 z3 z4 z5 z6 z7 z8 z9 z10) b 23 [.int .i64 z0, .int .i64 z1, .int .i64 z2, .int .i64 z3, .int .i64 z4, .int .i64 z5, .int .i64 z6, .int .i64 z7, .int .i64 z8, .int .i64 z9, .int .i64 z10] := ((((((((((h.set_ 0 _).set_ 1 _).set_ 2 _).set_ 3 _).set_ 4 _).set_ 5 _).set_ 6 _).set_ 7 _).set_ 8 _).set_ 9 _).set_ 10 _
theorem set11_below {W w : World} {b : Nat} {z0 z1 z2 z3 z4 z5 z6 z7 z8 z9 z10 : Int} (h : Below w.heap.size w W) (hb : w.heap.size ≤ b) : Below w.heap.size w (set11 W b z0 z1 z2 z3 z4 z5 z6 z7 z8 z9 z10) := below_set (below_set (below_set (below_set (below_set (below_set (below_set (below_set (below_set (below_set (below_set h (Nat.le_refl _) hb) (Nat.le_refl _) hb) (Nat.le_refl _) hb) (Nat.le_refl _) hb) (Nat.le_refl _) hb) (Nat.le_refl _) hb) (Nat.le_refl _) hb) (Nat.le_refl _) hb) (Nat.le_refl _) hb) (Nat.le_refl _) hb) (Nat.le_refl _) hb
theorem res_near {Tm : Array Value} {W : World} {b : Nat} {z0 z1 z2 z3 z4 z5 z6 z7 z8 z9 z10 : Int} (h2 : Tm.getD 2 undef = .pointer (some ⟨b, 0, none⟩)) (H : At W b 23 [.int .i64 z0, .int .i64 z1, .int .i64 z2, .int .i64 z3, .int .i64 z4, .int .i64 z5, .int .i64 z6, .int .i64 z7, .int .i64 z8, .int .i64 z9, .int .i64 z10]) : (results Try.f52 Tm).run Try.prog W = .ok (.agg #[.int .i64 z0, .int .i64 z1, .int .i64 z2, .int .i64 z3, .int .i64 z4, .int .i64 z5, .int .i64 z6, .int .i64 z7, .int .i64 z8, .int .i64 z9, .int .i64 z10]) W := by
  have h2' : Tm[2]?.getD undef = .pointer (some ⟨b, 0, none⟩) := by simpa using h2
  obtain ⟨k0, k1, k2, k3, k4, k5, k6, k7, k8, k9, k10⟩ : W.cell? ⟨b, 0, none⟩ = some (.int .i64 z0) ∧ W.cell? ⟨b, 1, none⟩ = some (.int .i64 z1) ∧ W.cell? ⟨b, 2, none⟩ = some (.int .i64 z2) ∧ W.cell? ⟨b, 3, none⟩ = some (.int .i64 z3) ∧ W.cell? ⟨b, 4, none⟩ = some (.int .i64 z4) ∧ W.cell? ⟨b, 5, none⟩ = some (.int .i64 z5) ∧ W.cell? ⟨b, 6, none⟩ = some (.int .i64 z6) ∧ W.cell? ⟨b, 7, none⟩ = some (.int .i64 z7) ∧ W.cell? ⟨b, 8, none⟩ = some (.int .i64 z8) ∧ W.cell? ⟨b, 9, none⟩ = some (.int .i64 z9) ∧ W.cell? ⟨b, 10, none⟩ = some (.int .i64 z10) := ⟨H.cell 0 rfl, H.cell 1 rfl, H.cell 2 rfl, H.cell 3 rfl, H.cell 4 rfl, H.cell 5 rfl, H.cell 6 rfl, H.cell 7 rfl, H.cell 8 rfl, H.cell 9 rfl, H.cell 10 rfl⟩
  simp [results, Try.results52, h2', k0, k1, k2, k3, k4, k5, k6, k7, k8, k9, k10, go_sem]

set_option maxRecDepth 100000 in
set_option maxHeartbeats 3200000 in
theorem cf_nearest (c : Cf) (w : World) : Calls Try.prog 52 #[c.val] w (GivesCf w c.near) := by
  have HW := Lib.hid cf_within
  obtain ⟨a0, a1, a2, a3, a4, a5, a6, a7, a8, a9, a10⟩ := c
  unfold Cf.near Cf.val
  dsimp only
  have hk := wz_in 1 a0 32 (by decide)
  have hs := wz_in 1 a2 1024 (by decide)
  have HK : Hid (∀ w, Calls Try.prog 69 #[.int .i64 1, .int .i64 a0, .int .i64 32] w fun e w' => e = .returned (.int .i64 (wz 1 a0 32)) ∧ w = w') := Lib.hid (fun w => cf_within _ _ _ w)
  have HS : Hid (∀ w, Calls Try.prog 69 #[.int .i64 1, .int .i64 a2, .int .i64 1024] w fun e w' => e = .returned (.int .i64 (wz 1 a2 1024)) ∧ w = w') := Lib.hid (fun w => cf_within _ _ _ w)
  generalize wz 1 a0 32 = kk at *
  generalize wz 1 a2 1024 = ss at *
  obtain ⟨hp0, hp1⟩ := block_in kk ss hk.1 hk.2 hs.1 hs.2
  obtain ⟨hk0, hk1⟩ := hk
  obtain ⟨hs0, hs1⟩ := hs
  go_enter Try.func52, Try.ntmps52
  go_wp2_with fail
  refine (HK.out _).mono ?_; rintro e w1 ⟨rfl, rfl⟩
  go_wp2_with fail
  refine (HS.out _).mono ?_; rintro e w1 ⟨rfl, rfl⟩
  go_wp2_with fail
  have X0 : Hid (At ((w.alloc (.cells #[.int .i64 a0, .int .i64 a1, .int .i64 a2, .int .i64 a3, .int .i64 a4, .int .i64 a5, .int .i64 a6, .int .i64 a7, .int .i64 a8, .int .i64 a9, .int .i64 a10] 23)).alloc (.cells #[.int .i64 0, .int .i64 0, .int .i64 0, .int .i64 0, .int .i64 0, .int .i64 0, .int .i64 0, .int .i64 0, .int .i64 0, .int .i64 0, .int .i64 0] 23)) w.heap.size 23 [.int .i64 a0, .int .i64 a1, .int .i64 a2, .int .i64 a3, .int .i64 a4, .int .i64 a5, .int .i64 a6, .int .i64 a7, .int .i64 a8, .int .i64 a9, .int .i64 a10]) := Lib.hid ((At.new w 23 [.int .i64 a0, .int .i64 a1, .int .i64 a2, .int .i64 a3, .int .i64 a4, .int .i64 a5, .int .i64 a6, .int .i64 a7, .int .i64 a8, .int .i64 a9, .int .i64 a10]).alloc _)
  have X1 : Hid (At ((w.alloc (.cells #[.int .i64 a0, .int .i64 a1, .int .i64 a2, .int .i64 a3, .int .i64 a4, .int .i64 a5, .int .i64 a6, .int .i64 a7, .int .i64 a8, .int .i64 a9, .int .i64 a10] 23)).alloc (.cells #[.int .i64 0, .int .i64 0, .int .i64 0, .int .i64 0, .int .i64 0, .int .i64 0, .int .i64 0, .int .i64 0, .int .i64 0, .int .i64 0, .int .i64 0] 23)) (w.heap.size + 1) 23 [.int .i64 0, .int .i64 0, .int .i64 0, .int .i64 0, .int .i64 0, .int .i64 0, .int .i64 0, .int .i64 0, .int .i64 0, .int .i64 0, .int .i64 0]) := Lib.hid (by
    have h := At.new (w.alloc (.cells #[.int .i64 a0, .int .i64 a1, .int .i64 a2, .int .i64 a3, .int .i64 a4, .int .i64 a5, .int .i64 a6, .int .i64 a7, .int .i64 a8, .int .i64 a9, .int .i64 a10] 23)) 23 [.int .i64 0, .int .i64 0, .int .i64 0, .int .i64 0, .int .i64 0, .int .i64 0, .int .i64 0, .int .i64 0, .int .i64 0, .int .i64 0, .int .i64 0]
    simpa using h)
  have XB : Hid (Below w.heap.size w ((w.alloc (.cells #[.int .i64 a0, .int .i64 a1, .int .i64 a2, .int .i64 a3, .int .i64 a4, .int .i64 a5, .int .i64 a6, .int .i64 a7, .int .i64 a8, .int .i64 a9, .int .i64 a10] 23)).alloc (.cells #[.int .i64 0, .int .i64 0, .int .i64 0, .int .i64 0, .int .i64 0, .int .i64 0, .int .i64 0, .int .i64 0, .int .i64 0, .int .i64 0, .int .i64 0] 23))) := Lib.hid (((Below.refl _ _).alloc (Nat.le_refl _) _).alloc (by simp) _)
  generalize (w.alloc (.cells #[.int .i64 a0, .int .i64 a1, .int .i64 a2, .int .i64 a3, .int .i64 a4, .int .i64 a5, .int .i64 a6, .int .i64 a7, .int .i64 a8, .int .i64 a9, .int .i64 a10] 23)).alloc (.cells #[.int .i64 0, .int .i64 0, .int .i64 0, .int .i64 0, .int .i64 0, .int .i64 0, .int .i64 0, .int .i64 0, .int .i64 0, .int .i64 0, .int .i64 0] 23) = W at *
  obtain ⟨k0, k1, k2, k3, k4, k5, k6, k7, k8, k9, k10⟩ : W.cell? ⟨w.heap.size, 0, none⟩ = some (.int .i64 a0) ∧ W.cell? ⟨w.heap.size, 1, none⟩ = some (.int .i64 a1) ∧ W.cell? ⟨w.heap.size, 2, none⟩ = some (.int .i64 a2) ∧ W.cell? ⟨w.heap.size, 3, none⟩ = some (.int .i64 a3) ∧ W.cell? ⟨w.heap.size, 4, none⟩ = some (.int .i64 a4) ∧ W.cell? ⟨w.heap.size, 5, none⟩ = some (.int .i64 a5) ∧ W.cell? ⟨w.heap.size, 6, none⟩ = some (.int .i64 a6) ∧ W.cell? ⟨w.heap.size, 7, none⟩ = some (.int .i64 a7) ∧ W.cell? ⟨w.heap.size, 8, none⟩ = some (.int .i64 a8) ∧ W.cell? ⟨w.heap.size, 9, none⟩ = some (.int .i64 a9) ∧ W.cell? ⟨w.heap.size, 10, none⟩ = some (.int .i64 a10) := by have d := X0.out; exact ⟨d.cell 0 rfl, d.cell 1 rfl, d.cell 2 rfl, d.cell 3 rfl, d.cell 4 rfl, d.cell 5 rfl, d.cell 6 rfl, d.cell 7 rfl, d.cell 8 rfl, d.cell 9 rfl, d.cell 10 rfl⟩
  refine wp_region_still_tail 34 (by kernel_rfl) (by kernel_rfl) ?_
  simp only [List.take_succ_cons, List.take_zero, List.drop_succ_cons, List.drop_zero]
  repeat still_step
  still_call ((HW.out _ _ _ _).mono fun _ _ h => ⟨h.1, h.2.symm⟩)
  repeat still_step
  still_call ((HW.out _ _ _ _).mono fun _ _ h => ⟨h.1, h.2.symm⟩)
  repeat still_step
  still_call ((HW.out _ _ _ _).mono fun _ _ h => ⟨h.1, h.2.symm⟩)
  repeat still_step
  still_call ((HW.out _ _ _ _).mono fun _ _ h => ⟨h.1, h.2.symm⟩)
  repeat still_step
  still_call ((HW.out _ _ _ _).mono fun _ _ h => ⟨h.1, h.2.symm⟩)
  repeat still_step
  still_call ((HW.out _ _ _ _).mono fun _ _ h => ⟨h.1, h.2.symm⟩)
  repeat still_step
  still_call ((HW.out _ _ _ _).mono fun _ _ h => ⟨h.1, h.2.symm⟩)
  repeat still_step
  still_call ((HW.out _ _ _ _).mono fun _ _ h => ⟨h.1, h.2.symm⟩)
  repeat still_step
  still_call ((HW.out _ _ _ _).mono fun _ _ h => ⟨h.1, h.2.symm⟩)
  repeat still_step
  refine wpStill_nil ?_
  change wpList _ _ _ _ _ W.drew
  clear k0 k1 k2 k3 k4 k5 k6 k7 k8 k9 k10
  have Y0 : Hid (At W.drew w.heap.size 23 [.int .i64 a0, .int .i64 a1, .int .i64 a2, .int .i64 a3, .int .i64 a4, .int .i64 a5, .int .i64 a6, .int .i64 a7, .int .i64 a8, .int .i64 a9, .int .i64 a10]) := Lib.hid X0.out
  have Y1 : Hid (At W.drew (w.heap.size + 1) 23 [.int .i64 0, .int .i64 0, .int .i64 0, .int .i64 0, .int .i64 0, .int .i64 0, .int .i64 0, .int .i64 0, .int .i64 0, .int .i64 0, .int .i64 0]) := Lib.hid X1.out
  have YB : Hid (Below w.heap.size w W.drew) := Lib.hid XB.out.drew
  clear X0 X1 XB
  generalize W.drew = V at *
  obtain ⟨k0, k1, k2, k3, k4, k5, k6, k7, k8, k9, k10⟩ : V.cell? ⟨w.heap.size, 0, none⟩ = some (.int .i64 a0) ∧ V.cell? ⟨w.heap.size, 1, none⟩ = some (.int .i64 a1) ∧ V.cell? ⟨w.heap.size, 2, none⟩ = some (.int .i64 a2) ∧ V.cell? ⟨w.heap.size, 3, none⟩ = some (.int .i64 a3) ∧ V.cell? ⟨w.heap.size, 4, none⟩ = some (.int .i64 a4) ∧ V.cell? ⟨w.heap.size, 5, none⟩ = some (.int .i64 a5) ∧ V.cell? ⟨w.heap.size, 6, none⟩ = some (.int .i64 a6) ∧ V.cell? ⟨w.heap.size, 7, none⟩ = some (.int .i64 a7) ∧ V.cell? ⟨w.heap.size, 8, none⟩ = some (.int .i64 a8) ∧ V.cell? ⟨w.heap.size, 9, none⟩ = some (.int .i64 a9) ∧ V.cell? ⟨w.heap.size, 10, none⟩ = some (.int .i64 a10) := by have d := Y0.out; exact ⟨d.cell 0 rfl, d.cell 1 rfl, d.cell 2 rfl, d.cell 3 rfl, d.cell 4 rfl, d.cell 5 rfl, d.cell 6 rfl, d.cell 7 rfl, d.cell 8 rfl, d.cell 9 rfl, d.cell 10 rfl⟩
  obtain ⟨x0, x1, x2, x3, x4, x5, x6, x7, x8, x9, x10⟩ : V.cell? ⟨w.heap.size + 1, 0, none⟩ = some (.int .i64 0) ∧ V.cell? ⟨w.heap.size + 1, 1, none⟩ = some (.int .i64 0) ∧ V.cell? ⟨w.heap.size + 1, 2, none⟩ = some (.int .i64 0) ∧ V.cell? ⟨w.heap.size + 1, 3, none⟩ = some (.int .i64 0) ∧ V.cell? ⟨w.heap.size + 1, 4, none⟩ = some (.int .i64 0) ∧ V.cell? ⟨w.heap.size + 1, 5, none⟩ = some (.int .i64 0) ∧ V.cell? ⟨w.heap.size + 1, 6, none⟩ = some (.int .i64 0) ∧ V.cell? ⟨w.heap.size + 1, 7, none⟩ = some (.int .i64 0) ∧ V.cell? ⟨w.heap.size + 1, 8, none⟩ = some (.int .i64 0) ∧ V.cell? ⟨w.heap.size + 1, 9, none⟩ = some (.int .i64 0) ∧ V.cell? ⟨w.heap.size + 1, 10, none⟩ = some (.int .i64 0) := by have d := Y1.out; exact ⟨d.cell 0 rfl, d.cell 1 rfl, d.cell 2 rfl, d.cell 3 rfl, d.cell 4 rfl, d.cell 5 rfl, d.cell 6 rfl, d.cell 7 rfl, d.cell 8 rfl, d.cell 9 rfl, d.cell 10 rfl⟩
  obtain ⟨y0, y1, y2, y3, y4, y5, y6, y7, y8, y9, y10⟩ : V.frozen? ⟨w.heap.size + 1, 0, none⟩ = false ∧ V.frozen? ⟨w.heap.size + 1, 1, none⟩ = false ∧ V.frozen? ⟨w.heap.size + 1, 2, none⟩ = false ∧ V.frozen? ⟨w.heap.size + 1, 3, none⟩ = false ∧ V.frozen? ⟨w.heap.size + 1, 4, none⟩ = false ∧ V.frozen? ⟨w.heap.size + 1, 5, none⟩ = false ∧ V.frozen? ⟨w.heap.size + 1, 6, none⟩ = false ∧ V.frozen? ⟨w.heap.size + 1, 7, none⟩ = false ∧ V.frozen? ⟨w.heap.size + 1, 8, none⟩ = false ∧ V.frozen? ⟨w.heap.size + 1, 9, none⟩ = false ∧ V.frozen? ⟨w.heap.size + 1, 10, none⟩ = false := by have d := Y1.out; exact ⟨d.free 0, d.free 1, d.free 2, d.free 3, d.free 4, d.free 5, d.free 6, d.free 7, d.free 8, d.free 9, d.free 10⟩
  go_wp2_with ((refine (HW.out _ _ _ _).mono ?_); rintro e wq ⟨rfl, rfl⟩)
  refine bodyPost_ret (v := Cf.val ⟨kk, wz 0 a1 (255 - kk), ss, wz 1 a3 64, wz (kk * ss) a4 1048576, wz (kk * ss) a5 1048576, wz 1 a6 65536, wz 1 a7 65536, wz 1 a8 4096, wz 1 a9 64, wz 1 a10 1048576⟩) (res_near rfl (set11_at Y1.out)) rfl ⟨rfl, set11_below YB.out (by omega)⟩
end Go.Proofs.Ytedecminaopgaaa

/- Proved: what Check, Block and Plain of package config answer for all settings. Conditions: those that the theorems name. -/
namespace Go.Proofs.Ytedecminaopgaaa
open Go.ChangeShapes Go.WideShapes Go.ChangeAt Go.RowKit

/-- may a number be? -/
def cfInZ (n a b : Int) : Bool := decide (a ≤ n) && decide (n ≤ b)
theorem cfInZ_iff (n a b : Int) : cfInZ n a b = true ↔ a ≤ n ∧ n ≤ b := by unfold cfInZ; simp
/-- may settings be? -/
def Cf.ok (c : Cf) : Bool := cfInZ c.k 1 32 && (cfInZ c.r 0 (255 - c.k) && (cfInZ c.s 1 1024 && (cfInZ c.w 1 64 && (cfInZ c.b (c.k * c.s) 1048576 && (cfInZ c.q (c.k * c.s) 1048576 && (cfInZ c.u 1 65536 && (cfInZ c.t 1 65536 && (cfInZ c.o 1 4096 && (cfInZ c.x 1 64 && (cfInZ c.i 1 1048576))))))))))
def Cf.chk (c : Cf) : Int := if c.ok = true then 0 else 2
/-- are two settings the same? -/
def Cf.eqB (d e : Cf) : Bool := d.k == e.k && (d.r == e.r && (d.s == e.s && (d.w == e.w && (d.b == e.b && (d.q == e.q && (d.u == e.u && (d.t == e.t && (d.o == e.o && (d.x == e.x && (d.i == e.i))))))))))
theorem cf_eq_iff (d e : Cf) : d.eqB e = true ↔ d = e := by
  obtain ⟨a0, a1, a2, a3, a4, a5, a6, a7, a8, a9, a10⟩ := d
  obtain ⟨b0, b1, b2, b3, b4, b5, b6, b7, b8, b9, b10⟩ := e
  unfold Cf.eqB
  simp
theorem cf_neq (d e : Cf) (w : World) : (binOp .neq 23 d.val e.val).run Try.prog w = .ok (.bool (!d.eqB e)) w := by
  unfold Cf.val Cf.eqB
  rw [run_neq_struct, run_equalIn_agg w _ 23 _ _ (by kernel_rfl) (by kernel_rfl)]
  simp [go_sem, Try.underlying23]
  repeat' (split <;> simp_all)
/-- the nearest settings are the same ones, if all may be. -/
theorem near_ok (c : Cf) : c.near.eqB c = c.ok := by
  rw [Bool.eq_iff_iff, cf_eq_iff]
  obtain ⟨a0, a1, a2, a3, a4, a5, a6, a7, a8, a9, a10⟩ := c
  unfold Cf.near Cf.ok
  simp only [Bool.and_eq_true, cfInZ_iff, Cf.mk.injEq]
  have hk := wz_in 1 a0 32 (by decide)
  have hs := wz_in 1 a2 1024 (by decide)
  have ek := wz_id 1 a0 32 (by decide)
  have es := wz_id 1 a2 1024 (by decide)
  generalize wz 1 a0 32 = kk at *
  generalize wz 1 a2 1024 = ss at *
  have hp := block_in kk ss hk.1 hk.2 hs.1 hs.2
  rw [ek, es, wz_id 0 a1 (255 - kk) (by omega), wz_id 1 a3 64 (by decide), wz_id (kk * ss) a4 1048576 (by omega), wz_id (kk * ss) a5 1048576 (by omega), wz_id 1 a6 65536 (by decide), wz_id 1 a7 65536 (by decide), wz_id 1 a8 4096 (by decide), wz_id 1 a9 64 (by decide), wz_id 1 a10 1048576 (by decide)]
  constructor
  · rintro ⟨h0, h1, h2, h⟩
    have e0 := ek.2 h0
    have e2 := es.2 h2
    subst e0 e2
    exact ⟨h0, h1, h2, h⟩
  · rintro ⟨h0, h1, h2, h⟩
    have e0 := ek.2 h0
    have e2 := es.2 h2
    subst e0 e2
    exact ⟨h0, h1, h2, h⟩
set_option maxRecDepth 100000 in
set_option maxHeartbeats 3200000 in
theorem cf_check (c : Cf) (w : World) : Calls Try.prog 26 #[c.val] w (GivesCI w c.chk) := by
  have HN := Lib.hid (fun w => cf_nearest c w)
  have HE := Lib.hid (near_ok c)
  have E := fun w => cf_neq c.near c w
  rw [HE.out] at E
  unfold Cf.chk
  generalize c.near = d at *
  generalize c.ok = o at *
  clear HE
  obtain ⟨a0, a1, a2, a3, a4, a5, a6, a7, a8, a9, a10⟩ := c
  obtain ⟨b0, b1, b2, b3, b4, b5, b6, b7, b8, b9, b10⟩ := d
  unfold GivesCf Cf.val at *
  dsimp only at *
  have X0 : Hid (At (w.alloc (.cells #[.int .i64 a0, .int .i64 a1, .int .i64 a2, .int .i64 a3, .int .i64 a4, .int .i64 a5, .int .i64 a6, .int .i64 a7, .int .i64 a8, .int .i64 a9, .int .i64 a10] 23)) w.heap.size 23 [.int .i64 a0, .int .i64 a1, .int .i64 a2, .int .i64 a3, .int .i64 a4, .int .i64 a5, .int .i64 a6, .int .i64 a7, .int .i64 a8, .int .i64 a9, .int .i64 a10]) := Lib.hid (At.new w 23 [.int .i64 a0, .int .i64 a1, .int .i64 a2, .int .i64 a3, .int .i64 a4, .int .i64 a5, .int .i64 a6, .int .i64 a7, .int .i64 a8, .int .i64 a9, .int .i64 a10])
  have XB : Hid (Below w.heap.size w (w.alloc (.cells #[.int .i64 a0, .int .i64 a1, .int .i64 a2, .int .i64 a3, .int .i64 a4, .int .i64 a5, .int .i64 a6, .int .i64 a7, .int .i64 a8, .int .i64 a9, .int .i64 a10] 23))) := Lib.hid ((Below.refl _ _).alloc (Nat.le_refl _) _)
  obtain ⟨V, HV⟩ : ∃ V, V = w.alloc (.cells #[.int .i64 a0, .int .i64 a1, .int .i64 a2, .int .i64 a3, .int .i64 a4, .int .i64 a5, .int .i64 a6, .int .i64 a7, .int .i64 a8, .int .i64 a9, .int .i64 a10] 23) := ⟨_, rfl⟩
  rw [← HV] at X0 XB
  go_enter Try.func26, Try.ntmps26
  go_upto_region 1 with fail
  rw [← HV]
  clear HV
  have KP : Hid (∀ W, Below V.heap.size V W → W.cell? ⟨w.heap.size, 0, none⟩ = some (.int .i64 a0) ∧ W.cell? ⟨w.heap.size, 1, none⟩ = some (.int .i64 a1) ∧ W.cell? ⟨w.heap.size, 2, none⟩ = some (.int .i64 a2) ∧ W.cell? ⟨w.heap.size, 3, none⟩ = some (.int .i64 a3) ∧ W.cell? ⟨w.heap.size, 4, none⟩ = some (.int .i64 a4) ∧ W.cell? ⟨w.heap.size, 5, none⟩ = some (.int .i64 a5) ∧ W.cell? ⟨w.heap.size, 6, none⟩ = some (.int .i64 a6) ∧ W.cell? ⟨w.heap.size, 7, none⟩ = some (.int .i64 a7) ∧ W.cell? ⟨w.heap.size, 8, none⟩ = some (.int .i64 a8) ∧ W.cell? ⟨w.heap.size, 9, none⟩ = some (.int .i64 a9) ∧ W.cell? ⟨w.heap.size, 10, none⟩ = some (.int .i64 a10)) := Lib.hid fun W h => by
    have d := X0.out.below h X0.out.lt
    exact ⟨d.cell 0 rfl, d.cell 1 rfl, d.cell 2 rfl, d.cell 3 rfl, d.cell 4 rfl, d.cell 5 rfl, d.cell 6 rfl, d.cell 7 rfl, d.cell 8 rfl, d.cell 9 rfl, d.cell 10 rfl⟩
  have QQ : Hid (Below V.heap.size V V.drew) := Lib.hid (Below.refl V.heap.size V).drew
  obtain ⟨k0, k1, k2, k3, k4, k5, k6, k7, k8, k9, k10⟩ := KP.out V.drew QQ.out
  cases o
  all_goals
    go_region_held3 (fun W => W.cell? ⟨w.heap.size, 0, none⟩ = some (.int .i64 a0) ∧ W.cell? ⟨w.heap.size, 1, none⟩ = some (.int .i64 a1) ∧ W.cell? ⟨w.heap.size, 2, none⟩ = some (.int .i64 a2) ∧ W.cell? ⟨w.heap.size, 3, none⟩ = some (.int .i64 a3) ∧ W.cell? ⟨w.heap.size, 4, none⟩ = some (.int .i64 a4) ∧ W.cell? ⟨w.heap.size, 5, none⟩ = some (.int .i64 a5) ∧ W.cell? ⟨w.heap.size, 6, none⟩ = some (.int .i64 a6) ∧ W.cell? ⟨w.heap.size, 7, none⟩ = some (.int .i64 a7) ∧ W.cell? ⟨w.heap.size, 8, none⟩ = some (.int .i64 a8) ∧ W.cell? ⟨w.heap.size, 9, none⟩ = some (.int .i64 a9) ∧ W.cell? ⟨w.heap.size, 10, none⟩ = some (.int .i64 a10))
      (first | go_keep | exact KP.out _ QQ.out)
      (first
      | ((with_reducible refine (HN.out _).mono ?_); rintro e wq ⟨rfl, gq⟩; have QN := Lib.hid (QQ.out.trans (gq.mono QQ.out.size)); clear gq QQ; have QQ := QN; clear QN))
    go_wp2_with fail
    go_ret
    exact ⟨rfl, XB.out.trans (QQ.out.mono XB.out.size)⟩
/-- settings that may be. -/
def plainC : Cf := ⟨4, 2, 16, 4, 256, 256, 64, 4096, 16, 2, 8⟩
theorem cf_lims {c : Cf} (h : c.ok = true) : (1 ≤ c.k ∧ c.k ≤ 32) ∧ (0 ≤ c.r ∧ c.r ≤ 255 - c.k) ∧ (1 ≤ c.s ∧ c.s ≤ 1024) ∧ (1 ≤ c.w ∧ c.w ≤ 64) ∧ (c.k * c.s ≤ c.b ∧ c.b ≤ 1048576) := by
  unfold Cf.ok at h
  simp only [Bool.and_eq_true, cfInZ_iff] at h
  exact ⟨h.1, h.2.1, h.2.2.1, h.2.2.2.1, h.2.2.2.2.1⟩
end Go.Proofs.Ytedecminaopgaaa

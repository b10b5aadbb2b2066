/- Proved: what the document's Take of rto answers for all numbers. Conditions: those that the theorems name. -/
import Derived.Test.YtnnedfpbkfopfaaRtoTake
namespace Go.Proofs.Ytnnedfpbkfopfaa
open Go.ChangeShapes Go.WideShapes Go.ChangeAt Go.RowKit

theorem box2_at (w : World) (o : Obj) (x0 x1 x2 : Int) : At ((w.alloc o).alloc (.cells #[.int .i64 x0, .int .i64 x1, .int .i64 x2] 23)) (w.heap.size + 1) 23 [.int .i64 x0, .int .i64 x1, .int .i64 x2] := by
  have h := At.new (w.alloc o) 23 [.int .i64 x0, .int .i64 x1, .int .i64 x2]
  simpa using h
theorem box2_below (w : World) (o p : Obj) : Below w.heap.size w ((w.alloc o).alloc p) := ((Below.refl _ _).alloc (Nat.le_refl _) _).alloc (by simp) _

theorem fine_no {r : Rt} {s : Int} (h : fineB r s = false) : (s < 0) ∨ (0 ≤ s ∧ 1073741824 < s) ∨ ((0 ≤ s ∧ s ≤ 1073741824) ∧ r.m < 0) ∨ ((0 ≤ s ∧ s ≤ 1073741824) ∧ 0 ≤ r.m ∧ 1073741824 < r.m) ∨ ((0 ≤ s ∧ s ≤ 1073741824) ∧ (0 ≤ r.m ∧ r.m ≤ 1073741824) ∧ r.v < 0) ∨ ((0 ≤ s ∧ s ≤ 1073741824) ∧ (0 ≤ r.m ∧ r.m ≤ 1073741824) ∧ 0 ≤ r.v ∧ 1073741824 < r.v) ∨ ((0 ≤ s ∧ s ≤ 1073741824) ∧ (0 ≤ r.m ∧ r.m ≤ 1073741824) ∧ (0 ≤ r.v ∧ r.v ≤ 1073741824) ∧ r.n < 0) := by
  have : ¬ fineB r s = true := by simp [h]
  rw [fine_iff] at this
  omega

set_option maxRecDepth 100000 in
set_option maxHeartbeats 3200000 in
theorem rtake_bad (r : Rt) (s : Int) (w : World) (h : fineB r s = false) : Calls Try.prog 7 #[r.val, .int .i64 s] w (GivesRt w ⟨0, 0, 0⟩ 2) := by
  obtain ⟨W, HW, A, A2, B, hs⟩ := boxes r w
  have HA2 := Lib.hid A2
  have HB := Lib.hid B
  have c0 := A.cell 0 rfl
  have c1 := A.cell 1 rfl
  have c2 := A.cell 2 rfl
  have x0 := A2.cell 0 rfl
  have x1 := A2.cell 1 rfl
  have x2 := A2.cell 2 rfl
  have y0 := A2.free 0
  have y1 := A2.free 1
  have y2 := A2.free 2
  have hc := fine_no h
  obtain ⟨m, v, n⟩ := r
  dsimp only at *
  unfold Rt.val
  clear HA2 HB A A2 B hs h
  subst HW
  rcases hc with hc | ⟨h0, hc⟩ | ⟨⟨h0, h1⟩, hc⟩ | ⟨⟨h0, h1⟩, h2, hc⟩ | ⟨⟨h0, h1⟩, ⟨h2, h3⟩, hc⟩ | ⟨⟨h0, h1⟩, ⟨h2, h3⟩, h4, hc⟩ | ⟨⟨h0, h1⟩, ⟨h2, h3⟩, ⟨h4, h5⟩, hc⟩
  all_goals
    go_enter Try.func7, Try.ntmps7
    go_wp2_with fail
    refine bodyPost_ret (v := .tuple #[Rt.val ⟨0, 0, 0⟩, .int .i64 2]) (res_rtake rfl rfl (box2_at _ _ _ _ _)) rfl ⟨rfl, box2_below _ _ _⟩

set_option maxRecDepth 100000 in
set_option maxHeartbeats 1600000 in
theorem rtake_good (r : Rt) (s : Int) (w : World) (h : fineB r s = true) : Calls Try.prog 7 #[r.val, .int .i64 s] w (GivesRt w (takeR r s) 0) := by
  obtain ⟨W, HW, A, A2, B, hs⟩ := boxes r w
  have HA2 := Lib.hid A2
  have HB := Lib.hid B
  have c0 := A.cell 0 rfl
  have c1 := A.cell 1 rfl
  have c2 := A.cell 2 rfl
  have x0 := A2.cell 0 rfl
  have x1 := A2.cell 1 rfl
  have x2 := A2.cell 2 rfl
  have y0 := A2.free 0
  have y1 := A2.free 1
  have y2 := A2.free 2
  unfold takeR
  rw [if_pos h]
  obtain ⟨⟨s0, s1⟩, ⟨m0, m1⟩, ⟨v0, v1⟩, n0⟩ := (fine_iff r s).1 h
  obtain ⟨m, v, n⟩ := r
  dsimp only at *
  unfold Rt.val
  clear HA2 HB A A2 B hs h
  subst HW
  by_cases hn : n = 0
  · subst hn
    rw [if_pos rfl]
    go_enter Try.func7, Try.ntmps7
    go_wp2_with fail
    refine bodyPost_ret (v := .tuple #[Rt.val (knownR (8 * s) (2 * s) 0), .int .i64 0]) (res_rtake rfl rfl (box2_at _ _ _ _ _)) rfl ⟨rfl, box2_below _ _ _⟩
  · rw [if_neg hn]
    have hn' : (n == 0) = false := by simpa using hn
    have hd0 : -134217728 ≤ s - m / 8 := by omega
    have hd1 : s - m / 8 ≤ 1073741824 := by omega
    have hz : (0 : Int) - (s - m / 8) = -(s - m / 8) := by omega
    have hn0 : 0 ≤ min n 1073741823 := by omega
    have hn1 : min n 1073741823 ≤ 1073741823 := by omega
    go_enter Try.func7, Try.ntmps7
    go_wp2_with fail
    refine bodyPost_ret (v := .tuple #[Rt.val (knownR (m + (s - m / 8)) (v + absI (s - m / 8) - v / 4) n), .int .i64 0]) (res_rtake rfl rfl (box2_at _ _ _ _ _)) rfl ⟨rfl, box2_below _ _ _⟩
theorem rtake_any (r : Rt) (s : Int) (w : World) : Calls Try.prog 7 #[r.val, .int .i64 s] w (GivesRt w (takeR r s) (takeE r s)) := by
  cases h : fineB r s
  · have e1 : takeR r s = ⟨0, 0, 0⟩ := by unfold takeR; rw [h]; rfl
    have e2 : takeE r s = 2 := by unfold takeE; rw [h]; rfl
    rw [e1, e2]; exact rtake_bad r s w h
  · have e2 : takeE r s = 0 := by unfold takeE; rw [h]; rfl
    rw [e2]; exact rtake_good r s w h
end Go.Proofs.Ytnnedfpbkfopfaa

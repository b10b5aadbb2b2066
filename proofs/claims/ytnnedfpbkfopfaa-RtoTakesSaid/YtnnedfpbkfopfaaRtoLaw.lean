/- Proved: the walks of the laws of package rto on what is known behind a sample, and on doubling. Conditions: those that the theorems name. -/
import Derived.Test.YtnnedfpbkfopfaaRtoRef
import Derived.Test.YtnnedfpbkfopfaaRtoWait
import Derived.Test.YtnnedfpbkfopfaaRtoBack
import Derived.Deep.RegionHeld3
namespace Go.Proofs.Ytnnedfpbkfopfaa
open Go.ChangeShapes Go.WideShapes Go.ChangeAt Go.RowKit

theorem take_as (m v n s m' v' n' z : Int) (w : World) (h1 : takeR ⟨m, v, n⟩ s = ⟨m', v', n'⟩) (h2 : takeE ⟨m, v, n⟩ s = z) : Calls Try.prog 6 #[.agg #[.int .i64 m, .int .i64 v, .int .i64 n], .int .i64 s] w fun e w' => e = .returned (.tuple #[.agg #[.int .i64 m', .int .i64 v', .int .i64 n'], .int .i64 z]) ∧ Below w.heap.size w w' := by
  have h := take_any ⟨m, v, n⟩ s w
  rw [h1, h2] at h
  exact h
theorem timeout_as (m v n l z : Int) (w : World) (hm : m ≤ 9223372036854775807) (hv : v ≤ 9223372036854775807) (h : waitZ ⟨m, v, n⟩ l = z) : Calls Try.prog 8 #[.agg #[.int .i64 m, .int .i64 v, .int .i64 n], .int .i64 l] w fun e w' => e = .returned (.int .i64 z) ∧ Below w.heap.size w w' := by
  have h' := timeout_any ⟨m, v, n⟩ l w hm hv
  rw [h] at h'
  exact h'
theorem backoff_as (l t z : Int) (w : World) (ht : t ≤ 9223372036854775807) (h : boZ l t = z) : Calls Try.prog 11 #[.int .i64 l, .int .i64 t] w fun e w' => e = .returned (.int .i64 z) ∧ w = w' := h ▸ backoff_any l t w ht
theorem same_rt (m v n : Int) (w : World) : (binOp .eql 23 (.agg #[.int .i64 m, .int .i64 v, .int .i64 n]) (.agg #[.int .i64 m, .int .i64 v, .int .i64 n])).run Try.prog w = .ok (.bool true) w := by
  have h := eq_rt ⟨m, v, n⟩ ⟨m, v, n⟩ w
  simpa [Rt.val] using h

set_option maxRecDepth 100000 in
set_option maxHeartbeats 3200000 in
theorem rto_awake (w : World) : Calls Try.prog 10 #[] w fun e w' => e = .returned (.bool true) ∧ Below w.heap.size w w' := by
  have E := same_rt
  go_enter Try.func10, Try.ntmps10
  go_wp2_with fail
  refine (take_as 0 0 0 10 80 20 1 0 _ (by kernel_rfl) (by kernel_rfl)).mono ?_; rintro e w1 ⟨rfl, g⟩
  have B1 : Hid (Below w.heap.size w (w1.alloc (.cells #[.int .i64 80, .int .i64 20, .int .i64 1] 23))) := Lib.hid (g.alloc g.size _)
  have A1 := At.new w1 23 [.int .i64 80, .int .i64 20, .int .i64 1]
  have H1 := Lib.hid A1
  have c0 := A1.cell 0 rfl
  have c1 := A1.cell 1 rfl
  have c2 := A1.cell 2 rfl
  clear g A1
  go_wp2_with fail
  clear c0 c1 c2
  change Hid (At (w1.alloc (.cells #[.int .i64 80, .int .i64 20, .int .i64 1] 23)) _ _ _) at H1
  generalize w1.alloc (.cells #[.int .i64 80, .int .i64 20, .int .i64 1] 23) = W1 at *
  refine (take_as 80 20 1 18 88 23 2 0 _ (by kernel_rfl) (by kernel_rfl)).mono ?_; rintro e w2 ⟨rfl, g⟩
  have B2 : Hid (Below w.heap.size w (w2.alloc (.cells #[.int .i64 88, .int .i64 23, .int .i64 2] 23))) := Lib.hid ((B1.out.trans (g.mono B1.out.size)).alloc (Nat.le_trans B1.out.size g.size) _)
  have A1 := (H1.out.below g H1.out.lt).alloc (.cells #[.int .i64 88, .int .i64 23, .int .i64 2] 23)
  have A2 := At.new w2 23 [.int .i64 88, .int .i64 23, .int .i64 2]
  clear H1 B1
  have H1 := Lib.hid A1
  have H2 := Lib.hid A2
  have c0 := A1.cell 0 rfl
  have c1 := A1.cell 1 rfl
  have c2 := A1.cell 2 rfl
  clear g A1 A2
  go_wp2_with fail
  clear c0 c1 c2
  change Hid (At (w2.alloc (.cells #[.int .i64 88, .int .i64 23, .int .i64 2] 23)) w2.heap.size _ _) at H2
  generalize w2.alloc (.cells #[.int .i64 88, .int .i64 23, .int .i64 2] 23) = W2 at *
  refine (take_as 80 20 1 (-1) 0 0 0 2 _ (by kernel_rfl) (by kernel_rfl)).mono ?_; rintro e w3 ⟨rfl, g⟩
  have B3 : Hid (Below w.heap.size w (w3.alloc (.cells #[.int .i64 0, .int .i64 0, .int .i64 0] 23))) := Lib.hid ((B2.out.trans (g.mono B2.out.size)).alloc (Nat.le_trans B2.out.size g.size) _)
  have A1 := (H1.out.below g H1.out.lt).alloc (.cells #[.int .i64 0, .int .i64 0, .int .i64 0] 23)
  have A2 := (H2.out.below g H2.out.lt).alloc (.cells #[.int .i64 0, .int .i64 0, .int .i64 0] 23)
  clear H1 H2 B2
  have H1 := Lib.hid A1
  have c0 := A1.cell 0 rfl
  have c1 := A1.cell 1 rfl
  have c2 := A1.cell 2 rfl
  have d0 := A2.cell 0 rfl
  have d1 := A2.cell 1 rfl
  have d2 := A2.cell 2 rfl
  clear g A1 A2
  go_wp2_with fail
  generalize w3.alloc (.cells #[.int .i64 0, .int .i64 0, .int .i64 0] 23) = W3 at *
  refine (backoff_as 3 2 12 _ (by omega) (by kernel_rfl)).mono ?_; rintro e w4 ⟨rfl, rfl⟩
  go_wp2_with fail
  refine (backoff_as 0 (-1) 1 _ (by omega) (by kernel_rfl)).mono ?_; rintro e w4 ⟨rfl, rfl⟩
  go_wp2_with fail
  refine (backoff_as 1 99 1048576 _ (by omega) (by kernel_rfl)).mono ?_; rintro e w4 ⟨rfl, rfl⟩
  go_wp2_with fail
  refine (timeout_as 80 20 1 1 30 _ (by omega) (by omega) (by kernel_rfl)).mono ?_; rintro e w5 ⟨rfl, g⟩
  have B5 := Lib.hid (B3.out.trans (g.mono B3.out.size))
  have A1 := H1.out.below g H1.out.lt
  clear c0 c1 c2 d0 d1 d2 B3
  have c0 := A1.cell 0 rfl
  have c1 := A1.cell 1 rfl
  have c2 := A1.cell 2 rfl
  clear g A1 H1
  go_wp2_with fail
  refine (timeout_as 80 20 1 50 50 _ (by omega) (by omega) (by kernel_rfl)).mono ?_; rintro e w6 ⟨rfl, g⟩
  have B6 := Lib.hid (B5.out.trans (g.mono B5.out.size))
  clear g c0 c1 c2
  go_wp2_with fail
  refine (timeout_as 0 0 0 7 7 _ (by omega) (by omega) (by kernel_rfl)).mono ?_; rintro e w7 ⟨rfl, g⟩
  have B7 := Lib.hid (B6.out.trans (g.mono B6.out.size))
  clear g
  go_wp2_with fail
  go_ret
  exact ⟨rfl, B7.out⟩

/-- what is known, as it came in: its numbers fit an int. -/
def Rt.In (r : Rt) : Prop := r.m ≤ 9223372036854775807 ∧ r.v ≤ 9223372036854775807
set_option maxRecDepth 100000 in
set_option maxHeartbeats 3200000 in
theorem takes_walk (r : Rt) (s l : Int) (w : World) (hr : r.In) : Calls Try.prog 3 #[r.val, .int .i64 s, .int .i64 l] w fun e w' => e = .returned (.bool true) ∧ Below w.heap.size w w' := by
  have H1 := Lib.hid (fun w => take_any r s w)
  have H2 := Lib.hid (fun w => rtake_any r s w)
  have H3 := Lib.hid (fun w => timeout_any r l w hr.1 hr.2)
  have H4 := Lib.hid (fun w => rtimeout_any r l w hr.1 hr.2)
  generalize takeR r s = q at *
  generalize takeE r s = z at *
  generalize waitZ r l = t at *
  obtain ⟨m, v, n⟩ := r
  obtain ⟨q0, q1, q2⟩ := q
  have E := same_rt q0 q1 q2
  unfold GivesRt GivesN Rt.val at *
  dsimp only at *
  clear hr
  have A0 := At.new w 23 [.int .i64 m, .int .i64 v, .int .i64 n]
  have D0 := Lib.hid A0
  have k0 := A0.cell 0 rfl
  have k1 := A0.cell 1 rfl
  have k2 := A0.cell 2 rfl
  clear A0
  go_enter Try.func3, Try.ntmps3
  go_wp2_with fail
  clear k0 k1 k2
  refine (H1.out _).mono ?_; rintro e w1 ⟨rfl, g⟩
  have B1 : Hid (Below w.heap.size w (w1.alloc (.cells #[.int .i64 q0, .int .i64 q1, .int .i64 q2] 23))) := Lib.hid ((((Below.refl _ _).alloc (Nat.le_refl _) _).trans (g.mono (by simp))).alloc (by have := g.size; simp at this; omega) _)
  have D1 := (D0.out.below g D0.out.lt).alloc (.cells #[.int .i64 q0, .int .i64 q1, .int .i64 q2] 23)
  have A1 := Lib.hid (At.new w1 23 [.int .i64 q0, .int .i64 q1, .int .i64 q2])
  have k0 := D1.cell 0 rfl
  have k1 := D1.cell 1 rfl
  have k2 := D1.cell 2 rfl
  have DD := Lib.hid D1
  clear D1 g D0
  go_wp2_with fail
  clear k0 k1 k2
  change Hid (At (w1.alloc (.cells #[.int .i64 q0, .int .i64 q1, .int .i64 q2] 23)) _ _ _) at A1
  generalize w1.alloc (.cells #[.int .i64 q0, .int .i64 q1, .int .i64 q2] 23) = W1 at *
  refine (H2.out _).mono ?_; rintro e w2 ⟨rfl, g⟩
  have B2 : Hid (Below w.heap.size w (w2.alloc (.cells #[.int .i64 q0, .int .i64 q1, .int .i64 q2] 23))) := Lib.hid ((B1.out.trans (g.mono B1.out.size)).alloc (Nat.le_trans B1.out.size g.size) _)
  have D2 := Lib.hid ((DD.out.below g DD.out.lt).alloc (.cells #[.int .i64 q0, .int .i64 q1, .int .i64 q2] 23))
  have A2 := Lib.hid ((A1.out.below g A1.out.lt).alloc (.cells #[.int .i64 q0, .int .i64 q1, .int .i64 q2] 23))
  have C2 := Lib.hid (At.new w2 23 [.int .i64 q0, .int .i64 q1, .int .i64 q2])
  clear g A1 DD B1
  go_wp2_with fail
  change Hid (At (w2.alloc (.cells #[.int .i64 q0, .int .i64 q1, .int .i64 q2] 23)) w2.heap.size _ _) at C2
  generalize w2.alloc (.cells #[.int .i64 q0, .int .i64 q1, .int .i64 q2] 23) = W2 at *
  have KP : Hid (∀ w6, Below W2.heap.size W2 w6 → w6.cell? ⟨w.heap.size, 0, none⟩ = some (.int .i64 m) ∧ w6.cell? ⟨w.heap.size, 1, none⟩ = some (.int .i64 v) ∧ w6.cell? ⟨w.heap.size, 2, none⟩ = some (.int .i64 n) ∧ w6.cell? ⟨w1.heap.size, 0, none⟩ = some (.int .i64 q0) ∧ w6.cell? ⟨w1.heap.size, 1, none⟩ = some (.int .i64 q1) ∧ w6.cell? ⟨w1.heap.size, 2, none⟩ = some (.int .i64 q2) ∧ w6.cell? ⟨w2.heap.size, 0, none⟩ = some (.int .i64 q0) ∧ w6.cell? ⟨w2.heap.size, 1, none⟩ = some (.int .i64 q1) ∧ w6.cell? ⟨w2.heap.size, 2, none⟩ = some (.int .i64 q2)) := Lib.hid fun w6 h => by
    have d := D2.out.below h D2.out.lt
    have a := A2.out.below h A2.out.lt
    have c := C2.out.below h C2.out.lt
    exact ⟨d.cell 0 rfl, d.cell 1 rfl, d.cell 2 rfl, a.cell 0 rfl, a.cell 1 rfl, a.cell 2 rfl, c.cell 0 rfl, c.cell 1 rfl, c.cell 2 rfl⟩
  have QQ : Hid (Below W2.heap.size W2 W2.drew) := Lib.hid (Below.refl W2.heap.size W2).drew
  clear D2 A2 C2
  obtain ⟨k0, k1, k2, k3, k4, k5, k6, k7, k8⟩ := KP.out W2.drew QQ.out
  go_region_held3 (fun w6 => w6.cell? ⟨w.heap.size, 0, none⟩ = some (.int .i64 m) ∧ w6.cell? ⟨w.heap.size, 1, none⟩ = some (.int .i64 v) ∧ w6.cell? ⟨w.heap.size, 2, none⟩ = some (.int .i64 n) ∧ w6.cell? ⟨w1.heap.size, 0, none⟩ = some (.int .i64 q0) ∧ w6.cell? ⟨w1.heap.size, 1, none⟩ = some (.int .i64 q1) ∧ w6.cell? ⟨w1.heap.size, 2, none⟩ = some (.int .i64 q2) ∧ w6.cell? ⟨w2.heap.size, 0, none⟩ = some (.int .i64 q0) ∧ w6.cell? ⟨w2.heap.size, 1, none⟩ = some (.int .i64 q1) ∧ w6.cell? ⟨w2.heap.size, 2, none⟩ = some (.int .i64 q2))
    (first | go_keep | exact KP.out _ QQ.out)
    (first
    | ((with_reducible refine (H3.out _).mono ?_); rintro e wq ⟨rfl, gq⟩; have QN := Lib.hid (QQ.out.trans (gq.mono QQ.out.size)); clear gq QQ; have QQ := QN; clear QN)
    | ((with_reducible refine (H4.out _).mono ?_); rintro e wq ⟨rfl, gq⟩; have QN := Lib.hid (QQ.out.trans (gq.mono QQ.out.size)); clear gq QQ; have QQ := QN; clear QN)
    | ((with_reducible refine (rto_awake _).mono ?_); rintro e wq ⟨rfl, gq⟩; have QN := Lib.hid (QQ.out.trans (gq.mono QQ.out.size)); clear gq QQ; have QQ := QN; clear QN))
  go_wp2_with fail
  go_ret
  exact ⟨rfl, B2.out.trans (QQ.out.mono B2.out.size)⟩

set_option maxRecDepth 100000 in
set_option maxHeartbeats 3200000 in
theorem backs_walk (l t : Int) (w : World) (ht : t ≤ 9223372036854775807) : Calls Try.prog 4 #[.int .i64 l, .int .i64 t] w fun e w' => e = .returned (.bool true) ∧ Below w.heap.size w w' := by
  have H1 := Lib.hid (fun w => backoff_any l t w ht)
  have H2 := Lib.hid (fun w => backoff_any l (max t 1) w (by omega))
  have H3 := Lib.hid (fun w => rbackoff_any l t w ht)
  have H4 := Lib.hid (fun w => rbackoff_any l (max t 1) w (by omega))
  have hb := bo_bounds (wi l) t.toNat (wi_bounds l).1 (wi_bounds l).2
  have h1 : 1 ≤ boZ l t := by have := (wi_bounds l).1; unfold boZ; omega
  have h2 : boZ l t ≤ 1048576 := hb.2
  have h3 : ¬ 0 < t → boZ l t ≤ boZ l (max t 1) := fun h => by
    have e : t.toNat = 0 := by omega
    have hc := bo_bounds (wi l) (max t 1).toNat (wi_bounds l).1 (wi_bounds l).2
    unfold boZ
    rw [e]
    exact hc.1
  clear hb ht
  generalize boZ l t = a at *
  generalize boZ l (max t 1) = b at *
  by_cases h : 0 < t
  · clear h3
    go_enter Try.func4, Try.ntmps4
    go_wp2_with fail
    refine (H1.out _).mono ?_; rintro e w1 ⟨rfl, rfl⟩
    go_wp2_with fail
    refine (H2.out _).mono ?_; rintro e w1 ⟨rfl, rfl⟩
    go_wp2_with fail
    refine (H3.out _).mono ?_; rintro e w1 ⟨rfl, rfl⟩
    go_wp2_with fail
    refine (H4.out _).mono ?_; rintro e w1 ⟨rfl, rfl⟩
    go_wp2_with fail
    refine (rto_awake _).mono ?_; rintro e w1 ⟨rfl, g⟩
    go_wp2_with fail
    go_ret
    exact ⟨rfl, g⟩
  · have h4 := h3 h
    clear h3
    go_enter Try.func4, Try.ntmps4
    go_wp2_with fail
    refine (H1.out _).mono ?_; rintro e w1 ⟨rfl, rfl⟩
    go_wp2_with fail
    refine (H2.out _).mono ?_; rintro e w1 ⟨rfl, rfl⟩
    go_wp2_with fail
    refine (H3.out _).mono ?_; rintro e w1 ⟨rfl, rfl⟩
    go_wp2_with fail
    refine (H4.out _).mono ?_; rintro e w1 ⟨rfl, rfl⟩
    go_wp2_with fail
    refine (rto_awake _).mono ?_; rintro e w1 ⟨rfl, g⟩
    go_wp2_with fail
    go_ret
    exact ⟨rfl, g⟩
end Go.Proofs.Ytnnedfpbkfopfaa

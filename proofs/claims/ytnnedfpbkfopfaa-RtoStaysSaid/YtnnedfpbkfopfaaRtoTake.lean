/- Proved: what Take and Timeout of package rto answer for all numbers, and the document's answers for it. Conditions: those that the theorems name. -/
import Derived.Test.YtnnedfpbkfopfaaRtoMath
namespace Go.Proofs.Ytnnedfpbkfopfaa
open Go.ChangeShapes Go.WideShapes Go.ChangeAt Go.RowKit

/-- may all of what is known, and the sample, be? -/
def fineB (r : Rt) (s : Int) : Bool := inB s && inB r.m && inB r.v && decide (0 ≤ r.n)
def takeE (r : Rt) (s : Int) : Int := if fineB r s = true then 0 else 2
def absI (d : Int) : Int := max d (-d)
def takeR (r : Rt) (s : Int) : Rt :=
  if fineB r s = true then
    (if r.n = 0 then knownR (8 * s) (2 * s) 0 else knownR (r.m + (s - r.m / 8)) (r.v + absI (s - r.m / 8) - r.v / 4) r.n)
  else ⟨0, 0, 0⟩
theorem inB_iff (n : Int) : inB n = true ↔ 0 ≤ n ∧ n ≤ 1073741824 := by unfold inB; simp
theorem fine_iff (r : Rt) (s : Int) : fineB r s = true ↔ (0 ≤ s ∧ s ≤ 1073741824) ∧ (0 ≤ r.m ∧ r.m ≤ 1073741824) ∧ (0 ≤ r.v ∧ r.v ≤ 1073741824) ∧ 0 ≤ r.n := by
  unfold fineB
  simp only [Bool.and_eq_true, inB_iff, decide_eq_true_eq, and_assoc]
/-- What is known and a number come back; nothing that was there has turned. -/
def GivesRt (W : World) (r : Rt) (z : Int) (e : Ending) (w' : World) : Prop := e = .returned (.tuple #[r.val, .int .i64 z]) ∧ Below W.heap.size W w'
theorem res_take {T : Array Value} {W : World} {b : Nat} {z x0 x1 x2 : Int} (h2 : T.getD 4 undef = .pointer (some ⟨b, 0, none⟩)) (h3 : T.getD 5 undef = .int .i64 z) (A : At W b 23 [.int .i64 x0, .int .i64 x1, .int .i64 x2]) : (results Try.f6 T).run Try.prog W = .ok (.tuple #[.agg #[.int .i64 x0, .int .i64 x1, .int .i64 x2], .int .i64 z]) W := by
  have h2' : T[4]?.getD undef = .pointer (some ⟨b, 0, none⟩) := by simpa using h2
  have h3' : T[5]?.getD undef = .int .i64 z := by simpa using h3
  have c0 := A.cell 0 rfl
  have c1 := A.cell 1 rfl
  have c2 := A.cell 2 rfl
  simp [results, Try.results6, h2', h3', c0, c1, c2, go_sem]
theorem res_rtake {T : Array Value} {W : World} {b : Nat} {z x0 x1 x2 : Int} (h2 : T.getD 4 undef = .pointer (some ⟨b, 0, none⟩)) (h3 : T.getD 5 undef = .int .i64 z) (A : At W b 23 [.int .i64 x0, .int .i64 x1, .int .i64 x2]) : (results Try.f7 T).run Try.prog W = .ok (.tuple #[.agg #[.int .i64 x0, .int .i64 x1, .int .i64 x2], .int .i64 z]) W := by
  have h2' : T[4]?.getD undef = .pointer (some ⟨b, 0, none⟩) := by simpa using h2
  have h3' : T[5]?.getD undef = .int .i64 z := by simpa using h3
  have c0 := A.cell 0 rfl
  have c1 := A.cell 1 rfl
  have c2 := A.cell 2 rfl
  simp [results, Try.results7, h2', h3', c0, c1, c2, go_sem]

/-- A box with what is known, and an empty result behind it. -/
theorem boxes (r : Rt) (w : World) : ∃ W, W = (w.alloc (.cells #[.int .i64 r.m, .int .i64 r.v, .int .i64 r.n] 23)).alloc (.cells #[.int .i64 0, .int .i64 0, .int .i64 0] 23) ∧ At W w.heap.size 23 r.cells ∧ At W (w.heap.size + 1) 23 [.int .i64 0, .int .i64 0, .int .i64 0] ∧ Below w.heap.size w W ∧ W.heap.size = w.heap.size + 2 := by
  refine ⟨_, rfl, ?_, ?_, ?_, by simp⟩
  · exact (At.new w 23 r.cells).alloc _
  · have h := At.new (w.alloc (.cells #[.int .i64 r.m, .int .i64 r.v, .int .i64 r.n] 23)) 23 [.int .i64 0, .int .i64 0, .int .i64 0]
    simpa using h
  · exact ((Below.refl _ _).alloc (Nat.le_refl _) _).alloc (by simp) _

/-- cells that were just made: what they hold, and that they may be written. -/
theorem below_set {W w : World} {B b j : Nat} {v : Value} (h : Below B w W) (hw : B ≤ w.heap.size) (hb : B ≤ b) : Below B w (W.setCell ⟨b, j, none⟩ v) := h.grown (grown_set W ⟨b, j, none⟩ v) (Nat.le_trans hw h.size) (fun k e => by injection e with e; show B ≤ k; rw [← e]; exact hb)
def set3 (W : World) (b : Nat) (x y z : Int) : World := ((W.setCell ⟨b, 0, none⟩ (.int .i64 x)).setCell ⟨b, 1, none⟩ (.int .i64 y)).setCell ⟨b, 2, none⟩ (.int .i64 z)
theorem set3_at {W : World} {b : Nat} {a c d : Value} {x y z : Int} (A : At W b 23 [a, c, d]) : At (set3 W b x y z) b 23 [.int .i64 x, .int .i64 y, .int .i64 z] := ((A.set_ 0 _).set_ 1 _).set_ 2 _
theorem set3_below {W w : World} {b : Nat} {x y z : Int} (h : Below w.heap.size w W) (hb : w.heap.size ≤ b) : Below w.heap.size w (set3 W b x y z) := below_set (below_set (below_set h (Nat.le_refl _) hb) (Nat.le_refl _) hb) (Nat.le_refl _) hb

set_option maxRecDepth 100000 in
set_option maxHeartbeats 1600000 in
theorem take_bad (r : Rt) (s : Int) (w : World) (h : fineB r s = false) : Calls Try.prog 6 #[r.val, .int .i64 s] w (GivesRt w ⟨0, 0, 0⟩ 2) := by
  obtain ⟨W, HW, A, A2, B, hs⟩ := boxes r w
  have HA2 := Lib.hid A2
  have HB := Lib.hid B
  have c0 := A.cell 0 rfl
  have c1 := A.cell 1 rfl
  have c2 := A.cell 2 rfl
  have x0 := A2.cell 0 rfl
  have x1 := A2.cell 1 rfl
  have x2 := A2.cell 2 rfl
  have y0 := A2.free 0
  have y1 := A2.free 1
  have y2 := A2.free 2
  obtain ⟨m, v, n⟩ := r
  have M0 := Lib.hid (fun w => mayBe_any s w)
  have M1 := Lib.hid (fun w => mayBe_any m w)
  have M2 := Lib.hid (fun w => mayBe_any v w)
  unfold fineB at h
  dsimp only at *
  unfold Rt.val
  clear A A2 B hs
  generalize inB s = b0 at *
  generalize inB m = b1 at *
  generalize inB v = b2 at *
  cases b0
  · clear h M1 M2
    go_enter Try.func6, Try.ntmps6
    go_wp2_with fail
    rw [← HW]; clear HW
    refine (M0.out _).mono ?_; rintro e w1 ⟨rfl, rfl⟩
    go_wp2_with fail
    refine bodyPost_ret (v := .tuple #[Rt.val ⟨0, 0, 0⟩, .int .i64 2]) (res_take rfl rfl (set3_at HA2.out)) rfl ⟨rfl, set3_below HB.out (by omega)⟩
  cases b1
  · clear h M2
    go_enter Try.func6, Try.ntmps6
    go_wp2_with fail
    rw [← HW]; clear HW
    refine (M0.out _).mono ?_; rintro e w1 ⟨rfl, rfl⟩
    go_wp2_with fail
    refine (M1.out _).mono ?_; rintro e w1 ⟨rfl, rfl⟩
    go_wp2_with fail
    refine bodyPost_ret (v := .tuple #[Rt.val ⟨0, 0, 0⟩, .int .i64 2]) (res_take rfl rfl (set3_at HA2.out)) rfl ⟨rfl, set3_below HB.out (by omega)⟩
  cases b2
  · clear h
    go_enter Try.func6, Try.ntmps6
    go_wp2_with fail
    rw [← HW]; clear HW
    refine (M0.out _).mono ?_; rintro e w1 ⟨rfl, rfl⟩
    go_wp2_with fail
    refine (M1.out _).mono ?_; rintro e w1 ⟨rfl, rfl⟩
    go_wp2_with fail
    refine (M2.out _).mono ?_; rintro e w1 ⟨rfl, rfl⟩
    go_wp2_with fail
    refine bodyPost_ret (v := .tuple #[Rt.val ⟨0, 0, 0⟩, .int .i64 2]) (res_take rfl rfl (set3_at HA2.out)) rfl ⟨rfl, set3_below HB.out (by omega)⟩
  · have hn : n < 0 := by simpa using h
    clear h
    go_enter Try.func6, Try.ntmps6
    go_wp2_with fail
    rw [← HW]; clear HW
    refine (M0.out _).mono ?_; rintro e w1 ⟨rfl, rfl⟩
    go_wp2_with fail
    refine (M1.out _).mono ?_; rintro e w1 ⟨rfl, rfl⟩
    go_wp2_with fail
    refine (M2.out _).mono ?_; rintro e w1 ⟨rfl, rfl⟩
    go_wp2_with fail
    refine bodyPost_ret (v := .tuple #[Rt.val ⟨0, 0, 0⟩, .int .i64 2]) (res_take rfl rfl (set3_at HA2.out)) rfl ⟨rfl, set3_below HB.out (by omega)⟩

set_option maxRecDepth 100000 in
set_option maxHeartbeats 1600000 in
theorem take_good (r : Rt) (s : Int) (w : World) (h : fineB r s = true) : Calls Try.prog 6 #[r.val, .int .i64 s] w (GivesRt w (takeR r s) 0) := by
  obtain ⟨W, HW, A, A2, B, hs⟩ := boxes r w
  have HA2 := Lib.hid A2
  have HB := Lib.hid B
  have HS := Lib.hid hs
  have c0 := A.cell 0 rfl
  have c1 := A.cell 1 rfl
  have c2 := A.cell 2 rfl
  have x0 := A2.cell 0 rfl
  have x1 := A2.cell 1 rfl
  have x2 := A2.cell 2 rfl
  have y0 := A2.free 0
  have y1 := A2.free 1
  have y2 := A2.free 2
  have hw : w.heap.size < W.heap.size := by omega
  have hw1 : w.heap.size + 1 < W.heap.size := by omega
  unfold takeR
  rw [if_pos h]
  obtain ⟨⟨s0, s1⟩, ⟨m0, m1⟩, ⟨v0, v1⟩, n0⟩ := (fine_iff r s).1 h
  obtain ⟨m, v, n⟩ := r
  dsimp only at *
  have M0 : Hid (∀ w, Calls Try.prog 13 #[.int .i64 s] w fun e w' => e = .returned (.bool true) ∧ w = w') := Lib.hid (fun w => (inB_iff s).2 ⟨s0, s1⟩ ▸ mayBe_any s w)
  have M1 : Hid (∀ w, Calls Try.prog 13 #[.int .i64 m] w fun e w' => e = .returned (.bool true) ∧ w = w') := Lib.hid (fun w => (inB_iff m).2 ⟨m0, m1⟩ ▸ mayBe_any m w)
  have M2 : Hid (∀ w, Calls Try.prog 13 #[.int .i64 v] w fun e w' => e = .returned (.bool true) ∧ w = w') := Lib.hid (fun w => (inB_iff v).2 ⟨v0, v1⟩ ▸ mayBe_any v w)
  unfold Rt.val
  clear A A2 B hs h
  have HK : Hid (∀ (m v : Int) (w : World), Calls Try.prog 14 #[.int .i64 m, .int .i64 v, .int .i64 n] w fun e w' => e = .returned (knownR m v n).val ∧ Below w.heap.size w w') := Lib.hid (fun m v w => known_any m v n w n0)
  by_cases hn : n = 0
  · subst hn
    rw [if_pos rfl]
    go_enter Try.func6, Try.ntmps6
    go_wp2_with fail
    rw [← HW]; clear HW
    refine (M0.out _).mono ?_; rintro e w1 ⟨rfl, rfl⟩
    go_wp2_with fail
    refine (M1.out _).mono ?_; rintro e w1 ⟨rfl, rfl⟩
    go_wp2_with fail
    refine (M2.out _).mono ?_; rintro e w1 ⟨rfl, rfl⟩
    go_wp2_with fail
    refine (HK.out _ _ _).mono ?_; rintro e w1 ⟨rfl, g1⟩
    have A3 := HA2.out.below g1 hw1
    have z0 := A3.cell 0 rfl
    have z1 := A3.cell 1 rfl
    have z2 := A3.cell 2 rfl
    have f0 := A3.free 0
    have f1 := A3.free 1
    have f2 := A3.free 2
    have H3 := Lib.hid A3
    have G1 : Hid (Below w.heap.size w w1) := Lib.hid (HB.out.trans (g1.mono (by omega)))
    clear A3 g1
    unfold knownR Rt.val
    go_wp2_with fail
    refine bodyPost_ret (v := .tuple #[Rt.val (knownR (8 * s) (2 * s) 0), .int .i64 0]) (res_take rfl rfl (set3_at H3.out)) rfl ⟨rfl, set3_below G1.out (by omega)⟩
  · rw [if_neg hn]
    have hn' : (n == 0) = false := by simpa using hn
    have hd0 : -134217728 ≤ s - m / 8 := by omega
    have hd1 : s - m / 8 ≤ 1073741824 := by omega
    go_enter Try.func6, Try.ntmps6
    go_wp2_with fail
    rw [← HW]; clear HW
    refine (M0.out _).mono ?_; rintro e w1 ⟨rfl, rfl⟩
    go_wp2_with fail
    refine (M1.out _).mono ?_; rintro e w1 ⟨rfl, rfl⟩
    go_wp2_with fail
    refine (M2.out _).mono ?_; rintro e w1 ⟨rfl, rfl⟩
    go_wp2_with fail
    refine (HK.out _ _ _).mono ?_; rintro e w1 ⟨rfl, g1⟩
    have A3 := HA2.out.below g1 hw1
    have z0 := A3.cell 0 rfl
    have z1 := A3.cell 1 rfl
    have z2 := A3.cell 2 rfl
    have f0 := A3.free 0
    have f1 := A3.free 1
    have f2 := A3.free 2
    have H3 := Lib.hid A3
    have G1 : Hid (Below w.heap.size w w1) := Lib.hid (HB.out.trans (g1.mono (by omega)))
    clear A3 g1
    unfold knownR Rt.val
    go_wp2_with fail
    refine bodyPost_ret (v := .tuple #[Rt.val (knownR (m + (s - m / 8)) (v + absI (s - m / 8) - v / 4) n), .int .i64 0]) (res_take rfl rfl (set3_at H3.out)) rfl ⟨rfl, set3_below G1.out (by omega)⟩
theorem take_any (r : Rt) (s : Int) (w : World) : Calls Try.prog 6 #[r.val, .int .i64 s] w (GivesRt w (takeR r s) (takeE r s)) := by
  cases h : fineB r s
  · have e1 : takeR r s = ⟨0, 0, 0⟩ := by unfold takeR; rw [h]; rfl
    have e2 : takeE r s = 2 := by unfold takeE; rw [h]; rfl
    rw [e1, e2]; exact take_bad r s w h
  · have e2 : takeE r s = 0 := by unfold takeE; rw [h]; rfl
    rw [e2]; exact take_good r s w h
end Go.Proofs.Ytnnedfpbkfopfaa

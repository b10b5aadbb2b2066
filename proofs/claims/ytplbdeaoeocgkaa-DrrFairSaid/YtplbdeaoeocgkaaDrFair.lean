/- Proved: the walk of the law on fairness. Conditions: those that the theorems name. -/
import Derived.Test.YtplbdeaoeocgkaaDrFairM
namespace Go.Proofs.Ytplbdeaoeocgkaa
open Go.ChangeShapes Go.WideShapes Go.ChangeAt Go.RowKit

abbrev BX (w1 w2 : Int) (wr : World) (L : Ly) (bx : Nat) : Prop := At wr bx 43 [.int .u8 w1, .int .u8 w2] ∧ L.col bx = -1
/-- what came in, behind so many rounds. -/
def F1 (w : World) (b : Nat) (w1 w2 Q : Int) (m : Nat) (vi : Value) (wr : World) : Prop :=
  ∃ k : Nat, k ≤ m ∧ vi = .int .i64 k ∧ ∃ L R, SB w wr b L Q 16 (fW w1 w2) R ∧ BX w1 w2 wr L w.heap.size ∧ waitR R = 2 * k ∧ ((k = 0 ∧ R = []) ∨ (0 < k ∧ Phi Q w1 w2 R 0))
/-- what was recorded, and the scheduler beside it. -/
def F3 (w : World) (b : Nat) (w1 w2 Q : Int) (v1 v2 : Value) (i : Nat) (A C : Int) (l1 l2 : List Int) (wr : World) : Prop :=
  ∃ L kl R, SB w wr b L Q 16 (fW w1 w2) R ∧ BX w1 w2 wr L w.heap.size ∧ kl w.heap.size = 9 ∧ (∀ j, wr.heap.size ≤ j → kl j = 9) ∧ Zr wr (Kc L kl w.heap.size 1) v1 l1 ∧ Zr wr (Kc L kl w.heap.size 2) v2 l2 ∧ Rcs Q w1 w2 i A C l1 l2 ∧ (R = [] ∨ Phi Q w1 w2 R (A * w2 - C * w1))
def F2 (w : World) (b : Nat) (w1 w2 Q : Int) (v1 v2 va vb vi : Value) (wr : World) : Prop :=
  ∃ i : Nat, i ≤ 400 ∧ vi = .int .i64 i ∧ ∃ A C l1 l2, va = .int .i64 A ∧ vb = .int .i64 C ∧ F3 w b w1 w2 Q v1 v2 i A C l1 l2 wr
def F5 (w0 : World) (n : Nat) (i : Value) (wr : World) : Prop := ∃ j : Nat, j ≤ n ∧ i = .int .i64 j ∧ Below w0.heap.size w0 wr
theorem f1_push {Q w1 w2 : Int} {k : Nat} {R : List Qd} (o : Ok Q 16 (fW w1 w2) R) (hw : waitR R = 2 * k) (hk : k ≤ 120) (hp : (k = 0 ∧ R = []) ∨ (0 < k ∧ Phi Q w1 w2 R 0)) {x y : Int} (hx : 1 ≤ x ∧ x ≤ 16) (hy : 1 ≤ y ∧ y ≤ 16) :
    pushE (fW w1 w2) R (1, x) = 0 ∧ pushE (fW w1 w2) (push (fW w1 w2) R (1, x)) (2, y) = 0 ∧ waitR (push (fW w1 w2) (push (fW w1 w2) R (1, x)) (2, y)) = 2 * (k + 1) ∧ Phi Q w1 w2 (push (fW w1 w2) (push (fW w1 w2) R (1, x)) (2, y)) 0 := by
  have e1 : pushE (fW w1 w2) R (1, x) = 0 := f_pushE o (Or.inl rfl) hx (by omega)
  have o2 := o.push (x := (1, x)) (by decide) (fun _ => hx.2)
  have hw2 := waitR_push o e1
  have e2 : pushE (fW w1 w2) (push (fW w1 w2) R (1, x)) (2, y) = 0 := f_pushE o2 (Or.inr (Or.inl rfl)) hy (by omega)
  refine ⟨e1, e2, by rw [waitR_push o2 e2, hw2, hw]; omega, ?_⟩
  rcases hp with ⟨_, rfl⟩ | ⟨_, hp⟩
  · exact phi_first hx hy
  · exact (hp.push _).push _
theorem phi_some {Q w1 w2 f : Int} {R : List Qd} (h1 : 1 < lenR R 1) (p : R = [] ∨ Phi Q w1 w2 R f) : R ≠ [] ∧ Phi Q w1 w2 R f := by
  have hne : R ≠ [] := fun e => by rw [e] at h1; have : lenR [] 1 = 0 := rfl; omega
  rcases p with p | p
  · exact absurd p hne
  · exact ⟨hne, p⟩
theorem f2_goes {Q w1 w2 f : Int} {R S : List Qd} {x : It} (o : Ok Q 16 (fW w1 w2) R) (h1 : 1 < lenR R 1) (h2 : 1 < lenR R 2) (p : Phi Q w1 w2 R f) (g : DrGoes Q R x S) :
    Phi Q w1 w2 S (f + gain w1 w2 x) ∧ NearF Q w1 w2 (f + gain w1 w2 x) ∧ 1 ≤ x.2 ∧ x.2 ≤ 16 := by
  have hp := p.goes o g h1 h2
  exact ⟨hp, hp.near (o.goes g), (g.items o).2.2.2⟩
theorem zr_fr {w w' : World} {L L' : Ly} {kl : Nat → Nat} {B k : Nat} {v : Value} {l : List Int} (h : Zr w (Kc L kl B k) v l) (f : Fr w L w' L') : Zr w' (Kc L' kl B k) v l := by
  have h6 : Zr w (Kc L' kl B k) v l := h.mono fun g hg e => ⟨(f.col g hg).trans e.1, e.2⟩
  exact h6.tn f.tn fun g hg e c => c ((f.col g hg).symm.trans e.1)
/-- one int more in one of the two rows. -/
theorem f_put {w wr : World} {b : Nat} {L : Ly} {Q w1 w2 : Int} {R : List Qd} {kl : Nat → Nat} {k k2 : Nat} {v v2 : Value} {l l2 : List Int} (h : SB w wr b L Q 16 (fW w1 w2) R) (hb : BX w1 w2 wr L w.heap.size) (h9 : kl w.heap.size = 9) (hf : ∀ j, wr.heap.size ≤ j → kl j = 9)
    (hz : Zr wr (Kc L kl w.heap.size k) v l) (hz2 : Zr wr (Kc L kl w.heap.size k2) v2 l2) (hne : k ≠ k2) (hk9 : k ≠ 9) (hn : l.length ≤ 65536) (x : Int) :
    ∃ w2' g cap, (Builtin.append_ #[29, 29] 29 #[v, .slice (some ⟨wr.heap.size, 0, none⟩) 1 1]).run Try.prog (wr.alloc (.cells #[.int .i64 x] 3)) = .ok (.slice (some ⟨g, 0, none⟩) (l.length + 1) cap) w2' ∧
      ∃ kl', SB w w2' b L Q 16 (fW w1 w2) R ∧ BX w1 w2 w2' L w.heap.size ∧ kl' w.heap.size = 9 ∧ (∀ j, w2'.heap.size ≤ j → kl' j = 9) ∧ Zr w2' (Kc L kl' w.heap.size k) (.slice (some ⟨g, 0, none⟩) (l.length + 1) cap) (l ++ [x]) ∧ Zr w2' (Kc L kl' w.heap.size k2) v2 l2 := by
  have hal : Below wr.heap.size wr (wr.alloc (.cells #[.int .i64 x] 3)) := (Below.refl _ _).alloc (Nat.le_refl _) _
  have fr := Fr.below L hal
  have hb2 := fr.at_ hb.1 hb.2
  obtain ⟨w2', g, cap, hr, s, ht, kl', k1, z1, z2, kk⟩ := zz_put (h.below hal) (zr_fr hz fr) (zr_fr hz2 fr) hne hk9 (fun j hj => hf j (Nat.le_trans hal.size hj)) hn x ⟨wr.heap.size, 0, none⟩ (by exact (At.new wr 3 [.int .i64 x]).cell 0 rfl) 1 29
  exact ⟨w2', g, cap, hr, kl', s, ⟨hb2.1.tn ht (fun e => by have := e.2.1; rw [h9] at this; exact hk9 this.symm), hb2.2⟩, kk _ hb2.1.lt h9, k1, z1, z2⟩
theorem f_most {Q w1 w2 : Int} (hq : 1 ≤ Q ∧ Q ≤ 255) (h1 : 1 ≤ w1 ∧ w1 ≤ 255) (h2 : 1 ≤ w2 ∧ w2 ≤ 255) : (0 ≤ (Q + 32) * w1 ∧ (Q + 32) * w1 ≤ 73185) ∧ (0 ≤ (Q + 32) * w1 * w2 ∧ (Q + 32) * w1 * w2 ≤ 18662175) := by
  have a1 : (Q + 32) * w1 ≤ 287 * w1 := Int.mul_le_mul_of_nonneg_right (by omega) (by omega)
  have a2 : 0 ≤ (Q + 32) * w1 := Int.mul_nonneg (by omega) (by omega)
  have b1 : (Q + 32) * w1 * w2 ≤ 73185 * w2 := Int.mul_le_mul_of_nonneg_right (by omega) (by omega)
  have b2 : 0 ≤ (Q + 32) * w1 * w2 := Int.mul_nonneg a2 (by omega)
  omega
set_option maxRecDepth 100000 in
set_option maxHeartbeats 1600000 in
theorem dr_fair_no (A : Option Addr) (m c : Nat) (w1 w2 Q : Int) (w : World) (h1 : 0 ≤ w1 ∧ w1 ≤ 255) (h2 : 0 ≤ w2 ∧ w2 ≤ 255) (hq : 0 ≤ Q ∧ Q ≤ 255) (h : (120 : Int) < (m : Int) ∨ w1 = 0 ∨ w2 = 0 ∨ Q = 0) :
    Calls Try.prog 4 #[.agg #[.int .u8 w1, .int .u8 w2], .int .u8 Q, .slice A m c] w fun e w' => e = .returned (.bool true) ∧ Below w.heap.size w w' := by
  have HN := At.new w 43 [.int .u8 w1, .int .u8 w2]
  have x0 := HN.cell 0 rfl
  have x1 := HN.cell 1 rfl
  have HBL : Hid (Below w.heap.size w (w.alloc (.cells #[.int .u8 w1, .int .u8 w2] 43))) := Lib.hid ((Below.refl _ _).alloc (Nat.le_refl _) _)
  clear HN
  have hh : (120 : Int) < (m : Int) ∨ ((m : Int) ≤ 120 ∧ w1 = 0) ∨ ((m : Int) ≤ 120 ∧ 1 ≤ w1 ∧ w2 = 0) ∨ ((m : Int) ≤ 120 ∧ 1 ≤ w1 ∧ 1 ≤ w2 ∧ Q = 0) := by omega
  clear h
  rcases hh with hm | ⟨hm, rfl⟩ | ⟨hm, hw, rfl⟩ | ⟨hm, hw, hw2, rfl⟩
  all_goals
    go_enter Try.func4, Try.ntmps4
    go_wp2_with fail
    refine (dr_awake _).mono ?_; rintro e w9 ⟨rfl, b9⟩
    have HB9 := Lib.hid (HBL.out.trans (b9.mono HBL.out.size))
    clear b9
    go_wp2_with fail
    go_ret
    exact ⟨rfl, HB9.out⟩
end Go.Proofs.Ytplbdeaoeocgkaa

/- Proved: the walks of the two laws on rows of bytes, for every two rows and every byte. Conditions: those that the theorems name. -/
import Derived.Test.YtmbpihalakdiiaaVecAwake
import Derived.Test.YtmbpihalakdiiaaVecRefScale
namespace Go.Proofs.Ytmbpihalakdiiaa
open Go.ChangeShapes Go.WideShapes Go.ChangeAt Go.RowKit

theorem dot_left (A B : Option Addr) (n m c d : Nat) (a b : List Nat) (w : World) (hmm : m < 256) (ha' : ∀ j, a.getD j 0 < 256) (ha : Bs w A n (scaleL n m a)) (hb : Bs w B n b) (hm : n ≤ 140737488355328) :
    Calls Try.prog 10 #[.slice A n c, .slice B n d] w fun e w' => e = .returned (.tuple #[.int .u8 (gmul m (dotN n a b) : Nat), .int .i64 0]) ∧ w = w' := by
  have h := dot_like A B n c d _ _ w ha hb hm
  rw [dot_scale_left n n m a b (Nat.le_refl _) hmm ha' hb.lt] at h
  exact h
theorem dot_right (A B : Option Addr) (n m c d : Nat) (a b : List Nat) (w : World) (hmm : m < 256) (hb' : ∀ j, b.getD j 0 < 256) (ha : Bs w A n a) (hb : Bs w B n (scaleL n m b)) (hm : n ≤ 140737488355328) :
    Calls Try.prog 10 #[.slice A n c, .slice B n d] w fun e w' => e = .returned (.tuple #[.int .u8 (gmul m (dotN n a b) : Nat), .int .i64 0]) ∧ w = w' := by
  have h := dot_like A B n c d _ _ w ha hb hm
  rw [dot_scale_right n n m a b (Nat.le_refl _) hmm ha.lt hb'] at h
  exact h
theorem scale_one (B : Option Addr) (m x d : Nat) (w : World) (hmm : m < 256) (hb : Bs w B 1 [x]) :
    Calls Try.prog 13 #[.int .u8 (m : Nat), .slice B 1 d] w (Gives w 1 [gmul m x]) := by
  have h := scale_any B m 1 d _ w hmm hb (by decide)
  have e : scaleL 1 m [x] = [gmul m x] := rfl
  rw [e] at h
  exact h

set_option maxRecDepth 100000 in
set_option maxHeartbeats 1600000 in
theorem reckons_like (A B : Option Addr) (n m c d : Nat) (a b : List Nat) (w : World) (hmm : m < 256) (ha : Bs w A n a) (hb : Bs w B n b) (hn : n ≤ 200) :
    Calls Try.prog 3 #[.slice A n c, .slice B n d, .int .u8 (m : Nat)] w fun e w' => e = .returned (.bool true) ∧ Below w.heap.size w w' := by
  have HA := Lib.hid ha
  have HB := Lib.hid hb
  clear ha hb
  have hbig : n ≤ 140737488355328 := by omega
  go_enter Try.func3, Try.ntmps3
  go_wp2_with fail
  refine (add_like A B n c d a b _ HA.out HB.out hbig).mono ?_; rintro e w1 ⟨A1, c1, rfl, h1, g1⟩
  have H1 := Lib.hid h1; have G1 := Lib.hid g1; clear h1 g1
  go_wp2_with fail
  refine (radd_like A B n c d a b _ (HA.out.below G1.out) (HB.out.below G1.out) hbig).mono ?_; rintro e w2 ⟨A2, c2, rfl, h2, g2⟩
  have H2 := Lib.hid h2; have G2 := Lib.hid (G1.out.trans (g2.mono G1.out.size)); have S2 := Lib.hid g2; clear h2 g2
  go_wp2_with fail
  refine (muladd_like A B m n c d a b _ hmm (HA.out.below G2.out) (HB.out.below G2.out) hbig).mono ?_; rintro e w3 ⟨A3, c3, rfl, h3, g3⟩
  have H3 := Lib.hid h3; have G3 := Lib.hid (G2.out.trans (g3.mono G2.out.size)); have S3 := Lib.hid g3; clear h3 g3
  go_wp2_with fail
  refine (rmuladd_like A B m n c d a b _ hmm (HA.out.below G3.out) (HB.out.below G3.out) hbig).mono ?_; rintro e w4 ⟨A4, c4, rfl, h4, g4⟩
  have H4 := Lib.hid h4; have G4 := Lib.hid (G3.out.trans (g4.mono G3.out.size)); have S4 := Lib.hid g4; clear h4 g4
  go_wp2_with fail
  refine (dot_like A B n c d a b _ (HA.out.below G4.out) (HB.out.below G4.out) hbig).mono ?_; rintro e w' ⟨rfl, rfl⟩
  go_wp2_with fail
  refine (rdot_like A B n c d a b _ (HA.out.below G4.out) (HB.out.below G4.out) hbig).mono ?_; rintro e w5 ⟨rfl, g5⟩
  have S5 := Lib.hid g5; have G5 := Lib.hid (G4.out.trans (g5.mono G4.out.size)); clear g5
  go_wp2_with fail
  refine (same_yes A1 A2 n c1 c2 _ _ ((((H1.out.below S2.out).below S3.out).below S4.out).below S5.out) (((H2.out.below S3.out).below S4.out).below S5.out) hbig).mono ?_; rintro e w6 ⟨rfl, g6⟩
  have S6 := Lib.hid g6; have G6 := Lib.hid (G5.out.trans (g6.mono G5.out.size)); clear g6
  go_wp2_with fail
  refine (same_yes A3 A4 n c3 c4 _ _ (((H3.out.below S4.out).below S5.out).below S6.out) ((H4.out.below S5.out).below S6.out) hbig).mono ?_; rintro e w7 ⟨rfl, g7⟩
  have G7 := Lib.hid (G6.out.trans (g7.mono G6.out.size)); clear g7
  go_wp2_with fail
  refine (scale_any A m n c a _ hmm (HA.out.below G7.out) hbig).mono ?_; rintro e w8 ⟨A8, c8, rfl, h8, g8⟩
  have H8 := Lib.hid h8; have G8 := Lib.hid (G7.out.trans (g8.mono G7.out.size)); clear h8 g8
  go_wp2_with fail
  refine (rscale_any A m n c a _ hmm (HA.out.below G8.out) hbig).mono ?_; rintro e w9 ⟨A9, c9, rfl, h9, g9⟩
  have H9 := Lib.hid h9; have S9 := Lib.hid g9; have G9 := Lib.hid (G8.out.trans (g9.mono G8.out.size)); clear h9 g9
  go_wp2_with fail
  refine (same_yes A8 A9 n c8 c9 _ _ (H8.out.below S9.out) H9.out hbig).mono ?_; rintro e w10 ⟨rfl, g10⟩
  have G10 := Lib.hid (G9.out.trans (g10.mono G9.out.size)); clear g10
  go_wp2_with fail
  refine (awake_any _).mono ?_; rintro e w11 ⟨rfl, g11⟩
  have G11 := Lib.hid (G10.out.trans (g11.mono G10.out.size)); clear g11
  go_wp2_with fail
  go_ret
  exact ⟨rfl, G11.out⟩

set_option maxRecDepth 100000 in
set_option maxHeartbeats 1600000 in
theorem reckons_unlike (A B : Option Addr) (n k m c d : Nat) (a b : List Nat) (w : World) (hmm : m < 256) (ha : Bs w A n a) (hb : Bs w B k b) (hn : n ≤ 200) (hk : k ≤ 200) (hne : n ≠ k) :
    Calls Try.prog 3 #[.slice A n c, .slice B k d, .int .u8 (m : Nat)] w fun e w' => e = .returned (.bool true) ∧ Below w.heap.size w w' := by
  have HA := Lib.hid ha
  have HB := Lib.hid hb
  have HN := Lib.hid hne
  clear ha hb hne
  have hbig : n ≤ 140737488355328 := by omega
  have hbig' : k ≤ 140737488355328 := by omega
  go_enter Try.func3, Try.ntmps3
  go_wp2_with fail
  refine (add_unlike A B n k c d _ HN.out).mono ?_; rintro e w' ⟨rfl, rfl⟩
  go_wp2_with fail
  refine (radd_unlike A B n k c d _ HN.out).mono ?_; rintro e w' ⟨rfl, rfl⟩
  go_wp2_with fail
  refine (muladd_unlike A B m n k c d b _ hmm HN.out HB.out hbig').mono ?_; rintro e w3 ⟨rfl, g3⟩
  have G3 := Lib.hid g3; clear g3
  go_wp2_with fail
  refine (rmuladd_unlike A B m n k c d b _ hmm HN.out (HB.out.below G3.out) hbig').mono ?_; rintro e w4 ⟨rfl, g4⟩
  have G4 := Lib.hid (G3.out.trans (g4.mono G3.out.size)); clear g4
  go_wp2_with fail
  refine (dot_unlike A B n k c d _ HN.out).mono ?_; rintro e w' ⟨rfl, rfl⟩
  go_wp2_with fail
  refine (rdot_unlike A B n k c d _ HN.out).mono ?_; rintro e w' ⟨rfl, rfl⟩
  go_wp2_with fail
  refine (same_yes none none 0 0 0 [] _ (Bs.nil _ _) (Bs.nil _ _) (by decide)).mono ?_; rintro e w6 ⟨rfl, g6⟩
  have G6 := Lib.hid (G4.out.trans (g6.mono G4.out.size)); clear g6
  go_wp2_with fail
  refine (same_yes none none 0 0 0 [] _ (Bs.nil _ _) (Bs.nil _ _) (by decide)).mono ?_; rintro e w7 ⟨rfl, g7⟩
  have G7 := Lib.hid (G6.out.trans (g7.mono G6.out.size)); clear g7
  go_wp2_with fail
  refine (scale_any A m n c a _ hmm (HA.out.below G7.out) hbig).mono ?_; rintro e w8 ⟨A8, c8, rfl, h8, g8⟩
  have H8 := Lib.hid h8; have G8 := Lib.hid (G7.out.trans (g8.mono G7.out.size)); clear h8 g8
  go_wp2_with fail
  refine (rscale_any A m n c a _ hmm (HA.out.below G8.out) hbig).mono ?_; rintro e w9 ⟨A9, c9, rfl, h9, g9⟩
  have H9 := Lib.hid h9; have S9 := Lib.hid g9; have G9 := Lib.hid (G8.out.trans (g9.mono G8.out.size)); clear h9 g9
  go_wp2_with fail
  refine (same_yes A8 A9 n c8 c9 _ _ (H8.out.below S9.out) H9.out hbig).mono ?_; rintro e w10 ⟨rfl, g10⟩
  have G10 := Lib.hid (G9.out.trans (g10.mono G9.out.size)); clear g10
  go_wp2_with fail
  refine (awake_any _).mono ?_; rintro e w11 ⟨rfl, g11⟩
  have G11 := Lib.hid (G10.out.trans (g11.mono G10.out.size)); clear g11
  go_wp2_with fail
  go_ret
  exact ⟨rfl, G11.out⟩

set_option maxRecDepth 100000 in
set_option maxHeartbeats 800000 in
theorem reckons_long (A B : Option Addr) (n k m c d : Nat) (w : World) (h : 200 < n ∨ 200 < k) :
    Calls Try.prog 3 #[.slice A n c, .slice B k d, .int .u8 (m : Nat)] w fun e w' => e = .returned (.bool true) ∧ Below w.heap.size w w' := by
  by_cases h1 : 200 < n
  · clear h
    go_enter Try.func3, Try.ntmps3
    go_wp2_with fail
    refine (awake_any _).mono ?_; rintro e w1 ⟨rfl, g1⟩
    have G1 := Lib.hid g1; clear g1
    go_wp2_with fail
    go_ret
    exact ⟨rfl, G1.out⟩
  · have h2 : 200 < k := by omega
    clear h
    go_enter Try.func3, Try.ntmps3
    go_wp2_with fail
    refine (awake_any _).mono ?_; rintro e w1 ⟨rfl, g1⟩
    have G1 := Lib.hid g1; clear g1
    go_wp2_with fail
    go_ret
    exact ⟨rfl, G1.out⟩

theorem reckons_walk (A B : Option Addr) (n k m c d : Nat) (a b : List Nat) (w : World) (hmm : m < 256) (ha : Bs w A n a) (hb : Bs w B k b) :
    Calls Try.prog 3 #[.slice A n c, .slice B k d, .int .u8 (m : Nat)] w fun e w' => e = .returned (.bool true) ∧ Below w.heap.size w w' := by
  by_cases h : 200 < n ∨ 200 < k
  · exact reckons_long A B n k m c d w h
  · by_cases hne : n = k
    · subst hne
      exact reckons_like A B n m c d a b w hmm ha hb (by omega)
    · exact reckons_unlike A B n k m c d a b w hmm ha hb (by omega) (by omega) hne
end Go.Proofs.Ytmbpihalakdiiaa

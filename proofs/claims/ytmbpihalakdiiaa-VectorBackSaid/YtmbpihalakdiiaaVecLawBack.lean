/- Proved: the walk of the law VectorBack, for every two rows and every byte. Conditions: those that the theorems name. -/
import Derived.Test.YtmbpihalakdiiaaVecLaw
namespace Go.Proofs.Ytmbpihalakdiiaa
open Go.ChangeShapes Go.WideShapes Go.ChangeAt Go.RowKit

set_option maxRecDepth 100000 in
set_option maxHeartbeats 1600000 in
theorem back_like (A B : Option Addr) (n m c d : Nat) (a b : List Nat) (w : World) (hmm : m < 256) (ha : Bs w A n a) (hb : Bs w B n b) (hn : n ≤ 200) :
    Calls Try.prog 4 #[.slice A n c, .slice B n d, .int .u8 (m : Nat)] w fun e w' => e = .returned (.bool true) ∧ Below w.heap.size w w' := by
  have HA := Lib.hid ha
  have HB := Lib.hid hb
  clear ha hb
  have hbig : n ≤ 140737488355328 := by omega
  have hgl := gmul_lt (dotN n a b) hmm
  have hdl := dotN_lt n a b HA.out.lt
  go_enter Try.func4, Try.ntmps4
  go_wp2_with fail
  refine (muladd_like A B m n c d a b _ hmm HA.out HB.out hbig).mono ?_; rintro e w1 ⟨A1, c1, rfl, h1, g1⟩
  have H1 := Lib.hid h1; have G1 := Lib.hid g1; clear h1 g1
  go_wp2_with fail
  refine (muladd_like A1 B m n c1 d _ b _ hmm H1.out (HB.out.below G1.out) hbig).mono ?_; rintro e w2 ⟨A2, c2, rfl, h2, g2⟩
  rw [addL_twice n a _ HA.out.len] at h2
  have H2 := Lib.hid h2; have G2 := Lib.hid (G1.out.trans (g2.mono G1.out.size)); clear h2 g2
  go_wp2_with fail
  refine (dot_like A B n c d a b _ (HA.out.below G2.out) (HB.out.below G2.out) hbig).mono ?_; rintro e w' ⟨rfl, rfl⟩
  go_wp2_with fail
  refine (scale_any A m n c a _ hmm (HA.out.below G2.out) hbig).mono ?_; rintro e w3 ⟨A3, c3, rfl, h3, g3⟩
  have H3 := Lib.hid h3; have S3 := Lib.hid g3; have G3 := Lib.hid (G2.out.trans (g3.mono G2.out.size)); clear h3 g3
  go_wp2_with fail
  refine (dot_left A3 B n m c3 d a b _ hmm HA.out.lt H3.out (HB.out.below G3.out) hbig).mono ?_; rintro e w' ⟨rfl, rfl⟩
  go_wp2_with fail
  refine (scale_any B m n d b _ hmm (HB.out.below G3.out) hbig).mono ?_; rintro e w4 ⟨A4, c4, rfl, h4, g4⟩
  have H4 := Lib.hid h4; have S4 := Lib.hid g4; have G4 := Lib.hid (G3.out.trans (g4.mono G3.out.size)); clear h4 g4
  go_wp2_with fail
  refine (dot_right A A4 n m c c4 a b _ hmm HB.out.lt (HA.out.below G4.out) H4.out hbig).mono ?_; rintro e w' ⟨rfl, rfl⟩
  go_wp2_with fail
  refine (scale_one _ m (dotN n a b) _ _ hmm (bs_one w4 _ hdl)).mono ?_; rintro e w5 ⟨A5, c5, rfl, h5, g5⟩
  have S5 := Lib.hid (((Below.refl w4.heap.size w4).alloc (Nat.le_refl _) _).trans (g5.mono (by simp)))
  have G5 := Lib.hid (G4.out.trans (S5.out.mono G4.out.size))
  have H5 := Lib.hid h5; clear h5 g5
  go_wp2_with fail
  refine (same_yes A2 A n c2 c _ _ ((((H2.out.below S3.out).below S4.out).below S5.out)) (HA.out.below G5.out) hbig).mono ?_; rintro e w6 ⟨rfl, g6⟩
  have S6 := Lib.hid g6; have G6 := Lib.hid (G5.out.trans (g6.mono G5.out.size)); clear g6
  obtain ⟨ad, rfl, _, hcell⟩ := (H5.out.below S6.out).at_ (k := 0) (by decide)
  have hcell0 : w6.cell? ad = some (.int .u8 (gmul m (dotN n a b) : Nat)) := hcell
  clear hcell
  go_wp2_with fail
  refine (awake_any _).mono ?_; rintro e w7 ⟨rfl, g7⟩
  have G7 := Lib.hid (G6.out.trans (g7.mono G6.out.size)); clear g7
  go_wp2_with fail
  go_ret
  exact ⟨rfl, G7.out⟩

set_option maxRecDepth 100000 in
set_option maxHeartbeats 800000 in
theorem back_not (A B : Option Addr) (n k m c d : Nat) (w : World) (h : 200 < n ∨ n ≠ k) :
    Calls Try.prog 4 #[.slice A n c, .slice B k d, .int .u8 (m : Nat)] w fun e w' => e = .returned (.bool true) ∧ Below w.heap.size w w' := by
  by_cases h1 : 200 < n
  · clear h
    go_enter Try.func4, Try.ntmps4
    go_wp2_with fail
    refine (awake_any _).mono ?_; rintro e w1 ⟨rfl, g1⟩
    have G1 := Lib.hid g1; clear g1
    go_wp2_with fail
    go_ret
    exact ⟨rfl, G1.out⟩
  · have h2 : ((n : Int) != (k : Int)) = true := by simp; omega
    have h3 : ((n : Int) == (k : Int)) = false := by simp; omega
    clear h
    go_enter Try.func4, Try.ntmps4
    go_wp2_with fail
    refine (awake_any _).mono ?_; rintro e w1 ⟨rfl, g1⟩
    have G1 := Lib.hid g1; clear g1
    go_wp2_with fail
    go_ret
    exact ⟨rfl, G1.out⟩

theorem back_walk (A B : Option Addr) (n k m c d : Nat) (a b : List Nat) (w : World) (hmm : m < 256) (ha : Bs w A n a) (hb : Bs w B k b) :
    Calls Try.prog 4 #[.slice A n c, .slice B k d, .int .u8 (m : Nat)] w fun e w' => e = .returned (.bool true) ∧ Below w.heap.size w w' := by
  by_cases h : 200 < n ∨ n ≠ k
  · exact back_not A B n k m c d w h
  · obtain rfl : n = k := by omega
    exact back_like A B n m c d a b w hmm ha hb (by omega)
end Go.Proofs.Ytmbpihalakdiiaa

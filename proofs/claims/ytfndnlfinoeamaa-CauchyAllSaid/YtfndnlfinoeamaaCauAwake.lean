/- Proved: the law's own first calls of package cauchy come out as they should. No condition. -/
import Derived.Test.YtfndnlfinoeamaaCauRef3
import Derived.Test.YtfndnlfinoeamaaVecLits
namespace Go.Proofs.Ytfndnlfinoeamaa
open Go.ChangeShapes Go.WideShapes Go.ChangeAt Go.RowKit

theorem is_two (w : World) (a b : Int) : Is (w.alloc (.cells #[.int .i64 a, .int .i64 b] 3)) (some ⟨w.heap.size, 0, none⟩) 2 [a, b] := by
  refine ⟨rfl, fun _ => ⟨_, rfl, by simp, fun j hj => ?_⟩⟩
  have e : (⟨w.heap.size, 0, none⟩ : Addr).add j = ⟨w.heap.size, j, none⟩ := by unfold Addr.add; split <;> simp_all
  rw [e, cell_of_row _ _ j _ _ (0, 0) (heap_alloc_new w _)]
  match j, hj with
  | 0, _ => rfl
  | 1, _ => rfl

theorem row_as (k n i : Int) (l : List Nat) (z : Nat) (hl : cRow k n i = l) (hz : cErr k n i = z) (w : World) :
    Calls Try.prog 7 #[.int .i64 k, .int .i64 n, .int .i64 i] w (GivesE w l z) := by
  rw [← hl, ← hz]; exact row_any k n i w
theorem pick_as (A : Option Addr) (m c : Nat) (k n : Int) (l : List Int) (t : List (List Nat)) (z : Nat) (ht : pRows k n l = t) (hz : pErr k n l = z) (w : World) (hl : Is w A m l) :
    Calls Try.prog 9 #[.int .i64 k, .int .i64 n, .slice A m c] w (GivesTE w t z) := by
  rw [← ht, ← hz]; exact pick_any A m c k n l w hl

set_option maxRecDepth 100000 in
set_option maxHeartbeats 1600000 in
theorem cawake_any (w : World) :
    Calls Try.prog 6 #[] w fun e w' => e = .returned (.bool true) ∧ Below w.heap.size w w' := by
  go_enter Try.func6, Try.ntmps6
  go_wp2_with fail
  refine (row_as 2 3 2 [142, 244] 0 (by decide +kernel) (by decide +kernel) _).mono ?_; rintro e w1 ⟨A1, n1, c1, rfl, _, h1, g1⟩
  obtain rfl : 2 = n1 := h1.len
  have H1 := Lib.hid h1; have G1 := Lib.hid g1
  clear h1 g1
  go_wp2_with fail
  refine (row_as 3 2 0 [] 1 (by decide +kernel) (by decide +kernel) _).mono ?_; rintro e w2 ⟨A2, n2, c2, rfl, _, _, g2⟩
  have H2 := Lib.hid (H1.out.below g2); have G2 := Lib.hid (G1.out.trans (g2.mono G1.out.size))
  clear g2 H1 G1
  go_wp2_with fail
  refine (row_as 2 3 3 [] 2 (by decide +kernel) (by decide +kernel) _).mono ?_; rintro e w3 ⟨A3, n3, c3, rfl, _, _, g3⟩
  have H3 := Lib.hid (H2.out.below g3); have G3 := Lib.hid (G2.out.trans (g3.mono G2.out.size))
  clear g3 H2 G2
  go_wp2_with fail
  have B3 := Lib.hid ((Below.refl w3.heap.size w3).alloc (Nat.le_refl _) (.cells #[.int .i64 3, .int .i64 0] 3))
  refine (pick_as (some ⟨w3.heap.size, 0, none⟩) 2 2 2 4 [3, 0] [[244, 142], [1, 0]] 0 (by decide +kernel) (by decide +kernel) _ (is_two w3 3 0)).mono ?_; rintro e w4 ⟨A4, n4, c4, rfl, h4, g4⟩
  obtain rfl : 2 = n4 := h4.len
  have S4 := Lib.hid (B3.out.trans (g4.mono B3.out.size))
  have R4 := Lib.hid h4; have H4 := Lib.hid (H3.out.below S4.out); have G4 := Lib.hid (G3.out.trans (S4.out.mono G3.out.size))
  clear g4 h4 H3 G3 S4 B3
  go_wp2_with fail
  have B4 := Lib.hid ((Below.refl w4.heap.size w4).alloc (Nat.le_refl _) (.cells #[.int .u8 142, .int .u8 244] 5))
  refine (same_yes A1 _ 2 c1 _ [142, 244] _ (H4.out.below B4.out) (bs_two w4 142 244 (by decide) (by decide)) (by decide)).mono ?_; rintro e w5 ⟨rfl, g5⟩
  have S5 := Lib.hid (B4.out.trans (g5.mono B4.out.size))
  have R5 := Lib.hid (R4.out.below S5.out); have G5 := Lib.hid (G4.out.trans (S5.out.mono G4.out.size))
  clear g5 R4 H4 G4 S5 B4
  obtain ⟨ad, B, d, rfl, had, hc, hb⟩ := R5.out.at_ (k := 1) (by decide)
  have HB := Lib.hid hb
  clear hb
  have e1 : rw_ [[244, 142], [1, 0]] 1 = [1, 0] := rfl
  rw [e1, show ([1, 0] : List Nat).length = 2 from rfl] at hc HB
  have ea : ad.add 1 = ⟨ad.block, ad.off + 1, none⟩ := rfl
  rw [ea] at hc
  go_wp2_with fail
  have B5 := Lib.hid ((Below.refl w5.heap.size w5).alloc (Nat.le_refl _) (.cells #[.int .u8 1, .int .u8 0] 5))
  refine (same_yes B _ 2 d _ [1, 0] _ (HB.out.below B5.out) (bs_two w5 1 0 (by decide) (by decide)) (by decide)).mono ?_; rintro e w6 ⟨rfl, g6⟩
  have S6 := Lib.hid (B5.out.trans (g6.mono B5.out.size))
  have G6 := Lib.hid (G5.out.trans (S6.out.mono G5.out.size))
  clear g6 S6 B5
  go_wp2_with fail
  go_ret
  exact ⟨rfl, G6.out⟩
end Go.Proofs.Ytfndnlfinoeamaa

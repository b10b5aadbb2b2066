/- Proved: the law's own first calls of package vector come out as they should. No condition. -/
import Derived.Test.YtmbpihalakdiiaaVecScale
import Derived.Test.YtmbpihalakdiiaaVecDot
import Derived.Test.YtmbpihalakdiiaaVecRefDot
namespace Go.Proofs.Ytmbpihalakdiiaa
open Go.ChangeShapes Go.WideShapes Go.ChangeAt Go.RowKit

theorem bs_new (w : World) (l : List Nat) (hl : ∀ j, l.getD j 0 < 256) : Bs (w.alloc (.cells (cells l).toArray 5)) (some ⟨w.heap.size, 0, none⟩) l.length l := by
  refine ⟨rfl, hl, fun _ => ⟨_, rfl, by simp, fun j hj => ?_⟩⟩
  have e : (⟨w.heap.size, 0, none⟩ : Addr).add j = ⟨w.heap.size, j, none⟩ := by unfold Addr.add; split <;> simp_all
  rw [e, cell_of_row _ _ j _ _ (0, 0) (heap_alloc_new w _)]
  have := cells_at l j hj
  simpa using this
theorem bs_one (w : World) (x : Nat) (hx : x < 256) : Bs (w.alloc (.cells #[.int .u8 (x : Nat)] 5)) (some ⟨w.heap.size, 0, none⟩) 1 [x] :=
  bs_new w [x] (getD_lt (fun y hy => by simp at hy; omega))
theorem bs_two (w : World) (x y : Nat) (hx : x < 256) (hy : y < 256) : Bs (w.alloc (.cells #[.int .u8 (x : Nat), .int .u8 (y : Nat)] 5)) (some ⟨w.heap.size, 0, none⟩) 2 [x, y] :=
  bs_new w [x, y] (getD_lt (fun z hz => by simp at hz; omega))
theorem bs_both (w : World) : Bs ((w.alloc (.cells #[.int .u8 1, .int .u8 2] 5)).alloc (.cells #[.int .u8 3, .int .u8 4] 5)) (some ⟨w.heap.size, 0, none⟩) 2 [1, 2] ∧
    Bs ((w.alloc (.cells #[.int .u8 1, .int .u8 2] 5)).alloc (.cells #[.int .u8 3, .int .u8 4] 5)) (some ⟨w.heap.size + 1, 0, none⟩) 2 [3, 4] := by
  have h := bs_two w 1 2 (by decide) (by decide)
  have g := bs_two (w.alloc (.cells #[.int .u8 1, .int .u8 2] 5)) 3 4 (by decide) (by decide)
  refine ⟨h.below ((Below.refl _ _).alloc (Nat.le_refl _) _), ?_⟩
  simpa using g
theorem below2 (w : World) (o p : Obj) : Below w.heap.size w ((w.alloc o).alloc p) := ((Below.refl _ _).alloc (Nat.le_refl _) _).alloc (by simp) _

theorem aw_dot (A B : Option Addr) (c d : Nat) (w : World) (ha : Bs w A 2 [1, 2]) (hb : Bs w B 2 [3, 4]) :
    Calls Try.prog 10 #[.slice A 2 c, .slice B 2 d] w fun e w' => e = .returned (.tuple #[.int .u8 11, .int .i64 0]) ∧ w = w' := by
  have h := dot_like A B 2 c d _ _ w ha hb (by decide)
  have e : dotN 2 [1, 2] [3, 4] = 11 := by decide +kernel
  rw [e] at h
  exact h
theorem aw_muladd (A B : Option Addr) (c d : Nat) (w : World) (ha : Bs w A 2 [1, 2]) (hb : Bs w B 2 [3, 4]) :
    Calls Try.prog 8 #[.slice A 2 c, .int .u8 2, .slice B 2 d] w (Gives2 w 2 [7, 10]) := by
  have h := muladd_like A B 2 2 c d _ _ w (by decide) ha hb (by decide)
  have e : addL 2 [1, 2] (scaleL 2 2 [3, 4]) = [7, 10] := by decide +kernel
  rw [e] at h
  exact h
theorem aw_scale (B : Option Addr) (d : Nat) (w : World) (hb : Bs w B 1 [5]) :
    Calls Try.prog 13 #[.int .u8 0, .slice B 1 d] w (Gives w 1 [0]) := by
  have h := scale_any B 0 1 d _ w (by decide) hb (by decide)
  have e : scaleL 1 0 [5] = [0] := by decide +kernel
  rw [e] at h
  exact h

set_option maxHeartbeats 800000 in
theorem awake_any (w : World) :
    Calls Try.prog 5 #[] w fun e w' => e = .returned (.bool true) ∧ Below w.heap.size w w' := by
  go_enter Try.func5, Try.ntmps5
  go_wp2_with fail
  have h12 := bs_both w
  refine (aw_dot _ _ _ _ _ h12.1 h12.2).mono ?_; rintro e w' ⟨rfl, rfl⟩
  have G := Lib.hid (below2 w (.cells #[.int .u8 1, .int .u8 2] 5) (.cells #[.int .u8 3, .int .u8 4] 5))
  generalize (w.alloc (.cells #[.int .u8 1, .int .u8 2] 5)).alloc (.cells #[.int .u8 3, .int .u8 4] 5) = W2 at *
  clear h12
  go_wp2_with fail
  refine (add_unlike _ _ 1 0 _ _ _ (by decide)).mono ?_; rintro e w' ⟨rfl, rfl⟩
  have G3 := Lib.hid ((Below.refl W2.heap.size W2).alloc (Nat.le_refl _) (.cells #[.int .u8 1] 5))
  generalize (W2.alloc (.cells #[.int .u8 1] 5)) = W3 at *
  go_wp2_with fail
  have h34 := bs_both W3
  refine (aw_muladd _ _ _ _ _ h34.1 h34.2).mono ?_; rintro e W4 ⟨A4, c4, rfl, h4, g4⟩
  have G4 := Lib.hid ((below2 W3 (.cells #[.int .u8 1, .int .u8 2] 5) (.cells #[.int .u8 3, .int .u8 4] 5)).trans (g4.mono (below2 W3 _ _).size))
  have H4 := Lib.hid h4
  clear h34 h4 g4
  go_wp2_with fail
  refine (same_yes _ _ 2 _ _ [7, 10] _ (H4.out.below ((Below.refl _ _).alloc (Nat.le_refl _) _)) (bs_two W4 7 10 (by decide) (by decide)) (by decide)).mono ?_; rintro e W5 ⟨rfl, g5⟩
  have G5 := Lib.hid (((Below.refl W4.heap.size W4).alloc (Nat.le_refl _) _).trans (g5.mono (by simp)))
  clear g5
  go_wp2_with fail
  refine (aw_scale _ _ _ (bs_one W5 5 (by decide))).mono ?_; rintro e W6 ⟨A6, c6, rfl, h6, g6⟩
  have G6 := Lib.hid (((Below.refl W5.heap.size W5).alloc (Nat.le_refl _) _).trans (g6.mono (by simp)))
  have H6 := Lib.hid h6
  clear h6 g6
  go_wp2_with fail
  refine (same_yes _ _ 1 _ _ [0] _ (H6.out.below ((Below.refl _ _).alloc (Nat.le_refl _) _)) (bs_one W6 0 (by decide)) (by decide)).mono ?_; rintro e W7 ⟨rfl, g7⟩
  have G7 := Lib.hid (((Below.refl W6.heap.size W6).alloc (Nat.le_refl _) _).trans (g7.mono (by simp)))
  clear g7
  go_wp2_with fail
  go_ret
  refine ⟨rfl, ?_⟩
  have t1 := G.out.trans (G3.out.mono G.out.size)
  have t2 := t1.trans (G4.out.mono t1.size)
  have t3 := t2.trans (G5.out.mono t2.size)
  have t4 := t3.trans (G6.out.mono t3.size)
  exact t4.trans (G7.out.mono t4.size)
end Go.Proofs.Ytmbpihalakdiiaa

/- Proved: the law's own first calls of package matrix come out as they should. No condition. -/
import Derived.Test.YtneaddgpbffkpaaMatRefInvert
import Derived.Test.YtneaddgpbffkpaaVecLits
namespace Go.Proofs.Ytneaddgpbffkpaa
open Go.ChangeShapes Go.WideShapes Go.ChangeAt Go.RowKit

theorem lits_two (w : World) (a b c d : Nat) (ha : a < 256) (hb : b < 256) (hc : c < 256) (hd : d < 256) :
    Rows (((w.alloc (.cells #[.int .u8 (a : Nat), .int .u8 (b : Nat)] 5)).alloc (.cells #[.int .u8 (c : Nat), .int .u8 (d : Nat)] 5)).alloc (.cells #[.slice (some ⟨w.heap.size, 0, none⟩) 2 2, .slice (some ⟨w.heap.size + 1, 0, none⟩) 2 2] 42)) (some ⟨w.heap.size + 2, 0, none⟩) 2 [[a, b], [c, d]] ∧
    Below w.heap.size w (((w.alloc (.cells #[.int .u8 (a : Nat), .int .u8 (b : Nat)] 5)).alloc (.cells #[.int .u8 (c : Nat), .int .u8 (d : Nat)] 5)).alloc (.cells #[.slice (some ⟨w.heap.size, 0, none⟩) 2 2, .slice (some ⟨w.heap.size + 1, 0, none⟩) 2 2] 42)) := by
  have h1 := (bs_two w a b ha hb).below ((Below.refl _ _).alloc (Nat.le_refl _) (.cells #[.int .u8 (c : Nat), .int .u8 (d : Nat)] 5))
  have h2 := bs_two (w.alloc (.cells #[.int .u8 (a : Nat), .int .u8 (b : Nat)] 5)) c d hc hd
  have h3 := two_rows _ _ 2 2 2 2 [a, b] [c, d] _ (Nat.le_refl 2) (Nat.le_refl 2) h1 h2
  refine ⟨by simpa using h3, (below2 _ _ _).alloc (by simp; omega) _⟩
theorem lits_one (w : World) (a b : Nat) (ha : a < 256) (hb : b < 256) :
    Rows ((w.alloc (.cells #[.int .u8 (a : Nat), .int .u8 (b : Nat)] 5)).alloc (.cells #[.slice (some ⟨w.heap.size, 0, none⟩) 2 2] 42)) (some ⟨w.heap.size + 1, 0, none⟩) 1 [[a, b]] ∧
    Below w.heap.size w ((w.alloc (.cells #[.int .u8 (a : Nat), .int .u8 (b : Nat)] 5)).alloc (.cells #[.slice (some ⟨w.heap.size, 0, none⟩) 2 2] 42)) := by
  have h1 := bs_two w a b ha hb
  refine ⟨⟨rfl, fun _ => ⟨_, rfl, by simp, fun r hr => ?_⟩⟩, below2 _ _ _⟩
  obtain rfl : r = 0 := by omega
  rw [Addr.add_zero']
  have e := heap_alloc_new (w.alloc (.cells #[.int .u8 (a : Nat), .int .u8 (b : Nat)] 5)) (.cells #[.slice (some ⟨w.heap.size, 0, none⟩) 2 2] 42)
  simp only [World.size_alloc] at e
  rw [cell_of_row _ _ 0 _ _ (0, 0) e]
  exact ⟨_, 2, rfl, Nat.le_refl 2, h1.below ((Below.refl _ _).alloc (Nat.le_refl _) _)⟩
theorem lits_odd (w : World) :
    Rows (((w.alloc (.cells #[.int .u8 1] 5)).alloc (.cells #[] 5)).alloc (.cells #[.slice (some ⟨w.heap.size, 0, none⟩) 1 1, .slice (some ⟨w.heap.size + 1, 0, none⟩) 0 0] 42)) (some ⟨w.heap.size + 2, 0, none⟩) 2 [[1], []] ∧
    Below w.heap.size w (((w.alloc (.cells #[.int .u8 1] 5)).alloc (.cells #[] 5)).alloc (.cells #[.slice (some ⟨w.heap.size, 0, none⟩) 1 1, .slice (some ⟨w.heap.size + 1, 0, none⟩) 0 0] 42)) := by
  have h1 := (bs_one w 1 (by decide)).below ((Below.refl _ _).alloc (Nat.le_refl _) (.cells #[] 5))
  have h3 := two_rows _ (some ⟨w.heap.size + 1, 0, none⟩) 1 0 1 0 [1] [] _ (Nat.le_refl 1) (Nat.le_refl 0) h1 (Bs.nil _ _)
  refine ⟨by simpa using h3, (below2 _ _ _).alloc (by simp; omega) _⟩

theorem rank_one {t : List (List Nat)} (x y : Tab) (h : EqT 2 2 (tabT t) (mulT 1 x y)) (h0 : tabT t 0 0 ≠ 0) : RankT 2 2 (tabT t) 1 := by
  refine ⟨⟨x, y, h⟩, fun s hs => ?_⟩
  rcases Nat.eq_zero_or_pos s with e | e
  · subst e
    obtain ⟨a, b, hab⟩ := hs
    exact absurd (hab 0 (by decide) 0 (by decide)) h0
  · exact e
theorem inv_flip : InvIs [[0, 1], [1, 0]] [[0, 1], [1, 0]] 0 :=
  Or.inr (Or.inr (Or.inr ⟨by decide, rfl, ⟨rfl, by decide, fun r hr => by
    match r, hr with
    | 0, _ => exact getD_lt (by decide)
    | 1, _ => exact getD_lt (by decide)⟩, by unfold InvT EqT; decide +kernel, rfl⟩))
theorem inv_singular : InvIs [[1, 2], [1, 2]] [] 14 :=
  Or.inr (Or.inr (Or.inl ⟨by decide, rfl, ⟨1, by decide, rank_one (fun _ _ => 1) (fun _ j => tabT [[1, 2], [1, 2]] 0 j) (by unfold EqT; decide +kernel) (by decide +kernel)⟩, rfl, rfl⟩))
theorem inv_unlike : InvIs [[1, 2]] [] 16 := Or.inr (Or.inl ⟨by decide, by decide, rfl, rfl⟩)
theorem rank_low : RankIs [[1, 2], [2, 4]] 1 :=
  ⟨fun h => absurd (by decide) h, fun _ => rank_one (fun i _ => tabT [[1, 2], [2, 4]] i 0) (fun _ j => tabT [[1, 2], [2, 4]] 0 j) (by unfold EqT; decide +kernel) (by decide +kernel)⟩

theorem invert_as (A : Option Addr) (n c k : Nat) (t q : List (List Nat)) (w : World) (ht : Rows w A n t) (h : InvIs t q k) :
    Calls Try.prog 13 #[.slice A n c] w (GivesT w q.length q k) :=
  (invert_any A n c t w ht).mono fun e w' => by
    rintro ⟨A', c', q', k', he, hr, hi, hb⟩
    obtain ⟨rfl, rfl⟩ := h.only hi
    exact ⟨A', c', he, hr, hb⟩
theorem rank_as (A : Option Addr) (n c r : Nat) (t : List (List Nat)) (w : World) (ht : Rows w A n t) (h : RankIs t r) :
    Calls Try.prog 11 #[.slice A n c] w fun e w' => e = .returned (.tuple #[.int .i64 (r : Nat), .int .i64 (chk t : Nat)]) ∧ Below w.heap.size w w' :=
  (rank_any A n c t w ht).mono fun e w' => by
    rintro ⟨r', he, hr, hb⟩
    obtain rfl := h.only hr
    exact ⟨he, hb⟩

theorem lens_two (a b : List Nat) (ha : a.length = 2) (hb : b.length = 2) : ∀ r, (rw_ [a, b] r).length ≤ 140737488355328 := fun r => by
  match r with
  | 0 => show a.length ≤ _; omega
  | 1 => show b.length ≤ _; omega
  | r + 2 => exact Nat.zero_le _

set_option maxRecDepth 100000 in
set_option maxHeartbeats 3200000 in
theorem awake_any (w : World) :
    Calls Try.prog 8 #[] w fun e w' => e = .returned (.bool true) ∧ Below w.heap.size w w' := by
  go_enter Try.func8, Try.ntmps8
  go_wp2_with fail
  have L := lits_two w 0 1 1 0 (by decide) (by decide) (by decide) (by decide)
  refine (invert_as _ 2 _ 0 _ _ _ L.1 inv_flip).mono ?_; rintro e w1 ⟨A1, c1, rfl, h1, g1⟩
  have HM1 := Lib.hid (L.1.below g1)
  have H1 := Lib.hid h1
  have G1 := Lib.hid (L.2.trans (g1.mono L.2.size))
  clear L h1 g1
  go_wp2_with fail
  have L := lits_two w1 1 2 1 2 (by decide) (by decide) (by decide) (by decide)
  refine (invert_as _ 2 _ 14 _ _ _ L.1 inv_singular).mono ?_; rintro e w2 ⟨A2, c2, rfl, _, g2⟩
  have S2 := Lib.hid (L.2.trans (g2.mono L.2.size))
  clear L g2
  have HM2 := Lib.hid (HM1.out.below S2.out); have H2 := Lib.hid (H1.out.below S2.out); have G2 := Lib.hid (G1.out.trans (S2.out.mono G1.out.size))
  clear HM1 H1 G1 S2
  go_wp2_with fail
  have L := lits_one w2 1 2 (by decide) (by decide)
  refine (invert_as _ 1 _ 16 _ _ _ L.1 inv_unlike).mono ?_; rintro e w3 ⟨A3, c3, rfl, _, g3⟩
  have S3 := Lib.hid (L.2.trans (g3.mono L.2.size))
  clear L g3
  have HM3 := Lib.hid (HM2.out.below S3.out); have H3 := Lib.hid (H2.out.below S3.out); have G3 := Lib.hid (G2.out.trans (S3.out.mono G2.out.size))
  clear HM2 H2 G2 S3
  go_wp2_with fail
  have L := lits_two w3 1 2 2 4 (by decide) (by decide) (by decide) (by decide)
  refine (rank_as _ 2 _ 1 _ _ L.1 rank_low).mono ?_; rintro e w4 ⟨rfl, g4⟩
  have S4 := Lib.hid (L.2.trans (g4.mono L.2.size))
  clear L g4
  have hc4 : chk [[1, 2], [2, 4]] = 0 := by decide
  rw [hc4]
  clear hc4
  have HM4 := Lib.hid (HM3.out.below S4.out); have H4 := Lib.hid (H3.out.below S4.out); have G4 := Lib.hid (G3.out.trans (S4.out.mono G3.out.size))
  clear HM3 H3 G3 S4
  go_wp2_with fail
  refine (ident_yes 2 (by decide) (by decide) w4).mono ?_; rintro e w5 ⟨A5, c5, rfl, h5, g5⟩
  have e5 : idL 2 = [[1, 0], [0, 1]] := by decide
  rw [e5] at h5
  clear e5
  have HM5 := Lib.hid (HM4.out.below g5); have H5 := Lib.hid (H4.out.below g5); have HI5 := Lib.hid h5; have G5 := Lib.hid (G4.out.trans (g5.mono G4.out.size))
  clear HM4 H4 G4 h5 g5
  go_wp2_with fail
  refine (ident_no 0 (by decide) w5).mono ?_; rintro e w6 ⟨A6, c6, rfl, _, g6⟩
  have HM6 := Lib.hid (HM5.out.below g6); have H6 := Lib.hid (H5.out.below g6); have HI6 := Lib.hid (HI5.out.below g6); have G6 := Lib.hid (G5.out.trans (g6.mono G5.out.size))
  clear HM5 H5 HI5 G5 g6
  go_wp2_with fail
  refine (rsame_any _ _ 2 _ _ [[0, 1], [1, 0]] w6 H6.out HM6.out (by decide) (lens_two _ _ rfl rfl)).mono ?_; rintro e w7 ⟨rfl, q7⟩
  have S7 := Lib.hid (below_drawn (B := w6.heap.size) q7); clear q7
  have HI7 := Lib.hid (HI6.out.below S7.out); have G7 := Lib.hid (G6.out.trans (S7.out.mono G6.out.size))
  clear HM6 H6 HI6 G6 S7
  go_wp2_with fail
  have L := lits_two w7 1 0 0 1 (by decide) (by decide) (by decide) (by decide)
  refine (rsame_any _ _ 2 _ _ [[1, 0], [0, 1]] _ (HI7.out.below L.2) L.1 (by decide) (lens_two _ _ rfl rfl)).mono ?_; rintro e w8 ⟨rfl, q8⟩
  have G8 := Lib.hid ((G7.out.trans (L.2.mono G7.out.size)).trans ((below_drawn (B := w.heap.size) q8)))
  clear L q8 HI7 G7
  go_wp2_with fail
  have L := lits_odd w8
  refine (check_any _ 2 _ [[1], []] _ L.1).mono ?_; rintro e w9 ⟨rfl, q9⟩
  have G9 := Lib.hid (G8.out.trans (L.2.mono G8.out.size))
  rw [q9] at G9
  clear L q9 G8
  have hc9 : chk [[1], []] = 16 := by decide
  rw [hc9]
  clear hc9
  go_wp2_with fail
  refine (check_any _ 0 _ [] _ (Rows.nil _ _)).mono ?_; rintro e w10 ⟨rfl, rfl⟩
  have hc10 : chk [] = 1 := by decide
  rw [hc10]
  clear hc10
  go_wp2_with fail
  go_ret
  exact ⟨rfl, G9.out⟩
end Go.Proofs.Ytneaddgpbffkpaa

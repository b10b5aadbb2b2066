/- Proved: the law's own first calls of package cut come out as they should. No condition. -/
import Derived.Test.YtddgnheahphikaaDoorCutCut
import Derived.Test.YtddgnheahphikaaDoorCutJoin3
import Derived.Test.YtddgnheahphikaaDoorTxtSame
namespace Go.Proofs.YtddgnheahphikaaDoor
open Go.ChangeShapes Go.WideShapes Go.ChangeAt Go.RowKit

theorem cut_as (s : ByteArray) (k : Int) (o : List ByteArray) (z : Int) (w : World) (hs : s.size ≤ maxLen) (ho : cOut s k = o) (hz : cErrZ s.size k = z) :
    Calls Tryd.prog 7 #[.string s, .int .i64 k] w (GivesSZ w o z) := by
  rw [← ho, ← hz]; exact cut_any s k w hs
theorem join_as (A : Option Addr) (m c : Nat) (l : List ByteArray) (n : Int) (t : ByteArray) (z : Int) (w : World) (hl : Ss w A m l) (hm : m ≤ 40) (hs : ∀ j, j < m → (st_ l j).size ≤ 1100) (ht : jOut l n = t) (hz : jErr l n = z) :
    Calls Tryd.prog 12 #[.slice A m c, .int .i64 n] w (GivesTZ w t z) := by
  rw [← ht, ← hz]; exact join_any A m c l n w hl hm hs
theorem size_as (a b z : Int) (w : World) (wa : (Lit.int .i64 a).wf = true) (hz : sizeZ a b = z) :
    Calls Tryd.prog 10 #[.int .i64 a, .int .i64 b] w fun e w' => e = .returned (.int .i64 z) ∧ w = w' := by
  rw [← hz]; exact size_any a b w wa
abbrev xAbcde : ByteArray := ⟨#[97, 98, 99, 100, 101]⟩
abbrev xAbc : ByteArray := ⟨#[97, 98, 99]⟩
abbrev xDe0 : ByteArray := ⟨#[100, 101, 0]⟩
abbrev xA : ByteArray := ⟨#[97]⟩
abbrev xBc : ByteArray := ⟨#[98, 99]⟩

set_option maxRecDepth 100000 in
set_option maxHeartbeats 3200000 in
theorem wawake_any (w : World) :
    Calls Tryd.prog 6 #[] w fun e w' => e = .returned (.bool true) ∧ Below w.heap.size w w' := by
  go_enter Tryd.func6, Tryd.ntmps6
  go_wp2_with fail
  refine (cut_as xAbcde 2 [xAbc, xDe0] 0 _ (by decide) (by decide +kernel) (by decide +kernel)).mono ?_; rintro e w1 ⟨A1, n1, c1, rfl, h1, g1⟩
  obtain rfl : 2 = n1 := h1.len
  have H1 := Lib.hid h1; have G1 := Lib.hid g1
  clear h1 g1
  go_wp2_with fail
  refine (join_as A1 2 c1 [xAbc, xDe0] 5 xAbcde 0 _ H1.out (by decide) (by decide +kernel) (by decide +kernel) (by decide +kernel)).mono ?_; rintro e w2 ⟨rfl, g2⟩
  have H2 := Lib.hid (H1.out.below g2); have G2 := Lib.hid (G1.out.trans (g2.mono G1.out.size))
  clear g2 H1 G1
  go_wp2_with fail
  refine (join_as A1 2 c1 [xAbc, xDe0] 4 S0 5 _ H2.out (by decide) (by decide +kernel) (by decide +kernel) (by decide +kernel)).mono ?_; rintro e w3 ⟨rfl, g3⟩
  have H3 := Lib.hid (H2.out.below g3); have G3 := Lib.hid (G2.out.trans (g3.mono G2.out.size))
  clear g3 H2 G2
  go_wp2_with fail
  refine (cut_as S0 2 [] 3 _ (by decide) (by decide +kernel) (by decide +kernel)).mono ?_; rintro e w4 ⟨A4, n4, c4, rfl, h4, g4⟩
  have H4 := Lib.hid (H3.out.below g4); have G4 := Lib.hid (G3.out.trans (g4.mono G3.out.size))
  clear h4 g4 H3 G3
  go_wp2_with fail
  have B4 := Lib.hid ((Below.refl w4.heap.size w4).alloc (Nat.le_refl _) (.cells #[.string xA, .string xBc] 9))
  refine (join_as (some ⟨w4.heap.size, 0, none⟩) 2 2 [xA, xBc] 1 S0 16 _ (ss_new w4 [xA, xBc]) (by decide) (by decide +kernel) (by decide +kernel) (by decide +kernel)).mono ?_; rintro e w5 ⟨rfl, g5⟩
  have S5 := Lib.hid (B4.out.trans (g5.mono B4.out.size))
  have H5 := Lib.hid (H4.out.below S5.out); have G5 := Lib.hid (G4.out.trans (S5.out.mono G4.out.size))
  clear g5 B4 H4 G4 S5
  go_wp2_with fail
  have B5 := Lib.hid ((Below.refl w5.heap.size w5).alloc (Nat.le_refl _) (.cells #[.string xAbc, .string xDe0] 9))
  refine (texts_yes A1 (some ⟨w5.heap.size, 0, none⟩) 2 c1 2 [xAbc, xDe0] _ (H5.out.below B5.out) (ss_new w5 [xAbc, xDe0]) (by decide)).mono ?_; rintro e w6 ⟨rfl, q6⟩
  have S6 := Lib.hid (B5.out.trans (two_drawn q6))
  have G6 := Lib.hid (G5.out.trans (S6.out.mono G5.out.size))
  clear q6 B5 H5 G5 S6
  go_wp2_with fail
  refine (size_as 5 2 3 _ (by decide) (by decide +kernel)).mono ?_; rintro e w7 ⟨rfl, rfl⟩
  go_wp2_with fail
  refine (size_as (-1) 2 0 _ (by decide) (by decide +kernel)).mono ?_; rintro e w8 ⟨rfl, rfl⟩
  go_wp2_with fail
  go_ret
  exact ⟨rfl, G6.out⟩
end Go.Proofs.YtddgnheahphikaaDoor

/- Proved: what the document's Scale and MulAdd of rows answer for every byte and rows of bytes. Conditions: those that the theorems name. -/
import Derived.Test.YtneaddgpbffkpaaVecRefAdd
namespace Go.Proofs.Ytneaddgpbffkpaa
open Go.ChangeShapes Go.WideShapes Go.ChangeAt Go.RowKit

set_option maxHeartbeats 400000 in
theorem rscale_cap (B : Option Addr) (m n d : Nat) (b : List Nat) (w : World) (hmm : m < 256) (hb : Bs w B n b) (hm : n ≤ 140737488355328) :
    Calls Try.prog 35 #[.int .u8 (m : Nat), .slice B n d] w (GivesC w n (scaleL n m b)) := by
  obtain ⟨i0, hi0, hz0, hz1, hz2⟩ := info_parts Try.infoByte
  have HB := Lib.hid hb
  clear hb
  go_enter Try.func35, Try.ntmps35
  go_wp2_with fail
  go_loopw [5, 6] (fun v i wr => ∃ k : Nat, k ≤ n ∧ i = .int .i64 k ∧ wr.ownsRow w.heap.size 5 1 v k (cells (mk k fun j => gmul m (b.getD j 0))) ∧ Below w.heap.size w wr) (fun _ i _ => n - (intOf i).toNat)
  case atStart => exact ⟨0, by omega, rfl, World.ownsRow_nil _ _ _ _, Below.refl _ _⟩
  case round =>
    obtain ⟨k, hk, rfl, hown, hbel⟩ := hrel
    have HO := Lib.hid hown
    have HW := Lib.hid hbel
    clear hown hbel
    by_cases hlt : k < n
    · obtain ⟨bd, rfl, lb, hbc⟩ := HB.out.at_ hlt
      rw [← HW.out.cell (p := bd.add k) (by rw [add_block]; exact lb)] at hbc
      have hy := HB.out.lt k
      obtain ⟨y, ey⟩ : ∃ y, y = b.getD k 0 := ⟨_, rfl⟩
      rw [← ey] at hbc hy
      have EY := Lib.hid ey
      clear ey
      have hmax : k + 1 ≤ maxLen := by unfold maxLen; omega
      have hws := HW.out.size
      go_wp2_with (first
        | (go_at_call 22; refine (prod_any m y hmm hy _).mono ?_; rintro e w' ⟨rfl, rfl⟩)
        | (at_builtin; refine wpList_append_lies _ rfl _ _ _ rfl w.heap.size 5 i0 _ 1 1 Try.underlying42 hi0 hz0 hz1 hz2 rfl (by omega) _ k _ rfl (HO.out.alloc _) ⟨wr.heap.size, 0, none⟩ 1 1 [.int .u8 (gmul m y : Nat)] rfl rfl (World.news_of_block (cs := #[.int .u8 (gmul m y : Nat)]) (t := 5) (fr := (0, 0)) (heap_alloc_new wr _)) (by simp [Value.oneCell']) (by omega) hmax (by omega) (by simp; omega) (wr.heap.size + 1) (by simp) ?_; intro gg cap w1 hown1 hgrow hat hlt1))
      go_roundw
      case rel =>
        refine ⟨k + 1, by omega, by go_num, ?_, (HW.out.alloc hws _).grown hgrow (by simp; omega) (fun j e => (HO.out.lt j e).1)⟩
        have h := hown1
        rw [EY.out, cells_mk_succ] at h
        exact h
      case measure => simp [intOf]; omega
    · obtain rfl : k = n := by omega
      obtain ⟨A', c', rfl, hcap, hbs⟩ := bs_of_cap HO.out (scaleL_lt k m b hmm)
      have HBS := Lib.hid hbs
      clear hbs
      go_wp2_with fail
      go_ret
      exact ⟨_, _, rfl, hcap, HBS.out, HW.out⟩
theorem rscale_any (B : Option Addr) (m n d : Nat) (b : List Nat) (w : World) (hmm : m < 256) (hb : Bs w B n b) (hm : n ≤ 140737488355328) :
    Calls Try.prog 35 #[.int .u8 (m : Nat), .slice B n d] w (Gives w n (scaleL n m b)) := (rscale_cap B m n d b w hmm hb hm).mono fun _ _ h => h.gives

set_option maxHeartbeats 400000 in
theorem rmuladd_cap (A B : Option Addr) (m n c d : Nat) (a b : List Nat) (w : World) (hmm : m < 256) (ha : Bs w A n a) (hb : Bs w B n b) (hm : n ≤ 140737488355328) :
    Calls Try.prog 36 #[.slice A n c, .int .u8 (m : Nat), .slice B n d] w (Gives2C w n (addL n a (scaleL n m b))) := by
  have HA := Lib.hid ha
  have HB := Lib.hid hb
  clear ha hb
  go_enter Try.func36, Try.ntmps36
  go_wp2_with fail
  refine (rscale_any B m n d b w hmm HB.out hm).mono ?_; rintro e w1 ⟨A1, c1, rfl, h1, g1⟩
  have H1 := Lib.hid h1; have G1 := Lib.hid g1; clear h1 g1
  go_wp2_with fail
  refine (radd_cap A A1 n c c1 a _ w1 (HA.out.below G1.out) H1.out hm).mono ?_; rintro e w2 ⟨A2, c2, rfl, k2, h2, g2⟩
  have H2 := Lib.hid h2; have G2 := Lib.hid g2; clear h2 g2
  go_wp2_with fail
  go_ret2
  exact ⟨_, _, rfl, k2, H2.out, G1.out.trans (G2.out.mono G1.out.size)⟩
theorem rmuladd_like (A B : Option Addr) (m n c d : Nat) (a b : List Nat) (w : World) (hmm : m < 256) (ha : Bs w A n a) (hb : Bs w B n b) (hm : n ≤ 140737488355328) :
    Calls Try.prog 36 #[.slice A n c, .int .u8 (m : Nat), .slice B n d] w (Gives2 w n (addL n a (scaleL n m b))) := (rmuladd_cap A B m n c d a b w hmm ha hb hm).mono fun _ _ h => h.gives

set_option maxHeartbeats 400000 in
theorem rmuladd_unlike (A B : Option Addr) (m n k c d : Nat) (b : List Nat) (w : World) (hmm : m < 256) (h : n ≠ k) (hb : Bs w B k b) (hm : k ≤ 140737488355328) :
    Calls Try.prog 36 #[.slice A n c, .int .u8 (m : Nat), .slice B k d] w fun e w' => e = .returned (.tuple #[.slice none 0 0, .int .i64 16]) ∧ Below w.heap.size w w' := by
  have HB := Lib.hid hb
  have HN := Lib.hid h
  clear hb h
  go_enter Try.func36, Try.ntmps36
  go_wp2_with fail
  refine (rscale_any B m k d b w hmm HB.out hm).mono ?_; rintro e w1 ⟨A1, c1, rfl, h1, g1⟩
  have G1 := Lib.hid g1; clear h1 g1
  go_wp2_with fail
  refine (radd_unlike A A1 n k c c1 w1 HN.out).mono ?_; rintro e w2 ⟨rfl, rfl⟩
  go_wp2_with fail
  go_ret2
  exact ⟨rfl, G1.out⟩
end Go.Proofs.Ytneaddgpbffkpaa

/- Proved: what Next of package blocks answers. Conditions: those that the theorems name. -/
import Derived.Test.YtkmnlpohbemlgaaBlBase
namespace Go.Proofs.Ytkmnlpohbemlgaa
open Go.ChangeShapes Go.WideShapes Go.ChangeAt Go.RowKit

/-- is there a block; how many bytes it has. -/
def nxB (n : Nat) (f : Bool) (s : ByteArray) : Bool := decide (n ≤ s.size) || (f && decide (0 < s.size))
def nxK (n : Nat) (f : Bool) (s : ByteArray) : Nat := if nxB n f s = true then min n s.size else 0
theorem nx_zero (s : ByteArray) : s.extract 0 0 = S0 := size_zero (by rw [rg_cut_size]; omega)
theorem nx_all (s : ByteArray) : s.extract s.size s.size = S0 := size_zero (by rw [rg_cut_size]; omega)

set_option maxRecDepth 100000 in
set_option maxHeartbeats 1600000 in
/-- There is none. -/
theorem bl_cut_none (q n r : Nat) (g : Option Nat) (s : ByteArray) (w : World) (h : Rg w q r g s) (h1 : s.size < n) :
    Calls Try.prog 17 #[.agg #[.pointer (some ⟨q, 0, none⟩), .int .i64 (n : Nat)], .bool false] w fun e w' => e = .returned (.tuple #[.string S0, .bool false]) ∧ Below w.heap.size w w' := by
  obtain ⟨A, B⟩ := bl_box w (.pointer (some ⟨q, 0, none⟩)) (.int .i64 (n : Nat))
  have hR := h.below B
  have HB := Lib.hid B
  have hm : (s.size : Int) < (n : Int) := by omega
  have x0 : ∀ k, ((w.alloc (.cells #[.pointer (some ⟨q, 0, none⟩), .int .i64 (n : Nat)] 44)).drewN k).cell? ⟨w.heap.size, 0, none⟩ = some (.pointer (some ⟨q, 0, none⟩)) := fun k => A.cell 0 rfl
  have x1 : ∀ k, ((w.alloc (.cells #[.pointer (some ⟨q, 0, none⟩), .int .i64 (n : Nat)] 44)).drewN k).cell? ⟨w.heap.size, 1, none⟩ = some (.int .i64 (n : Nat)) := fun k => A.cell 1 rfl
  have HL := Lib.hid (fun k => rg_len_any q r g s _ (hR.below (two_drawn ⟨k, rfl⟩)))
  clear A B hR h h1
  go_enter Try.func17, Try.ntmps17
  go_wp2_with fail
  generalize w.alloc (.cells #[.pointer (some ⟨q, 0, none⟩), .int .i64 (n : Nat)] 44) = w1 at *
  go_quiet ((go_at_call 19; exact Calls.quiet_of_same ((HL.out _).mono fun _ _ h => ⟨h.1, h.2.symm⟩)))
  go_wp2_with fail
  go_ret2
  exact ⟨rfl, HB.out.trans (two_drawn ⟨_, rfl⟩)⟩

theorem text_ne {s : ByteArray} (h : 0 < s.size) : s.toList.isEmpty = false := by
  rw [ByteArray.toList_eq]
  cases q : s.data.toList with
  | nil => exact absurd h (by show ¬ 1 ≤ s.data.size; rw [← Array.length_toList, q]; decide)
  | cons a r => rfl
set_option maxRecDepth 100000 in
set_option maxHeartbeats 3200000 in
/-- Bytes are taken: so many as a block has, or all. -/
theorem bl_cut_take (q n r k : Nat) (f : Bool) (g : Option Nat) (s : ByteArray) (w : World) (h : Rg w q r g s) (h1 : n ≤ s.size ∨ f = true) (hk : min n s.size = k) :
    Calls Try.prog 17 #[.agg #[.pointer (some ⟨q, 0, none⟩), .int .i64 (n : Nat)], .bool f] w (GivesRg w q r g (.tuple #[.string (s.extract 0 k), .bool (decide (0 < k))]) (s.extract k s.size)) := by
  obtain ⟨A, B⟩ := bl_box w (.pointer (some ⟨q, 0, none⟩)) (.int .i64 (n : Nat))
  have hR := h.below B
  have HB := Lib.hid B
  have hlt := h.lt
  have hrow := h.row_lt
  have HX : Hid (w.heap.size ≠ q ∧ g ≠ some w.heap.size) := Lib.hid ⟨by omega, fun e => by have := hrow _ e; omega⟩
  have HS := Lib.hid h.size
  have x0 : ∀ k, ((w.alloc (.cells #[.pointer (some ⟨q, 0, none⟩), .int .i64 (n : Nat)] 44)).drewN k).cell? ⟨w.heap.size, 0, none⟩ = some (.pointer (some ⟨q, 0, none⟩)) := fun k => A.cell 0 rfl
  have x1 : ∀ k, ((w.alloc (.cells #[.pointer (some ⟨q, 0, none⟩), .int .i64 (n : Nat)] 44)).drewN k).cell? ⟨w.heap.size, 1, none⟩ = some (.int .i64 (n : Nat)) := fun k => A.cell 1 rfl
  have HL := Lib.hid (fun k => rg_len_any q r g s _ (hR.below (two_drawn ⟨k, rfl⟩)))
  have HT := Lib.hid (fun k' => rg_take_many q r k (n : Nat) g s _ (hR.below (two_drawn ⟨k', rfl⟩)) (by omega))
  have hz : (s.extract 0 k).size = k := by rw [rg_cut_size]; omega
  obtain ⟨K, hK⟩ : ∃ K, K = s.extract 0 k := ⟨_, rfl⟩
  obtain ⟨V, hV⟩ : ∃ V, V = s.extract k s.size := ⟨_, rfl⟩
  rw [← hK, ← hV] at HT
  rw [← hK] at hz
  rw [← hK, ← hV]
  clear hK hV
  by_cases hm : (s.size : Int) < (n : Int)
  · obtain rfl : f = true := by rcases h1 with a | a; exact absurd a (by omega); exact a
    clear A B hR h h1 hlt hrow hk
    by_cases h0 : 0 < k
    · have e1 := text_ne (s := K) (by omega)
      have e2 := list_ne (size_ne (s := K) (by omega))
      have e3 : K ≠ S0 := size_ne (by omega)
      have e0 : decide (0 < k) = true := decide_eq_true h0
      rw [e0]
      clear hz h0 e0
      go_enter Try.func17, Try.ntmps17
      go_wp2_with fail
      generalize w.alloc (.cells #[.pointer (some ⟨q, 0, none⟩), .int .i64 (n : Nat)] 44) = w1 at *
      go_quiet ((go_at_call 19; exact Calls.quiet_of_same ((HL.out _).mono fun _ _ h => ⟨h.1, h.2.symm⟩)))
      go_wp2_with fail
      refine (HT.out _).mono ?_; rintro e w2 ⟨rfl, g', hr, ht, hg⟩
      have R2 := Lib.hid (And.intro hr (And.intro ht hg))
      clear hr ht hg
      go_wp2_with fail
      go_ret2
      exact ⟨rfl, g', R2.out.1, (turns_below (HB.out.trans (two_drawn ⟨_, rfl⟩)) q g).trans (Grows.refl _ _) R2.out.2.1, (Grows.refl w g).trans HB.out.size R2.out.2.2⟩
    · obtain rfl : k = 0 := by omega
      obtain rfl : K = S0 := size_zero hz
      clear hz h0
      go_enter Try.func17, Try.ntmps17
      go_wp2_with fail
      generalize w.alloc (.cells #[.pointer (some ⟨q, 0, none⟩), .int .i64 (n : Nat)] 44) = w1 at *
      go_quiet ((go_at_call 19; exact Calls.quiet_of_same ((HL.out _).mono fun _ _ h => ⟨h.1, h.2.symm⟩)))
      go_wp2_with fail
      refine (HT.out _).mono ?_; rintro e w2 ⟨rfl, g', hr, ht, hg⟩
      have R2 := Lib.hid (And.intro hr (And.intro ht hg))
      clear hr ht hg
      go_wp2_with fail
      go_ret2
      exact ⟨rfl, g', R2.out.1, (turns_below (HB.out.trans (two_drawn ⟨_, rfl⟩)) q g).trans (Grows.refl _ _) R2.out.2.1, (Grows.refl w g).trans HB.out.size R2.out.2.2⟩
  · have hmn : decide (s.size < n) = false := decide_eq_false (by omega)
    clear A B hR h h1 hlt hrow
    by_cases h0 : 0 < k
    · have e1 := text_ne (s := K) (by omega)
      have e2 := list_ne (size_ne (s := K) (by omega))
      have e3 : K ≠ S0 := size_ne (by omega)
      have e0 : decide (0 < k) = true := decide_eq_true h0
      rw [e0]
      clear hz h0 e0 hk
      go_enter Try.func17, Try.ntmps17
      go_wp2_with fail
      generalize w.alloc (.cells #[.pointer (some ⟨q, 0, none⟩), .int .i64 (n : Nat)] 44) = w1 at *
      go_quiet ((go_at_call 19; exact Calls.quiet_of_same ((HL.out _).mono fun _ _ h => ⟨h.1, h.2.symm⟩)))
      go_wp2_with fail
      refine (HT.out _).mono ?_; rintro e w2 ⟨rfl, g', hr, ht, hg⟩
      have R2 := Lib.hid (And.intro hr (And.intro ht hg))
      clear hr ht hg
      go_wp2_with fail
      go_ret2
      exact ⟨rfl, g', R2.out.1, (turns_below (HB.out.trans (two_drawn ⟨_, rfl⟩)) q g).trans (Grows.refl _ _) R2.out.2.1, (Grows.refl w g).trans HB.out.size R2.out.2.2⟩
    · obtain rfl : k = 0 := by omega
      obtain rfl : K = S0 := size_zero hz
      clear hz h0 hk
      go_enter Try.func17, Try.ntmps17
      go_wp2_with fail
      generalize w.alloc (.cells #[.pointer (some ⟨q, 0, none⟩), .int .i64 (n : Nat)] 44) = w1 at *
      go_quiet ((go_at_call 19; exact Calls.quiet_of_same ((HL.out _).mono fun _ _ h => ⟨h.1, h.2.symm⟩)))
      go_wp2_with fail
      refine (HT.out _).mono ?_; rintro e w2 ⟨rfl, g', hr, ht, hg⟩
      have R2 := Lib.hid (And.intro hr (And.intro ht hg))
      clear hr ht hg
      go_wp2_with fail
      go_ret2
      exact ⟨rfl, g', R2.out.1, (turns_below (HB.out.trans (two_drawn ⟨_, rfl⟩)) q g).trans (Grows.refl _ _) R2.out.2.1, (Grows.refl w g).trans HB.out.size R2.out.2.2⟩
theorem bl_cut (q n r : Nat) (f : Bool) (g : Option Nat) (s : ByteArray) (w : World) (h : Rg w q r g s) (h1 : 1 ≤ n) :
    Calls Try.prog 17 #[.agg #[.pointer (some ⟨q, 0, none⟩), .int .i64 (n : Nat)], .bool f] w (GivesRg w q r g (.tuple #[.string (s.extract 0 (nxK n f s)), .bool (nxB n f s)]) (s.extract (nxK n f s) s.size)) := by
  by_cases a : n ≤ s.size ∨ f = true
  · have e1 : nxB n f s = decide (0 < min n s.size) := by
      unfold nxB
      by_cases b : n ≤ s.size
      · rw [decide_eq_true b, Bool.true_or, decide_eq_true (by omega)]
      · obtain rfl : f = true := by rcases a with a | a; exact absurd a b; exact a
        rw [decide_eq_false b, Bool.false_or, Bool.true_and]
        by_cases c : 0 < s.size
        · rw [decide_eq_true c, decide_eq_true (by omega)]
        · rw [decide_eq_false c, decide_eq_false (by omega)]
    have e2 : nxK n f s = min n s.size := by
      unfold nxK
      rw [e1]
      by_cases c : 0 < min n s.size
      · rw [if_pos (decide_eq_true c)]
      · rw [if_neg (by simpa using c)]; omega
    rw [e1, e2]
    exact bl_cut_take q n r _ f g s w h a rfl
  · have b : ¬ n ≤ s.size := fun x => a (Or.inl x)
    obtain rfl : f = false := by cases f; rfl; exact absurd (Or.inr rfl) a
    have e1 : nxB n false s = false := by unfold nxB; rw [decide_eq_false b]; rfl
    have e2 : nxK n false s = 0 := by unfold nxK; rw [e1]; rfl
    rw [e1, e2, nx_zero, rg_rest_none]
    refine (bl_cut_none q n r g s w h (by omega)).mono ?_
    rintro e w' ⟨rfl, k⟩
    exact ⟨rfl, g, h.below k, turns_below k q g, Grows.refl _ _⟩
set_option maxRecDepth 100000 in
set_option maxHeartbeats 1600000 in
theorem bl_next (b q n r : Nat) (f : Bool) (g : Option Nat) (s : ByteArray) (w : World) (h : Bk w b q n r g s) :
    Calls Try.prog 10 #[.pointer (some ⟨b, 0, none⟩), .bool f] w (GivesBk w b q n r g (.tuple #[.string (s.extract 0 (nxK n f s)), .bool (nxB n f s)]) (s.extract (nxK n f s) s.size)) := by
  have HK := Lib.hid h
  have HC := Lib.hid (fun W (x : Rg W q r g s) => bl_cut q n r f g s W x h.2.2.2.2.1)
  clear h
  generalize s.extract 0 (nxK n f s) = u at *
  generalize s.extract (nxK n f s) s.size = v at *
  generalize nxB n f s = t at *
  go_enter Try.func10, Try.ntmps10
  go_wp2_with fail
  refine (bl_what b q n r g s w HK.out).mono ?_; rintro e w1 ⟨rfl, g1⟩
  have G1 := Lib.hid g1
  clear g1
  go_wp2_with fail
  refine (HC.out w1 (HK.out.2.1.below G1.out)).mono ?_; rintro e w2 ⟨rfl, g', hr, ht, hg⟩
  have R2 := Lib.hid (And.intro hr (And.intro ht hg))
  clear hr ht hg
  go_wp2_with fail
  go_ret2
  exact ⟨rfl, g', (HK.out.below G1.out).ring R2.out.1 R2.out.2.1 R2.out.2.2, (turns_below G1.out q g).trans (Grows.refl _ _) R2.out.2.1, (Grows.refl w g).trans G1.out.size R2.out.2.2⟩

/-! ### on nil -/
set_option maxRecDepth 100000 in
set_option maxHeartbeats 1600000 in
theorem bl_cut_nil (f : Bool) (w : World) :
    Calls Try.prog 17 #[.agg #[.pointer none, .int .i64 0], .bool f] w fun e w' => e = .returned (.tuple #[.string S0, .bool false]) ∧ Below w.heap.size w w' := by
  obtain ⟨A, B⟩ := bl_box w (.pointer none) (.int .i64 0)
  have HB := Lib.hid B
  have x0 : ∀ k, ((w.alloc (.cells #[.pointer none, .int .i64 0] 44)).drewN k).cell? ⟨w.heap.size, 0, none⟩ = some (.pointer none) := fun k => A.cell 0 rfl
  have x1 : ∀ k, ((w.alloc (.cells #[.pointer none, .int .i64 0] 44)).drewN k).cell? ⟨w.heap.size, 1, none⟩ = some (.int .i64 0) := fun k => A.cell 1 rfl
  have HL := Lib.hid rg_len_nil
  have HT := Lib.hid (rg_take_nil 0)
  clear A B
  go_enter Try.func17, Try.ntmps17
  go_wp2_with fail
  generalize w.alloc (.cells #[.pointer none, .int .i64 0] 44) = w1 at *
  go_quiet ((go_at_call 19; exact Calls.quiet_of_same ((HL.out _).mono fun _ _ h => ⟨h.1, h.2.symm⟩)))
  go_wp2_with fail
  refine (HT.out _).mono ?_; rintro e w2 ⟨rfl, rfl⟩
  go_wp2_with fail
  go_ret2
  exact ⟨rfl, HB.out.trans (two_drawn ⟨_, rfl⟩)⟩
theorem bl_next_nil (f : Bool) (w : World) :
    Calls Try.prog 10 #[.pointer none, .bool f] w fun e w' => e = .returned (.tuple #[.string S0, .bool false]) ∧ Below w.heap.size w w' := by
  go_enter Try.func10, Try.ntmps10
  go_wp2_with fail
  refine (bl_what_nil w).mono ?_; rintro e w1 ⟨rfl, g1⟩
  have G1 := Lib.hid g1
  clear g1
  go_wp2_with fail
  refine (bl_cut_nil f w1).mono ?_; rintro e w2 ⟨rfl, g2⟩
  have G2 := Lib.hid (G1.out.trans (g2.mono G1.out.size))
  clear g2
  go_wp2_with fail
  go_ret2
  exact ⟨rfl, G2.out⟩
end Go.Proofs.Ytkmnlpohbemlgaa

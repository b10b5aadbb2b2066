/- Proved: blocks that were made since the call began, and the first calls of the laws of package blocks. Conditions: those that the theorems name. -/
import Derived.Test.YtkmnlpohbemlgaaBlNext
namespace Go.Proofs.Ytkmnlpohbemlgaa
open Go.ChangeShapes Go.WideShapes Go.ChangeAt Go.RowKit

/-- Block b is blocks that were made since w; of what was there in w nothing has turned. -/
def BB (w wi : World) (b n r : Nat) (s : ByteArray) : Prop := ∃ q g, Bk wi b q n r g s ∧ w.heap.size ≤ b ∧ w.heap.size ≤ q ∧ (∀ x, g = some x → w.heap.size ≤ x) ∧ Below w.heap.size w wi
theorem BB.bel {w wi : World} {b n r : Nat} {s : ByteArray} (h : BB w wi b n r s) : Below w.heap.size w wi := by
  obtain ⟨q, g, _, _, _, _, h⟩ := h
  exact h
theorem BB.size {w wi : World} {b n r : Nat} {s : ByteArray} (h : BB w wi b n r s) : s.size ≤ r ∧ r ≤ 1048576 := by
  obtain ⟨q, g, h, _⟩ := h
  exact h.size
theorem BB.fits {w wi : World} {b n r : Nat} {s : ByteArray} (h : BB w wi b n r s) : 1 ≤ n ∧ n ≤ 32768 ∧ n ≤ r := by
  obtain ⟨q, g, h, _⟩ := h
  exact h.2.2.2.2
theorem BB.below {w wi w' : World} {b n r : Nat} {s : ByteArray} (h : BB w wi b n r s) (k : Below wi.heap.size wi w') : BB w w' b n r s := by
  obtain ⟨q, g, hk, hb, hq, hg, hl⟩ := h
  exact ⟨q, g, hk.below k, hb, hq, hg, hl.trans (k.mono hl.size)⟩
theorem BB.step {w wi w' : World} {b n r q : Nat} {s' : ByteArray} {g g' : Option Nat} (hb : w.heap.size ≤ b) (hq : w.heap.size ≤ q) (hg : ∀ x, g = some x → w.heap.size ≤ x) (hl : Below w.heap.size w wi) (hr : Bk w' b q n r g' s') (ht : Turns wi w' q g) (hgr : Grows wi g g') : BB w w' b n r s' :=
  ⟨q, g', hr, hb, hq, fun x hx => by
    rcases hgr x hx with y | y
    · exact hg x y
    · exact Nat.le_trans hl.size y, hl.trans (ht.below hl.size hq hg)⟩
theorem bb_new (w wi : World) (n r : Nat) (hl : Below w.heap.size w wi) (h0 : 1 ≤ n) (h1 : n ≤ 32768) (h2 : n ≤ r) (h3 : r ≤ 1048576) :
    Calls Try.prog 7 #[.int .i64 (n : Nat), .int .i64 (r : Nat)] wi fun e w' => ∃ b, e = .returned (.tuple #[.pointer (some ⟨b, 0, none⟩), .int .i64 0]) ∧ BB w w' b n r S0 := by
  refine (bl_new_any n r wi h0 h1 h2 h3).mono ?_
  rintro e w' ⟨rfl, hk, hb⟩
  exact ⟨_, rfl, wi.heap.size, none, hk, Nat.le_succ_of_le hl.size, hl.size, (fun _ h => nomatch h), hl.trans (hb.mono hl.size)⟩
theorem bb_write {w wi : World} {b n r : Nat} {s : ByteArray} (h : BB w wi b n r s) (t : ByteArray) :
    Calls Try.prog 8 #[.pointer (some ⟨b, 0, none⟩), .string t] wi fun e w' => e = .returned (.int .i64 (min t.size (r - s.size) : Nat)) ∧ BB w w' b n r (s ++ t.extract 0 (min t.size (r - s.size))) := by
  obtain ⟨q, g, hk, hb, hq, hg, hl⟩ := h
  refine (bl_write b q n r g s t wi hk).mono ?_
  rintro e w' ⟨rfl, g', hr, ht, hgr⟩
  exact ⟨rfl, BB.step hb hq hg hl hr ht hgr⟩
theorem bb_next {w wi : World} {b n r : Nat} {s : ByteArray} (h : BB w wi b n r s) (f : Bool) :
    Calls Try.prog 10 #[.pointer (some ⟨b, 0, none⟩), .bool f] wi fun e w' => e = .returned (.tuple #[.string (s.extract 0 (nxK n f s)), .bool (nxB n f s)]) ∧ BB w w' b n r (s.extract (nxK n f s) s.size) := by
  obtain ⟨q, g, hk, hb, hq, hg, hl⟩ := h
  refine (bl_next b q n r f g s wi hk).mono ?_
  rintro e w' ⟨rfl, g', hr, ht, hgr⟩
  exact ⟨rfl, BB.step hb hq hg hl hr ht hgr⟩
theorem bb_clear {w wi : World} {b n r : Nat} {s : ByteArray} (h : BB w wi b n r s) :
    Calls Try.prog 11 #[.pointer (some ⟨b, 0, none⟩)] wi fun e w' => e = .returned (.tuple #[]) ∧ BB w w' b n r S0 := by
  obtain ⟨q, g, hk, hb, hq, hg, hl⟩ := h
  refine (bl_clear b q n r g s wi hk).mono ?_
  rintro e w' ⟨rfl, g', hr, ht, hgr⟩
  exact ⟨rfl, BB.step hb hq hg hl hr ht hgr⟩
theorem bb_len {w wi : World} {b n r : Nat} {s : ByteArray} (h : BB w wi b n r s) :
    Calls Try.prog 12 #[.pointer (some ⟨b, 0, none⟩)] wi fun e w' => e = .returned (.int .i64 (s.size : Nat)) ∧ BB w w' b n r s := by
  have h0 := h
  obtain ⟨q, g, hk, hb, hq, hg, hl⟩ := h
  refine (bl_len b q n r g s wi hk).mono ?_
  rintro e w' ⟨rfl, k⟩
  exact ⟨rfl, h0.below k⟩
theorem bb_room {w wi : World} {b n r : Nat} {s : ByteArray} (h : BB w wi b n r s) :
    Calls Try.prog 13 #[.pointer (some ⟨b, 0, none⟩)] wi fun e w' => e = .returned (.int .i64 ((r : Int) - (s.size : Int))) ∧ BB w w' b n r s := by
  have h0 := h
  obtain ⟨q, g, hk, hb, hq, hg, hl⟩ := h
  refine (bl_room b q n r g s wi hk).mono ?_
  rintro e w' ⟨rfl, k⟩
  exact ⟨rfl, h0.below k⟩

abbrev blabcde : ByteArray := ⟨#[97, 98, 99, 100, 101]⟩
abbrev blabcd : ByteArray := ⟨#[97, 98, 99, 100]⟩
abbrev blab : ByteArray := ⟨#[97, 98]⟩
abbrev blcd : ByteArray := ⟨#[99, 100]⟩
abbrev blz : ByteArray := ⟨#[122]⟩
theorem bw_is {w wi : World} {b n r : Nat} {s : ByteArray} (h : BB w wi b n r s) (t : ByteArray) (v : Int) (s' : ByteArray) (hv : ((min t.size (r - s.size) : Nat) : Int) = v) (hs : s ++ t.extract 0 (min t.size (r - s.size)) = s') :
    Calls Try.prog 8 #[.pointer (some ⟨b, 0, none⟩), .string t] wi fun e w' => e = .returned (.int .i64 v) ∧ BB w w' b n r s' := by rw [← hv, ← hs]; exact bb_write h t
theorem bn_is {w wi : World} {b n r : Nat} {s : ByteArray} (h : BB w wi b n r s) (f : Bool) (v s' : ByteArray) (y : Bool) (hv : s.extract 0 (nxK n f s) = v) (hy : nxB n f s = y) (hs : s.extract (nxK n f s) s.size = s') :
    Calls Try.prog 10 #[.pointer (some ⟨b, 0, none⟩), .bool f] wi fun e w' => e = .returned (.tuple #[.string v, .bool y]) ∧ BB w w' b n r s' := by rw [← hv, ← hs, ← hy]; exact bb_next h f
set_option maxRecDepth 100000 in
set_option maxHeartbeats 1600000 in
theorem bl_awake_any (w : World) :
    Calls Try.prog 6 #[] w fun e w' => e = .returned (.bool true) ∧ Below w.heap.size w w' := by
  have HN := Lib.hid (bb_new w w 2 4 (Below.refl _ _) (by decide) (by decide) (by decide) (by decide))
  go_enter Try.func6, Try.ntmps6
  go_wp2_with fail
  refine HN.out.mono ?_; rintro e w1 ⟨b, rfl, r1⟩
  have R1 := Lib.hid r1
  clear r1 HN
  go_wp2_with fail
  refine (bl_new_bad 5 4 _ (Or.inr (Or.inr (Or.inl (by decide))))).mono ?_; rintro e w2 ⟨rfl, rfl⟩
  go_wp2_with fail
  refine (bw_is R1.out blabcde 4 blabcd (by decide +kernel) (by decide +kernel)).mono ?_; rintro e w3 ⟨rfl, r3⟩
  have R3 := Lib.hid r3
  clear r3 R1
  go_wp2_with fail
  refine (bn_is R3.out false blab blcd true (by decide +kernel) (by decide +kernel) (by decide +kernel)).mono ?_; rintro e w4 ⟨rfl, r4⟩
  have R4 := Lib.hid r4
  clear r4 R3
  go_wp2_with fail
  refine (bn_is R4.out false blcd S0 true (by decide +kernel) (by decide +kernel) (by decide +kernel)).mono ?_; rintro e w5 ⟨rfl, r5⟩
  have R5 := Lib.hid r5
  clear r5 R4
  go_wp2_with fail
  refine (bn_is R5.out false S0 S0 false (by decide +kernel) (by decide +kernel) (by decide +kernel)).mono ?_; rintro e w6 ⟨rfl, r6⟩
  have R6 := Lib.hid r6
  clear r6 R5
  go_wp2_with fail
  refine (bw_is R6.out blz 1 blz (by decide +kernel) (by decide +kernel)).mono ?_; rintro e w7 ⟨rfl, r7⟩
  have R7 := Lib.hid r7
  clear r7 R6
  go_wp2_with fail
  refine (bn_is R7.out true blz S0 true (by decide +kernel) (by decide +kernel) (by decide +kernel)).mono ?_; rintro e w8 ⟨rfl, r8⟩
  have R8 := Lib.hid r8
  clear r8 R7
  go_wp2_with fail
  refine (bn_is R8.out true S0 S0 false (by decide +kernel) (by decide +kernel) (by decide +kernel)).mono ?_; rintro e w9 ⟨rfl, r9⟩
  have R9 := Lib.hid r9
  clear r9 R8
  go_wp2_with fail
  refine (bb_len R9.out).mono ?_; rintro e wa ⟨rfl, ra⟩
  have RA := Lib.hid ra
  clear ra R9
  go_wp2_with fail
  refine (bb_room RA.out).mono ?_; rintro e wb ⟨rfl, rb⟩
  have RC := Lib.hid rb
  clear rb RA
  go_wp2_with fail
  go_ret
  exact ⟨rfl, RC.out.bel⟩

/-! ### blocks that are none -/
set_option maxRecDepth 100000 in
set_option maxHeartbeats 1600000 in
theorem bl_none_walk (s : ByteArray) (w : World) :
    Calls Try.prog 5 #[.string s] w fun e w' => e = .returned (.bool true) ∧ Below w.heap.size w w' := by
  go_enter Try.func5, Try.ntmps5
  go_wp2_with fail
  refine (bl_next_nil true w).mono ?_; rintro e w1 ⟨rfl, g1⟩
  have G1 := Lib.hid g1
  clear g1
  go_wp2_with fail
  refine (bl_clear_nil w1).mono ?_; rintro e w2 ⟨rfl, g2⟩
  have G2 := Lib.hid (G1.out.trans (g2.mono G1.out.size))
  clear g2
  go_wp2_with fail
  refine (bl_write_nil s w2).mono ?_; rintro e w3 ⟨rfl, g3⟩
  have G3 := Lib.hid (G2.out.trans (g3.mono G2.out.size))
  clear g3
  go_wp2_with fail
  refine (bl_len_nil w3).mono ?_; rintro e w4 ⟨rfl, g4⟩
  have G4 := Lib.hid (G3.out.trans (g4.mono G3.out.size))
  clear g4
  go_wp2_with fail
  refine (bl_room_nil w4).mono ?_; rintro e w5 ⟨rfl, g5⟩
  have G5 := Lib.hid (G4.out.trans (g5.mono G4.out.size))
  clear g5
  go_wp2_with fail
  refine (bl_awake_any _).mono ?_; rintro e w6 ⟨rfl, g6⟩
  have G6 := Lib.hid (G5.out.trans (g6.mono G5.out.size))
  clear g6
  go_wp2_with fail
  go_ret
  exact ⟨rfl, G6.out⟩
end Go.Proofs.Ytkmnlpohbemlgaa

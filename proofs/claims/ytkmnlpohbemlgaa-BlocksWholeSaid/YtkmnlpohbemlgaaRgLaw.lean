/- Proved: the walks of the laws of package ring. Conditions: those that the theorems name. -/
import Derived.Test.YtkmnlpohbemlgaaRgDo
namespace Go.Proofs.Ytkmnlpohbemlgaa
open Go.ChangeShapes Go.WideShapes Go.ChangeAt Go.RowKit

/-- Block b is a ring that was made since w; of what was there in w nothing has turned. -/
def RB (w wi : World) (b r : Nat) (s : ByteArray) : Prop := ∃ g, Rg wi b r g s ∧ w.heap.size ≤ b ∧ (∀ x, g = some x → w.heap.size ≤ x) ∧ Below w.heap.size w wi
theorem RB.bel {w wi : World} {b r : Nat} {s : ByteArray} (h : RB w wi b r s) : Below w.heap.size w wi := by
  obtain ⟨g, _, _, _, h⟩ := h
  exact h
theorem RB.size {w wi : World} {b r : Nat} {s : ByteArray} (h : RB w wi b r s) : s.size ≤ r ∧ r ≤ 1048576 := by
  obtain ⟨g, h, _, _, _⟩ := h
  exact ⟨h.size, h.room⟩
theorem RB.step {w wi w' : World} {b r : Nat} {s' : ByteArray} {g g' : Option Nat} (hb : w.heap.size ≤ b) (hg : ∀ x, g = some x → w.heap.size ≤ x) (hl : Below w.heap.size w wi) (hr : Rg w' b r g' s') (ht : Turns wi w' b g) (hgr : Grows wi g g') : RB w w' b r s' :=
  ⟨g', hr, hb, fun x hx => by
    rcases hgr x hx with q | q
    · exact hg x q
    · exact Nat.le_trans hl.size q, hl.trans (ht.below hl.size hb hg)⟩
theorem RB.below {w wi w' : World} {b r : Nat} {s : ByteArray} (h : RB w wi b r s) (k : Below wi.heap.size wi w') : RB w w' b r s := by
  obtain ⟨g, hr, hb, hg, hl⟩ := h
  exact ⟨g, hr.below k, hb, hg, hl.trans (k.mono hl.size)⟩
theorem rb_new (w wi : World) (r : Nat) (hl : Below w.heap.size w wi) (h1 : r ≤ 1048576) : RB w (wi.alloc (.cells (rgCells r 0 0 none 0).toArray 50)) wi.heap.size r S0 :=
  ⟨none, rg_of_new r wi h1, hl.size, (fun _ h => nomatch h), hl.alloc hl.size _⟩
theorem rb_put {w wi : World} {b r : Nat} {s : ByteArray} (h : RB w wi b r s) (t : ByteArray) :
    Calls Try.prog 16 #[.pointer (some ⟨b, 0, none⟩), .string t] wi fun e w' => e = .returned (.int .i64 (min t.size (r - s.size) : Nat)) ∧ RB w w' b r (s ++ t.extract 0 (min t.size (r - s.size))) := by
  obtain ⟨g, hr, hb, hg, hl⟩ := h
  refine (rg_put_any b r g s t wi hr).mono ?_
  rintro e w' ⟨rfl, g', hr', ht, hgr⟩
  exact ⟨rfl, RB.step hb hg hl hr' ht hgr⟩
theorem rb_take {w wi : World} {b r : Nat} {s : ByteArray} (h : RB w wi b r s) (z : Int) :
    Calls Try.prog 23 #[.pointer (some ⟨b, 0, none⟩), .int .i64 z] wi fun e w' => e = .returned (.string (s.extract 0 (max 0 (min z (s.size : Int))).toNat)) ∧ RB w w' b r (s.extract (max 0 (min z (s.size : Int))).toNat s.size) := by
  obtain ⟨g, hr, hb, hg, hl⟩ := h
  refine (rg_take_any b r z g s wi hr).mono ?_
  rintro e w' ⟨rfl, g', hr', ht, hgr⟩
  exact ⟨rfl, RB.step hb hg hl hr' ht hgr⟩
theorem rb_peek {w wi : World} {b r : Nat} {s : ByteArray} (h : RB w wi b r s) (z : Int) :
    Calls Try.prog 24 #[.pointer (some ⟨b, 0, none⟩), .int .i64 z] wi fun e w' => e = .returned (.string (s.extract 0 (max 0 (min z (s.size : Int))).toNat)) ∧ RB w w' b r s := by
  have h0 := h
  obtain ⟨g, hr, hb, hg, hl⟩ := h
  refine (rg_peek_any b r z g s wi hr).mono ?_
  rintro e w' ⟨rfl, k⟩
  exact ⟨rfl, h0.below k⟩
theorem rb_len {w wi : World} {b r : Nat} {s : ByteArray} (h : RB w wi b r s) :
    Calls Try.prog 19 #[.pointer (some ⟨b, 0, none⟩)] wi fun e w' => e = .returned (.int .i64 (s.size : Nat)) ∧ wi = w' := by
  obtain ⟨g, hr, hb, hg, hl⟩ := h
  exact rg_len_any b r g s wi hr
theorem rb_room {w wi : World} {b r : Nat} {s : ByteArray} (h : RB w wi b r s) :
    Calls Try.prog 20 #[.pointer (some ⟨b, 0, none⟩)] wi fun e w' => e = .returned (.int .i64 ((r : Int) - (s.size : Int))) ∧ RB w w' b r s := by
  have h0 := h
  obtain ⟨g, hr, hb, hg, hl⟩ := h
  refine (rg_room_any b r g s wi hr).mono ?_
  rintro e w' ⟨rfl, k⟩
  exact ⟨rfl, h0.below (two_drawn k)⟩
theorem rb_clear {w wi : World} {b r : Nat} {s : ByteArray} (h : RB w wi b r s) :
    Calls Try.prog 18 #[.pointer (some ⟨b, 0, none⟩)] wi fun e w' => e = .returned (.tuple #[]) ∧ RB w w' b r S0 := by
  obtain ⟨g, hr, hb, hg, hl⟩ := h
  refine (rg_clear_any b r g s wi hr).mono ?_
  rintro e w' ⟨rfl, g', hr', ht, hgr⟩
  exact ⟨rfl, RB.step hb hg hl hr' ht hgr⟩
abbrev rgabcd : ByteArray := ⟨#[97, 98, 99, 100]⟩
abbrev rgabc : ByteArray := ⟨#[97, 98, 99]⟩
abbrev rgab : ByteArray := ⟨#[97, 98]⟩
abbrev rgc : ByteArray := ⟨#[99]⟩
abbrev rgef : ByteArray := ⟨#[101, 102]⟩
abbrev rgcef : ByteArray := ⟨#[99, 101, 102]⟩
abbrev rgx : ByteArray := ⟨#[120]⟩
theorem put_is {w wi : World} {b r : Nat} {s : ByteArray} (h : RB w wi b r s) (t : ByteArray) (v : Int) (s' : ByteArray) (hv : ((min t.size (r - s.size) : Nat) : Int) = v) (hs : s ++ t.extract 0 (min t.size (r - s.size)) = s') :
    Calls Try.prog 16 #[.pointer (some ⟨b, 0, none⟩), .string t] wi fun e w' => e = .returned (.int .i64 v) ∧ RB w w' b r s' := by rw [← hv, ← hs]; exact rb_put h t
theorem take_is {w wi : World} {b r : Nat} {s : ByteArray} (h : RB w wi b r s) (z : Int) (v s' : ByteArray) (hv : s.extract 0 (max 0 (min z (s.size : Int))).toNat = v) (hs : s.extract (max 0 (min z (s.size : Int))).toNat s.size = s') :
    Calls Try.prog 23 #[.pointer (some ⟨b, 0, none⟩), .int .i64 z] wi fun e w' => e = .returned (.string v) ∧ RB w w' b r s' := by rw [← hv, ← hs]; exact rb_take h z
theorem peek_is {w wi : World} {b r : Nat} {s : ByteArray} (h : RB w wi b r s) (z : Int) (v : ByteArray) (hv : s.extract 0 (max 0 (min z (s.size : Int))).toNat = v) :
    Calls Try.prog 24 #[.pointer (some ⟨b, 0, none⟩), .int .i64 z] wi fun e w' => e = .returned (.string v) ∧ RB w w' b r s := by rw [← hv]; exact rb_peek h z
end Go.Proofs.Ytkmnlpohbemlgaa

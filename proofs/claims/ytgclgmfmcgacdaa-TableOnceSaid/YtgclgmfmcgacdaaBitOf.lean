/- Proved: what Set, Of and Count of package bits, and their twins of the document, answer for every string, int and slice of ints. Conditions: those that the theorems name. -/
import Derived.Test.YtgclgmfmcgacdaaBitSet
namespace Go.Proofs.Ytgclgmfmcgacdaa
open Go.ChangeShapes Go.WideShapes Go.ChangeAt Go.RowKit

/-- a text and an error come back. -/
def GivesSE (W : World) (s : ByteArray) (z : Int) (e : Ending) (w' : World) : Prop := e = .returned (.tuple #[.string s, .int .i64 z]) ∧ Below W.heap.size W w'
theorem setE_size {s : ByteArray} (h : s.size ≠ 32) (i : Int) : setE s i = 5 ∧ setS s i = S0 := by unfold setE setS; rw [if_neg h, if_neg h]; exact ⟨rfl, rfl⟩
theorem setE_out {s : ByteArray} {i : Int} (h : s.size = 32) (hi : inB i = false) : setE s i = 2 ∧ setS s i = S0 := by
  unfold setE setS
  rw [if_pos h, if_pos h, if_neg (by simp [hi]), if_neg (by simp [hi])]; exact ⟨rfl, rfl⟩
theorem setE_in {s : ByteArray} {i : Int} (h : s.size = 32) (hi : inB i = true) : setE s i = 0 ∧ setS s i = tx (withB (bts s) i) := by
  unfold setE setS
  rw [if_pos h, if_pos h, if_pos hi, if_pos hi]; exact ⟨rfl, rfl⟩
set_option maxHeartbeats 800000 in
theorem set11_any (s : ByteArray) (i : Int) (w : World) :
    Calls Try.prog 60 #[.string s, .int .i64 i] w (GivesSE w (setS s i) (setE s i)) := by
  have HS := Lib.hid (fun w => sized11_any s w)
  have HP := Lib.hid (fun w => placed_any i w)
  by_cases h : s.size = 32
  · rw [decide_eq_true h] at HS
    cases hi : inB i with
    | false =>
      rw [hi] at HP
      obtain ⟨h1, h2⟩ := setE_out h hi
      rw [h1, h2]
      clear h hi h1 h2
      go_enter Try.func60, Try.ntmps60
      go_wp2_with fail
      refine (HS.out _).mono ?_; rintro e wp ⟨rfl, rfl⟩
      go_wp2_with fail
      refine (HP.out _).mono ?_; rintro e wp ⟨rfl, rfl⟩
      go_wp2_with fail
      go_ret2
      exact ⟨rfl, Below.refl _ _⟩
    | true =>
      rw [hi] at HP
      obtain ⟨h1, h2⟩ := setE_in h hi
      rw [h1, h2]
      have HW := Lib.hid (bwith_any s (some ⟨w.heap.size, 0, none⟩) 1 1 [i] _ (is_zone w i) h (by omega))
      rw [show withK (bts s) [i] 1 = withB (bts s) i from rfl] at HW
      clear h hi h1 h2
      go_enter Try.func60, Try.ntmps60
      go_wp2_with fail
      refine (HS.out _).mono ?_; rintro e wp ⟨rfl, rfl⟩
      go_wp2_with fail
      refine (HP.out _).mono ?_; rintro e wp ⟨rfl, rfl⟩
      go_wp2_with fail
      refine (HW.out).mono ?_; rintro e wp ⟨rfl, g⟩
      have HB := Lib.hid (((Below.refl w.heap.size w).alloc (Nat.le_refl _) (.cells #[.int .i64 i] 3)).trans (g.mono (by simp)))
      clear g
      go_wp2_with fail
      go_ret2
      exact ⟨rfl, HB.out⟩
  · rw [decide_eq_false h] at HS
    obtain ⟨h1, h2⟩ := setE_size h i
    rw [h1, h2]
    clear h h1 h2
    go_enter Try.func60, Try.ntmps60
    go_wp2_with fail
    refine (HS.out _).mono ?_; rintro e wp ⟨rfl, rfl⟩
    go_wp2_with fail
    go_ret2
    exact ⟨rfl, Below.refl _ _⟩
theorem noB_bts : bts (tx noB) = noB := bts_tx noB_lt
theorem noB_size : (tx noB).size = 32 := by rw [tx_size, noB_len]
set_option maxHeartbeats 800000 in
theorem of_any (A : Option Addr) (n c : Nat) (l : List Int) (w : World) (hl : Is w A n l) (hn : n ≤ 140737488355328) :
    Calls Try.prog 43 #[.slice A n c] w (GivesS w (ofS l)) := by
  have HW := fun w h => bwith_any (tx noB) A n c l w h noB_size hn
  obtain rfl : l.length = n := hl.len
  have HL := Lib.hid hl
  rw [noB_bts] at HW
  have HW' := Lib.hid HW
  unfold ofS
  generalize tx (withK noB l l.length) = t at *
  clear hl hn HW
  have HE := Lib.hid (fun w => empty_any w)
  generalize tx noB = s at *
  go_enter Try.func43, Try.ntmps43
  go_wp2_with fail
  refine (HE.out _).mono ?_; rintro e w1 ⟨rfl, g1⟩
  have HL1 := Lib.hid (HL.out.below g1)
  have B1 := Lib.hid g1
  clear g1
  go_wp2_with fail
  refine (HW'.out _ HL1.out).mono ?_; rintro e w2 ⟨rfl, g2⟩
  have B2 := Lib.hid (B1.out.trans (g2.mono B1.out.size))
  clear g2
  go_wp2_with fail
  go_ret
  exact ⟨rfl, B2.out⟩
theorem withK_size (l : List Int) (k : Nat) : (tx (withK noB l k)).size = 32 := by rw [tx_size, withK_len, noB_len]
end Go.Proofs.Ytgclgmfmcgacdaa

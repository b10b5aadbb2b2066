/- Proved: what the document's Dot of rows and its Same answer for every two rows of bytes. Conditions: those that the theorems name. -/
import Derived.Test.YtmbpihalakdiiaaVecAdd
import Derived.Test.YtmbpihalakdiiaaGfRefMul
import Derived.Deep.QuietTactic
import Derived.BigQuiet
namespace Go.Proofs.Ytmbpihalakdiiaa
open Go.ChangeShapes Go.WideShapes Go.ChangeAt Go.RowKit

set_option maxHeartbeats 400000 in
theorem rdot_like (A B : Option Addr) (n c d : Nat) (a b : List Nat) (w : World) (ha : Bs w A n a) (hb : Bs w B n b) (hm : n ≤ 140737488355328) :
    Calls Try.prog 11 #[.slice A n c, .slice B n d] w fun e w' => e = .returned (.tuple #[.int .u8 (dotN n a b : Nat), .int .i64 0]) ∧ Below w.heap.size w w' := by
  have HA := Lib.hid ha
  have HB := Lib.hid hb
  clear ha hb
  go_enter Try.func11, Try.ntmps11
  go_wp2_with fail
  go_loopw [6, 7] (fun x i wr => ∃ k : Nat, k ≤ n ∧ i = .int .i64 k ∧ x = .int .u8 (dotN k a b : Nat) ∧ Below w.heap.size w wr) (fun _ i _ => n - (intOf i).toNat)
  case atStart => exact ⟨0, by omega, rfl, rfl, Below.refl _ _⟩
  case round =>
    obtain ⟨k, hk, rfl, rfl, hbel⟩ := hrel
    have HW := Lib.hid hbel
    clear hbel
    have hd := dotN_lt k a b HA.out.lt
    by_cases hlt : k < n
    · obtain ⟨ad, rfl, la, hac⟩ := HA.out.at_ hlt
      obtain ⟨bd, rfl, lb, hbc⟩ := HB.out.at_ hlt
      rw [← HW.out.cell (p := ad.add k) (by rw [add_block]; exact la)] at hac
      rw [← HW.out.cell (p := bd.add k) (by rw [add_block]; exact lb)] at hbc
      have hx := HA.out.lt k
      have hy := HB.out.lt k
      obtain ⟨x, ex⟩ : ∃ x, x = a.getD k 0 := ⟨_, rfl⟩
      obtain ⟨y, ey⟩ : ∃ y, y = b.getD k 0 := ⟨_, rfl⟩
      rw [← ex] at hac hx
      rw [← ey] at hbc hy
      have EX := Lib.hid ex
      have EY := Lib.hid ey
      clear ex ey
      have hp := gmul_lt y hx
      have hlt' : (k : Int) < (n : Int) := by omega
      have hk0 : (0 : Int) ≤ (k : Int) := Int.natCast_nonneg _
      go_wp2_with fail
      go_quiet ((go_at_call 18; exact Calls.quiet_of_same ((prod_any x y hx hy _).mono fun _ _ h => ⟨h.1, h.2.symm⟩)))
      go_wp2_with fail
      go_roundw
      case rel =>
        refine ⟨k + 1, by omega, by go_num, val_int ?_, ⟨HW.out.os, HW.out.tape, HW.out.output, HW.out.size, HW.out.block⟩⟩
        rw [u8_xor_nat _ _ hd hp, dotN_succ, ← EX.out, ← EY.out]
      case measure => simp [intOf]; omega
    · obtain rfl : k = n := by omega
      go_wp2_with fail
      go_ret2
      exact ⟨rfl, HW.out⟩

set_option maxHeartbeats 400000 in
theorem rdot_unlike (A B : Option Addr) (n m c d : Nat) (w : World) (h : n ≠ m) :
    Calls Try.prog 11 #[.slice A n c, .slice B m d] w fun e w' => e = .returned (.tuple #[.int .u8 0, .int .i64 16]) ∧ w = w' := by
  have h1 : ((n : Int) != (m : Int)) = true := by simp; omega
  have h2 : ((n : Int) == (m : Int)) = false := by simp; omega
  clear h
  go_enter Try.func11, Try.ntmps11
  go_wp2_with fail
  go_ret2
  exact ⟨rfl, rfl⟩

set_option maxHeartbeats 400000 in
theorem same_yes (A B : Option Addr) (n c d : Nat) (a : List Nat) (w : World) (ha : Bs w A n a) (hb : Bs w B n a) (hm : n ≤ 140737488355328) :
    Calls Try.prog 12 #[.slice A n c, .slice B n d] w fun e w' => e = .returned (.bool true) ∧ Below w.heap.size w w' := by
  have HA := Lib.hid ha
  have HB := Lib.hid hb
  clear ha hb
  go_enter Try.func12, Try.ntmps12
  go_wp2_with fail
  go_loopw [5] (fun i wr => ∃ k : Nat, k ≤ n ∧ i = .int .i64 k ∧ Below w.heap.size w wr) (fun i _ => n - (intOf i).toNat)
  case atStart => exact ⟨0, by omega, rfl, Below.refl _ _⟩
  case round =>
    obtain ⟨k, hk, rfl, hbel⟩ := hrel
    have HW := Lib.hid hbel
    clear hbel
    by_cases hlt : k < n
    · obtain ⟨ad, rfl, la, hac⟩ := HA.out.at_ hlt
      obtain ⟨bd, rfl, lb, hbc⟩ := HB.out.at_ hlt
      rw [← HW.out.cell (p := ad.add k) (by rw [add_block]; exact la)] at hac
      rw [← HW.out.cell (p := bd.add k) (by rw [add_block]; exact lb)] at hbc
      obtain ⟨x, ex⟩ : ∃ x, x = a.getD k 0 := ⟨_, rfl⟩
      rw [← ex] at hac hbc
      clear ex
      have hlt' : (k : Int) < (n : Int) := by omega
      have hk0 : (0 : Int) ≤ (k : Int) := Int.natCast_nonneg _
      go_wp2_with fail
      go_quiet (fail)
      go_wp2_with fail
      go_roundw
      case rel => exact ⟨k + 1, by omega, by go_num, ⟨HW.out.os, HW.out.tape, HW.out.output, HW.out.size, HW.out.block⟩⟩
      case measure => simp [intOf]; omega
    · obtain rfl : k = n := by omega
      go_wp2_with fail
      go_ret
      exact ⟨rfl, HW.out⟩
end Go.Proofs.Ytmbpihalakdiiaa

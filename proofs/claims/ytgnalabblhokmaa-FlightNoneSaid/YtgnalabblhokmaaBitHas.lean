/- Proved: what Has of package bits, and its twin of the document, answer for every string and every int. Conditions: those that the theorems name. -/
import Derived.Test.YtgnalabblhokmaaBitMath
import Derived.Test.YtgnalabblhokmaaStrAt
import Derived.Deep.QuietTactic
import Derived.BigQuiet
namespace Go.Proofs.Ytgnalabblhokmaa
open Go.ChangeShapes Go.WideShapes Go.ChangeAt Go.RowKit

theorem ret_bool {a b : Bool} (h : a = b) : Ending.returned (.bool a) = .returned (.bool b) := by rw [h]
set_option maxHeartbeats 400000 in
theorem sized11_any (s : ByteArray) (w : World) :
    Calls Try.prog 26 #[.string s] w fun e w' => e = .returned (.bool (decide (s.size = 32))) ∧ w = w' := by
  by_cases h : s.size = 32
  · rw [decide_eq_true h]
    have h1 : ((s.size : Int) == 32) = true := by simp; omega
    clear h
    go_enter Try.func26, Try.ntmps26
    go_wp2_with fail
    go_ret
    exact ⟨rfl, rfl⟩
  · rw [decide_eq_false h]
    have h1 : ((s.size : Int) == 32) = false := by simp; omega
    clear h
    go_enter Try.func26, Try.ntmps26
    go_wp2_with fail
    go_ret
    exact ⟨rfl, rfl⟩
set_option maxHeartbeats 400000 in
theorem placed_any (i : Int) (w : World) :
    Calls Try.prog 30 #[.int .i64 i] w fun e w' => e = .returned (.bool (inB i)) ∧ w = w' := by
  unfold inB
  by_cases h : 0 ≤ i
  · rw [decide_eq_true h, Bool.true_and]
    go_enter Try.func30, Try.ntmps30
    go_wp2_with fail
    go_ret
    exact ⟨rfl, rfl⟩
  · rw [decide_eq_false h, Bool.false_and]
    go_enter Try.func30, Try.ntmps30
    go_wp2_with fail
    go_ret
    exact ⟨rfl, rfl⟩
theorem pow_mod {r : Nat} (h : r < 8) : (2 : Int) ^ r % 256 = ((2 ^ r : Nat) : Int) := by
  have h2 := pow_byte h
  push_cast
  have : ((2 ^ r : Nat) : Int) < 256 := by omega
  push_cast at this
  have h0 : (0 : Int) ≤ 2 ^ r := by
    have := Int.natCast_nonneg (2 ^ r)
    push_cast at this
    exact this
  omega
set_option maxHeartbeats 400000 in
theorem bit_any (n r : Nat) (hn : n < 256) (hr : n % 8 = r) (w : World) :
    Calls Try.prog 31 #[.int .i64 n] w fun e w' => e = .returned (.int .u8 (2 ^ r : Nat)) ∧ w = w' := by
  have HR := Lib.hid (pow_mod (r := r) (by omega))
  have e2 : (n : Int) % 8 = (r : Int) := by omega
  have h0 : (0 : Int) ≤ (n : Int) := Int.natCast_nonneg _
  have h1 : (n : Int) ≤ 255 := by omega
  have hr0 : (0 : Int) ≤ (r : Int) := Int.natCast_nonneg _
  have hr1 : (r : Int) < 8 := by omega
  clear hn hr
  go_enter Try.func31, Try.ntmps31
  go_wp2_with fail
  go_ret
  exact ⟨ret_int HR.out, rfl⟩

set_option maxRecDepth 100000 in
set_option maxHeartbeats 800000 in
theorem has_size (s : ByteArray) (i : Int) (w : World) (h : s.size ≠ 32) :
    Calls Try.prog 25 #[.string s, .int .i64 i] w fun e w' => e = .returned (.bool false) ∧ ∃ q, w' = w.drewN q := by
  have HS := Lib.hid (fun w => sized11_any s w)
  rw [decide_eq_false h] at HS
  clear h
  go_enter Try.func25, Try.ntmps25
  go_wp2_with fail
  go_quiet ((go_at_call 26; exact Calls.quiet_of_same ((HS.out _).mono fun _ _ h => ⟨h.1, h.2.symm⟩)))
  go_wp2_with fail
  go_ret
  exact ⟨rfl, _, rfl⟩
set_option maxRecDepth 100000 in
set_option maxHeartbeats 800000 in
theorem has_out (s : ByteArray) (i : Int) (w : World) (h : s.size = 32) (hi : inB i = false) :
    Calls Try.prog 25 #[.string s, .int .i64 i] w fun e w' => e = .returned (.bool false) ∧ ∃ q, w' = w.drewN q := by
  have HS := Lib.hid (fun w => sized11_any s w)
  rw [decide_eq_true h] at HS
  have HP := Lib.hid (fun w => placed_any i w)
  rw [hi] at HP
  clear h hi
  go_enter Try.func25, Try.ntmps25
  go_wp2_with fail
  go_quiet ((first | (go_at_call 26; exact Calls.quiet_of_same ((HS.out _).mono fun _ _ h => ⟨h.1, h.2.symm⟩)) | (go_at_call 30; exact Calls.quiet_of_same ((HP.out _).mono fun _ _ h => ⟨h.1, h.2.symm⟩))))
  go_wp2_with fail
  go_ret
  exact ⟨rfl, _, rfl⟩
theorem and_bit {x r : Nat} (hx : x < 256) (hr : r < 8) : bits BinOp.and IntKind.u8 (x : Int) ((2 ^ r : Nat) : Int) = ((x &&& 2 ^ r : Nat) : Int) := u8_and_nat _ _ hx (pow_byte hr)
theorem and_bit_val (x r : Nat) : x &&& 2 ^ r = if x.testBit r = true then 2 ^ r else 0 := by
  refine Nat.eq_of_testBit_eq fun i => ?_
  rw [Nat.testBit_and, Nat.testBit_two_pow]
  by_cases e : r = i
  · subst e
    cases h : x.testBit r <;> simp
  · rw [decide_eq_false e, Bool.and_false]
    split
    · rw [Nat.testBit_two_pow, decide_eq_false e]
    · rw [Nat.zero_testBit]
theorem and_bit_ne (x r : Nat) : (((x &&& 2 ^ r : Nat) : Int) != 0) = x.testBit r := by
  rw [and_bit_val]
  have h0 : 0 < 2 ^ r := Nat.pow_pos (by decide)
  generalize (2 : Nat) ^ r = p at *
  cases h : x.testBit r with
  | false => rfl
  | true =>
    simp
    omega
set_option maxRecDepth 100000 in
set_option maxHeartbeats 800000 in
theorem has_good (s : ByteArray) (n : Nat) (w : World) (h : s.size = 32) (hn : n < 256) :
    Calls Try.prog 25 #[.string s, .int .i64 n] w fun e w' => e = .returned (.bool (bitN (bts s) n)) ∧ ∃ q, w' = w.drewN q := by
  have HS := Lib.hid (fun w => sized11_any s w)
  rw [decide_eq_true h] at HS
  have HP := Lib.hid (fun w => placed_any n w)
  rw [inB_of (by omega) (by omega)] at HP
  have HB := Lib.hid (fun w => bit_any n (n % 8) hn rfl w)
  have hx := at_index s (n / 8) (by omega)
  have hlt := bts_lt s (n / 8)
  have ha := and_bit hlt (show n % 8 < 8 by omega)
  have HN := Lib.hid (and_bit_ne ((bts s).getD (n / 8) 0) (n % 8))
  unfold bitN
  have e1 : (n : Int) / 8 = ((n / 8 : Nat) : Int) := by omega
  have h0 : (0 : Int) ≤ (n : Int) := Int.natCast_nonneg _
  have h1 : (n : Int) ≤ 255 := by omega
  generalize hy : (bts s).getD (n / 8) 0 &&& 2 ^ (n % 8) = y at *
  generalize (2 ^ (n % 8) : Nat) = p at *
  generalize (bts s).getD (n / 8) 0 = x at *
  generalize n / 8 = j at *
  generalize x.testBit (n % 8) = b at *
  clear h hn hlt hy
  go_enter Try.func25, Try.ntmps25
  go_wp2_with fail
  go_quiet ((first | (go_at_call 26; exact Calls.quiet_of_same ((HS.out _).mono fun _ _ h => ⟨h.1, h.2.symm⟩)) | (go_at_call 30; exact Calls.quiet_of_same ((HP.out _).mono fun _ _ h => ⟨h.1, h.2.symm⟩)) | (go_at_call 31; exact Calls.quiet_of_same ((HB.out _).mono fun _ _ h => ⟨h.1, h.2.symm⟩))))
  go_wp2_with fail
  go_ret
  exact ⟨ret_bool HN.out, _, rfl⟩
theorem has_any (s : ByteArray) (i : Int) (w : World) :
    Calls Try.prog 25 #[.string s, .int .i64 i] w fun e w' => e = .returned (.bool (hasB s i)) ∧ ∃ q, w' = w.drewN q := by
  by_cases h : s.size = 32
  · cases hi : inB i with
    | false => rw [hasB_in hi]; exact has_out s i w h hi
    | true =>
      obtain ⟨h0, h1⟩ := inB_yes hi
      obtain ⟨n, rfl⟩ := Int.eq_ofNat_of_zero_le h0
      rw [hasB_at h (by omega)]
      exact has_good s n w h (by omega)
  · rw [hasB_size h]; exact has_size s i w h
/-! ### the document's -/
theorem shr_bit (x r : Nat) : ((x : Int) / 2 ^ r % 2 == 1) = x.testBit r := by
  rw [Nat.testBit_eq_decide_div_mod_eq]
  have : (x : Int) / 2 ^ r % 2 = ((x / 2 ^ r % 2 : Nat) : Int) := by push_cast; rfl
  rw [this]
  generalize x / 2 ^ r % 2 = z
  by_cases h : z = 1
  · subst h; rfl
  · rw [decide_eq_false h]
    simp
    omega
end Go.Proofs.Ytgnalabblhokmaa

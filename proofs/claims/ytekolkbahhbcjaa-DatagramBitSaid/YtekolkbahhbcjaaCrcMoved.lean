/- Proved: what moved of package crc answers. Conditions: the bounds that the theorem names. -/
import Derived.Test.YtekolkbahhbcjaaCrcMath
namespace Go.Proofs.Ytekolkbahhbcjaa
open Go.ChangeShapes Go.WideShapes Go.ChangeAt Go.RowKit

theorem u32_not {c : Nat} (h : c < 4294967296) : bits BinOp.xor IntKind.u32 4294967295 (c : Int) = ((neg32 c : Nat) : Int) :=
  u32_xor_nat 4294967295 c (by decide) h
theorem u32_low {c : Nat} (h : c < 4294967296) : bits BinOp.and IntKind.u32 (c : Int) 1 = ((c % 2 : Nat) : Int) := by
  have e := u32_and_nat c 1 h (by decide)
  rw [Nat.and_one_is_mod] at e
  exact e
theorem u32_pol {c : Nat} (h : c < 4294967296) : bits BinOp.xor IntKind.u32 (c : Int) 3988292384 = ((c ^^^ pol : Nat) : Int) :=
  u32_xor_nat c 3988292384 h (by decide)
theorem stp_one {c : Nat} (h : c % 2 = 1) : stp c = c / 2 ^^^ pol := if_pos h
theorem stp_zero {c : Nat} (h : c % 2 = 0) : stp c = c / 2 := if_neg (by omega)

set_option maxHeartbeats 400000 in
theorem moved_any (c : Nat) (hc : c < 4294967296) (w : World) :
    Calls Try.prog 59 #[.int .u32 c] w fun e w' => e = .returned (.int .u32 (stpN 8 c : Nat)) ∧ w = w' := by
  go_enter Try.func59, Try.ntmps59
  go_wp2_with fail
  go_loop [0, 4] (fun x i => ∃ k : Nat, k ≤ 8 ∧ i = .int .i64 k ∧ x = .int .u32 (stpN k c : Nat)) (fun _ i => 8 - (intOf i).toNat)
  case atStart => exact ⟨0, by omega, rfl, rfl⟩
  case round =>
    obtain ⟨k, hk, rfl, rfl⟩ := hrel
    have hl := stpN_lt k hc
    by_cases hlt : k < 8
    · have H1 := u32_low hl
      have HS := Lib.hid (stpN_succ k c)
      generalize stpN k c = x at *
      rcases Nat.mod_two_eq_zero_or_one x with hb | hb
      · have HZ := Lib.hid (stp_zero hb)
        rw [hb] at H1
        go_wp2_with fail
        go_round
        case rel => exact ⟨k + 1, by omega, by go_num, val_int (by rw [HS.out, HZ.out]; omega)⟩
        case measure => simp [intOf]; omega
      · have HZ := Lib.hid (stp_one hb)
        rw [hb] at H1
        have H2 := Lib.hid (u32_pol (c := x / 2) (by omega))
        go_wp2_with fail
        go_round
        case rel => exact ⟨k + 1, by omega, by go_num, val_int (by rw [HS.out, HZ.out, ← H2.out, Int.natCast_ediv]; rfl)⟩
        case measure => simp [intOf]; omega
    · have : k = 8 := by omega
      subst this
      go_wp2_with fail
      go_ret
      exact ⟨rfl, rfl⟩

theorem index_byte (s : ByteArray) (j : Nat) (h : j < s.size) (W : World) : (Instr.index 9 (Value.string s) (Value.int .i64 (j : Int))).run Try.prog W = .ok (Value.int .u8 ((bts s).getD j 0 : Nat)) W := by
  rw [run_index_string W 9 s .i64 (j : Int) Try.underlying9, dif_pos ⟨by omega, by omega⟩]
  have : (bts s).getD j 0 = s[j].toNat := by
    unfold bts
    rw [List.getD_eq_getElem?_getD, List.getElem?_map, Array.getElem?_toList, Array.getElem?_eq_getElem h]; rfl
  rw [this]; rfl
theorem u32_xor_byte {c b : Nat} (h : c < 4294967296) (hb : b < 256) : bits BinOp.xor IntKind.u32 (c : Int) (b : Int) = ((c ^^^ b : Nat) : Int) :=
  u32_xor_nat c b h (by omega)

set_option maxHeartbeats 400000 in
theorem cadd_any (c : Nat) (s : ByteArray) (hc : c < 4294967296) (hs : s.size ≤ maxLen) (w : World) :
    Calls Try.prog 32 #[.int .u32 c, .string s] w fun e w' => e = .returned (.int .u32 (crcS c s : Nat)) ∧ w = w' := by
  unfold maxLen at hs
  have hsg : IntKind.u32.signed = false := rfl
  have hmx : IntKind.u32.max = 4294967295 := by decide
  have hn := u32_not hc
  have hlt := neg32_lt hc
  have HE := Lib.hid (regK_all c s)
  generalize neg32 c = d at *
  generalize crcS c s = z at *
  have HS := Lib.hid hs
  clear hs
  go_enter Try.func32, Try.ntmps32
  go_wp2_with fail
  go_loop [5, 11] (fun x i => ∃ k : Nat, k ≤ s.size ∧ i = .int .i64 k ∧ x = .int .u32 (regK d k s : Nat)) (fun _ i => s.size - (intOf i).toNat)
  case atStart => exact ⟨0, by omega, rfl, rfl⟩
  case round =>
    obtain ⟨k, hk, rfl, rfl⟩ := hrel
    have hl := regK_lt hlt k s
    by_cases hks : k < s.size
    · have hi := index_byte s k hks
      have HN := Lib.hid (regK_succ d k s hks)
      have hb := bts_lt s k
      have hx := u32_xor_byte hl hb
      have HM := Lib.hid (fun w => moved_any _ (xor32 hl (b := (bts s).getD k 0) (by omega)) w)
      have hk' : (k : Int) < (s.size : Int) := by omega
      have hkm : (k : Int) + 1 < 9223372036854775808 := by have := HS.out; omega
      generalize (bts s).getD k 0 = b at *
      generalize regK d k s = x at *
      go_wp2_with fail
      refine (HM.out _).mono ?_; rintro e w' ⟨rfl, rfl⟩
      go_wp2_with fail
      go_round
      case rel => exact ⟨k + 1, by omega, by go_num, val_int (by rw [HN.out]; rfl)⟩
      case measure => simp [intOf]; omega
    · obtain rfl : k = s.size := by omega
      have ho := u32_not hl
      go_wp2_with fail
      go_ret
      exact ⟨ret_int (by rw [HE.out]), rfl⟩

set_option maxHeartbeats 400000 in
theorem csum_any (s : ByteArray) (hs : s.size ≤ maxLen) (w : World) :
    Calls Try.prog 19 #[.string s] w fun e w' => e = .returned (.int .u32 (crcS 0 s : Nat)) ∧ w = w' := by
  have HA := Lib.hid (fun w => cadd_any 0 s (by decide) hs w)
  generalize crcS 0 s = z at *
  go_enter Try.func19, Try.ntmps19
  go_wp2_with fail
  refine (HA.out _).mono ?_; rintro e w' ⟨rfl, rfl⟩
  go_wp2_with fail
  go_ret
  exact ⟨rfl, rfl⟩

set_option maxRecDepth 100000 in
set_option maxHeartbeats 800000 in
theorem radd7_any (c : Nat) (s : ByteArray) (hc : c < 4294967296) (hs : s.size ≤ maxLen) (w : World) :
    Calls Try.prog 34 #[.int .u32 c, .string s] w fun e w' => e = .returned (.int .u32 (crcS c s : Nat)) ∧ w = w' := by
  unfold maxLen at hs
  have hsg : IntKind.u32.signed = false := rfl
  have hmx : IntKind.u32.max = 4294967295 := by decide
  have hn := u32_not hc
  have hlt := neg32_lt hc
  have HE := Lib.hid (regK_all c s)
  generalize neg32 c = d at *
  generalize crcS c s = z at *
  have HS := Lib.hid hs
  clear hs
  go_enter Try.func34, Try.ntmps34
  go_wp2_with fail
  go_loop [5, 6] (fun x i => ∃ k : Nat, k ≤ s.size ∧ i = .int .i64 k ∧ x = .int .u32 (regK d k s : Nat)) (fun _ i => s.size - (intOf i).toNat)
  case atStart => exact ⟨0, by omega, rfl, rfl⟩
  case round =>
    obtain ⟨k, hk, rfl, rfl⟩ := hrel
    have hl := regK_lt hlt k s
    by_cases hks : k < s.size
    · have hi := index_byte s k hks
      have HN := Lib.hid (regK_succ d k s hks)
      have hb := bts_lt s k
      have hx := u32_xor_byte hl hb
      have hy := xor32 hl (b := (bts s).getD k 0) (by omega)
      have HF : Hid (feed (regK d k s) ((bts s).getD k 0) = stpN 8 (regK d k s ^^^ (bts s).getD k 0)) := Lib.hid rfl
      have hk' : (k : Int) < (s.size : Int) := by omega
      have hkm : (k : Int) + 1 < 9223372036854775808 := by have := HS.out; omega
      generalize (bts s).getD k 0 = b at *
      generalize regK d k s = x at *
      generalize x ^^^ b = y at *
      rw [HF.out] at HN
      clear HF
      go_wp2_with fail
      go_loop [5, 7] (fun x i => ∃ j : Nat, j ≤ 8 ∧ i = .int .i64 j ∧ x = .int .u32 (stpN j y : Nat)) (fun _ i => 8 - (intOf i).toNat)
      case atStart => exact ⟨0, by omega, rfl, rfl⟩
      case round =>
        obtain ⟨j, hj, rfl, rfl⟩ := hrel
        have hjl := stpN_lt j hy
        by_cases hlt8 : j < 8
        · have HSu := Lib.hid (stpN_succ j y)
          have HL := Lib.hid hjl
          have HK := Lib.hid (And.intro hk' hkm)
          have HR := Lib.hid (And.intro hlt (And.intro hl (And.intro hb hy)))
          have hlt8' : (j : Int) < 8 := by omega
          clear hn hx hi hsg hmx hk' hkm hjl hlt hl hb hy hks hk
          generalize stpN j y = v at *
          have HD := Lib.hid (show (v : Int) / 2 % 4294967296 = ((v / 2 : Nat) : Int) by have := HL.out; omega)
          rcases Nat.mod_two_eq_zero_or_one v with hb2 | hb2
          · have HZ := Lib.hid (stp_zero hb2)
            have hq : ((v : Int) % 2 == 1) = false := by rw [show (v : Int) % 2 = 0 by omega]; rfl
            clear hb2
            go_wp2_with fail
            go_round
            case rel => exact ⟨j + 1, by omega, by go_num, val_int (by rw [HSu.out, HZ.out, HD.out])⟩
            case measure => simp [intOf]; omega
          · have HZ := Lib.hid (stp_one hb2)
            have H2 := Lib.hid (u32_pol (c := v / 2) (by have := HL.out; omega))
            have hq : ((v : Int) % 2 == 1) = true := by rw [show (v : Int) % 2 = 1 by omega]; rfl
            clear hb2
            go_wp2_with fail
            go_round
            case rel => exact ⟨j + 1, by omega, by go_num, val_int (by rw [HSu.out, HZ.out, HD.out, H2.out])⟩
            case measure => simp [intOf]; omega
        · obtain rfl : j = 8 := by omega
          go_wp2_with fail
          go_round
          case rel => exact ⟨k + 1, by omega, by go_num, val_int (by rw [HN.out])⟩
          case measure => simp [intOf]; omega
    · obtain rfl : k = s.size := by omega
      have ho := u32_not hl
      go_wp2_with fail
      go_ret
      exact ⟨ret_int (by rw [HE.out]), rfl⟩

set_option maxHeartbeats 400000 in
theorem rsum7_any (s : ByteArray) (hs : s.size ≤ maxLen) (w : World) :
    Calls Try.prog 21 #[.string s] w fun e w' => e = .returned (.int .u32 (crcS 0 s : Nat)) ∧ w = w' := by
  have HA := Lib.hid (fun w => radd7_any 0 s (by decide) hs w)
  generalize crcS 0 s = z at *
  go_enter Try.func21, Try.ntmps21
  go_wp2_with fail
  refine (HA.out _).mono ?_; rintro e w' ⟨rfl, rfl⟩
  go_wp2_with fail
  go_ret
  exact ⟨rfl, rfl⟩
end Go.Proofs.Ytekolkbahhbcjaa

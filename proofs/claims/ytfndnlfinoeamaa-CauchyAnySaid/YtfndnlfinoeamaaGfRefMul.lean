/- Proved: what the document's Mul answers for every two bytes. Conditions: the bounds that the theorem names. -/
import Derived.Test.YtfndnlfinoeamaaGfBase
namespace Go.Proofs.Ytfndnlfinoeamaa
open Go.ChangeShapes Go.WideShapes Go.ChangeAt Go.RowKit

theorem i64_xor_nat (a b : Nat) (ha : a < 65536) (hb : b < 65536) : bits BinOp.xor IntKind.i64 (a : Int) (b : Int) = ((a ^^^ b : Nat) : Int) := by
  have hx : a ^^^ b < 2 ^ 16 := Nat.xor_lt_two_pow (by omega) (by omega)
  show IntKind.i64.wrap ((BitVec.ofInt 64 (a : Int) ^^^ BitVec.ofInt 64 (b : Int)).toNat : Int) = _
  have e : ∀ c : Nat, c < 65536 → (BitVec.ofInt 64 (c : Int)).toNat = c := fun c hc => by
    rw [BitVec.ofInt_natCast, BitVec.toNat_ofNat]; exact Nat.mod_eq_of_lt (by omega)
  rw [BitVec.toNat_xor, e a ha, e b hb]
  exact IntWalk.i64_in _ (by omega)
theorem tmod2_nat (x i : Nat) : ((x : Int) / 2 ^ i).tmod 2 = ((x / 2 ^ i % 2 : Nat) : Int) := by
  have e : (x : Int) / 2 ^ i = ((x / 2 ^ i : Nat) : Int) := by rw [Int.natCast_ediv]; push_cast; rfl
  rw [e, Int.tmod_eq_emod_of_nonneg (Int.natCast_nonneg _)]
  generalize x / 2 ^ i = y
  omega
theorem up_yes (a b k p : Nat) (hk : k < 8) (ha : a < 256) (hp : p < 65536) (h : (((b : Int) / 2 ^ k).tmod 2 == 1) = true) :
    bits BinOp.xor IntKind.i64 (p : Int) (wrap64 ((a : Int) * 2 ^ k)) = ((p ^^^ (a * 2 ^ k * (b / 2 ^ k % 2)) : Nat) : Int) := by
  rw [tmod2_nat] at h
  have h1 : b / 2 ^ k % 2 = 1 := by
    have := eq_of_beq h
    omega
  have hs := shl_lt k a hk ha
  rw [h1, Nat.mul_one, show (a : Int) * 2 ^ k = ((a * 2 ^ k : Nat) : Int) by push_cast; rfl, IntWalk.wrap64_in _ (by omega)]
  exact i64_xor_nat _ _ hp hs
theorem up_no (b k c p : Nat) (h : (((b : Int) / 2 ^ k).tmod 2 == 1) = false) :
    (p : Int) = ((p ^^^ (c * (b / 2 ^ k % 2)) : Nat) : Int) := by
  rw [tmod2_nat] at h
  have h1 : b / 2 ^ k % 2 = 0 := by
    have hb := bit_lt b k
    have : b / 2 ^ k % 2 ≠ 1 := by
      intro e; rw [e] at h; exact absurd h (by decide)
    omega
  rw [h1, Nat.mul_zero, Nat.xor_zero]
theorem refUp_succ (k a b : Nat) : refUp (k + 1) a b = refUp k a b ^^^ (a * 2 ^ k * (b / 2 ^ k % 2)) := rfl

theorem dn_yes (j p : Nat) (hj : j < 8) (hp : p < 65536) (h : (((p : Int) / 2 ^ (15 - j)).tmod 2 == 1) = true) :
    bits BinOp.xor IntKind.i64 (p : Int) (wrap64 (285 * 2 ^ (15 - j - 8))) = ((p ^^^ (285 * 2 ^ (7 - j) * (p / 2 ^ (15 - j) % 2)) : Nat) : Int) := by
  rw [tmod2_nat] at h
  have h1 : p / 2 ^ (15 - j) % 2 = 1 := by
    have := eq_of_beq h
    omega
  have hs := shl285_lt j
  rw [h1, Nat.mul_one, show 15 - j - 8 = 7 - j by omega, show (285 : Int) * 2 ^ (7 - j) = ((285 * 2 ^ (7 - j) : Nat) : Int) by rw [Int.natCast_mul, Int.natCast_pow]; rfl, IntWalk.wrap64_in _ (by omega)]
  exact i64_xor_nat _ _ hp hs
theorem refDn_succ (k p : Nat) : refDn (k + 1) p = refDn k p ^^^ (285 * 2 ^ (7 - k) * (refDn k p / 2 ^ (15 - k) % 2)) := rfl

set_option maxHeartbeats 800000 in
theorem rmul_any (a b : Nat) (ha : a < 256) (hb : b < 256) (w : World) :
    Calls Try.prog 30 #[.int .u8 a, .int .u8 b] w fun e w' => e = .returned (.int .u8 (rmul a b : Nat)) ∧ w = w' := by
  go_enter Try.func30, Try.ntmps30
  go_wp2_with fail
  go_loop [5, 6] (fun p i => ∃ k : Nat, k ≤ 8 ∧ i = .int .i64 k ∧ p = .int .i64 (refUp k a b : Nat)) (fun _ i => 8 - (intOf i).toNat)
  case atStart => exact ⟨0, by omega, rfl, rfl⟩
  case round =>
    obtain ⟨k, hk, rfl, rfl⟩ := hrel
    have hu := refUp_lt k a b hk ha
    by_cases hlt : k < 8
    · go_wp2_with fail
      · go_round
        case rel => exact ⟨k + 1, by omega, by go_num, val_int (by rw [refUp_succ]; exact up_yes a b k _ hlt ha hu ‹_›)⟩
        case measure => simp [intOf]; omega
      · go_round
        case rel => exact ⟨k + 1, by omega, by go_num, val_int (by rw [refUp_succ]; exact up_no b k _ _ ‹_›)⟩
        case measure => simp [intOf]; omega
    · have : k = 8 := by omega
      subst this
      clear hk hlt
      generalize hq : refUp 8 a b = q at *
      have HQ := Lib.hid hq
      clear hq
      go_wp2_with fail
      go_loop [5, 7] (fun p i => ∃ j : Nat, j ≤ 8 ∧ i = .int .i64 (15 - (j : Int)) ∧ p = .int .i64 (refDn j q : Nat)) (fun _ i => ((intOf i) - 7).toNat)
      case atStart => exact ⟨0, by omega, rfl, rfl⟩
      case round =>
        obtain ⟨j, hj, rfl, rfl⟩ := hrel
        have hd := refDn_lt j q hu
        by_cases hlt : j < 8
        · go_wp2_with fail
          · go_round
            case rel => exact ⟨j + 1, by omega, val_int (by omega), val_int (by rw [refDn_succ]; exact dn_yes j _ hlt hd ‹_›)⟩
            case measure => simp [intOf]; omega
          · go_round
            case rel => exact ⟨j + 1, by omega, val_int (by omega), val_int (by rw [refDn_succ]; exact up_no _ (15 - j) _ _ ‹_›)⟩
            case measure => simp [intOf]; omega
        · have : j = 8 := by omega
          subst this
          clear hj hlt
          go_wp2_with fail
          go_ret
          refine ⟨ret_int ?_, rfl⟩
          have := HQ.out
          unfold rmul
          rw [this]
          omega
theorem prod_any (a b : Nat) (ha : a < 256) (hb : b < 256) (w : World) :
    Calls Try.prog 30 #[.int .u8 a, .int .u8 b] w fun e w' => e = .returned (.int .u8 (gmul a b : Nat)) ∧ w = w' := by
  have := rmul_any a b ha hb w
  rwa [rmul_eq a b ha] at this

theorem times2_any (a : Nat) (ha : a < 256) (w : World) :
    Calls Try.prog 30 #[.int .u8 a, .int .u8 2] w fun e w' => e = .returned (.int .u8 (dbl a : Nat)) ∧ w = w' := by
  have := prod_any a 2 ha (by decide) w
  rwa [gmul_two a ha] at this
end Go.Proofs.Ytfndnlfinoeamaa

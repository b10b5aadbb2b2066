/- Proved: what double, Add, Mul and Exp of package gf, and the document's Mul, Exp, Log, Inv and Div, answer for every byte (Exp: every int). Conditions: those that each theorem names. -/
import Derived.Test.YtldckbeoeklicaaRows
import Derived.Test.YtldckbeoeklicaaMath
import Derived.WalkKit
import Derived.ProofKit
import Derived.LoopTactic
import Derived.Laws.BitsAllLaws
import Derived.Lib.Hide
namespace Go.Proofs.Ytldckbeoeklicaa
open Go.ChangeShapes Go.WideShapes Go.ChangeAt Go.RowKit

theorem ret_int {k : IntKind} {a b : Int} (h : a = b) : Ending.returned (.int k a) = .returned (.int k b) := by rw [h]
theorem val_int {k : IntKind} {a b : Int} (h : a = b) : Value.int k a = .int k b := by rw [h]

set_option maxHeartbeats 400000 in
theorem double_any (a : Nat) (h : a < 256) (w : World) :
    Calls Try.prog 19 #[.int .u8 a] w fun e w' => e = .returned (.int .u8 (dbl a : Nat)) ∧ w = w' := by
  go_enter Try.func19, Try.ntmps19
  go_wp2
  go_ret
  refine ⟨ret_int ?_, rfl⟩
  rw [u8_xor _ _ (by omega) (by omega) (by omega) (by omega)]
  unfold dbl
  congr 1

set_option maxHeartbeats 400000 in
theorem add_any (a b : Nat) (ha : a < 256) (hb : b < 256) (w : World) :
    Calls Try.prog 11 #[.int .u8 a, .int .u8 b] w fun e w' => e = .returned (.int .u8 (a ^^^ b : Nat)) ∧ w = w' := by
  go_enter Try.func11, Try.ntmps11
  go_wp2
  go_ret
  exact ⟨ret_int (u8_xor_nat a b ha hb), rfl⟩

theorem mul_step (x p y : Nat) (hx : x < 256) (hp : p < 256) (hy : y < 256) :
    bits BinOp.xor IntKind.u8 (p : Int) ((x : Int) * bits BinOp.and IntKind.u8 (y : Int) 1 % 256) = ((p ^^^ (x * (y % 2)) : Nat) : Int) := by
  have e := u8_and_nat y 1 hy (by decide)
  rw [Nat.and_one_is_mod] at e
  have e' : bits BinOp.and IntKind.u8 (y : Int) 1 = ((y % 2 : Nat) : Int) := e
  rw [e']
  have hb : y % 2 = 0 ∨ y % 2 = 1 := by omega
  rcases hb with e0 | e0 <;> rw [e0]
  · exact u8_xor_nat p 0 hp (by decide)
  · rw [show (x : Int) * ((1 : Nat) : Int) % 256 = ((x * 1 : Nat) : Int) by omega]
    exact u8_xor_nat p (x * 1) hp (by omega)

theorem mulN_succ (k a b : Nat) : mulN (k + 1) a b = mulN k a b ^^^ (dblN k a * (b / 2 ^ k % 2)) := rfl

set_option maxHeartbeats 400000 in
theorem mul_any (a b : Nat) (ha : a < 256) (hb : b < 256) (w : World) :
    Calls Try.prog 12 #[.int .u8 a, .int .u8 b] w fun e w' => e = .returned (.int .u8 (gmul a b : Nat)) ∧ w = w' := by
  go_enter Try.func12, Try.ntmps12
  go_wp2_with fail
  go_loop [0, 1, 5, 6] (fun x y p i => ∃ k : Nat, k ≤ 8 ∧ i = .int .i64 k ∧ x = .int .u8 (dblN k a : Nat) ∧ y = .int .u8 (b / 2 ^ k : Nat) ∧ p = .int .u8 (mulN k a b : Nat)) (fun _ _ _ i => 8 - (intOf i).toNat)
  case atStart => exact ⟨0, by omega, rfl, rfl, by simp, rfl⟩
  case round =>
    obtain ⟨k, hk, rfl, rfl, rfl, rfl⟩ := hrel
    have hl := dblN_lt k ha
    have hm := mulN_lt k b ha
    have hy : b / 2 ^ k < 256 := Nat.lt_of_le_of_lt (Nat.div_le_self _ _) hb
    by_cases hlt : k < 8
    · have H := Lib.hid (mul_step (dblN k a) (mulN k a b) (b / 2 ^ k) hl hm hy)
      go_wp2_with (go_at_call 19; refine (double_any _ (by omega) _).mono ?_; rintro e w' ⟨rfl, rfl⟩)
      go_round
      case rel => exact ⟨k + 1, by omega, by go_num, rfl, val_int (by rw [Nat.pow_succ, ← Nat.div_div_eq_div_mul]; rw [Int.natCast_ediv]; rfl), val_int (by rw [mulN_succ]; first | exact H.out | (push_cast at *; exact H.out))⟩
      case measure => simp [intOf]; omega
    · have : k = 8 := by omega
      subst this
      go_wp2_with fail
      go_ret
      exact ⟨rfl, rfl⟩

theorem i64_xor_nat (a b : Nat) (ha : a < 65536) (hb : b < 65536) : bits BinOp.xor IntKind.i64 (a : Int) (b : Int) = ((a ^^^ b : Nat) : Int) := by
  have hx : a ^^^ b < 2 ^ 16 := Nat.xor_lt_two_pow (by omega) (by omega)
  show IntKind.i64.wrap ((BitVec.ofInt 64 (a : Int) ^^^ BitVec.ofInt 64 (b : Int)).toNat : Int) = _
  have e : ∀ c : Nat, c < 65536 → (BitVec.ofInt 64 (c : Int)).toNat = c := fun c hc => by
    rw [BitVec.ofInt_natCast, BitVec.toNat_ofNat]; exact Nat.mod_eq_of_lt (by omega)
  rw [BitVec.toNat_xor, e a ha, e b hb]
  exact IntWalk.i64_in _ (by omega)
theorem tmod2_nat (x i : Nat) : ((x : Int) / 2 ^ i).tmod 2 = ((x / 2 ^ i % 2 : Nat) : Int) := by
  have e : (x : Int) / 2 ^ i = ((x / 2 ^ i : Nat) : Int) := by rw [Int.natCast_ediv]; push_cast; rfl
  rw [e, Int.tmod_eq_emod_of_nonneg (Int.natCast_nonneg _)]
  generalize x / 2 ^ i = y
  omega
theorem up_yes (a b k p : Nat) (hk : k < 8) (ha : a < 256) (hp : p < 65536) (h : (((b : Int) / 2 ^ k).tmod 2 == 1) = true) :
    bits BinOp.xor IntKind.i64 (p : Int) (wrap64 ((a : Int) * 2 ^ k)) = ((p ^^^ (a * 2 ^ k * (b / 2 ^ k % 2)) : Nat) : Int) := by
  rw [tmod2_nat] at h
  have h1 : b / 2 ^ k % 2 = 1 := by
    have := eq_of_beq h
    omega
  have hs := shl_lt k a hk ha
  rw [h1, Nat.mul_one, show (a : Int) * 2 ^ k = ((a * 2 ^ k : Nat) : Int) by push_cast; rfl, IntWalk.wrap64_in _ (by omega)]
  exact i64_xor_nat _ _ hp hs
theorem up_no (b k c p : Nat) (h : (((b : Int) / 2 ^ k).tmod 2 == 1) = false) :
    (p : Int) = ((p ^^^ (c * (b / 2 ^ k % 2)) : Nat) : Int) := by
  rw [tmod2_nat] at h
  have h1 : b / 2 ^ k % 2 = 0 := by
    have hb := bit_lt b k
    have : b / 2 ^ k % 2 ≠ 1 := by
      intro e; rw [e] at h; exact absurd h (by decide)
    omega
  rw [h1, Nat.mul_zero, Nat.xor_zero]
theorem refUp_succ (k a b : Nat) : refUp (k + 1) a b = refUp k a b ^^^ (a * 2 ^ k * (b / 2 ^ k % 2)) := rfl

theorem dn_yes (j p : Nat) (hj : j < 8) (hp : p < 65536) (h : (((p : Int) / 2 ^ (15 - j)).tmod 2 == 1) = true) :
    bits BinOp.xor IntKind.i64 (p : Int) (wrap64 (285 * 2 ^ (15 - j - 8))) = ((p ^^^ (285 * 2 ^ (7 - j) * (p / 2 ^ (15 - j) % 2)) : Nat) : Int) := by
  rw [tmod2_nat] at h
  have h1 : p / 2 ^ (15 - j) % 2 = 1 := by
    have := eq_of_beq h
    omega
  have hs := shl285_lt j
  rw [h1, Nat.mul_one, show 15 - j - 8 = 7 - j by omega, show (285 : Int) * 2 ^ (7 - j) = ((285 * 2 ^ (7 - j) : Nat) : Int) by rw [Int.natCast_mul, Int.natCast_pow]; rfl, IntWalk.wrap64_in _ (by omega)]
  exact i64_xor_nat _ _ hp hs
theorem refDn_succ (k p : Nat) : refDn (k + 1) p = refDn k p ^^^ (285 * 2 ^ (7 - k) * (refDn k p / 2 ^ (15 - k) % 2)) := rfl

set_option maxHeartbeats 800000 in
theorem rmul_any (a b : Nat) (ha : a < 256) (hb : b < 256) (w : World) :
    Calls Try.prog 13 #[.int .u8 a, .int .u8 b] w fun e w' => e = .returned (.int .u8 (rmul a b : Nat)) ∧ w = w' := by
  go_enter Try.func13, Try.ntmps13
  go_wp2_with fail
  go_loop [5, 6] (fun p i => ∃ k : Nat, k ≤ 8 ∧ i = .int .i64 k ∧ p = .int .i64 (refUp k a b : Nat)) (fun _ i => 8 - (intOf i).toNat)
  case atStart => exact ⟨0, by omega, rfl, rfl⟩
  case round =>
    obtain ⟨k, hk, rfl, rfl⟩ := hrel
    have hu := refUp_lt k a b hk ha
    by_cases hlt : k < 8
    · go_wp2_with fail
      · go_round
        case rel => exact ⟨k + 1, by omega, by go_num, val_int (by rw [refUp_succ]; exact up_yes a b k _ hlt ha hu ‹_›)⟩
        case measure => simp [intOf]; omega
      · go_round
        case rel => exact ⟨k + 1, by omega, by go_num, val_int (by rw [refUp_succ]; exact up_no b k _ _ ‹_›)⟩
        case measure => simp [intOf]; omega
    · have : k = 8 := by omega
      subst this
      clear hk hlt
      generalize hq : refUp 8 a b = q at *
      have HQ := Lib.hid hq
      clear hq
      go_wp2_with fail
      go_loop [5, 7] (fun p i => ∃ j : Nat, j ≤ 8 ∧ i = .int .i64 (15 - (j : Int)) ∧ p = .int .i64 (refDn j q : Nat)) (fun _ i => ((intOf i) - 7).toNat)
      case atStart => exact ⟨0, by omega, rfl, rfl⟩
      case round =>
        obtain ⟨j, hj, rfl, rfl⟩ := hrel
        have hd := refDn_lt j q hu
        by_cases hlt : j < 8
        · go_wp2_with fail
          · go_round
            case rel => exact ⟨j + 1, by omega, val_int (by omega), val_int (by rw [refDn_succ]; exact dn_yes j _ hlt hd ‹_›)⟩
            case measure => simp [intOf]; omega
          · go_round
            case rel => exact ⟨j + 1, by omega, val_int (by omega), val_int (by rw [refDn_succ]; exact up_no _ (15 - j) _ _ ‹_›)⟩
            case measure => simp [intOf]; omega
        · have : j = 8 := by omega
          subst this
          clear hj hlt
          go_wp2_with fail
          go_ret
          refine ⟨ret_int ?_, rfl⟩
          have := HQ.out
          unfold rmul
          rw [this]
          omega
theorem prod_any (a b : Nat) (ha : a < 256) (hb : b < 256) (w : World) :
    Calls Try.prog 13 #[.int .u8 a, .int .u8 b] w fun e w' => e = .returned (.int .u8 (gmul a b : Nat)) ∧ w = w' := by
  have := rmul_any a b ha hb w
  rwa [rmul_eq a b ha] at this

theorem times2_any (a : Nat) (ha : a < 256) (w : World) :
    Calls Try.prog 13 #[.int .u8 a, .int .u8 2] w fun e w' => e = .returned (.int .u8 (dbl a : Nat)) ∧ w = w' := by
  have := prod_any a 2 ha (by decide) w
  rwa [gmul_two a ha] at this
theorem tmod_down (n : Int) (h : n < 0) : -255 < n.tmod 255 ∧ n.tmod 255 ≤ 0 ∧ (n.tmod 255 < 0 → n % 255 = n.tmod 255 + 255) ∧ (n.tmod 255 = 0 → n % 255 = 0) := by
  obtain ⟨m, rfl⟩ : ∃ m : Nat, n = -(m : Int) := ⟨n.natAbs, by omega⟩
  rw [Int.neg_tmod, Int.tmod_eq_emod_of_nonneg (by omega)]
  omega

set_option maxHeartbeats 400000 in
theorem exp_up (n : Int) (h0 : 0 ≤ n) (w : World) :
    Calls Try.prog 17 #[.int .i64 n] w fun e w' => e = .returned (.int .u8 (gexp n : Nat)) ∧ w = w' := by
  go_enter Try.func17, Try.ntmps17
  go_wp2_with fail
  go_loop [3, 11] (fun x i => ∃ k : Nat, (k : Int) ≤ n % 255 ∧ i = .int .i64 k ∧ x = .int .u8 (pw k : Nat)) (fun _ i => (n % 255).toNat - (intOf i).toNat)
  case atStart => exact ⟨0, by omega, rfl, rfl⟩
  case round =>
    obtain ⟨k, hk, rfl, rfl⟩ := hrel
    have hl := pw_lt k
    by_cases hlt : (k : Int) < n % 255
    · go_wp2_with (go_at_call 19; refine (double_any _ hl _).mono ?_; rintro e w' ⟨rfl, rfl⟩)
      go_round
      case rel => exact ⟨k + 1, by omega, by go_num, rfl⟩
      case measure => simp [intOf]; omega
    · go_wp2_with fail
      go_ret
      refine ⟨ret_int ?_, rfl⟩
      unfold gexp
      congr 2
      omega

set_option maxHeartbeats 400000 in
theorem exp_down (n : Int) (h0 : n < 0) (w : World) :
    Calls Try.prog 17 #[.int .i64 n] w fun e w' => e = .returned (.int .u8 (gexp n : Nat)) ∧ w = w' := by
  obtain ⟨d1, d2, d3, d4⟩ := tmod_down n h0
  have D3 := Lib.hid d3
  have D4 := Lib.hid d4
  clear d3 d4
  by_cases hz : n.tmod 255 < 0
  · go_enter Try.func17, Try.ntmps17
    go_wp2_with fail
    go_loop [3, 11] (fun x i => ∃ k : Nat, (k : Int) ≤ n.tmod 255 + 255 ∧ i = .int .i64 k ∧ x = .int .u8 (pw k : Nat)) (fun _ i => (n.tmod 255 + 255).toNat - (intOf i).toNat)
    case atStart => exact ⟨0, by omega, rfl, rfl⟩
    case round =>
      obtain ⟨k, hk, rfl, rfl⟩ := hrel
      have hl := pw_lt k
      by_cases hlt : (k : Int) < n.tmod 255 + 255
      · go_wp2_with (go_at_call 19; refine (double_any _ hl _).mono ?_; rintro e w' ⟨rfl, rfl⟩)
        go_round
        case rel => exact ⟨k + 1, by omega, by go_num, rfl⟩
        case measure => simp [intOf]; omega
      · go_wp2_with fail
        go_ret
        refine ⟨ret_int ?_, rfl⟩
        unfold gexp
        have E := D3.out hz
        congr 2
        omega
  · go_enter Try.func17, Try.ntmps17
    go_wp2_with fail
    go_loop [3, 11] (fun x i => ∃ k : Nat, (k : Int) ≤ n.tmod 255 ∧ i = .int .i64 k ∧ x = .int .u8 (pw k : Nat)) (fun _ i => (n.tmod 255).toNat - (intOf i).toNat)
    case atStart => exact ⟨0, by omega, rfl, rfl⟩
    case round =>
      obtain ⟨k, hk, rfl, rfl⟩ := hrel
      have hl := pw_lt k
      by_cases hlt : (k : Int) < n.tmod 255
      · go_wp2_with (go_at_call 19; refine (double_any _ hl _).mono ?_; rintro e w' ⟨rfl, rfl⟩)
        go_round
        case rel => exact ⟨k + 1, by omega, by go_num, rfl⟩
        case measure => simp [intOf]; omega
      · go_wp2_with fail
        go_ret
        refine ⟨ret_int ?_, rfl⟩
        unfold gexp
        have E := D4.out (by omega)
        congr 2
        omega
theorem exp_any (n : Int) (w : World) :
    Calls Try.prog 17 #[.int .i64 n] w fun e w' => e = .returned (.int .u8 (gexp n : Nat)) ∧ w = w' := by
  by_cases h : 0 ≤ n
  · exact exp_up n h w
  · exact exp_down n (by omega) w

set_option maxHeartbeats 400000 in
theorem rexp_up (n : Int) (h0 : 0 ≤ n) (w : World) :
    Calls Try.prog 18 #[.int .i64 n] w fun e w' => e = .returned (.int .u8 (gexp n : Nat)) ∧ w = w' := by
  go_enter Try.func18, Try.ntmps18
  go_wp2_with fail
  have HE : (n % 255 + 255) % 255 = n % 255 := by omega
  rw [HE]; clear HE
  go_loop [3, 4] (fun x i => ∃ k : Nat, (k : Int) ≤ n % 255 ∧ i = .int .i64 k ∧ x = .int .u8 (pw k : Nat)) (fun _ i => (n % 255).toNat - (intOf i).toNat)
  case atStart => exact ⟨0, by omega, rfl, rfl⟩
  case round =>
    obtain ⟨k, hk, rfl, rfl⟩ := hrel
    have hl := pw_lt k
    by_cases hlt : (k : Int) < n % 255
    · go_wp2_with (go_at_call 13; refine (times2_any _ hl _).mono ?_; rintro e w' ⟨rfl, rfl⟩)
      go_round
      case rel => exact ⟨k + 1, by omega, by go_num, rfl⟩
      case measure => simp [intOf]; omega
    · go_wp2_with fail
      go_ret
      refine ⟨ret_int ?_, rfl⟩
      unfold gexp
      congr 2
      omega

set_option maxHeartbeats 400000 in
theorem rexp_down (n : Int) (h0 : n < 0) (w : World) :
    Calls Try.prog 18 #[.int .i64 n] w fun e w' => e = .returned (.int .u8 (gexp n : Nat)) ∧ w = w' := by
  obtain ⟨d1, d2, d3, d4⟩ := tmod_down n h0
  have D3 := Lib.hid d3
  have D4 := Lib.hid d4
  clear d3 d4
  go_enter Try.func18, Try.ntmps18
  go_wp2_with fail
  have HE : (n.tmod 255 + 255) % 255 = n % 255 := by have := D3.out; have := D4.out; omega
  rw [HE]; clear HE
  go_loop [3, 4] (fun x i => ∃ k : Nat, (k : Int) ≤ n % 255 ∧ i = .int .i64 k ∧ x = .int .u8 (pw k : Nat)) (fun _ i => (n % 255).toNat - (intOf i).toNat)
  case atStart => exact ⟨0, by omega, rfl, rfl⟩
  case round =>
    obtain ⟨k, hk, rfl, rfl⟩ := hrel
    have hl := pw_lt k
    by_cases hlt : (k : Int) < n % 255
    · go_wp2_with (go_at_call 13; refine (times2_any _ hl _).mono ?_; rintro e w' ⟨rfl, rfl⟩)
      go_round
      case rel => exact ⟨k + 1, by omega, by go_num, rfl⟩
      case measure => simp [intOf]; omega
    · go_wp2_with fail
      go_ret
      refine ⟨ret_int ?_, rfl⟩
      unfold gexp
      congr 2
      omega

theorem rexp_any (n : Int) (w : World) :
    Calls Try.prog 18 #[.int .i64 n] w fun e w' => e = .returned (.int .u8 (gexp n : Nat)) ∧ w = w' := by
  by_cases h : 0 ≤ n
  · exact rexp_up n h w
  · exact rexp_down n (by omega) w

/-! ### the document's log: the first power that is a -/
set_option maxRecDepth 100000 in
set_option maxHeartbeats 400000 in
theorem rlog_zero (w : World) :
    Calls Try.prog 16 #[.int .u8 0] w fun e w' => e = .returned (.tuple #[.int .i64 0, .int .i64 1]) ∧ w = w' := by
  go_enter Try.func16, Try.ntmps16
  go_wp2_with fail
  go_loop [4, 5] (fun x i => ∃ k : Nat, k ≤ 255 ∧ i = .int .i64 k ∧ x = .int .u8 (pw k : Nat)) (fun _ i => 255 - (intOf i).toNat)
  case atStart => exact ⟨0, by omega, rfl, rfl⟩
  case round =>
    obtain ⟨k, hk, rfl, rfl⟩ := hrel
    have hl := pw_lt k
    have hn : ((pw k : Int) == 0) = false := by
      have := pw_ne k
      simpa using this
    by_cases hlt : k < 255
    · go_wp2_with (go_at_call 13; refine (times2_any _ hl _).mono ?_; rintro e w' ⟨rfl, rfl⟩)
      go_round
      case rel => exact ⟨k + 1, by omega, by go_num, rfl⟩
      case measure => simp [intOf]; omega
    · go_wp2_with fail
      go_ret2
      exact ⟨rfl, rfl⟩
set_option maxRecDepth 100000 in
set_option maxHeartbeats 400000 in
theorem rlog_any (a : Nat) (h0 : a ≠ 0) (ha : a < 256) (w : World) :
    Calls Try.prog 16 #[.int .u8 a] w fun e w' => e = .returned (.tuple #[.int .i64 (lg a : Nat), .int .i64 0]) ∧ w = w' := by
  go_enter Try.func16, Try.ntmps16
  go_wp2_with fail
  have hg := lg_lt a h0 ha
  have G := Lib.hid (pw_lg a h0 ha)
  go_loop [4, 5] (fun x i => ∃ k : Nat, k ≤ lg a ∧ i = .int .i64 k ∧ x = .int .u8 (pw k : Nat)) (fun _ i => 255 - (intOf i).toNat)
  case atStart => exact ⟨0, by omega, rfl, rfl⟩
  case round =>
    obtain ⟨k, hk, rfl, rfl⟩ := hrel
    have hl := pw_lt k
    by_cases hlt : k < lg a
    · have hn : ((pw k : Int) == (a : Int)) = false := by
        have h1 : pw k ≠ a := by
          intro e
          have := lg_pw k (by omega)
          rw [e] at this
          omega
        simpa using fun e => h1 (by exact_mod_cast e)
      go_wp2_with (go_at_call 13; refine (times2_any _ hl _).mono ?_; rintro e w' ⟨rfl, rfl⟩)
      go_round
      case rel => exact ⟨k + 1, by omega, by go_num, rfl⟩
      case measure => simp [intOf]; omega
    · obtain rfl : k = lg a := by omega
      have hn : ((pw (lg a) : Int) == (a : Int)) = true := by
        rw [G.out]; simp
      go_wp2_with fail
      go_ret2
      exact ⟨rfl, rfl⟩

/-! ### the document's inverse: the first byte whose product is 1 -/
set_option maxRecDepth 100000 in
set_option maxHeartbeats 400000 in
theorem rinv_zero (w : World) :
    Calls Try.prog 8 #[.int .u8 0] w fun e w' => e = .returned (.tuple #[.int .u8 0, .int .i64 1]) ∧ w = w' := by
  have p0 : ∀ (k : Nat) (_ : k < 256) (w : World), Calls Try.prog 13 #[.int .u8 0, .int .u8 k] w fun e w' => e = .returned (.int .u8 0) ∧ w = w' := fun k hk w => by
    have := prod_any 0 k (by decide) hk w
    rwa [gmul_zero_left k hk] at this
  have P0 := Lib.hid p0
  clear p0
  go_enter Try.func8, Try.ntmps8
  go_wp2_with fail
  go_loop [4] (fun i => ∃ k : Nat, 1 ≤ k ∧ k ≤ 256 ∧ i = .int .i64 k) (fun i => 256 - (intOf i).toNat)
  case atStart => exact ⟨1, by omega, by omega, rfl⟩
  case round =>
    obtain ⟨k, hk1, hk, rfl⟩ := hrel
    by_cases hlt : k < 256
    · go_wp2_with (go_at_call 13; refine (P0.out k hlt _).mono ?_; rintro e w' ⟨rfl, rfl⟩)
      go_round
      case rel => exact ⟨k + 1, by omega, by omega, by go_num⟩
      case measure => simp [intOf]; omega
    · go_wp2_with fail
      go_ret2
      exact ⟨rfl, rfl⟩
set_option maxRecDepth 100000 in
set_option maxHeartbeats 400000 in
theorem rinv_any (a : Nat) (h0 : a ≠ 0) (ha : a < 256) (w : World) :
    Calls Try.prog 8 #[.int .u8 a] w fun e w' => e = .returned (.tuple #[.int .u8 (ginv a : Nat), .int .i64 0]) ∧ w = w' := by
  have hg : ginv a < 256 := gexp_lt _
  have hg0 : 1 ≤ ginv a := Nat.pos_of_ne_zero (gexp_ne _)
  have G := Lib.hid (gmul_ginv a h0 ha)
  have U := Lib.hid (ginv_only a)
  go_enter Try.func8, Try.ntmps8
  go_wp2_with fail
  go_loop [4] (fun i => ∃ k : Nat, 1 ≤ k ∧ k ≤ ginv a ∧ i = .int .i64 k) (fun i => 256 - (intOf i).toNat)
  case atStart => exact ⟨1, by omega, by omega, rfl⟩
  case round =>
    obtain ⟨k, hk1, hk, rfl⟩ := hrel
    by_cases hlt : k < ginv a
    · have hn : ((gmul a k : Int) == 1) = false := by
        have h1 : gmul a k ≠ 1 := by
          intro e
          have := U.out k h0 ha (by omega) e
          omega
        simpa using fun e => h1 (by exact_mod_cast e)
      go_wp2_with (go_at_call 13; refine (prod_any a k ha (by omega) _).mono ?_; rintro e w' ⟨rfl, rfl⟩)
      go_round
      case rel => exact ⟨k + 1, by omega, by omega, by go_num⟩
      case measure => simp [intOf]; omega
    · obtain rfl : k = ginv a := by omega
      have hn : ((gmul a (ginv a) : Int) == 1) = true := by
        rw [G.out]; rfl
      go_wp2_with (go_at_call 13; refine (prod_any a _ ha hg _).mono ?_; rintro e w' ⟨rfl, rfl⟩)
      go_ret2
      exact ⟨rfl, rfl⟩

set_option maxRecDepth 100000 in
set_option maxHeartbeats 400000 in
theorem rdiv_zero (a : Nat) (w : World) :
    Calls Try.prog 10 #[.int .u8 a, .int .u8 0] w fun e w' => e = .returned (.tuple #[.int .u8 0, .int .i64 1]) ∧ w = w' := by
  go_enter Try.func10, Try.ntmps10
  go_wp2_with (go_at_call 8; refine (rinv_zero _).mono ?_; rintro e w' ⟨rfl, rfl⟩)
  go_ret2
  exact ⟨rfl, rfl⟩
set_option maxRecDepth 100000 in
set_option maxHeartbeats 400000 in
theorem rdiv_any (a b : Nat) (ha : a < 256) (h0 : b ≠ 0) (hb : b < 256) (w : World) :
    Calls Try.prog 10 #[.int .u8 a, .int .u8 b] w fun e w' => e = .returned (.tuple #[.int .u8 (gmul a (ginv b) : Nat), .int .i64 0]) ∧ w = w' := by
  have hg : ginv b < 256 := gexp_lt _
  go_enter Try.func10, Try.ntmps10
  go_wp2_with (first | (go_at_call 8; refine (rinv_any b h0 hb _).mono ?_; rintro e w' ⟨rfl, rfl⟩) | (go_at_call 13; refine (prod_any a _ ha hg _).mono ?_; rintro e w' ⟨rfl, rfl⟩))
  go_ret2
  exact ⟨rfl, rfl⟩
end Go.Proofs.Ytldckbeoeklicaa

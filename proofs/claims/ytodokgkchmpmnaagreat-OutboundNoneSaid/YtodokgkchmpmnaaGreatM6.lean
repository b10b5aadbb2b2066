/- Proved: lemmas of one statement's proof, merged by program: what each part proves stands ahead of it. Conditions: those that the lemmas name. -/
import Derived.Test.YtodokgkchmpmnaaGreatM1

/- Proved: what double of package gf answers for every byte. Conditions: the bounds that the theorem names. -/
namespace Go.Proofs.YtodokgkchmpmnaaGreat
open Go.ChangeShapes Go.WideShapes Go.ChangeAt Go.RowKit

set_option maxHeartbeats 400000 in
theorem double_any (a : Nat) (h : a < 256) (w : World) :
    Calls Tryz.prog 137 #[.int .u8 a] w fun e w' => e = .returned (.int .u8 (dbl a : Nat)) ∧ w = w' := by
  go_enter Tryz.func137, Tryz.ntmps137
  go_wp2
  go_ret
  refine ⟨ret_int ?_, rfl⟩
  rw [u8_xor _ _ (by omega) (by omega) (by omega) (by omega)]
  unfold dbl
  congr 1
end Go.Proofs.YtodokgkchmpmnaaGreat

/- Proved: what Mul of package gf answers for every two bytes. Conditions: the bounds that the theorem names. -/
namespace Go.Proofs.YtodokgkchmpmnaaGreat
open Go.ChangeShapes Go.WideShapes Go.ChangeAt Go.RowKit

theorem mul_step (x p y : Nat) (hx : x < 256) (hp : p < 256) (hy : y < 256) :
    bits BinOp.xor IntKind.u8 (p : Int) ((x : Int) * bits BinOp.and IntKind.u8 (y : Int) 1 % 256) = ((p ^^^ (x * (y % 2)) : Nat) : Int) := by
  have e := u8_and_nat y 1 hy (by decide)
  rw [Nat.and_one_is_mod] at e
  have e' : bits BinOp.and IntKind.u8 (y : Int) 1 = ((y % 2 : Nat) : Int) := e
  rw [e']
  have hb : y % 2 = 0 ∨ y % 2 = 1 := by omega
  rcases hb with e0 | e0 <;> rw [e0]
  · exact u8_xor_nat p 0 hp (by decide)
  · rw [show (x : Int) * ((1 : Nat) : Int) % 256 = ((x * 1 : Nat) : Int) by omega]
    exact u8_xor_nat p (x * 1) hp (by omega)

theorem mulN_succ (k a b : Nat) : mulN (k + 1) a b = mulN k a b ^^^ (dblN k a * (b / 2 ^ k % 2)) := rfl

set_option maxHeartbeats 400000 in
theorem mul_any (a b : Nat) (ha : a < 256) (hb : b < 256) (w : World) :
    Calls Tryz.prog 129 #[.int .u8 a, .int .u8 b] w fun e w' => e = .returned (.int .u8 (gmul a b : Nat)) ∧ w = w' := by
  go_enter Tryz.func129, Tryz.ntmps129
  go_wp2_with fail
  go_loop [0, 1, 5, 6] (fun x y p i => ∃ k : Nat, k ≤ 8 ∧ i = .int .i64 k ∧ x = .int .u8 (dblN k a : Nat) ∧ y = .int .u8 (b / 2 ^ k : Nat) ∧ p = .int .u8 (mulN k a b : Nat)) (fun _ _ _ i => 8 - (intOf i).toNat)
  case atStart => exact ⟨0, by omega, rfl, rfl, by simp, rfl⟩
  case round =>
    obtain ⟨k, hk, rfl, rfl, rfl, rfl⟩ := hrel
    have hl := dblN_lt k ha
    have hm := mulN_lt k b ha
    have hy : b / 2 ^ k < 256 := Nat.lt_of_le_of_lt (Nat.div_le_self _ _) hb
    by_cases hlt : k < 8
    · have H := Lib.hid (mul_step (dblN k a) (mulN k a b) (b / 2 ^ k) hl hm hy)
      go_wp2_with (go_at_call 137; refine (double_any _ (by omega) _).mono ?_; rintro e w' ⟨rfl, rfl⟩)
      go_round
      case rel => exact ⟨k + 1, by omega, by go_num, rfl, val_int (by rw [Nat.pow_succ, ← Nat.div_div_eq_div_mul]; rw [Int.natCast_ediv]; rfl), val_int (by rw [mulN_succ]; first | exact H.out | (push_cast at *; exact H.out))⟩
      case measure => simp [intOf]; omega
    · have : k = 8 := by omega
      subst this
      go_wp2_with fail
      go_ret
      exact ⟨rfl, rfl⟩
end Go.Proofs.YtodokgkchmpmnaaGreat

/- Proved: lemmas of one statement's proof, merged by program: what each part proves stands ahead of it. Conditions: those that the lemmas name. -/
import Derived.KernelRfl
import Derived.Test.YtodokgkchmpmnaaGreatRows
import Derived.WalkKit
import Derived.ProofKit
import Derived.LoopTactic
import Derived.Laws.BitsAllLaws
import Derived.Lib.Hide

/- Plain lemmas on bytes as natural numbers below 256: doubling, products, powers of 2 and their logs in the field of 256 elements. No condition beyond the bounds that each lemma names. Nothing of the program is imported. -/
namespace Go.Proofs.YtodokgkchmpmnaaGreat

def dbl (a : Nat) : Nat := (a * 2 % 256) ^^^ (a / 128 * 29)
def dblN : Nat → Nat → Nat
  | 0, a => a
  | k + 1, a => dbl (dblN k a)
def mulN : Nat → Nat → Nat → Nat
  | 0, _, _ => 0
  | k + 1, a, b => mulN k a b ^^^ (dblN k a * (b / 2 ^ k % 2))
def gmul (a b : Nat) : Nat := mulN 8 a b

def allBelow : Nat → (Nat → Bool) → Bool
  | 0, _ => true
  | n + 1, f => and (f n) (allBelow n f)
theorem allBelow_spec {n : Nat} {f : Nat → Bool} (h : allBelow n f = true) : ∀ i, i < n → f i = true := by
  induction n with
  | zero => intro i hi; omega
  | succ n ih =>
    intro i hi
    have h' : (f n && allBelow n f) = true := h
    rw [Bool.and_eq_true] at h'
    rcases Nat.lt_or_ge i n with hlt | hge
    · exact ih h'.2 i hlt
    · have : i = n := by omega
      rw [this]; exact h'.1

theorem mul_bit (c u v : Nat) (hu : u < 2) (hv : v < 2) : c * (u ^^^ v) = c * u ^^^ c * v := by
  have hu : u = 0 ∨ u = 1 := by omega
  have hv : v = 0 ∨ v = 1 := by omega
  rcases hu with rfl | rfl <;> rcases hv with rfl | rfl <;> simp
theorem bit_lt (x i : Nat) : x / 2 ^ i % 2 < 2 := Nat.mod_lt _ (by decide)
theorem xor4 (a b c d : Nat) : (a ^^^ b) ^^^ (c ^^^ d) = (a ^^^ c) ^^^ (b ^^^ d) := by
  rw [Nat.xor_assoc, Nat.xor_assoc, ← Nat.xor_assoc b c d, Nat.xor_comm b c, Nat.xor_assoc c b d]

theorem dbl_lt {a : Nat} (h : a < 256) : dbl a < 256 := by
  unfold dbl; exact Nat.xor_lt_two_pow (n := 8) (by omega) (by omega)
theorem dblN_lt (k : Nat) {a : Nat} (h : a < 256) : dblN k a < 256 := by
  induction k with
  | zero => exact h
  | succ k ih => exact dbl_lt ih
theorem mulN_lt (k : Nat) {a : Nat} (b : Nat) (h : a < 256) : mulN k a b < 256 := by
  induction k with
  | zero => exact (by decide : 0 < 256)
  | succ k ih =>
    refine Nat.xor_lt_two_pow (n := 8) ih ?_
    have := dblN_lt k h
    rcases Nat.mod_two_eq_zero_or_one (b / 2 ^ k) with e | e <;> rw [e] <;> omega
theorem gmul_lt {a : Nat} (b : Nat) (h : a < 256) : gmul a b < 256 := mulN_lt 8 b h

theorem dbl_xor (x y : Nat) (hx : x < 256) (hy : y < 256) : dbl (x ^^^ y) = dbl x ^^^ dbl y := by
  have e1 : (x ^^^ y) * 2 % 256 = (x * 2 % 256) ^^^ (y * 2 % 256) := by
    have := Nat.shiftLeft_xor_distrib (a := x) (b := y) (i := 1)
    rw [Nat.shiftLeft_eq, Nat.shiftLeft_eq, Nat.shiftLeft_eq] at this
    have t : (x ^^^ y) * 2 = x * 2 ^^^ y * 2 := this
    rw [t]
    exact Nat.xor_mod_two_pow (n := 8)
  have e2 : (x ^^^ y) / 128 * 29 = (x / 128 * 29) ^^^ (y / 128 * 29) := by
    have := Nat.shiftRight_xor_distrib (a := x) (b := y) (i := 7)
    rw [Nat.shiftRight_eq_div_pow, Nat.shiftRight_eq_div_pow, Nat.shiftRight_eq_div_pow] at this
    have t : (x ^^^ y) / 128 = x / 128 ^^^ y / 128 := this
    have m := mul_bit 29 (x / 128) (y / 128) (by omega) (by omega)
    rw [t, Nat.mul_comm, m, Nat.mul_comm, Nat.mul_comm 29]
  unfold dbl
  rw [e1, e2, xor4]
theorem dbl_bit (x u : Nat) (hu : u < 2) : dbl (x * u) = dbl x * u := by
  have hu : u = 0 ∨ u = 1 := by omega
  rcases hu with rfl | rfl
  · rw [Nat.mul_zero, Nat.mul_zero]; rfl
  · rw [Nat.mul_one, Nat.mul_one]
theorem dblN_succ' (k a : Nat) : dblN (k + 1) a = dblN k (dbl a) := by
  induction k with
  | zero => rfl
  | succ k ih => show dbl (dblN (k + 1) a) = dbl (dblN k (dbl a)); rw [ih]
theorem dblN_add (i j a : Nat) : dblN (i + j) a = dblN i (dblN j a) := by
  induction i with
  | zero => rw [Nat.zero_add]; rfl
  | succ i ih => rw [Nat.succ_add]; show dbl _ = dbl _; rw [ih]

theorem mulN_dbl (k a b : Nat) (ha : a < 256) : mulN k (dbl a) b = dbl (mulN k a b) := by
  induction k with
  | zero => show 0 = dbl 0; decide +kernel
  | succ k ih =>
    show mulN k (dbl a) b ^^^ (dblN k (dbl a) * (b / 2 ^ k % 2)) = dbl (mulN k a b ^^^ (dblN k a * (b / 2 ^ k % 2)))
    have hb := bit_lt b k
    have hd := dblN_lt k ha
    rw [dbl_xor _ _ (mulN_lt k b ha) (by have : b / 2 ^ k % 2 = 0 ∨ b / 2 ^ k % 2 = 1 := by omega
                                         rcases this with e | e <;> rw [e] <;> omega), dbl_bit _ _ hb, ih, ← dblN_succ']
    rfl
theorem gmul_dblN (i a b : Nat) (ha : a < 256) : gmul (dblN i a) b = dblN i (gmul a b) := by
  induction i with
  | zero => rfl
  | succ i ih => show gmul (dbl (dblN i a)) b = dbl (dblN i (gmul a b)); rw [← ih]; exact mulN_dbl 8 _ _ (dblN_lt i ha)

theorem gmul_one_all : allBelow 256 (fun b => Nat.beq (gmul 1 b) b) = true := by decide +kernel
theorem gmul_one_left (b : Nat) (h : b < 256) : gmul 1 b = b := Nat.eq_of_beq_eq_true (allBelow_spec gmul_one_all b h)
theorem gmul_zero_left_all : allBelow 256 (fun b => Nat.beq (gmul 0 b) 0) = true := by decide +kernel
theorem gmul_zero_left (b : Nat) (h : b < 256) : gmul 0 b = 0 := Nat.eq_of_beq_eq_true (allBelow_spec gmul_zero_left_all b h)
theorem gmul_zero_all : allBelow 256 (fun b => Nat.beq (gmul b 0) 0) = true := by decide +kernel
theorem gmul_zero (b : Nat) (h : b < 256) : gmul b 0 = 0 := Nat.eq_of_beq_eq_true (allBelow_spec gmul_zero_all b h)
/-! ### the document's product -/
/-! ### powers and logs -/
def pw (n : Nat) : Nat := dblN n 1
theorem pw_lt (n : Nat) : pw n < 256 := dblN_lt n (by decide)
def tab : Nat → Nat → Nat
  | 0, _ => 0
  | n + 1, i => if i = pw n then n else tab n i
def lg (a : Nat) : Nat := tab 255 a
/-- the least n from k on, below 255, whose power is a. -/
def pwsFrom : Nat → Nat → List Nat
  | 0, _ => []
  | n + 1, x => x :: pwsFrom n (dbl x)
def tabFrom : List Nat → Nat → Nat → Nat → Nat
  | [], _, r, _ => r
  | x :: l, n, r, a => tabFrom l (n + 1) (bif Nat.beq a x then n else r) a
theorem tabFrom_eq (m : Nat) : ∀ n a, tabFrom (pwsFrom m (pw n)) n (tab n a) a = tab (n + m) a := by
  induction m with
  | zero => intro n a; rfl
  | succ m ih =>
    intro n a
    show tabFrom (pwsFrom m (pw (n + 1))) (n + 1) (bif Nat.beq a (pw n) then n else tab n a) a = _
    have : (bif Nat.beq a (pw n) then n else tab n a) = tab (n + 1) a := by
      show _ = if a = pw n then n else tab n a
      by_cases h : a = pw n
      · rw [if_pos h, h, Nat.beq_refl]; rfl
      · rw [if_neg h]
        have : Nat.beq a (pw n) = false := by
          cases hb : Nat.beq a (pw n) with
          | false => rfl
          | true => exact absurd (Nat.eq_of_beq_eq_true hb) h
        rw [this]; rfl
    rw [this, ih]
    congr 1; omega
def lgc (a : Nat) : Nat := tabFrom (pwsFrom 255 1) 0 0 a
theorem lgc_eq (a : Nat) : lgc a = lg a := by
  have h := tabFrom_eq 255 0 a
  have e1 : pw 0 = 1 := rfl
  have e2 : tab 0 a = 0 := rfl
  rw [e1, e2, Nat.zero_add] at h
  exact h
theorem lg_all : allBelow 255 (fun i => and (Nat.blt (lgc (i + 1)) 255) (Nat.beq (pw (lgc (i + 1))) (i + 1))) = true := by decide +kernel
theorem lg_lt (a : Nat) (h0 : a ≠ 0) (h : a < 256) : lg a < 255 := by
  have := allBelow_spec lg_all (a - 1) (by omega)
  rw [Bool.and_eq_true, show a - 1 + 1 = a by omega, lgc_eq] at this
  exact Nat.le_of_ble_eq_true this.1
theorem pw_lg (a : Nat) (h0 : a ≠ 0) (h : a < 256) : pw (lg a) = a := by
  have := allBelow_spec lg_all (a - 1) (by omega)
  rw [Bool.and_eq_true, show a - 1 + 1 = a by omega, lgc_eq] at this
  exact Nat.eq_of_beq_eq_true this.2
theorem pw_add (i j : Nat) : pw (i + j) = dblN i (pw j) := dblN_add i j 1
theorem gmul_pw (i b : Nat) (hb : b < 256) : gmul (pw i) b = dblN i b := by
  have := gmul_dblN i 1 b (by decide)
  rw [gmul_one_left b hb] at this
  exact this
theorem gmul_pw_pw (i j : Nat) : gmul (pw i) (pw j) = pw (i + j) := by
  rw [gmul_pw i _ (pw_lt j), pw_add]
theorem gmul_lg (a b : Nat) (ha0 : a ≠ 0) (ha : a < 256) (hb0 : b ≠ 0) (hb : b < 256) : gmul a b = pw (lg a + lg b) := by
  have := gmul_pw_pw (lg a) (lg b)
  rwa [pw_lg a ha0 ha, pw_lg b hb0 hb] at this
theorem gmul_comm (a b : Nat) (ha : a < 256) (hb : b < 256) : gmul a b = gmul b a := by
  by_cases ha0 : a = 0
  · rw [ha0, gmul_zero_left b hb, gmul_zero b hb]
  by_cases hb0 : b = 0
  · rw [hb0, gmul_zero_left a ha, gmul_zero a ha]
  rw [gmul_lg a b ha0 ha hb0 hb, gmul_lg b a hb0 hb ha0 ha, Nat.add_comm]
/-! ### powers by any integer, the inverse -/
def gexp (n : Int) : Nat := pw (n % 255).toNat
theorem gexp_lt (n : Int) : gexp n < 256 := pw_lt _
def ginv (a : Nat) : Nat := gexp (-(lg a : Int))
end Go.Proofs.YtodokgkchmpmnaaGreat

/- Two rewritings of values: plain lemmas. No condition. -/
namespace Go.Proofs.YtodokgkchmpmnaaGreat
open Go.ChangeShapes Go.WideShapes Go.ChangeAt Go.RowKit

theorem ret_int {k : IntKind} {a b : Int} (h : a = b) : Ending.returned (.int k a) = .returned (.int k b) := by rw [h]
theorem val_int {k : IntKind} {a b : Int} (h : a = b) : Value.int k a = .int k b := by rw [h]
end Go.Proofs.YtodokgkchmpmnaaGreat

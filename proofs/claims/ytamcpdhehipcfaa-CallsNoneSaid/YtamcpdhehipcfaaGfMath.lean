/- Plain lemmas on bytes as natural numbers below 256: doubling, products, powers of 2 and their logs in the field of 256 elements. No condition beyond the bounds that each lemma names. Nothing of the program is imported. -/
import Derived.KernelRfl
namespace Go.Proofs.Ytamcpdhehipcfaa

def dbl (a : Nat) : Nat := (a * 2 % 256) ^^^ (a / 128 * 29)
def dblN : Nat → Nat → Nat
  | 0, a => a
  | k + 1, a => dbl (dblN k a)
def mulN : Nat → Nat → Nat → Nat
  | 0, _, _ => 0
  | k + 1, a, b => mulN k a b ^^^ (dblN k a * (b / 2 ^ k % 2))
def gmul (a b : Nat) : Nat := mulN 8 a b

def refUp : Nat → Nat → Nat → Nat
  | 0, _, _ => 0
  | k + 1, a, b => refUp k a b ^^^ (a * 2 ^ k * (b / 2 ^ k % 2))
def refDn : Nat → Nat → Nat
  | 0, p => p
  | k + 1, p => refDn k p ^^^ (285 * 2 ^ (7 - k) * (refDn k p / 2 ^ (15 - k) % 2))
def rmul (a b : Nat) : Nat := refDn 8 (refUp 8 a b) % 256

def allBelow : Nat → (Nat → Bool) → Bool
  | 0, _ => true
  | n + 1, f => and (f n) (allBelow n f)
theorem allBelow_spec {n : Nat} {f : Nat → Bool} (h : allBelow n f = true) : ∀ i, i < n → f i = true := by
  induction n with
  | zero => intro i hi; omega
  | succ n ih =>
    intro i hi
    have h' : (f n && allBelow n f) = true := h
    rw [Bool.and_eq_true] at h'
    rcases Nat.lt_or_ge i n with hlt | hge
    · exact ih h'.2 i hlt
    · have : i = n := by omega
      rw [this]; exact h'.1

theorem bit_xor (x y i : Nat) : (x ^^^ y) / 2 ^ i % 2 = (x / 2 ^ i % 2) ^^^ (y / 2 ^ i % 2) := by
  rw [← Nat.shiftRight_eq_div_pow, ← Nat.shiftRight_eq_div_pow, ← Nat.shiftRight_eq_div_pow, Nat.shiftRight_xor_distrib]
  exact Nat.xor_mod_two_pow (n := 1)
theorem mul_bit (c u v : Nat) (hu : u < 2) (hv : v < 2) : c * (u ^^^ v) = c * u ^^^ c * v := by
  have hu : u = 0 ∨ u = 1 := by omega
  have hv : v = 0 ∨ v = 1 := by omega
  rcases hu with rfl | rfl <;> rcases hv with rfl | rfl <;> simp
theorem bit_lt (x i : Nat) : x / 2 ^ i % 2 < 2 := Nat.mod_lt _ (by decide)
theorem xor4 (a b c d : Nat) : (a ^^^ b) ^^^ (c ^^^ d) = (a ^^^ c) ^^^ (b ^^^ d) := by
  rw [Nat.xor_assoc, Nat.xor_assoc, ← Nat.xor_assoc b c d, Nat.xor_comm b c, Nat.xor_assoc c b d]

theorem dbl_lt {a : Nat} (h : a < 256) : dbl a < 256 := by
  unfold dbl; exact Nat.xor_lt_two_pow (n := 8) (by omega) (by omega)
theorem dblN_lt (k : Nat) {a : Nat} (h : a < 256) : dblN k a < 256 := by
  induction k with
  | zero => exact h
  | succ k ih => exact dbl_lt ih
theorem mulN_lt (k : Nat) {a : Nat} (b : Nat) (h : a < 256) : mulN k a b < 256 := by
  induction k with
  | zero => exact (by decide : 0 < 256)
  | succ k ih =>
    refine Nat.xor_lt_two_pow (n := 8) ih ?_
    have := dblN_lt k h
    rcases Nat.mod_two_eq_zero_or_one (b / 2 ^ k) with e | e <;> rw [e] <;> omega
theorem gmul_lt {a : Nat} (b : Nat) (h : a < 256) : gmul a b < 256 := mulN_lt 8 b h

theorem dbl_xor (x y : Nat) (hx : x < 256) (hy : y < 256) : dbl (x ^^^ y) = dbl x ^^^ dbl y := by
  have e1 : (x ^^^ y) * 2 % 256 = (x * 2 % 256) ^^^ (y * 2 % 256) := by
    have := Nat.shiftLeft_xor_distrib (a := x) (b := y) (i := 1)
    rw [Nat.shiftLeft_eq, Nat.shiftLeft_eq, Nat.shiftLeft_eq] at this
    have t : (x ^^^ y) * 2 = x * 2 ^^^ y * 2 := this
    rw [t]
    exact Nat.xor_mod_two_pow (n := 8)
  have e2 : (x ^^^ y) / 128 * 29 = (x / 128 * 29) ^^^ (y / 128 * 29) := by
    have := Nat.shiftRight_xor_distrib (a := x) (b := y) (i := 7)
    rw [Nat.shiftRight_eq_div_pow, Nat.shiftRight_eq_div_pow, Nat.shiftRight_eq_div_pow] at this
    have t : (x ^^^ y) / 128 = x / 128 ^^^ y / 128 := this
    have m := mul_bit 29 (x / 128) (y / 128) (by omega) (by omega)
    rw [t, Nat.mul_comm, m, Nat.mul_comm, Nat.mul_comm 29]
  unfold dbl
  rw [e1, e2, xor4]
theorem dbl_bit (x u : Nat) (hu : u < 2) : dbl (x * u) = dbl x * u := by
  have hu : u = 0 ∨ u = 1 := by omega
  rcases hu with rfl | rfl
  · rw [Nat.mul_zero, Nat.mul_zero]; rfl
  · rw [Nat.mul_one, Nat.mul_one]
theorem dblN_succ' (k a : Nat) : dblN (k + 1) a = dblN k (dbl a) := by
  induction k with
  | zero => rfl
  | succ k ih => show dbl (dblN (k + 1) a) = dbl (dblN k (dbl a)); rw [ih]
theorem dblN_add (i j a : Nat) : dblN (i + j) a = dblN i (dblN j a) := by
  induction i with
  | zero => rw [Nat.zero_add]; rfl
  | succ i ih => rw [Nat.succ_add]; show dbl _ = dbl _; rw [ih]

theorem mulN_dbl (k a b : Nat) (ha : a < 256) : mulN k (dbl a) b = dbl (mulN k a b) := by
  induction k with
  | zero => show 0 = dbl 0; decide +kernel
  | succ k ih =>
    show mulN k (dbl a) b ^^^ (dblN k (dbl a) * (b / 2 ^ k % 2)) = dbl (mulN k a b ^^^ (dblN k a * (b / 2 ^ k % 2)))
    have hb := bit_lt b k
    have hd := dblN_lt k ha
    rw [dbl_xor _ _ (mulN_lt k b ha) (by have : b / 2 ^ k % 2 = 0 ∨ b / 2 ^ k % 2 = 1 := by omega
                                         rcases this with e | e <;> rw [e] <;> omega), dbl_bit _ _ hb, ih, ← dblN_succ']
    rfl
theorem mulN_xor (k a b c : Nat) : mulN k a (b ^^^ c) = mulN k a b ^^^ mulN k a c := by
  induction k with
  | zero => show 0 = 0 ^^^ 0; decide +kernel
  | succ k ih =>
    show mulN k a (b ^^^ c) ^^^ (dblN k a * ((b ^^^ c) / 2 ^ k % 2)) = (mulN k a b ^^^ (dblN k a * (b / 2 ^ k % 2))) ^^^ (mulN k a c ^^^ (dblN k a * (c / 2 ^ k % 2)))
    rw [ih, bit_xor, mul_bit _ _ _ (bit_lt b k) (bit_lt c k), xor4]
theorem gmul_xor (a b c : Nat) : gmul a (b ^^^ c) = gmul a b ^^^ gmul a c := mulN_xor 8 a b c
theorem gmul_dblN (i a b : Nat) (ha : a < 256) : gmul (dblN i a) b = dblN i (gmul a b) := by
  induction i with
  | zero => rfl
  | succ i ih => show gmul (dbl (dblN i a)) b = dbl (dblN i (gmul a b)); rw [← ih]; exact mulN_dbl 8 _ _ (dblN_lt i ha)

theorem gmul_one_all : allBelow 256 (fun b => Nat.beq (gmul 1 b) b) = true := by decide +kernel
theorem gmul_one_left (b : Nat) (h : b < 256) : gmul 1 b = b := Nat.eq_of_beq_eq_true (allBelow_spec gmul_one_all b h)
theorem gmul_one_right_all : allBelow 256 (fun b => Nat.beq (gmul b 1) b) = true := by decide +kernel
theorem gmul_one (b : Nat) (h : b < 256) : gmul b 1 = b := Nat.eq_of_beq_eq_true (allBelow_spec gmul_one_right_all b h)
theorem gmul_zero_left_all : allBelow 256 (fun b => Nat.beq (gmul 0 b) 0) = true := by decide +kernel
theorem gmul_zero_left (b : Nat) (h : b < 256) : gmul 0 b = 0 := Nat.eq_of_beq_eq_true (allBelow_spec gmul_zero_left_all b h)
theorem gmul_zero_all : allBelow 256 (fun b => Nat.beq (gmul b 0) 0) = true := by decide +kernel
theorem gmul_zero (b : Nat) (h : b < 256) : gmul b 0 = 0 := Nat.eq_of_beq_eq_true (allBelow_spec gmul_zero_all b h)
theorem gmul_two_all : allBelow 256 (fun b => Nat.beq (gmul b 2) (dbl b)) = true := by decide +kernel
theorem gmul_two (b : Nat) (h : b < 256) : gmul b 2 = dbl b := Nat.eq_of_beq_eq_true (allBelow_spec gmul_two_all b h)

/-! ### the document's product -/
theorem refDn_xor (k p q : Nat) : refDn k (p ^^^ q) = refDn k p ^^^ refDn k q := by
  induction k with
  | zero => rfl
  | succ k ih =>
    show refDn k (p ^^^ q) ^^^ (285 * 2 ^ (7 - k) * (refDn k (p ^^^ q) / 2 ^ (15 - k) % 2)) = (refDn k p ^^^ _) ^^^ (refDn k q ^^^ _)
    rw [ih, bit_xor, mul_bit _ _ _ (bit_lt _ _) (bit_lt _ _), xor4]
theorem refDn_zero (k : Nat) : refDn k 0 = 0 := by
  have := refDn_xor k 0 0
  simpa using this
theorem refDn_bit (k x u : Nat) (hu : u < 2) : refDn k (x * u) = refDn k x * u := by
  have hu : u = 0 ∨ u = 1 := by omega
  rcases hu with rfl | rfl
  · rw [Nat.mul_zero, Nat.mul_zero]; exact refDn_zero k
  · rw [Nat.mul_one, Nat.mul_one]
theorem bit_mul_lt (c x i n : Nat) (h : c < n) : c * (x / 2 ^ i % 2) < n := by
  have hb := bit_lt x i
  have hb : x / 2 ^ i % 2 = 0 ∨ x / 2 ^ i % 2 = 1 := by omega
  rcases hb with e | e <;> rw [e] <;> omega
theorem shl_lt (k a : Nat) (hk : k < 8) (ha : a < 256) : a * 2 ^ k < 65536 := by
  have : 2 ^ k ≤ 2 ^ 7 := Nat.pow_le_pow_right (by decide) (by omega)
  have := Nat.mul_le_mul (Nat.le_of_lt_succ ha) this
  omega
theorem shl285_lt (k : Nat) : 285 * 2 ^ (7 - k) < 65536 := by
  have : 2 ^ (7 - k) ≤ 2 ^ 7 := Nat.pow_le_pow_right (by decide) (by omega)
  omega
theorem refUp_lt (k a b : Nat) (hk : k ≤ 8) (ha : a < 256) : refUp k a b < 65536 := by
  induction k with
  | zero => exact (by decide : 0 < 65536)
  | succ k ih => exact Nat.xor_lt_two_pow (n := 16) (ih (by omega)) (bit_mul_lt _ _ _ _ (shl_lt k a (by omega) ha))
theorem refDn_lt (k p : Nat) (hp : p < 65536) : refDn k p < 65536 := by
  induction k with
  | zero => exact hp
  | succ k ih => exact Nat.xor_lt_two_pow (n := 16) ih (bit_mul_lt _ _ _ _ (shl285_lt k))
theorem refDn_up_all : allBelow 8 (fun k => allBelow 256 fun a => Nat.beq (refDn 8 (a * 2 ^ k) % 256) (dblN k a)) = true := by decide +kernel
theorem refDn_up (k a : Nat) (hk : k < 8) (ha : a < 256) : refDn 8 (a * 2 ^ k) % 256 = dblN k a :=
  Nat.eq_of_beq_eq_true (allBelow_spec (allBelow_spec refDn_up_all k hk) a ha)
theorem ref_all (k a b : Nat) (hk : k ≤ 8) (ha : a < 256) : refDn 8 (refUp k a b) % 256 = mulN k a b := by
  induction k with
  | zero => show refDn 8 0 % 256 = 0; rw [refDn_zero]
  | succ k ih =>
    show refDn 8 (refUp k a b ^^^ (a * 2 ^ k * (b / 2 ^ k % 2))) % 256 = mulN k a b ^^^ (dblN k a * (b / 2 ^ k % 2))
    have e : ∀ x y : Nat, (x ^^^ y) % 256 = (x % 256) ^^^ (y % 256) := fun x y => Nat.xor_mod_two_pow (n := 8)
    rw [refDn_xor, e, ih (by omega), refDn_bit _ _ _ (bit_lt b k)]
    congr 1
    have hb := bit_lt b k
    have hb : b / 2 ^ k % 2 = 0 ∨ b / 2 ^ k % 2 = 1 := by omega
    rcases hb with e0 | e0 <;> rw [e0]
    · rw [Nat.mul_zero, Nat.mul_zero]
    · rw [Nat.mul_one, Nat.mul_one]; exact refDn_up k a (by omega) ha
theorem rmul_eq (a b : Nat) (ha : a < 256) : rmul a b = gmul a b := ref_all 8 a b (Nat.le_refl _) ha

/-! ### powers and logs -/
def pw (n : Nat) : Nat := dblN n 1
theorem pw_lt (n : Nat) : pw n < 256 := dblN_lt n (by decide)
theorem pw_succ (n : Nat) : pw (n + 1) = dbl (pw n) := rfl
def tab : Nat → Nat → Nat
  | 0, _ => 0
  | n + 1, i => if i = pw n then n else tab n i
def lg (a : Nat) : Nat := tab 255 a
/-- the least n from k on, below 255, whose power is a. -/
def pwsFrom : Nat → Nat → List Nat
  | 0, _ => []
  | n + 1, x => x :: pwsFrom n (dbl x)
def tabFrom : List Nat → Nat → Nat → Nat → Nat
  | [], _, r, _ => r
  | x :: l, n, r, a => tabFrom l (n + 1) (bif Nat.beq a x then n else r) a
theorem tabFrom_eq (m : Nat) : ∀ n a, tabFrom (pwsFrom m (pw n)) n (tab n a) a = tab (n + m) a := by
  induction m with
  | zero => intro n a; rfl
  | succ m ih =>
    intro n a
    show tabFrom (pwsFrom m (pw (n + 1))) (n + 1) (bif Nat.beq a (pw n) then n else tab n a) a = _
    have : (bif Nat.beq a (pw n) then n else tab n a) = tab (n + 1) a := by
      show _ = if a = pw n then n else tab n a
      by_cases h : a = pw n
      · rw [if_pos h, h, Nat.beq_refl]; rfl
      · rw [if_neg h]
        have : Nat.beq a (pw n) = false := by
          cases hb : Nat.beq a (pw n) with
          | false => rfl
          | true => exact absurd (Nat.eq_of_beq_eq_true hb) h
        rw [this]; rfl
    rw [this, ih]
    congr 1; omega
def lgc (a : Nat) : Nat := tabFrom (pwsFrom 255 1) 0 0 a
theorem lgc_eq (a : Nat) : lgc a = lg a := by
  have h := tabFrom_eq 255 0 a
  have e1 : pw 0 = 1 := rfl
  have e2 : tab 0 a = 0 := rfl
  rw [e1, e2, Nat.zero_add] at h
  exact h
theorem lg_all : allBelow 255 (fun i => and (Nat.blt (lgc (i + 1)) 255) (Nat.beq (pw (lgc (i + 1))) (i + 1))) = true := by decide +kernel
theorem pw_period : pw 255 = 1 := by decide +kernel
theorem pw_lg_all : allBelow 255 (fun i => Nat.beq (lgc (pw i)) i) = true := by decide +kernel
theorem lg_lt (a : Nat) (h0 : a ≠ 0) (h : a < 256) : lg a < 255 := by
  have := allBelow_spec lg_all (a - 1) (by omega)
  rw [Bool.and_eq_true, show a - 1 + 1 = a by omega, lgc_eq] at this
  exact Nat.le_of_ble_eq_true this.1
theorem pw_lg (a : Nat) (h0 : a ≠ 0) (h : a < 256) : pw (lg a) = a := by
  have := allBelow_spec lg_all (a - 1) (by omega)
  rw [Bool.and_eq_true, show a - 1 + 1 = a by omega, lgc_eq] at this
  exact Nat.eq_of_beq_eq_true this.2
theorem lg_pw (n : Nat) (h : n < 255) : lg (pw n) = n := by
  have := Nat.eq_of_beq_eq_true (allBelow_spec pw_lg_all n h)
  rwa [lgc_eq] at this
theorem pw_add (i j : Nat) : pw (i + j) = dblN i (pw j) := dblN_add i j 1
theorem pw_add255 (n : Nat) : pw (n + 255) = pw n := by rw [pw_add, pw_period]; rfl
theorem pw_mul255 (n q : Nat) : pw (n + 255 * q) = pw n := by
  induction q with
  | zero => rfl
  | succ q ih => rw [show n + 255 * (q + 1) = (n + 255 * q) + 255 by omega, pw_add255, ih]
theorem pw_mod (n : Nat) : pw (n % 255) = pw n := by
  have := pw_mul255 (n % 255) (n / 255)
  rw [show n % 255 + 255 * (n / 255) = n by omega] at this
  exact this.symm
theorem gmul_pw (i b : Nat) (hb : b < 256) : gmul (pw i) b = dblN i b := by
  have := gmul_dblN i 1 b (by decide)
  rw [gmul_one_left b hb] at this
  exact this
theorem gmul_pw_pw (i j : Nat) : gmul (pw i) (pw j) = pw (i + j) := by
  rw [gmul_pw i _ (pw_lt j), pw_add]
theorem pw_ne (n : Nat) : pw n ≠ 0 := by
  rw [← pw_mod]
  have h : n % 255 < 255 := Nat.mod_lt _ (by decide)
  generalize n % 255 = m at h
  have hl := lg_pw m h
  intro e
  rw [e] at hl
  have z : lg 0 = 0 := by rw [← lgc_eq]; decide +kernel
  have : m = 0 := hl.symm.trans z
  rw [this] at e
  exact absurd e (by decide +kernel)
theorem gmul_lg (a b : Nat) (ha0 : a ≠ 0) (ha : a < 256) (hb0 : b ≠ 0) (hb : b < 256) : gmul a b = pw (lg a + lg b) := by
  have := gmul_pw_pw (lg a) (lg b)
  rwa [pw_lg a ha0 ha, pw_lg b hb0 hb] at this
theorem gmul_ne (a b : Nat) (ha0 : a ≠ 0) (ha : a < 256) (hb0 : b ≠ 0) (hb : b < 256) : gmul a b ≠ 0 := by
  rw [gmul_lg a b ha0 ha hb0 hb]; exact pw_ne _
theorem lg_gmul (a b : Nat) (ha0 : a ≠ 0) (ha : a < 256) (hb0 : b ≠ 0) (hb : b < 256) : lg (gmul a b) = (lg a + lg b) % 255 := by
  rw [gmul_lg a b ha0 ha hb0 hb, ← pw_mod, lg_pw _ (Nat.mod_lt _ (by decide))]
theorem gmul_comm (a b : Nat) (ha : a < 256) (hb : b < 256) : gmul a b = gmul b a := by
  by_cases ha0 : a = 0
  · rw [ha0, gmul_zero_left b hb, gmul_zero b hb]
  by_cases hb0 : b = 0
  · rw [hb0, gmul_zero_left a ha, gmul_zero a ha]
  rw [gmul_lg a b ha0 ha hb0 hb, gmul_lg b a hb0 hb ha0 ha, Nat.add_comm]
theorem gmul_assoc (a b c : Nat) (ha : a < 256) (hb : b < 256) (hc : c < 256) : gmul (gmul a b) c = gmul a (gmul b c) := by
  by_cases ha0 : a = 0
  · rw [ha0, gmul_zero_left b hb, gmul_zero_left c hc, gmul_zero_left _ (gmul_lt c hb)]
  by_cases hb0 : b = 0
  · rw [hb0, gmul_zero a ha, gmul_zero_left c hc, gmul_zero a ha]
  by_cases hc0 : c = 0
  · rw [hc0, gmul_zero _ (gmul_lt b ha), gmul_zero b hb, gmul_zero a ha]
  rw [gmul_lg a b ha0 ha hb0 hb, gmul_lg b c hb0 hb hc0 hc, ← pw_mod, ← pw_mod (lg b + lg c)]
  have h1 : (lg a + lg b) % 255 < 255 := Nat.mod_lt _ (by decide)
  have h2 : (lg b + lg c) % 255 < 255 := Nat.mod_lt _ (by decide)
  rw [gmul_lg _ c (pw_ne _) (pw_lt _) hc0 hc, gmul_lg a _ ha0 ha (pw_ne _) (pw_lt _), lg_pw _ h1, lg_pw _ h2, ← pw_mod, ← pw_mod (lg a + _)]
  congr 1; omega

/-! ### powers by any integer, the inverse -/
def gexp (n : Int) : Nat := pw (n % 255).toNat
theorem gexp_lt (n : Int) : gexp n < 256 := pw_lt _
theorem gexp_ne (n : Int) : gexp n ≠ 0 := pw_ne _
theorem gexp_nat (n : Nat) : gexp (n : Int) = pw n := by
  unfold gexp
  rw [← pw_mod n]; congr 1
def ginv (a : Nat) : Nat := gexp (-(lg a : Int))
theorem gmul_ginv (a : Nat) (h0 : a ≠ 0) (h : a < 256) : gmul a (ginv a) = 1 := by
  unfold ginv
  rw [gmul_lg a _ h0 h (gexp_ne _) (gexp_lt _)]
  unfold gexp
  have hl := lg_lt a h0 h
  rw [lg_pw _ (by omega), ← pw_mod]
  have : (lg a + (-(lg a : Int) % 255).toNat) % 255 = 0 := by omega
  rw [this]; rfl
theorem ginv_only (a b : Nat) (h0 : a ≠ 0) (h : a < 256) (hb : b < 256) (e : gmul a b = 1) : b = ginv a := by
  have hb0 : b ≠ 0 := by
    intro z; rw [z, gmul_zero a h] at e; exact absurd e (by decide)
  have hl := lg_lt a h0 h
  have hm := lg_lt b hb0 hb
  have el := lg_gmul a b h0 h hb0 hb
  rw [e] at el
  have z : lg 1 = 0 := by rw [← lgc_eq]; decide +kernel
  rw [z] at el
  have : lg b = (-(lg a : Int) % 255).toNat := by omega
  unfold ginv gexp
  rw [← this, pw_lg b hb0 hb]
end Go.Proofs.Ytamcpdhehipcfaa

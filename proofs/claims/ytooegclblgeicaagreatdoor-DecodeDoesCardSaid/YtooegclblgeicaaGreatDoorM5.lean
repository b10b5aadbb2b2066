/- Proved: lemmas of one statement's proof, merged by program: what each part proves stands ahead of it. Conditions: those that the lemmas name. -/
import Derived.Test.YtooegclblgeicaaGreatDoorM4
import Derived.Deep.QuietTactic
import Derived.BigQuiet
import Derived.Test.YtooegclblgeicaaGreatDoorM3
import Derived.Test.YtooegclblgeicaaGreatDoorM1

/- Proved: what the document's Same answers for every two rows of bytes. Conditions: those that the theorems name. -/
namespace Go.Proofs.YtooegclblgeicaaGreatDoor
open Go.ChangeShapes Go.WideShapes Go.ChangeAt Go.RowKit

theorem below_drawn {B : Nat} {w w' : World} (h : ∃ m, w' = w.drewN m) : Below B w w' := by
  obtain ⟨m, rfl⟩ := h
  exact ⟨rfl, rfl, rfl, Nat.le_refl _, fun _ _ => rfl⟩

end Go.Proofs.YtooegclblgeicaaGreatDoor

/- Proved: what fits and Check of package matrix and the document's Check answer for every table. Conditions: those that the theorems name. -/
namespace Go.Proofs.YtooegclblgeicaaGreatDoor
open Go.ChangeShapes Go.WideShapes Go.ChangeAt Go.RowKit

/-- may a table have n rows, or a row n bytes? -/
def Fit (n : Nat) : Prop := 1 ≤ n ∧ n ≤ 255
instance (n : Nat) : Decidable (Fit n) := by unfold Fit; infer_instance
def Even (t : List (List Nat)) : Prop := ∀ r, r < t.length → (rw_ t r).length = (rw_ t 0).length
instance (t : List (List Nat)) : Decidable (Even t) := by unfold Even; infer_instance
/-- Check's answer. -/
def chk (t : List (List Nat)) : Nat := if Fit t.length ∧ Fit (rw_ t 0).length then (if Even t then 0 else 16) else 1
theorem chk_arg {t : List (List Nat)} (h : ¬ (Fit t.length ∧ Fit (rw_ t 0).length)) : chk t = 1 := if_neg h
theorem chk_unlike {t : List (List Nat)} (h : Fit t.length ∧ Fit (rw_ t 0).length) (g : ¬ Even t) : chk t = 16 := by unfold chk; rw [if_pos h, if_neg g]
theorem chk_ok {t : List (List Nat)} (h : Fit t.length ∧ Fit (rw_ t 0).length) (g : Even t) : chk t = 0 := by unfold chk; rw [if_pos h, if_pos g]
theorem chk_zero {t : List (List Nat)} (h : chk t = 0) : Fit t.length ∧ Fit (rw_ t 0).length ∧ Even t := by
  unfold chk at h
  split at h
  · rename_i a
    split at h
    · rename_i b; exact ⟨a.1, a.2, b⟩
    · exact absurd h (by decide)
  · exact absurd h (by decide)
theorem chk_lt (t : List (List Nat)) : chk t = 0 ∨ chk t = 1 ∨ chk t = 16 := by
  unfold chk; split <;> (try split) <;> simp

set_option maxHeartbeats 400000 in
theorem fits_yes (n : Int) (h1 : 1 ≤ n) (h2 : n ≤ 255) (w : World) :
    Calls Tryz.prog 78 #[.int .i64 n] w fun e w' => e = .returned (.bool true) ∧ w = w' := by
  go_enter Tryz.func78, Tryz.ntmps78
  go_wp2_with fail
  go_ret
  exact ⟨rfl, rfl⟩
set_option maxHeartbeats 400000 in
theorem fits_no (n : Int) (h : ¬ (1 ≤ n ∧ n ≤ 255)) (w : World) :
    Calls Tryz.prog 78 #[.int .i64 n] w fun e w' => e = .returned (.bool false) ∧ w = w' := by
  by_cases h1 : 1 ≤ n
  · have h2 : ¬ n ≤ 255 := fun q => h ⟨h1, q⟩
    clear h
    go_enter Tryz.func78, Tryz.ntmps78
    go_wp2_with fail
    go_ret
    exact ⟨rfl, rfl⟩
  · clear h
    go_enter Tryz.func78, Tryz.ntmps78
    go_wp2_with fail
    go_ret
    exact ⟨rfl, rfl⟩

set_option maxHeartbeats 400000 in
theorem check_arg (A : Option Addr) (n c : Nat) (t : List (List Nat)) (w : World) (ht : Rows w A n t) (h : ¬ (Fit t.length ∧ Fit (rw_ t 0).length)) :
    Calls Tryz.prog 60 #[.slice A n c] w fun e w' => e = .returned (.int .i64 1) ∧ w = w' := by
  have HT := Lib.hid ht
  have HN := Lib.hid ht.len
  have HH := Lib.hid h
  clear ht h
  by_cases h1 : (1 : Int) ≤ (n : Int) ∧ (n : Int) ≤ 255
  · obtain ⟨ad, B, d, rfl, _, hc, _⟩ := HT.out.at_ (k := 0) (by omega)
    have e0 : ad.add 0 = ad := Addr.add_zero' ad
    rw [e0] at hc
    have h2 : ¬ ((1 : Int) ≤ ((rw_ t 0).length : Int) ∧ ((rw_ t 0).length : Int) ≤ 255) := by
      have := HH.out
      rw [HN.out] at this
      unfold Fit at this
      omega
    generalize (rw_ t 0).length = m at *
    have H1 := Lib.hid h1
    have H2 := Lib.hid h2
    clear h1 h2
    have hn : 0 < n := by have := H1.out; omega
    go_enter Tryz.func60, Tryz.ntmps60
    go_wp2_with fail
    refine (fits_yes n H1.out.1 H1.out.2 _).mono ?_; rintro e w' ⟨rfl, rfl⟩
    go_wp2_with fail
    refine (fits_no m H2.out _).mono ?_; rintro e w' ⟨rfl, rfl⟩
    go_wp2_with fail
    go_ret
    exact ⟨rfl, rfl⟩
  · have H1 := Lib.hid h1
    clear h1
    go_enter Tryz.func60, Tryz.ntmps60
    go_wp2_with fail
    refine (fits_no n H1.out _).mono ?_; rintro e w' ⟨rfl, rfl⟩
    go_wp2_with fail
    go_ret
    exact ⟨rfl, rfl⟩

set_option maxHeartbeats 800000 in
theorem check_fit (A : Option Addr) (n c : Nat) (t : List (List Nat)) (w : World) (ht : Rows w A n t) (h : Fit t.length ∧ Fit (rw_ t 0).length) :
    Calls Tryz.prog 60 #[.slice A n c] w fun e w' => e = .returned (.int .i64 (chk t : Nat)) ∧ w = w' := by
  have HF : Hid (Fit t.length ∧ Fit (rw_ t 0).length) := Lib.hid h
  have HT := Lib.hid ht
  have HN := Lib.hid ht.len
  obtain ⟨⟨h1, h2⟩, h3, h4⟩ := h
  rw [ht.len] at h1 h2
  clear ht
  obtain ⟨ad, B, d, rfl, _, hc, _⟩ := HT.out.at_ (k := 0) (by omega)
  have e0 : ad.add 0 = ad := Addr.add_zero' ad
  rw [e0] at hc
  have EV : Hid (Even t ↔ ∀ r, r < n → (rw_ t r).length = (rw_ t 0).length) := Lib.hid (by unfold Even; rw [HN.out])
  generalize hm : (rw_ t 0).length = m at h3 h4 hc EV
  have HM := Lib.hid hm
  clear hm
  have H1 : Hid ((1 : Int) ≤ (n : Int) ∧ (n : Int) ≤ 255) := Lib.hid ⟨by omega, by omega⟩
  have H2 : Hid ((1 : Int) ≤ (m : Int) ∧ (m : Int) ≤ 255) := Lib.hid ⟨by omega, by omega⟩
  have hn : 0 < n := by omega
  go_enter Tryz.func60, Tryz.ntmps60
  go_wp2_with fail
  refine (fits_yes n H1.out.1 H1.out.2 _).mono ?_; rintro e w' ⟨rfl, rfl⟩
  go_wp2_with fail
  refine (fits_yes m H2.out.1 H2.out.2 _).mono ?_; rintro e w' ⟨rfl, rfl⟩
  go_wp2_with fail
  go_loop [19] (fun i => ∃ k : Nat, k ≤ n ∧ i = .int .i64 k ∧ ∀ r, r < k → (rw_ t r).length = m) (fun i => n - (intOf i).toNat)
  case atStart => exact ⟨0, by omega, rfl, fun _ h => absurd h (by omega)⟩
  case round =>
    obtain ⟨k, hk, rfl, hev⟩ := hrel
    have HV := Lib.hid hev
    clear hev
    by_cases hlt : k < n
    · obtain ⟨ad', B', d', e', _, hc', _⟩ := HT.out.at_ hlt
      injection e' with e'
      subst e'
      by_cases hl : (rw_ t k).length = m
      · rw [hl] at hc'
        have HL := Lib.hid hl
        clear hl
        go_wp2_with fail
        go_round
        case rel => exact ⟨k + 1, by omega, by go_num, fun r hr => by
          by_cases e : r = k
          · rw [e]; exact HL.out
          · exact HV.out r (by omega)⟩
        case measure => simp [intOf]; omega
      · have hne : (((rw_ t k).length : Int) != (m : Int)) = true := by simp; omega
        have hnf : chk t = 16 := chk_unlike HF.out (fun q => hl (EV.out.1 q k hlt))
        have HF := Lib.hid hnf
        clear hnf hl
        generalize (rw_ t k).length = q at *
        go_wp2_with fail
        go_ret
        exact ⟨by rw [HF.out]; rfl, rfl⟩
    · obtain rfl : k = n := by omega
      have hyes : chk t = 0 := chk_ok HF.out (EV.out.2 HV.out)
      have HF := Lib.hid hyes
      clear hyes
      go_wp2_with fail
      go_ret
      exact ⟨by rw [HF.out]; rfl, rfl⟩

theorem check_any (A : Option Addr) (n c : Nat) (t : List (List Nat)) (w : World) (ht : Rows w A n t) :
    Calls Tryz.prog 60 #[.slice A n c] w fun e w' => e = .returned (.int .i64 (chk t : Nat)) ∧ w = w' := by
  by_cases h : Fit t.length ∧ Fit (rw_ t 0).length
  · exact check_fit A n c t w ht h
  · rw [chk_arg h]; exact check_arg A n c t w ht h
end Go.Proofs.YtooegclblgeicaaGreatDoor

/- Plain lemmas on the field of 256 elements as a type, on sums over it, and on tables over it: products, inverses, ranks. No condition beyond those that each lemma names. Nothing of the program is imported. -/
namespace Go.Proofs.YtooegclblgeicaaGreatDoor

/-- An element of the field: a number below 256. -/
structure F where
  v : Nat
  lt : v < 256
namespace F
theorem ext {a b : F} (h : a.v = b.v) : a = b := by
  cases a; cases b; simp at h; subst h; rfl
def add (a b : F) : F := ⟨a.v ^^^ b.v, Nat.xor_lt_two_pow (n := 8) a.lt b.lt⟩
def mul (a b : F) : F := ⟨gmul a.v b.v, gmul_lt _ a.lt⟩
def inv (a : F) : F := ⟨ginv a.v, gexp_lt _⟩
instance : Add F := ⟨add⟩
instance : Mul F := ⟨mul⟩
instance : OfNat F 0 := ⟨⟨0, by decide⟩⟩
instance : OfNat F 1 := ⟨⟨1, by decide⟩⟩
/-- the element of any number. -/
def of (n : Nat) : F := ⟨n % 256, Nat.mod_lt _ (by decide)⟩
theorem v_add (a b : F) : (a + b).v = a.v ^^^ b.v := rfl
theorem v_mul (a b : F) : (a * b).v = gmul a.v b.v := rfl
theorem v_zero : (0 : F).v = 0 := rfl
theorem v_one : (1 : F).v = 1 := rfl
theorem v_of {n : Nat} (h : n < 256) : (of n).v = n := Nat.mod_eq_of_lt h
theorem of_v (a : F) : of a.v = a := ext (v_of a.lt)
theorem of_zero : of 0 = 0 := rfl
theorem of_one : of 1 = 1 := rfl
theorem of_xor {a b : Nat} (ha : a < 256) (hb : b < 256) : of (a ^^^ b) = of a + of b := by
  apply ext
  rw [v_add, v_of ha, v_of hb, v_of (Nat.xor_lt_two_pow (n := 8) ha hb)]
theorem of_gmul {a b : Nat} (ha : a < 256) (hb : b < 256) : of (gmul a b) = of a * of b := by
  apply ext
  rw [v_mul, v_of ha, v_of hb, v_of (gmul_lt b ha)]
theorem of_ginv {a : Nat} (ha : a < 256) : of (ginv a) = (of a).inv := by
  apply ext
  show _ = ginv (of a).v
  rw [v_of ha]
  exact v_of (gexp_lt _)
theorem of_inj {a b : Nat} (ha : a < 256) (hb : b < 256) (h : of a = of b) : a = b := by
  have := congrArg F.v h
  rwa [v_of ha, v_of hb] at this
theorem add_assoc (a b c : F) : a + b + c = a + (b + c) := ext (Nat.xor_assoc ..)
theorem add_comm (a b : F) : a + b = b + a := ext (Nat.xor_comm ..)
theorem add_zero (a : F) : a + 0 = a := ext (Nat.xor_zero ..)
theorem zero_add (a : F) : 0 + a = a := ext (Nat.zero_xor ..)
theorem add_self (a : F) : a + a = 0 := ext (Nat.xor_self ..)
theorem mul_comm (a b : F) : a * b = b * a := ext (gmul_comm _ _ a.lt b.lt)
theorem mul_assoc (a b c : F) : a * b * c = a * (b * c) := ext (gmul_assoc _ _ _ a.lt b.lt c.lt)
theorem mul_one (a : F) : a * 1 = a := ext (gmul_one _ a.lt)
theorem one_mul (a : F) : 1 * a = a := ext (gmul_one_left _ a.lt)
theorem mul_zero (a : F) : a * 0 = 0 := ext (gmul_zero _ a.lt)
theorem zero_mul (a : F) : 0 * a = 0 := ext (gmul_zero_left _ a.lt)
theorem mul_add (a b c : F) : a * (b + c) = a * b + a * c := ext (gmul_xor _ _ _)
theorem add_mul (a b c : F) : (a + b) * c = a * c + b * c := by rw [mul_comm, mul_add, mul_comm c a, mul_comm c b]
theorem one_ne : (1 : F) ≠ 0 := fun h => absurd (congrArg F.v h) (by decide)
theorem v_ne {a : F} (h : a ≠ 0) : a.v ≠ 0 := fun e => h (ext e)
theorem mul_inv {a : F} (h : a ≠ 0) : a * a.inv = 1 := ext (gmul_ginv _ (v_ne h) a.lt)
theorem inv_mul {a : F} (h : a ≠ 0) : a.inv * a = 1 := by rw [mul_comm]; exact mul_inv h
theorem inv_ne (a : F) : a.inv ≠ 0 := fun e => gexp_ne _ (congrArg F.v e)
theorem mul_ne {a b : F} (ha : a ≠ 0) (hb : b ≠ 0) : a * b ≠ 0 := fun e => gmul_ne _ _ (v_ne ha) a.lt (v_ne hb) b.lt (congrArg F.v e)
theorem inv_inv {a : F} (h : a ≠ 0) : a.inv.inv = a := by
  have e := congrArg (a * ·) (mul_inv (inv_ne a))
  simp only [mul_one] at e
  rw [← mul_assoc, mul_inv h, one_mul] at e
  exact e
/-- what a sum is 0 with is itself. -/
theorem eq_of_add {a b : F} (h : a + b = 0) : a = b := by
  have e := congrArg (· + b) h
  simp only [add_assoc, add_self, add_zero, zero_add] at e
  exact e
instance : Std.Associative (α := F) (· + ·) := ⟨add_assoc⟩
instance : Std.Commutative (α := F) (· + ·) := ⟨add_comm⟩
instance : Std.Associative (α := F) (· * ·) := ⟨mul_assoc⟩
instance : Std.Commutative (α := F) (· * ·) := ⟨mul_comm⟩
instance : DecidableEq F := fun a b => if h : a.v = b.v then isTrue (ext h) else isFalse (fun e => h (congrArg F.v e))
end F
open F

/-! ### sums -/
def fsum : Nat → (Nat → F) → F
  | 0, _ => 0
  | n + 1, f => fsum n f + f n
theorem fsum_succ (n : Nat) (f : Nat → F) : fsum (n + 1) f = fsum n f + f n := rfl
theorem fsum_congr {n : Nat} {f g : Nat → F} (h : ∀ k, k < n → f k = g k) : fsum n f = fsum n g := by
  induction n with
  | zero => rfl
  | succ n ih => rw [fsum_succ, fsum_succ, ih fun k hk => h k (by omega), h n (by omega)]
theorem fsum_zero (n : Nat) : fsum n (fun _ => 0) = 0 := by
  induction n with
  | zero => rfl
  | succ n ih => rw [fsum_succ, ih, add_zero]
theorem fsum_zero' {n : Nat} {f : Nat → F} (h : ∀ k, k < n → f k = 0) : fsum n f = 0 := (fsum_congr h).trans (fsum_zero n)
theorem fsum_add (n : Nat) (f g : Nat → F) : fsum n (fun k => f k + g k) = fsum n f + fsum n g := by
  induction n with
  | zero => exact (add_zero 0).symm
  | succ n ih => rw [fsum_succ, fsum_succ, fsum_succ, ih]; ac_rfl
theorem fsum_mul (n : Nat) (a : F) (f : Nat → F) : fsum n (fun k => a * f k) = a * fsum n f := by
  induction n with
  | zero => exact (mul_zero a).symm
  | succ n ih => rw [fsum_succ, fsum_succ, ih, mul_add]
theorem fsum_mul' (n : Nat) (a : F) (f : Nat → F) : fsum n (fun k => f k * a) = fsum n f * a := by
  rw [mul_comm, ← fsum_mul]; exact fsum_congr fun k _ => mul_comm _ _
theorem fsum_swap (n m : Nat) (f : Nat → Nat → F) : fsum n (fun i => fsum m (fun j => f i j)) = fsum m (fun j => fsum n (fun i => f i j)) := by
  induction n with
  | zero => exact (fsum_zero m).symm
  | succ n ih =>
    rw [fsum_succ, ih, ← fsum_add]
    rfl
/-- only place p counts. -/
theorem fsum_one {n p : Nat} {f : Nat → F} (hp : p < n) (h : ∀ k, k < n → k ≠ p → f k = 0) : fsum n f = f p := by
  induction n with
  | zero => omega
  | succ n ih =>
    rw [fsum_succ]
    by_cases e : p = n
    · subst e
      rw [fsum_zero' fun k hk => h k (by omega) (by omega), zero_add]
    · rw [ih (by omega) fun k hk hne => h k (by omega) hne, h n (by omega) (by omega), add_zero]
/-- what stands beyond m is 0. -/
theorem fsum_cut {n m : Nat} {f : Nat → F} (hm : m ≤ n) (h : ∀ k, m ≤ k → k < n → f k = 0) : fsum n f = fsum m f := by
  induction n with
  | zero => have : m = 0 := by omega
            subst this; rfl
  | succ n ih =>
    by_cases e : m = n + 1
    · subst e; rfl
    · rw [fsum_succ, h n (by omega) (by omega), add_zero, ih (by omega) fun k hk hk' => h k hk (by omega)]
theorem fsum_split (n m : Nat) (f : Nat → F) : fsum (n + m) f = fsum n f + fsum m (fun k => f (n + k)) := by
  induction m with
  | zero => exact (add_zero _).symm
  | succ m ih => rw [show n + (m + 1) = (n + m) + 1 by omega, fsum_succ, fsum_succ, ih, add_assoc]

/-! ### tables: a row's number and a place's give an element -/
abbrev Tab := Nat → Nat → F
def idT : Tab := fun i j => if i = j then 1 else 0
/-- the product, n being how many places a has, and rows b. -/
def mulT (n : Nat) (a b : Tab) : Tab := fun i j => fsum n fun k => a i k * b k j
theorem mulT_congr {n : Nat} {a a' b b' : Tab} {i j : Nat} (ha : ∀ k, k < n → a i k = a' i k) (hb : ∀ k, k < n → b k j = b' k j) : mulT n a b i j = mulT n a' b' i j :=
  fsum_congr fun k hk => by rw [ha k hk, hb k hk]
theorem mulT_assoc (n m : Nat) (a b c : Tab) (i j : Nat) : mulT m (mulT n a b) c i j = mulT n a (mulT m b c) i j := by
  have e1 : ∀ k, mulT n a b i k * c k j = fsum n (fun l => a i l * b l k * c k j) := fun k => (fsum_mul' n (c k j) _).symm
  have e2 : ∀ l, a i l * mulT m b c l j = fsum m (fun k => a i l * b l k * c k j) := fun l => by
    show a i l * fsum m _ = _
    rw [← fsum_mul]
    exact fsum_congr fun k _ => (mul_assoc _ _ _).symm
  show fsum m _ = fsum n _
  rw [fsum_congr fun k _ => e1 k, fsum_congr fun l _ => e2 l]
  exact fsum_swap m n _
theorem mulT_id {n : Nat} {a : Tab} {i j : Nat} (hj : j < n) : mulT n a idT i j = a i j := by
  show fsum n _ = _
  rw [fsum_one hj fun k _ hne => by rw [idT, if_neg hne, mul_zero], idT, if_pos rfl, mul_one]
theorem id_mulT {n : Nat} {a : Tab} {i j : Nat} (hi : i < n) : mulT n idT a i j = a i j := by
  show fsum n _ = _
  rw [fsum_one hi fun k _ hne => by rw [idT, if_neg (fun e => hne e.symm), zero_mul], idT, if_pos rfl, one_mul]

/-- Tables that are the same at n rows and m places. -/
def EqT (n m : Nat) (a b : Tab) : Prop := ∀ i, i < n → ∀ j, j < m → a i j = b i j
theorem EqT.refl (n m : Nat) (a : Tab) : EqT n m a a := fun _ _ _ _ => rfl
theorem EqT.symm {n m : Nat} {a b : Tab} (h : EqT n m a b) : EqT n m b a := fun i hi j hj => (h i hi j hj).symm
theorem EqT.trans {n m : Nat} {a b c : Tab} (h : EqT n m a b) (g : EqT n m b c) : EqT n m a c := fun i hi j hj => (h i hi j hj).trans (g i hi j hj)
theorem EqT.mul {n k m : Nat} {a a' b b' : Tab} (h : EqT n k a a') (g : EqT k m b b') : EqT n m (mulT k a b) (mulT k a' b') :=
  fun i hi j hj => mulT_congr (fun l hl => h i hi l hl) (fun l hl => g l hl j hj)
theorem mulT_assocE (n k l m : Nat) (a b c : Tab) : EqT n m (mulT l (mulT k a b) c) (mulT k a (mulT l b c)) := fun i _ j _ => mulT_assoc k l a b c i j
theorem mulT_idE (n m : Nat) (a : Tab) : EqT n m (mulT m a idT) a := fun _ _ _ hj => mulT_id hj
theorem id_mulTE (n m : Nat) (a : Tab) : EqT n m (mulT n idT a) a := fun _ hi _ _ => id_mulT hi

/-! ### ranks, by how many rows and places a table is made of -/
/-- a (n rows, m places) is a product with r in the middle. -/
def Made (n m : Nat) (a : Tab) (r : Nat) : Prop := ∃ x y : Tab, EqT n m a (mulT r x y)

/-- An identity of r rows is not made of fewer. -/
theorem id_made (s : Nat) : ∀ (r : Nat) (x y : Tab), EqT r r idT (mulT s x y) → r ≤ s := by
  induction s with
  | zero =>
    intro r x y h
    rcases Nat.eq_zero_or_pos r with e | e
    · omega
    · exact absurd (h 0 e 0 e) one_ne
  | succ s ih =>
    intro r x y h
    by_cases hp : ∃ p, p < r ∧ x p s ≠ 0
    · obtain ⟨p, hp, hx⟩ := hp
      obtain ⟨r', rfl⟩ : ∃ r', r = r' + 1 := ⟨r - 1, by omega⟩
      suffices r' ≤ s by omega
      have hs : ∀ i, i < r' → (if i < p then i else i + 1) < r' + 1 ∧ (if i < p then i else i + 1) ≠ p := fun i hi => by
        by_cases e : i < p
        · rw [if_pos e]; omega
        · rw [if_neg e]; omega
      have hinj : ∀ i j, ((if i < p then i else i + 1) = (if j < p then j else j + 1)) ↔ i = j := fun i j => by
        by_cases e : i < p <;> by_cases e' : j < p <;> simp only [e, e', if_true, if_false] <;> omega
      generalize hσ : (fun i => if i < p then i else i + 1) = σ
      have hσ' : ∀ i, (if i < p then i else i + 1) = σ i := fun i => congrFun hσ i
      simp only [hσ'] at hs hinj
      clear hσ hσ'
      refine ih r' (fun i k => x (σ i) k + x (σ i) s * (x p s).inv * x p k) (fun k j => y k (σ j)) fun i hi j hj => ?_
      have h1 := h (σ i) (hs i hi).1 (σ j) (hs j hj).1
      have h2 := h p hp (σ j) (hs j hj).1
      have h1' : (if i = j then (1 : F) else 0) = fsum s (fun k => x (σ i) k * y k (σ j)) + x (σ i) s * y s (σ j) := by
        have e : idT (σ i) (σ j) = if i = j then (1 : F) else 0 := by
          unfold idT
          by_cases e : i = j
          · rw [if_pos e, if_pos ((hinj i j).2 e)]
          · rw [if_neg e, if_neg (fun q => e ((hinj i j).1 q))]
        rw [← e]; exact h1
      have h2' : fsum s (fun k => x p k * y k (σ j)) = x p s * y s (σ j) := by
        have e : idT p (σ j) = 0 := by unfold idT; rw [if_neg (fun q => (hs j hj).2 q.symm)]
        rw [e] at h2
        exact eq_of_add h2.symm
      show (if i = j then (1 : F) else 0) = fsum s fun k => (x (σ i) k + x (σ i) s * (x p s).inv * x p k) * y k (σ j)
      rw [fsum_congr (g := fun k => x (σ i) k * y k (σ j) + (x (σ i) s * (x p s).inv) * (x p k * y k (σ j))) fun k _ => by rw [add_mul, mul_assoc (x (σ i) s * (x p s).inv)], fsum_add, fsum_mul, h2', h1']
      congr 1
      rw [mul_assoc (x (σ i) s), ← mul_assoc (x p s).inv, inv_mul hx, one_mul]
    · have h0 : ∀ i, i < r → x i s = 0 := fun i hi => by
        by_cases e : x i s = 0
        · exact e
        · exact absurd ⟨i, hi, e⟩ hp
      refine Nat.le_succ_of_le (ih r x y fun i hi j hj => ?_)
      have := h i hi j hj
      rw [this]
      show fsum (s + 1) _ = _
      rw [fsum_succ, h0 i hi, zero_mul, add_zero]
      rfl
/-- a table, some of whose places are an identity behind a table on its left, is not made of fewer. -/
theorem Made.least {n m r s : Nat} {a p : Tab} {c : Nat → Nat} (h : Made n m a s) (hc : ∀ k, k < r → c k < m) (hp : ∀ i, i < r → ∀ k, k < r → mulT n p a i (c k) = idT i k) : r ≤ s := by
  obtain ⟨x, y, h⟩ := h
  refine id_made s r (mulT n p x) (fun k j => y k (c j)) fun i hi j hj => ?_
  rw [← hp i hi j hj]
  have e : mulT n p a i (c j) = mulT n p (mulT s x y) i (c j) := mulT_congr (fun _ _ => rfl) (fun k hk => h k hk _ (hc j hj))
  rw [e, ← mulT_assoc]
  rfl
theorem Made.congr {n m r : Nat} {a b : Tab} (h : Made n m a r) (g : EqT n m a b) : Made n m b r := by
  obtain ⟨x, y, h⟩ := h
  exact ⟨x, y, g.symm.trans h⟩
theorem Made.rows (n m : Nat) (a : Tab) : Made n m a n := ⟨idT, a, (id_mulTE n m a).symm⟩
theorem Made.places (n m : Nat) (a : Tab) : Made n m a m := ⟨a, idT, (mulT_idE n m a).symm⟩
theorem Made.turn {n m r : Nat} {a : Tab} (h : Made n m a r) : Made m n (fun j i => a i j) r := by
  obtain ⟨x, y, h⟩ := h
  refine ⟨fun j k => y k j, fun k i => x i k, fun j hj i hi => ?_⟩
  show a i j = _
  rw [h i hi j hj]
  exact fsum_congr fun k _ => mul_comm _ _
theorem Made.mul_left {n k m r : Nat} {a b : Tab} (h : Made n k a r) : Made n m (mulT k a b) r := by
  obtain ⟨x, y, h⟩ := h
  refine ⟨x, mulT k y b, fun i hi j hj => ?_⟩
  rw [← mulT_assoc]
  exact mulT_congr (fun l hl => h i hi l hl) (fun _ _ => rfl)
theorem Made.mul_right {n k m r : Nat} {a b : Tab} (h : Made k m b r) : Made n m (mulT k a b) r := by
  obtain ⟨x, y, h⟩ := h
  refine ⟨mulT k a x, y, fun i hi j hj => ?_⟩
  rw [mulT_assoc]
  exact mulT_congr (fun _ _ => rfl) (fun l hl => h l hl j hj)

/-- r is the rank: a is made of r, and of no fewer. -/
def RankT (n m : Nat) (a : Tab) (r : Nat) : Prop := Made n m a r ∧ ∀ s, Made n m a s → r ≤ s
theorem RankT.only {n m r s : Nat} {a : Tab} (h : RankT n m a r) (g : RankT n m a s) : r = s := Nat.le_antisymm (h.2 s g.1) (g.2 r h.1)
theorem RankT.congr {n m r : Nat} {a b : Tab} (h : RankT n m a r) (g : EqT n m a b) : RankT n m b r := ⟨h.1.congr g, fun s hs => h.2 s (hs.congr g.symm)⟩
theorem RankT.le_rows {n m r : Nat} {a : Tab} (h : RankT n m a r) : r ≤ n := h.2 n (Made.rows n m a)
theorem RankT.le_places {n m r : Nat} {a : Tab} (h : RankT n m a r) : r ≤ m := h.2 m (Made.places n m a)
theorem RankT.turn {n m r : Nat} {a : Tab} (h : RankT n m a r) : RankT m n (fun j i => a i j) r := ⟨h.1.turn, fun s hs => h.2 s hs.turn⟩
theorem RankT.mul_left {n k m r s : Nat} {a b : Tab} (h : RankT n k a r) (g : RankT n m (mulT k a b) s) : s ≤ r := g.2 r h.1.mul_left
theorem RankT.mul_right {n k m r s : Nat} {a b : Tab} (h : RankT k m b r) (g : RankT n m (mulT k a b) s) : s ≤ r := g.2 r h.1.mul_right

/-- p has an inverse from both sides (n rows, n places). -/
def InvT (n : Nat) (p q : Tab) : Prop := EqT n n (mulT n p q) idT ∧ EqT n n (mulT n q p) idT
theorem InvT.symm {n : Nat} {p q : Tab} (h : InvT n p q) : InvT n q p := ⟨h.2, h.1⟩
theorem InvT.id (n : Nat) : InvT n idT idT := ⟨id_mulTE n n idT, id_mulTE n n idT⟩
theorem InvT.mul {n : Nat} {p q p' q' : Tab} (h : InvT n p q) (g : InvT n p' q') : InvT n (mulT n p p') (mulT n q' q) := by
  have half : ∀ a b c d : Tab, EqT n n (mulT n a b) idT → EqT n n (mulT n c d) idT → EqT n n (mulT n (mulT n a c) (mulT n d b)) idT := by
    intro a b c d h g
    refine (mulT_assocE n n n n a c (mulT n d b)).trans ?_
    refine EqT.trans (EqT.mul (EqT.refl n n a) (b' := b) ?_) h
    refine (mulT_assocE n n n n c d b).symm.trans ?_
    exact EqT.trans (EqT.mul g (EqT.refl n n b)) (id_mulTE n n b)
  exact ⟨half _ _ _ _ h.1 g.1, half _ _ _ _ g.2 h.2⟩
theorem InvT.congr {n : Nat} {p q p' q' : Tab} (h : InvT n p q) (e : EqT n n p p') (e' : EqT n n q q') : InvT n p' q' :=
  ⟨(EqT.mul e.symm e'.symm).trans h.1, (EqT.mul e'.symm e.symm).trans h.2⟩
/-- there is no other inverse, from whatever side. -/
theorem InvT.only {n : Nat} {p q r : Tab} (h : InvT n p q) (g : EqT n n (mulT n r p) idT) : EqT n n r q := by
  refine (mulT_idE n n r).symm.trans ?_
  refine (EqT.mul (EqT.refl n n r) h.1.symm).trans ?_
  refine (mulT_assocE n n n n r p q).symm.trans ?_
  exact (EqT.mul g (EqT.refl n n q)).trans (id_mulTE n n q)
theorem InvT.only' {n : Nat} {p q r : Tab} (h : InvT n p q) (g : EqT n n (mulT n p r) idT) : EqT n n r q := by
  refine (id_mulTE n n r).symm.trans ?_
  refine (EqT.mul h.2.symm (EqT.refl n n r)).trans ?_
  refine (mulT_assocE n n n n q p r).trans ?_
  exact (EqT.mul (EqT.refl n n q) g).trans (mulT_idE n n q)
theorem InvT.rank {n : Nat} {p q : Tab} (h : InvT n p q) : RankT n n p n :=
  ⟨Made.rows n n p, fun _ hs => hs.least (p := q) (c := fun k => k) (fun _ hk => hk) (fun i hi k hk => h.2 i hi k hk)⟩
end Go.Proofs.YtooegclblgeicaaGreatDoor

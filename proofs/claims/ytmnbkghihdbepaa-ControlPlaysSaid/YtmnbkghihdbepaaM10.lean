/- Proved: lemmas of one statement's proof, merged by program: what each part proves stands ahead of it. Conditions: those that the lemmas name. -/
import Derived.Test.YtmnbkghihdbepaaM9
import Derived.Test.YtmnbkghihdbepaaM3

/- Proved: the walks of the laws of package crc. Conditions: those that the theorems name. -/
namespace Go.Proofs.Ytmnbkghihdbepaa
open Go.ChangeShapes Go.WideShapes Go.ChangeAt Go.RowKit

abbrev xNine : ByteArray := ⟨#[49, 50, 51, 52, 53, 54, 55, 56, 57]⟩
abbrev xFour : ByteArray := ⟨#[49, 50, 51, 52]⟩
abbrev xFive : ByteArray := ⟨#[53, 54, 55, 56, 57]⟩

end Go.Proofs.Ytmnbkghihdbepaa

/- Plain lemmas on a text in shards: how long these are, which byte lies where, and texts put together again. No condition beyond those that each lemma names. -/
namespace Go.Proofs.Ytmnbkghihdbepaa

/-! ### how long a shard is -/
def sizeZ (a b : Int) : Int := if a < 0 ∨ b < 1 then 0 else if a % b = 0 then a / b else a / b + 1
theorem sizeZ_none {a b : Int} (h : a < 0 ∨ b < 1) : sizeZ a b = 0 := if_pos h
theorem sizeZ_even {a b : Int} (ha : 0 ≤ a) (hb : 1 ≤ b) (h : a % b = 0) : sizeZ a b = a / b := by
  unfold sizeZ
  rw [if_neg (by omega), if_pos h]
theorem sizeZ_odd {a b : Int} (ha : 0 ≤ a) (hb : 1 ≤ b) (h : a % b ≠ 0) : sizeZ a b = a / b + 1 := by
  unfold sizeZ
  rw [if_neg (by omega), if_neg h]
def szN (n k : Nat) : Nat := if n % k = 0 then n / k else n / k + 1
theorem sizeZ_nat {n k : Nat} (hk : 1 ≤ k) : sizeZ n k = szN n k := by
  unfold szN
  by_cases h : n % k = 0
  · rw [if_pos h, sizeZ_even (by omega) (by omega) (by omega)]; omega
  · rw [if_neg h, sizeZ_odd (by omega) (by omega) (by omega)]; omega
theorem szN_holds {n k : Nat} (hk : 1 ≤ k) : n ≤ k * szN n k := by
  have h := Nat.div_add_mod n k
  have h1 := Nat.mod_lt n (show k > 0 by omega)
  unfold szN
  split
  · omega
  · rw [Nat.mul_add]; omega
theorem szN_le {n k m : Nat} (hk : 1 ≤ k) (h : n ≤ k * m) : szN n k ≤ m := by
  have h0 := Nat.div_add_mod n k
  unfold szN
  split
  · exact Nat.div_le_of_le_mul h
  · rename_i hz
    have hne : n ≠ m * k := by
      intro e
      rw [e, Nat.mul_mod_left] at hz
      exact hz rfl
    have : n / k < m := (Nat.div_lt_iff_lt_mul (by omega)).2 (by rw [Nat.mul_comm] at h; omega)
    omega
theorem szN_pos {n k : Nat} (hk : 1 ≤ k) (h : 1 ≤ n) : 1 ≤ szN n k := by
  have := szN_holds (n := n) hk
  rcases Nat.eq_zero_or_pos (szN n k) with e | e
  · rw [e] at this; omega
  · exact e

/-! ### the shards of a text -/
/-- shard i of m bytes. -/
def piece (m : Nat) (s : ByteArray) (i : Nat) : ByteArray := tx (mk m fun j => (bts s).getD (i * m + j) 0)
theorem piece_size (m : Nat) (s : ByteArray) (i : Nat) : (piece m s i).size = m := by unfold piece; rw [tx_size, mk_len]
theorem bts_piece (m : Nat) (s : ByteArray) (i : Nat) : bts (piece m s i) = mk m fun j => (bts s).getD (i * m + j) 0 := by
  unfold piece
  exact bts_tx (mk_lt _ _ fun j => bts_lt s _)
/-- what Cut answers, and its error. -/
def cErrZ (n : Nat) (k : Int) : Int := if k < 1 ∨ 32 < k then 1 else if n < 1 ∨ k * 1024 < n then 3 else 0
def cOut (s : ByteArray) (k : Int) : List ByteArray := if cErrZ s.size k = 0 then mkS k.toNat (piece (szN s.size k.toNat) s) else []
theorem cErrZ_arg {n : Nat} {k : Int} (h : k < 1 ∨ 32 < k) : cErrZ n k = 1 := if_pos h
theorem cErrZ_long {n : Nat} {k : Int} (h1 : 1 ≤ k) (h2 : k ≤ 32) (h : n < 1 ∨ k * 1024 < n) : cErrZ n k = 3 := by
  unfold cErrZ; rw [if_neg (by omega), if_pos h]
theorem cErrZ_ok {n : Nat} {k : Int} (h1 : 1 ≤ k) (h2 : k ≤ 32) (h3 : 1 ≤ n) (h4 : n ≤ k * 1024) : cErrZ n k = 0 := by
  unfold cErrZ; rw [if_neg (by omega), if_neg (by omega)]
theorem cOut_err {s : ByteArray} {k : Int} (h : cErrZ s.size k ≠ 0) : cOut s k = [] := if_neg h
theorem cOut_ok {s : ByteArray} {k : Nat} (h1 : 1 ≤ k) (h2 : k ≤ 32) (h3 : 1 ≤ s.size) (h4 : s.size ≤ k * 1024) : cOut s k = mkS k (piece (szN s.size k) s) := by
  unfold cOut; rw [if_pos (cErrZ_ok (by omega) (by omega) h3 (by omega))]; rfl

/-! ### texts in one -/
def catB (l : List ByteArray) : List Nat := (l.map bts).flatten
theorem catB_nil : catB [] = [] := rfl
theorem catB_snoc (l : List ByteArray) (x : ByteArray) : catB (l ++ [x]) = catB l ++ bts x := by unfold catB; simp
theorem catB_lt (l : List ByteArray) : ∀ j, (catB l).getD j 0 < 256 := getD_lt fun x hx => by
  unfold catB at hx
  obtain ⟨y, hy, hx⟩ := List.mem_flatten.1 hx
  obtain ⟨s, _, rfl⟩ := List.mem_map.1 hy
  exact mem_lt (bts_lt s) x hx
def alike (l : List ByteArray) : Prop := ∀ j, j < l.length → (st_ l j).size = (st_ l 0).size
instance (l : List ByteArray) : Decidable (alike l) := by unfold alike; infer_instance
theorem take_st {l : List ByteArray} {j : Nat} (h : j < l.length) : l.take (j + 1) = l.take j ++ [st_ l j] := by
  rw [List.take_succ_eq_append_getElem h, st_at h]
theorem catB_take {l : List ByteArray} {j : Nat} (h : j < l.length) : catB (l.take (j + 1)) = catB (l.take j) ++ bts (st_ l j) := by rw [take_st h, catB_snoc]
theorem catB_len {l : List ByteArray} (h : alike l) : ∀ r, r ≤ l.length → (catB (l.take r)).length = r * (st_ l 0).size := by
  intro r
  induction r with
  | zero => intro _; simp [catB]
  | succ r ih =>
    intro hr
    rw [catB_take (by omega), List.length_append, ih (by omega), bts_len, h r (by omega), Nat.succ_mul]
theorem catB_size {l : List ByteArray} (h : alike l) : (catB l).length = l.length * (st_ l 0).size := by
  have := catB_len h l.length (Nat.le_refl _)
  rwa [List.take_length] at this
/-- are the bytes from place n on 0? -/
def zerosFrom (n : Nat) (b : List Nat) : Prop := ∀ j, n ≤ j → b.getD j 0 = 0
def zerosB (l : List Nat) : Bool := l.all (· == 0)
theorem zerosB_iff (l : List Nat) : zerosB l = true ↔ ∀ j, l.getD j 0 = 0 := by
  unfold zerosB
  rw [List.all_eq_true]
  constructor
  · intro h j
    rw [List.getD_eq_getElem?_getD]
    cases e : l[j]? with
    | none => rfl
    | some x => have := h x (List.mem_of_getElem? e); simpa using this
  · intro h x hx
    obtain ⟨j, hj, rfl⟩ := List.getElem_of_mem hx
    have := h j
    rw [List.getD_eq_getElem?_getD, List.getElem?_eq_getElem hj] at this
    simpa using this
/-- Join's error and answer. -/
def jErr (l : List ByteArray) (n : Int) : Int :=
  if l = [] then 1 else if ¬ alike l then 16 else if n < 0 ∨ ((catB l).length : Int) < n then 2 else if zerosB ((catB l).drop n.toNat) then 0 else 5
def jOut (l : List ByteArray) (n : Int) : ByteArray := if jErr l n = 0 then tx ((catB l).take n.toNat) else S0
theorem jErr_arg (n : Int) : jErr [] n = 1 := rfl
theorem jErr_unlike {l : List ByteArray} {n : Int} (h0 : 0 < l.length) (h : ¬ alike l) : jErr l n = 16 := by
  unfold jErr; rw [if_neg (by intro e; rw [e] at h0; exact absurd h0 (by decide)), if_pos h]
theorem jErr_range {l : List ByteArray} {n : Int} (h0 : 0 < l.length) (h : alike l) (g : n < 0 ∨ ((catB l).length : Int) < n) : jErr l n = 2 := by
  unfold jErr; rw [if_neg (by intro e; rw [e] at h0; exact absurd h0 (by decide)), if_neg (fun x => x h), if_pos g]
theorem jErr_form {l : List ByteArray} {n : Nat} (h0 : 0 < l.length) (h : alike l) (g : n ≤ (catB l).length) (z : zerosB ((catB l).drop n) = false) : jErr l n = 5 := by
  unfold jErr; rw [if_neg (by intro e; rw [e] at h0; exact absurd h0 (by decide)), if_neg (fun x => x h), if_neg (by omega)]
  show (if zerosB ((catB l).drop n) = true then (0 : Int) else 5) = 5
  rw [if_neg (by rw [z]; decide)]
theorem jErr_ok {l : List ByteArray} {n : Nat} (h0 : 0 < l.length) (h : alike l) (g : n ≤ (catB l).length) (z : zerosB ((catB l).drop n) = true) : jErr l n = 0 := by
  unfold jErr; rw [if_neg (by intro e; rw [e] at h0; exact absurd h0 (by decide)), if_neg (fun x => x h), if_neg (by omega)]
  exact if_pos z
theorem jOut_err {l : List ByteArray} {n : Int} (h : jErr l n ≠ 0) : jOut l n = S0 := if_neg h
theorem jOut_ok {l : List ByteArray} {n : Nat} (h : jErr l n = 0) : jOut l n = tx ((catB l).take n) := if_pos h
end Go.Proofs.Ytmnbkghihdbepaa

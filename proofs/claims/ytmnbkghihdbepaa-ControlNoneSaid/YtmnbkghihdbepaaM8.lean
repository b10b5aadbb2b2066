/- Proved: lemmas of one statement's proof, merged by program: what each part proves stands ahead of it. Conditions: those that the lemmas name. -/
import Derived.Test.YtmnbkghihdbepaaM6
import Derived.Test.YtmnbkghihdbepaaM7
import Derived.RegionTactic
import Derived.ChangeAlike

/- Proved: what a reader of the document answers, for every text and every number. Conditions: those that the theorems name. -/
namespace Go.Proofs.Ytmnbkghihdbepaa
open Go.ChangeShapes Go.WideShapes Go.ChangeAt Go.RowKit

/-- A reader and a value come back; nothing that was there has turned. -/
def GivesR9 (W : World) (s' : ByteArray) (e' : Int) (v : Value) (e : Ending) (w' : World) : Prop := e = .returned (.tuple #[.agg #[.string s', .int .i64 e'], v]) ∧ Below W.heap.size W w'
theorem below3 (w : World) (o p : Obj) : Below w.heap.size w ((w.alloc o).alloc p) := ((Below.refl _ _).alloc (Nat.le_refl _) _).alloc (by simp) _

theorem rd_bound {z : Int} (h : sizedB z = true) : 0 ≤ z ∧ z ≤ 4 := by
  have := sizedB_cases h
  omega
theorem numK_take (s : ByteArray) (m k : Nat) (hk : k ≤ m) (hm : m ≤ s.size) : numK k (bts (s.extract 0 m)) = numK k (bts s) := by
  induction k with
  | zero => rfl
  | succ k ih =>
    rw [numK_succ, numK_succ, ih (by omega)]
    congr 1
    unfold bts
    rw [ByteArray.data_extract]
    simp only [List.getD_eq_getElem?_getD, List.getElem?_map, Array.getElem?_toList]
    have hlt : k < s.data.size := by have : s.data.size = s.size := rfl; omega
    rw [Array.getElem?_extract_of_lt (by omega), Array.getElem?_eq_getElem hlt]
    simp

end Go.Proofs.Ytmnbkghihdbepaa

/- Proved: the walks of two laws of package wire: numbers as bytes, and a reader that is none. Conditions: those that the theorems name. -/
namespace Go.Proofs.Ytmnbkghihdbepaa
open Go.ChangeShapes Go.WideShapes Go.ChangeAt Go.RowKit

/-- A new reader comes back; nothing that was there has turned. -/
def GivesNew (W : World) (s : ByteArray) (e : Ending) (w' : World) : Prop := ∃ b, e = .returned (.pointer (some ⟨b, 0, none⟩)) ∧ W.heap.size ≤ b ∧ Rd w' b s 0 ∧ Below W.heap.size W w'
/-- what a method of a reader leaves, seen from the head of the call. -/
theorem rd_below {W w w' : World} {B b : Nat} (h : Below B W w) (hB : B ≤ w.heap.size) (hb : B ≤ b) (hg : w.grownBy w' (some b)) : Below B W w' :=
  h.grown hg hB (fun k e => by injection e with e; omega)
theorem put_as (n : Nat) (z : Int) (t : ByteArray) (q : Int) (w : World) (hn : n < 4294967296) (ht : putS n z = t) (hq : putZ n z = q) :
    Calls Try.prog 59 #[.int .u32 n, .int .i64 z] w (GivesSE9 w t q) := by rw [← ht, ← hq]; exact put_any n z w hn
theorem num_as (b : Nat) (s : ByteArray) (e z : Int) (v : Int) (s' : ByteArray) (e' : Int) (w : World) (hr : Rd w b s e) (hv : ((numS (tkT s e z (sizedB z)) : Nat) : Int) = v) (hs : tkR s e z (sizedB z) = s') (he : tkE s e z (sizedB z) = e') :
    Calls Try.prog 56 #[.pointer (some ⟨b, 0, none⟩), .int .i64 z] w (GivesRd w b (.int .u32 v) s' e') := by
  rw [← hv, ← hs, ← he]; exact num_any b s e z w hr
theorem bytes_as (b : Nat) (s : ByteArray) (e z : Int) (v : ByteArray) (s' : ByteArray) (e' : Int) (w : World) (hr : Rd w b s e) (h0 : s.size ≤ 281474976710656) (hv : tkT s e z (decide (0 ≤ z)) = v) (hs : tkR s e z (decide (0 ≤ z)) = s') (he : tkE s e z (decide (0 ≤ z)) = e') :
    Calls Try.prog 57 #[.pointer (some ⟨b, 0, none⟩), .int .i64 z] w (GivesRd w b (.string v) s' e') := by
  rw [← hv, ← hs, ← he]; exact bytes_any b s e z w hr h0
abbrev x12ab : ByteArray := ⟨#[1, 2, 97, 98]⟩
abbrev xab : ByteArray := ⟨#[97, 98]⟩
abbrev xb : ByteArray := ⟨#[98]⟩
abbrev xa : ByteArray := ⟨#[97]⟩
abbrev x12 : ByteArray := ⟨#[1, 2]⟩

theorem numK_append (k : Nat) (l r : List Nat) (h : k ≤ l.length) : numK k (l ++ r) = numK k l := by
  induction k with
  | zero => rfl
  | succ k ih =>
    rw [numK_succ, numK_succ, ih (by omega), List.getD_eq_getElem?_getD, List.getElem?_append_left (by omega), ← List.getD_eq_getElem?_getD]
theorem numK_byteL (n k : Nat) (h : n < 256 ^ k) : numK k (byteL n k) = n := by
  induction k generalizing n with
  | zero => rw [Nat.pow_zero] at h; show 0 = n; omega
  | succ k ih =>
    have h2 : n / 256 < 256 ^ k := by rw [Nat.pow_succ] at h; omega
    rw [numK_succ]
    show numK k (byteL (n / 256) k ++ [n % 256]) * 256 + (byteL (n / 256) k ++ [n % 256]).getD k 0 = n
    rw [numK_append _ _ _ (by rw [byteL_len]; exact Nat.le_refl _), ih _ h2, List.getD_eq_getElem?_getD, List.getElem?_append_right (by rw [byteL_len]; exact Nat.le_refl _), byteL_len, Nat.sub_self]
    show n / 256 * 256 + n % 256 = n
    omega
/-- a number that was put is read as it was, and nothing is left. -/
theorem put_back {n : Nat} {z : Int} (h : putZ n z = 0) : numS (tkT (putS n z) 0 z (sizedB z)) = n ∧ (tkR (putS n z) 0 z (sizedB z)).size = 0 ∧ tkE (putS n z) 0 z (sizedB z) = 0 := by
  have hp : putS n z = tx (byteL n z.toNat) := if_pos h
  unfold putZ at h
  by_cases g : sizedB z = true
  · rw [if_pos g] at h
    have hlt : n < 256 ^ z.toNat := by
      by_cases q : n < 256 ^ z.toNat
      · exact q
      · rw [if_neg q] at h; exact absurd h (by decide)
    obtain ⟨h0, h4⟩ := rd_bound g
    obtain ⟨m, rfl⟩ := Int.eq_ofNat_of_zero_le h0
    rw [Int.toNat_natCast] at hp hlt
    have hsz : (putS n (m : Int)).size = m := by rw [hp, tx_size, byteL_len]
    obtain ⟨q1, q2, q3⟩ := tk_ok (s := putS n (m : Int)) (z := (m : Int)) (by omega)
    rw [g, q1, q2, q3, Int.toNat_natCast]
    have hx : (putS n (m : Int)).extract 0 m = putS n (m : Int) := by
      have e := ByteArray.extract_zero_size (b := putS n (m : Int))
      rwa [hsz] at e
    refine ⟨?_, by rw [extract_size]; omega, rfl⟩
    rw [hx]
    unfold numS
    rw [hsz, hp, bts_tx (byteL_lt n m), numK_byteL n m hlt]
  · rw [if_neg g] at h
    exact absurd h (by decide)

end Go.Proofs.Ytmnbkghihdbepaa

/- Proved: lemmas of one statement's proof, merged by program: what each part proves stands ahead of it. Conditions: those that the lemmas name. -/
import Derived.Test.YtodokgkchmpmnaaGreatM15

/- Plain lemmas on marks as bits of bytes. No condition beyond those that each lemma names. -/
namespace Go.Proofs.YtodokgkchmpmnaaGreat
open Go.ChangeShapes Go.WideShapes Go.ChangeAt Go.RowKit

/-- is i one of 0 .. 255? -/
def inB (i : Int) : Bool := decide (0 ≤ i) && decide (i < 256)
theorem inB_yes {i : Int} (h : inB i = true) : 0 ≤ i ∧ i < 256 := by unfold inB at h; simpa using h
theorem inB_of {i : Int} (h : 0 ≤ i) (h' : i < 256) : inB i = true := by unfold inB; simp [h, h']
theorem inB_no {i : Int} (h : inB i = false) : i < 0 ∨ 256 ≤ i := by
  by_cases h0 : 0 ≤ i
  · by_cases h1 : i < 256
    · rw [inB_of h0 h1] at h; exact absurd h (by decide)
    · exact Or.inr (by omega)
  · exact Or.inl (by omega)
/-- bit i of the bytes b. -/
def bitN (b : List Nat) (i : Nat) : Bool := (b.getD (i / 8) 0).testBit (i % 8)
/-- has s mark i? -/
def hasB (s : ByteArray) (i : Int) : Bool := decide (s.size = 32) && (inB i && bitN (bts s) i.toNat)
theorem hasB_size {s : ByteArray} (h : s.size ≠ 32) (i : Int) : hasB s i = false := by unfold hasB; simp [h]
theorem hasB_in {s : ByteArray} {i : Int} (h : inB i = false) : hasB s i = false := by unfold hasB; simp [h]
theorem hasB_at {s : ByteArray} {n : Nat} (h : s.size = 32) (hn : n < 256) : hasB s (n : Int) = bitN (bts s) n := by
  unfold hasB
  rw [inB_of (by omega) (by omega)]
  simp [h]
/-- the bytes b with mark i too, if there may be one. -/
def withB (b : List Nat) (i : Int) : List Nat := if inB i = true then b.set (i.toNat / 8) (b.getD (i.toNat / 8) 0 ||| 2 ^ (i.toNat % 8)) else b
/-- the bytes b with the first k of l. -/
def withK (b : List Nat) (l : List Int) : Nat → List Nat
  | 0 => b
  | k + 1 => withB (withK b l k) (l.getD k 0)
theorem withK_succ (b : List Nat) (l : List Int) (k : Nat) : withK b l (k + 1) = withB (withK b l k) (l.getD k 0) := rfl
theorem withB_out {b : List Nat} {i : Int} (h : inB i = false) : withB b i = b := by unfold withB; rw [if_neg (by simp [h])]
theorem withB_at (b : List Nat) {n : Nat} (h : n < 256) : withB b (n : Int) = b.set (n / 8) (b.getD (n / 8) 0 ||| 2 ^ (n % 8)) := by
  unfold withB
  rw [if_pos (inB_of (by omega) (by omega))]
  rfl
theorem pow_byte {r : Nat} (h : r < 8) : 2 ^ r < 256 := Nat.pow_lt_pow_right (by decide : 1 < 2) (show r < 8 from h)
theorem or_bit_lt {x r : Nat} (hx : x < 256) (hr : r < 8) : x ||| 2 ^ r < 256 := Nat.or_lt_two_pow (n := 8) hx (pow_byte hr)
theorem withB_len (b : List Nat) (i : Int) : (withB b i).length = b.length := by
  unfold withB
  split
  · rw [List.length_set]
  · rfl
theorem withK_len (b : List Nat) (l : List Int) (k : Nat) : (withK b l k).length = b.length := by
  induction k with
  | zero => rfl
  | succ k ih => rw [withK_succ, withB_len, ih]
theorem withB_lt {b : List Nat} (h : ∀ j, b.getD j 0 < 256) (i : Int) : ∀ j, (withB b i).getD j 0 < 256 := by
  unfold withB
  split
  · intro j
    rw [List.getD_eq_getElem?_getD, List.getElem?_set]
    split
    · split
      · exact or_bit_lt (h _) (by omega)
      · exact (by decide : 0 < 256)
    · rw [← List.getD_eq_getElem?_getD]; exact h j
  · exact h
theorem withK_lt {b : List Nat} (h : ∀ j, b.getD j 0 < 256) (l : List Int) (k : Nat) : ∀ j, (withK b l k).getD j 0 < 256 := by
  induction k with
  | zero => exact h
  | succ k ih => rw [withK_succ]; exact withB_lt ih _
/-- no mark. -/
def noB : List Nat := List.replicate 32 0
theorem noB_len : noB.length = 32 := by unfold noB; simp
theorem noB_at (j : Nat) : noB.getD j 0 = 0 := by
  unfold noB
  rw [List.getD_eq_getElem?_getD, List.getElem?_replicate]
  split <;> rfl
theorem noB_lt (j : Nat) : noB.getD j 0 < 256 := by rw [noB_at]; decide
/-- the marks of a list. -/
def ofS (l : List Int) : ByteArray := tx (withK noB l l.length)
/-- Set's answer and error. -/
def setE (s : ByteArray) (i : Int) : Int := if s.size = 32 then (if inB i = true then 0 else 2) else 5
def setS (s : ByteArray) (i : Int) : ByteArray := if s.size = 32 then (if inB i = true then tx (withB (bts s) i) else S0) else S0
/-- how many of the first k marks there are. -/
def cntN (s : ByteArray) : Nat → Nat
  | 0 => 0
  | k + 1 => cntN s k + if hasB s (k : Int) = true then 1 else 0
theorem cntN_succ (s : ByteArray) (k : Nat) : cntN s (k + 1) = cntN s k + if hasB s (k : Int) = true then 1 else 0 := rfl
theorem cntN_le (s : ByteArray) (k : Nat) : cntN s k ≤ k := by
  induction k with
  | zero => exact Nat.le_refl _
  | succ k ih => rw [cntN_succ]; split <;> omega
/-- those of the first k that are missing, most of them at most. -/
def misK (s : ByteArray) (most : Int) : Nat → List Int
  | 0 => []
  | k + 1 => if ((misK s most k).length : Int) < most ∧ hasB s (k : Int) = false then misK s most k ++ [(k : Int)] else misK s most k
theorem misK_more {s : ByteArray} {most : Int} {k : Nat} (h : ((misK s most k).length : Int) < most) (h' : hasB s (k : Int) = false) : misK s most (k + 1) = misK s most k ++ [(k : Int)] := by
  show (if _ then _ else _) = _
  rw [if_pos ⟨h, h'⟩]
theorem misK_has {s : ByteArray} {most : Int} {k : Nat} (h' : hasB s (k : Int) = true) : misK s most (k + 1) = misK s most k := by
  show (if _ then _ else _) = _
  rw [if_neg (by simp [h'])]
theorem misK_stop {s : ByteArray} {most : Int} {k : Nat} (h : ¬ ((misK s most k).length : Int) < most) (j : Nat) : misK s most (k + j) = misK s most k := by
  induction j with
  | zero => rfl
  | succ j ih =>
    show (if ((misK s most (k + j)).length : Int) < most ∧ hasB s ((k + j : Nat) : Int) = false then misK s most (k + j) ++ [((k + j : Nat) : Int)] else misK s most (k + j)) = _
    rw [ih, if_neg (fun e => h e.1)]
theorem misK_stop_at {s : ByteArray} {most : Int} {k m : Nat} (h : ¬ ((misK s most k).length : Int) < most) (hm : k ≤ m) : misK s most m = misK s most k := by
  obtain ⟨j, rfl⟩ := Nat.exists_eq_add_of_le hm
  exact misK_stop h j
theorem misK_len (s : ByteArray) (most : Int) (k : Nat) : (misK s most k).length ≤ k := by
  induction k with
  | zero => exact Nat.le_refl _
  | succ k ih =>
    show (if _ then _ else _ : List Int).length ≤ _
    split
    · rw [List.length_append]; show _ + 1 ≤ _; omega
    · omega
/-- Missing's answer. -/
def misL (s : ByteArray) (n most : Int) : List Int := if s.size = 32 then misK s most (min n 255).toNat else []
theorem misL_len (s : ByteArray) (n most : Int) : (misL s n most).length ≤ 255 := by
  unfold misL
  split
  · have := misK_len s most (min n 255).toNat
    omega
  · exact Nat.zero_le _
end Go.Proofs.YtodokgkchmpmnaaGreat

/- Plain lemmas on one byte of a string. No condition beyond those that each lemma names. -/
namespace Go.Proofs.YtodokgkchmpmnaaGreat
open Go.ChangeShapes Go.WideShapes Go.ChangeAt Go.RowKit

theorem at_index (s : ByteArray) (j : Nat) (h : j < s.size) (W : World) : (Instr.index 9 (Value.string s) (Value.int .i64 (j : Int))).run Tryz.prog W = .ok (Value.int .u8 ((bts s).getD j 0 : Nat)) W := by
  rw [run_index_string W 9 s .i64 (j : Int) Tryz.underlying9, dif_pos ⟨by omega, by omega⟩]
  have : (bts s).getD j 0 = s[j].toNat := by
    unfold bts
    rw [List.getD_eq_getElem?_getD, List.getElem?_map, Array.getElem?_toList, Array.getElem?_eq_getElem h]; rfl
  rw [this]; rfl
end Go.Proofs.YtodokgkchmpmnaaGreat

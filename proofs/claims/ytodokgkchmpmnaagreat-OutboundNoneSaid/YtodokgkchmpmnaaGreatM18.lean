/- Proved: lemmas of one statement's proof, merged by program: what each part proves stands ahead of it. Conditions: those that the lemmas name. -/
import Derived.Test.YtodokgkchmpmnaaGreatM15
import Derived.IntWalk
import Derived.Deep.AppendLies

/- Plain lemmas on a text in shards: how long these are, which byte lies where, and texts put together again. No condition beyond those that each lemma names. -/
namespace Go.Proofs.YtodokgkchmpmnaaGreat

/-! ### how long a shard is -/
def sizeZ (a b : Int) : Int := if a < 0 ∨ b < 1 then 0 else if a % b = 0 then a / b else a / b + 1
theorem sizeZ_none {a b : Int} (h : a < 0 ∨ b < 1) : sizeZ a b = 0 := if_pos h
theorem sizeZ_even {a b : Int} (ha : 0 ≤ a) (hb : 1 ≤ b) (h : a % b = 0) : sizeZ a b = a / b := by
  unfold sizeZ
  rw [if_neg (by omega), if_pos h]
theorem sizeZ_odd {a b : Int} (ha : 0 ≤ a) (hb : 1 ≤ b) (h : a % b ≠ 0) : sizeZ a b = a / b + 1 := by
  unfold sizeZ
  rw [if_neg (by omega), if_neg h]
def szN (n k : Nat) : Nat := if n % k = 0 then n / k else n / k + 1
theorem sizeZ_nat {n k : Nat} (hk : 1 ≤ k) : sizeZ n k = szN n k := by
  unfold szN
  by_cases h : n % k = 0
  · rw [if_pos h, sizeZ_even (by omega) (by omega) (by omega)]; omega
  · rw [if_neg h, sizeZ_odd (by omega) (by omega) (by omega)]; omega
theorem szN_holds {n k : Nat} (hk : 1 ≤ k) : n ≤ k * szN n k := by
  have h := Nat.div_add_mod n k
  have h1 := Nat.mod_lt n (show k > 0 by omega)
  unfold szN
  split
  · omega
  · rw [Nat.mul_add]; omega
theorem szN_le {n k m : Nat} (hk : 1 ≤ k) (h : n ≤ k * m) : szN n k ≤ m := by
  have h0 := Nat.div_add_mod n k
  unfold szN
  split
  · exact Nat.div_le_of_le_mul h
  · rename_i hz
    have hne : n ≠ m * k := by
      intro e
      rw [e, Nat.mul_mod_left] at hz
      exact hz rfl
    have : n / k < m := (Nat.div_lt_iff_lt_mul (by omega)).2 (by rw [Nat.mul_comm] at h; omega)
    omega
theorem szN_pos {n k : Nat} (hk : 1 ≤ k) (h : 1 ≤ n) : 1 ≤ szN n k := by
  have := szN_holds (n := n) hk
  rcases Nat.eq_zero_or_pos (szN n k) with e | e
  · rw [e] at this; omega
  · exact e

/-! ### the shards of a text -/
/-- shard i of m bytes. -/
def piece (m : Nat) (s : ByteArray) (i : Nat) : ByteArray := tx (mk m fun j => (bts s).getD (i * m + j) 0)
theorem piece_size (m : Nat) (s : ByteArray) (i : Nat) : (piece m s i).size = m := by unfold piece; rw [tx_size, mk_len]
theorem bts_piece (m : Nat) (s : ByteArray) (i : Nat) : bts (piece m s i) = mk m fun j => (bts s).getD (i * m + j) 0 := by
  unfold piece
  exact bts_tx (mk_lt _ _ fun j => bts_lt s _)
/-- what Cut answers, and its error. -/
def cErrZ (n : Nat) (k : Int) : Int := if k < 1 ∨ 32 < k then 1 else if n < 1 ∨ k * 1024 < n then 3 else 0
def cOut (s : ByteArray) (k : Int) : List ByteArray := if cErrZ s.size k = 0 then mkS k.toNat (piece (szN s.size k.toNat) s) else []
theorem cErrZ_arg {n : Nat} {k : Int} (h : k < 1 ∨ 32 < k) : cErrZ n k = 1 := if_pos h
theorem cErrZ_long {n : Nat} {k : Int} (h1 : 1 ≤ k) (h2 : k ≤ 32) (h : n < 1 ∨ k * 1024 < n) : cErrZ n k = 3 := by
  unfold cErrZ; rw [if_neg (by omega), if_pos h]
theorem cErrZ_ok {n : Nat} {k : Int} (h1 : 1 ≤ k) (h2 : k ≤ 32) (h3 : 1 ≤ n) (h4 : n ≤ k * 1024) : cErrZ n k = 0 := by
  unfold cErrZ; rw [if_neg (by omega), if_neg (by omega)]
theorem cOut_err {s : ByteArray} {k : Int} (h : cErrZ s.size k ≠ 0) : cOut s k = [] := if_neg h
theorem cOut_ok {s : ByteArray} {k : Nat} (h1 : 1 ≤ k) (h2 : k ≤ 32) (h3 : 1 ≤ s.size) (h4 : s.size ≤ k * 1024) : cOut s k = mkS k (piece (szN s.size k) s) := by
  unfold cOut; rw [if_pos (cErrZ_ok (by omega) (by omega) h3 (by omega))]; rfl

/-! ### texts in one -/
end Go.Proofs.YtodokgkchmpmnaaGreat

/- Proved: what Size answers, the program's and the document's, for every two numbers. Conditions: those that each lemma names. -/
namespace Go.Proofs.YtodokgkchmpmnaaGreat
open Go.ChangeShapes Go.WideShapes Go.ChangeAt Go.RowKit

theorem i64_hi {a : Int} (h : (Lit.int .i64 a).wf = true) : -9223372036854775808 ≤ a ∧ a ≤ 9223372036854775807 := by
  simpa [Lit.wf, IntKind.min, IntKind.max, IntKind.signed, IntKind.bits] using h
theorem size_fits {a b : Int} (h : (Lit.int .i64 a).wf = true) (ha : 0 ≤ a) (hb : 1 ≤ b) (g : a % b ≠ 0) : wrap64 (a / b + 1) = a / b + 1 := by
  have h1 := (i64_hi h).2
  have h2 : 2 ≤ b := by
    rcases Int.lt_or_le b 2 with h3 | h3
    · have : b = 1 := by omega
      subst this; omega
    · exact h3
  have h5 : 2 * (a / b) ≤ b * (a / b) := Int.mul_le_mul_of_nonneg_right h2 (Int.ediv_nonneg ha (by omega))
  have h6 := Int.mul_ediv_add_emod a b
  have h7 := Int.emod_nonneg a (show b ≠ 0 by omega)
  have h4 : 0 ≤ a / b := Int.ediv_nonneg ha (by omega)
  exact IntWalk.wrap64_in _ ⟨by omega, by omega⟩
theorem quo_fits {a b : Int} (h : (Lit.int .i64 a).wf = true) (ha : 0 ≤ a) (hb : 1 ≤ b) : wrap64 (a.tdiv b) = a / b := by
  have h1 := (i64_hi h).2
  have h4 : 0 ≤ a / b := Int.ediv_nonneg ha (by omega)
  have h5 : 1 * (a / b) ≤ b * (a / b) := Int.mul_le_mul_of_nonneg_right hb h4
  have h6 := Int.mul_ediv_add_emod a b
  have h7 := Int.emod_nonneg a (show b ≠ 0 by omega)
  rw [Int.tdiv_eq_ediv_of_nonneg ha]
  exact IntWalk.wrap64_in _ ⟨by omega, by omega⟩
set_option maxHeartbeats 400000 in
theorem size_any (a b : Int) (w : World) (wa : (Lit.int .i64 a).wf = true) :
    Calls Tryz.prog 90 #[.int .i64 a, .int .i64 b] w fun e w' => e = .returned (.int .i64 (sizeZ a b)) ∧ w = w' := by
  have W := Lib.hid wa
  clear wa
  by_cases ha : a < 0
  · go_enter Tryz.func90, Tryz.ntmps90
    go_wp2
    go_ret
    exact ⟨ret_int (sizeZ_none (Or.inl ha)).symm, rfl⟩
  · have ha' : 0 ≤ a := by omega
    by_cases hb : b < 1
    · go_enter Tryz.func90, Tryz.ntmps90
      go_wp2
      go_ret
      exact ⟨ret_int (sizeZ_none (Or.inr hb)).symm, rfl⟩
    · have hb' : 1 ≤ b := by omega
      clear hb ha
      by_cases hr : a % b = 0
      · have he := sizeZ_even ha' hb' hr
        have HE := Lib.hid he
        clear he
        have hr2 : (a % b == 0) = true := by simpa using hr
        go_enter Tryz.func90, Tryz.ntmps90
        go_wp2
        go_ret
        exact ⟨ret_int (by rw [quo_fits W.out ha' hb', HE.out]), rfl⟩
      · have HE := Lib.hid (sizeZ_odd ha' hb' hr)
        have HF := Lib.hid (size_fits W.out ha' hb' hr)
        have hr2 : (a % b == 0) = false := by simpa using hr
        go_enter Tryz.func90, Tryz.ntmps90
        go_wp2
        go_ret
        exact ⟨ret_int (by rw [quo_fits W.out ha' hb', HF.out, HE.out]), rfl⟩
end Go.Proofs.YtodokgkchmpmnaaGreat

/- Proved: what the document's Cut answers, for every text and every number. Conditions: those that the theorems name. -/
namespace Go.Proofs.YtodokgkchmpmnaaGreat
open Go.ChangeShapes Go.WideShapes Go.ChangeAt Go.RowKit

/-- Texts and an error come back; nothing that was there has turned. -/
def GivesSZ (W : World) (l : List ByteArray) (z : Int) (e : Ending) (w' : World) : Prop :=
  ∃ A n c, e = .returned (.tuple #[.slice A n c, .int .i64 z]) ∧ Ss w' A n l ∧ Below W.heap.size W w'
theorem getD_append_zeros (l : List Nat) (p j : Nat) : (l ++ List.replicate p 0).getD j 0 = l.getD j 0 := by
  rw [List.getD_eq_getElem?_getD, List.getD_eq_getElem?_getD]
  rcases Nat.lt_or_ge j l.length with h | h
  · rw [List.getElem?_append_left h]
  · rw [List.getElem?_append_right h, List.getElem?_replicate, List.getElem?_eq_none h]
    split <;> rfl
theorem bts_extract (s : ByteArray) (a b : Nat) : bts (s.extract a b) = ((bts s).take b).drop a := by
  unfold bts
  rw [ByteArray.data_extract]
  simp [List.map_drop, List.map_take, List.extract_eq_take_drop, List.drop_take]
end Go.Proofs.YtodokgkchmpmnaaGreat

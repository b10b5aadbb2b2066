/- Proved: lemmas of one statement's proof, merged by program: what each part proves stands ahead of it. Conditions: those that the lemmas name. -/
import Derived.Test.YtedecminaopgaaaM7
import Derived.Test.YtedecminaopgaaaM1

/- Plain lemmas on bodies that wait by their places. No condition beyond those that each lemma names. -/
namespace Go.Proofs.Ytedecminaopgaaa
open Go.ChangeShapes Go.WideShapes Go.ChangeAt Go.RowKit

/-! ### no body -/
/-- is it no body? -/
def emB (s : ByteArray) : Bool := s.toList.isEmpty
theorem em_S0 : emB S0 = true := by unfold emB; rw [ByteArray.toList_eq]; rfl
theorem em_is {s : ByteArray} : emB s = true ↔ s = S0 := by
  unfold emB
  constructor
  · intro h
    rw [ByteArray.toList_eq] at h
    apply bts_inj
    unfold bts
    rw [List.isEmpty_iff.1 h]
    rfl
  · rintro rfl; rw [ByteArray.toList_eq]; rfl
theorem em_ne {s : ByteArray} (h : emB s = false) : s ≠ S0 := fun e => by rw [e, em_S0] at h; cases h
theorem em_same (s : ByteArray) : (s.toList == S0.toList) = emB s := by
  cases h : emB s
  · exact list_ne (em_ne h)
  · rw [em_is.1 h]; simp
/-! ### what waits -/
/-- a body is put at place p. -/
def putR (L : List ByteArray) (p : Nat) (s : ByteArray) : List ByteArray := (L ++ List.replicate (p + 1 - L.length) S0).set p s
theorem put_len (L : List ByteArray) (p : Nat) (s : ByteArray) : (putR L p s).length = max L.length (p + 1) := by
  unfold putR
  rw [List.length_set, List.length_append, List.length_replicate]; omega
theorem more_st (L : List ByteArray) (n j : Nat) : st_ (L ++ List.replicate n S0) j = st_ L j := by
  unfold st_
  rcases Nat.lt_or_ge j L.length with h | h
  · rw [List.getD_eq_getElem?_getD, List.getElem?_append_left h, ← List.getD_eq_getElem?_getD]
  · rw [List.getD_eq_getElem?_getD, List.getElem?_append_right h, List.getElem?_replicate, List.getD_eq_getElem?_getD, List.getElem?_eq_none h]
    split <;> rfl
theorem st_none {L : List ByteArray} {j : Nat} (h : L.length ≤ j) : st_ L j = S0 := by
  unfold st_
  rw [List.getD_eq_getElem?_getD, List.getElem?_eq_none h]; rfl
theorem st_in {L : List ByteArray} {j : Nat} (h : emB (st_ L j) = false) : j < L.length := by
  rcases Nat.lt_or_ge j L.length with a | a
  · exact a
  · rw [st_none a, em_S0] at h; cases h
theorem st_drop (L : List ByteArray) (k j : Nat) : st_ (L.drop k) j = st_ L (k + j) := by
  unfold st_
  rw [List.getD_eq_getElem?_getD, List.getElem?_drop, ← List.getD_eq_getElem?_getD]

/-- the body at a place, if it is one. -/
def atZ (L : List ByteArray) (z : Int) : ByteArray := if 0 ≤ z then st_ L z.toNat else S0
theorem atZ_nat (L : List ByteArray) (n : Nat) : atZ L (n : Int) = st_ L n := by
  unfold atZ
  rw [if_pos (Int.natCast_nonneg n)]; rfl
theorem atZ_out {L : List ByteArray} {z : Int} (h : z < 0 ∨ (L.length : Int) ≤ z) : atZ L z = S0 := by
  unfold atZ
  split
  · exact st_none (by omega)
  · rfl
/-- the body of a number. -/
def atO (B : Int) (L : List ByteArray) (x : Int) : ByteArray := atZ L (ah B x)
def hasO (B : Int) (L : List ByteArray) (x : Int) : Bool := !emB (atO B L x)
theorem ah_self23 (B : Int) : ah B B = 0 := by unfold ah; omega
theorem atO_head (B : Int) (L : List ByteArray) : atO B L B = st_ L 0 := by
  unfold atO
  rw [ah_self23 B]
  exact atZ_nat L 0

/-! ### Put -/
def putE (B n : Int) (L : List ByteArray) (x : Int) (s : ByteArray) : Int := if 0 < ah x B then 0 else if inZ x B n = false then 1 else if hasO B L x = true then 2 else if emB s = true then 4 else 3
def putO (B n : Int) (L : List ByteArray) (x : Int) (s : ByteArray) : List ByteArray := if putE B n L x s = 3 then putR L (ah B x).toNat s else L
section
variable {B n x : Int} {L : List ByteArray} {s : ByteArray}
theorem pt_less (h : 0 < ah x B) : putE B n L x s = 0 ∧ putO B n L x s = L := by
  have e : putE B n L x s = 0 := if_pos h
  exact ⟨e, if_neg (by rw [e]; decide)⟩
theorem pt_past (h : ¬ 0 < ah x B) (h2 : inZ x B n = false) : putE B n L x s = 1 ∧ putO B n L x s = L := by
  have e : putE B n L x s = 1 := by unfold putE; rw [if_neg h, if_pos h2]
  exact ⟨e, if_neg (by rw [e]; decide)⟩
theorem pt_old (h : ¬ 0 < ah x B) (h2 : inZ x B n = true) (h3 : hasO B L x = true) : putE B n L x s = 2 ∧ putO B n L x s = L := by
  have e : putE B n L x s = 2 := by unfold putE; rw [if_neg h, if_neg (by rw [h2]; decide), if_pos h3]
  exact ⟨e, if_neg (by rw [e]; decide)⟩
theorem pt_none (h : ¬ 0 < ah x B) (h2 : inZ x B n = true) (h3 : hasO B L x = false) (h4 : emB s = true) : putE B n L x s = 4 ∧ putO B n L x s = L := by
  have e : putE B n L x s = 4 := by unfold putE; rw [if_neg h, if_neg (by rw [h2]; decide), if_neg (by rw [h3]; decide), if_pos h4]
  exact ⟨e, if_neg (by rw [e]; decide)⟩
theorem pt_new (h : ¬ 0 < ah x B) (h2 : inZ x B n = true) (h3 : hasO B L x = false) (h4 : emB s = false) : putE B n L x s = 3 ∧ putO B n L x s = putR L (ah B x).toNat s := by
  have e : putE B n L x s = 3 := by unfold putE; rw [if_neg h, if_neg (by rw [h2]; decide), if_neg (by rw [h3]; decide), if_neg (by rw [h4]; decide)]
  exact ⟨e, if_pos e⟩
theorem pt_3 (h : putE B n L x s = 3) : ¬ 0 < ah x B ∧ inZ x B n = true ∧ hasO B L x = false ∧ emB s = false := by
  by_cases h1 : 0 < ah x B
  · rw [(pt_less h1).1] at h; cases h
  cases h2 : inZ x B n
  · rw [(pt_past h1 h2).1] at h; cases h
  cases h3 : hasO B L x
  · cases h4 : emB s
    · exact ⟨h1, rfl, rfl, rfl⟩
    · rw [(pt_none h1 h2 h3 h4).1] at h; cases h
  · rw [(pt_old h1 h2 h3).1] at h; cases h
theorem in_place (h : inZ x B n = true) : ∃ p : Nat, ah B x = p ∧ (p : Int) < n := by
  unfold inZ at h
  rw [Bool.and_eq_true, decide_eq_true_eq, decide_eq_true_eq] at h
  exact ⟨(ah B x).toNat, by omega, by omega⟩
theorem in_wpl {p : Nat} (hB : U32 B) (hx : U32 x) (h : ah B x = p) : x = wpl B p := by
  unfold U32 at *
  unfold ah at h
  unfold wpl
  omega
end

/-! ### Next -/
def nxO (L : List ByteArray) (room : Int) : Bool := !emB (st_ L 0) && decide (((st_ L 0).size : Int) ≤ room)
def nxS (L : List ByteArray) (room : Int) : ByteArray := if nxO L room = true then st_ L 0 else S0
def nxL (L : List ByteArray) (room : Int) : List ByteArray := if nxO L room = true then L.drop 1 else L
def nxBs (B : Int) (L : List ByteArray) (room : Int) : Int := if nxO L room = true then wpl B 1 else B
section
variable {B room : Int} {L : List ByteArray}
theorem nx_yes (h1 : emB (st_ L 0) = false) (h2 : ((st_ L 0).size : Int) ≤ room) : nxO L room = true ∧ nxS L room = st_ L 0 ∧ nxL L room = L.drop 1 ∧ nxBs B L room = wpl B 1 := by
  have e : nxO L room = true := by unfold nxO; rw [h1, decide_eq_true h2]; rfl
  exact ⟨e, if_pos e, if_pos e, if_pos e⟩
theorem nx_no (h : emB (st_ L 0) = true ∨ room < ((st_ L 0).size : Int)) : nxO L room = false ∧ nxS L room = S0 ∧ nxL L room = L ∧ nxBs B L room = B := by
  have e : nxO L room = false := by
    unfold nxO
    rcases h with h | h
    · rw [h]; rfl
    · rw [decide_eq_false (by omega), Bool.and_false]
  have e' : ¬ nxO L room = true := by rw [e]; decide
  exact ⟨e, if_neg e', if_neg e', if_neg e'⟩
end
end Go.Proofs.Ytedecminaopgaaa

/- Plain lemmas on bodies that wait by their places, and by their numbers. No condition beyond those that each lemma names. -/
namespace Go.Proofs.Ytedecminaopgaaa
open Go.ChangeShapes Go.WideShapes Go.ChangeAt Go.RowKit

abbrev Xb := Int × ByteArray
theorem ah_place {B : Int} {i : Nat} (hB : U32 B) (hi : i < 1000) : ah B (wpl B i) = i := by
  have := ah_wpl (B := B) (i := 0) (j := i) (by omega) hi
  rw [wpl_zero hB] at this
  omega
section
variable {B n x room : Int} {L : List ByteArray} {M : List Xb} {s : ByteArray}
/-! ### one less -/
end
end Go.Proofs.Ytedecminaopgaaa

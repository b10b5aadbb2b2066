/- Proved: lemmas of one statement's proof, merged by program: what each part proves stands ahead of it. Conditions: those that the lemmas name. -/
import Derived.Test.YtedecminaopgaaaM7
import Derived.Test.YtedecminaopgaaaM1

/- Plain lemmas on bodies that wait by their places. No condition beyond those that each lemma names. -/
namespace Go.Proofs.Ytedecminaopgaaa
open Go.ChangeShapes Go.WideShapes Go.ChangeAt Go.RowKit

/-! ### no body -/
/-- is it no body? -/
def emB (s : ByteArray) : Bool := s.toList.isEmpty
theorem em_S0 : emB S0 = true := by unfold emB; rw [ByteArray.toList_eq]; rfl
theorem em_is {s : ByteArray} : emB s = true ↔ s = S0 := by
  unfold emB
  constructor
  · intro h
    rw [ByteArray.toList_eq] at h
    apply bts_inj
    unfold bts
    rw [List.isEmpty_iff.1 h]
    rfl
  · rintro rfl; rw [ByteArray.toList_eq]; rfl
theorem em_ne {s : ByteArray} (h : emB s = false) : s ≠ S0 := fun e => by rw [e, em_S0] at h; cases h
theorem em_same (s : ByteArray) : (s.toList == S0.toList) = emB s := by
  cases h : emB s
  · exact list_ne (em_ne h)
  · rw [em_is.1 h]; simp
theorem em_pos {s : ByteArray} (h : emB s = false) : 0 < s.size := Nat.pos_of_ne_zero fun e => em_ne h (size_zero e)

/-! ### what waits -/
/-- how many wait. -/
def cntO : List ByteArray → Nat
  | [] => 0
  | x :: r => (if emB x = true then 0 else 1) + cntO r
theorem cnt_app (l r : List ByteArray) : cntO (l ++ r) = cntO l + cntO r := by
  induction l with
  | nil => simp [cntO]
  | cons x l ih => show _ + cntO (l ++ r) = (_ + cntO l) + cntO r; rw [ih]; omega
theorem cnt_le (l : List ByteArray) : cntO l ≤ l.length := by
  induction l with
  | nil => exact Nat.le_refl _
  | cons x l ih => show _ + cntO l ≤ l.length + 1; split <;> omega
theorem cnt_none (n : Nat) : cntO (List.replicate n S0) = 0 := by
  induction n with
  | zero => rfl
  | succ n ih => rw [List.replicate_succ]; show _ + cntO _ = 0; rw [ih, if_pos em_S0]
theorem cnt_set (l : List ByteArray) (p : Nat) (s : ByteArray) (h : p < l.length) (h1 : emB (st_ l p) = true) (h2 : emB s = false) : cntO (l.set p s) = cntO l + 1 := by
  induction l generalizing p with
  | nil => exact absurd h (by simp)
  | cons x l ih =>
    cases p with
    | zero =>
      have h1' : emB x = true := h1
      show (if emB s = true then 0 else 1) + cntO l = (if emB x = true then 0 else 1) + cntO l + 1
      rw [if_neg (by rw [h2]; decide), if_pos h1']; omega
    | succ p =>
      have := ih p (by simpa using h) h1
      show (if emB x = true then 0 else 1) + cntO (l.set p s) = (if emB x = true then 0 else 1) + cntO l + 1
      omega
/-- a body is put at place p. -/
def putR (L : List ByteArray) (p : Nat) (s : ByteArray) : List ByteArray := (L ++ List.replicate (p + 1 - L.length) S0).set p s
theorem put_len (L : List ByteArray) (p : Nat) (s : ByteArray) : (putR L p s).length = max L.length (p + 1) := by
  unfold putR
  rw [List.length_set, List.length_append, List.length_replicate]; omega
theorem more_st (L : List ByteArray) (n j : Nat) : st_ (L ++ List.replicate n S0) j = st_ L j := by
  unfold st_
  rcases Nat.lt_or_ge j L.length with h | h
  · rw [List.getD_eq_getElem?_getD, List.getElem?_append_left h, ← List.getD_eq_getElem?_getD]
  · rw [List.getD_eq_getElem?_getD, List.getElem?_append_right h, List.getElem?_replicate, List.getD_eq_getElem?_getD, List.getElem?_eq_none h]
    split <;> rfl
theorem put_st (L : List ByteArray) (p : Nat) (s : ByteArray) (j : Nat) : st_ (putR L p s) j = if p = j then s else st_ L j := by
  unfold putR
  rw [st_set _ _ _ _ (by rw [List.length_append, List.length_replicate]; omega), more_st]
theorem put_cnt (L : List ByteArray) (p : Nat) (s : ByteArray) (h1 : emB (st_ L p) = true) (h2 : emB s = false) : cntO (putR L p s) = cntO L + 1 := by
  unfold putR
  rw [cnt_set _ _ _ (by rw [List.length_append, List.length_replicate]; omega) (by rw [more_st]; exact h1) h2, cnt_app, cnt_none]
theorem st_none {L : List ByteArray} {j : Nat} (h : L.length ≤ j) : st_ L j = S0 := by
  unfold st_
  rw [List.getD_eq_getElem?_getD, List.getElem?_eq_none h]; rfl
theorem st_in {L : List ByteArray} {j : Nat} (h : emB (st_ L j) = false) : j < L.length := by
  rcases Nat.lt_or_ge j L.length with a | a
  · exact a
  · rw [st_none a, em_S0] at h; cases h
theorem st_drop (L : List ByteArray) (k j : Nat) : st_ (L.drop k) j = st_ L (k + j) := by
  unfold st_
  rw [List.getD_eq_getElem?_getD, List.getElem?_drop, ← List.getD_eq_getElem?_getD]

/-- the body at a place, if it is one. -/
def atZ (L : List ByteArray) (z : Int) : ByteArray := if 0 ≤ z then st_ L z.toNat else S0
theorem atZ_nat (L : List ByteArray) (n : Nat) : atZ L (n : Int) = st_ L n := by
  unfold atZ
  rw [if_pos (Int.natCast_nonneg n)]; rfl
theorem atZ_out {L : List ByteArray} {z : Int} (h : z < 0 ∨ (L.length : Int) ≤ z) : atZ L z = S0 := by
  unfold atZ
  split
  · exact st_none (by omega)
  · rfl
/-- the body of a number. -/
def atO (B : Int) (L : List ByteArray) (x : Int) : ByteArray := atZ L (ah B x)
def hasO (B : Int) (L : List ByteArray) (x : Int) : Bool := !emB (atO B L x)
theorem ah_self23 (B : Int) : ah B B = 0 := by unfold ah; omega
theorem atO_head (B : Int) (L : List ByteArray) : atO B L B = st_ L 0 := by
  unfold atO
  rw [ah_self23 B]
  exact atZ_nat L 0

/-! ### Put -/
def putE (B n : Int) (L : List ByteArray) (x : Int) (s : ByteArray) : Int := if 0 < ah x B then 0 else if inZ x B n = false then 1 else if hasO B L x = true then 2 else if emB s = true then 4 else 3
def putO (B n : Int) (L : List ByteArray) (x : Int) (s : ByteArray) : List ByteArray := if putE B n L x s = 3 then putR L (ah B x).toNat s else L
section
variable {B n x : Int} {L : List ByteArray} {s : ByteArray}
theorem pt_less (h : 0 < ah x B) : putE B n L x s = 0 ∧ putO B n L x s = L := by
  have e : putE B n L x s = 0 := if_pos h
  exact ⟨e, if_neg (by rw [e]; decide)⟩
theorem pt_past (h : ¬ 0 < ah x B) (h2 : inZ x B n = false) : putE B n L x s = 1 ∧ putO B n L x s = L := by
  have e : putE B n L x s = 1 := by unfold putE; rw [if_neg h, if_pos h2]
  exact ⟨e, if_neg (by rw [e]; decide)⟩
theorem pt_old (h : ¬ 0 < ah x B) (h2 : inZ x B n = true) (h3 : hasO B L x = true) : putE B n L x s = 2 ∧ putO B n L x s = L := by
  have e : putE B n L x s = 2 := by unfold putE; rw [if_neg h, if_neg (by rw [h2]; decide), if_pos h3]
  exact ⟨e, if_neg (by rw [e]; decide)⟩
theorem pt_none (h : ¬ 0 < ah x B) (h2 : inZ x B n = true) (h3 : hasO B L x = false) (h4 : emB s = true) : putE B n L x s = 4 ∧ putO B n L x s = L := by
  have e : putE B n L x s = 4 := by unfold putE; rw [if_neg h, if_neg (by rw [h2]; decide), if_neg (by rw [h3]; decide), if_pos h4]
  exact ⟨e, if_neg (by rw [e]; decide)⟩
theorem pt_new (h : ¬ 0 < ah x B) (h2 : inZ x B n = true) (h3 : hasO B L x = false) (h4 : emB s = false) : putE B n L x s = 3 ∧ putO B n L x s = putR L (ah B x).toNat s := by
  have e : putE B n L x s = 3 := by unfold putE; rw [if_neg h, if_neg (by rw [h2]; decide), if_neg (by rw [h3]; decide), if_neg (by rw [h4]; decide)]
  exact ⟨e, if_pos e⟩
theorem pt_3 (h : putE B n L x s = 3) : ¬ 0 < ah x B ∧ inZ x B n = true ∧ hasO B L x = false ∧ emB s = false := by
  by_cases h1 : 0 < ah x B
  · rw [(pt_less h1).1] at h; cases h
  cases h2 : inZ x B n
  · rw [(pt_past h1 h2).1] at h; cases h
  cases h3 : hasO B L x
  · cases h4 : emB s
    · exact ⟨h1, rfl, rfl, rfl⟩
    · rw [(pt_none h1 h2 h3 h4).1] at h; cases h
  · rw [(pt_old h1 h2 h3).1] at h; cases h
theorem in_place (h : inZ x B n = true) : ∃ p : Nat, ah B x = p ∧ (p : Int) < n := by
  unfold inZ at h
  rw [Bool.and_eq_true, decide_eq_true_eq, decide_eq_true_eq] at h
  exact ⟨(ah B x).toNat, by omega, by omega⟩
theorem in_wpl {p : Nat} (hB : U32 B) (hx : U32 x) (h : ah B x = p) : x = wpl B p := by
  unfold U32 at *
  unfold ah at h
  unfold wpl
  omega
end

/-! ### Next -/
def nxO (L : List ByteArray) (room : Int) : Bool := !emB (st_ L 0) && decide (((st_ L 0).size : Int) ≤ room)
def nxS (L : List ByteArray) (room : Int) : ByteArray := if nxO L room = true then st_ L 0 else S0
def nxL (L : List ByteArray) (room : Int) : List ByteArray := if nxO L room = true then L.drop 1 else L
def nxBs (B : Int) (L : List ByteArray) (room : Int) : Int := if nxO L room = true then wpl B 1 else B
section
variable {B room : Int} {L : List ByteArray}
theorem nx_yes (h1 : emB (st_ L 0) = false) (h2 : ((st_ L 0).size : Int) ≤ room) : nxO L room = true ∧ nxS L room = st_ L 0 ∧ nxL L room = L.drop 1 ∧ nxBs B L room = wpl B 1 := by
  have e : nxO L room = true := by unfold nxO; rw [h1, decide_eq_true h2]; rfl
  exact ⟨e, if_pos e, if_pos e, if_pos e⟩
theorem nx_no (h : emB (st_ L 0) = true ∨ room < ((st_ L 0).size : Int)) : nxO L room = false ∧ nxS L room = S0 ∧ nxL L room = L ∧ nxBs B L room = B := by
  have e : nxO L room = false := by
    unfold nxO
    rcases h with h | h
    · rw [h]; rfl
    · rw [decide_eq_false (by omega), Bool.and_false]
  have e' : ¬ nxO L room = true := by rw [e]; decide
  exact ⟨e, if_neg e', if_neg e', if_neg e'⟩
end
end Go.Proofs.Ytedecminaopgaaa

/- Plain lemmas on bodies that wait by their places, and by their numbers. No condition beyond those that each lemma names. -/
namespace Go.Proofs.Ytedecminaopgaaa
open Go.ChangeShapes Go.WideShapes Go.ChangeAt Go.RowKit

abbrev Xb := Int × ByteArray
/-- What waits by its place from B on is what waits by its number. -/
structure Rel (B : Int) (L : List ByteArray) (M : List Xb) : Prop where
  one : (M.map Prod.fst).Nodup
  all : ∀ x s, (x, s) ∈ M ↔ ∃ i, i < L.length ∧ x = wpl B i ∧ st_ L i = s ∧ emB s = false
  count : M.length = cntO L
/-- the place of a number; -1: it is not there. -/
def AtB (M : List Xb) (x : Int) (z : Int) : Prop := (z = -1 ∧ ∀ s, (x, s) ∉ M) ∨ ∃ (i : Nat) (s : ByteArray), z = i ∧ M[i]? = some (x, s)
theorem Rel.nil (B : Int) : Rel B [] [] := ⟨List.nodup_nil, fun _ _ => ⟨fun h => (nomatch h), fun ⟨_, h, _⟩ => (nomatch h)⟩, rfl⟩
theorem ah_place {B : Int} {i : Nat} (hB : U32 B) (hi : i < 1000) : ah B (wpl B i) = i := by
  have := ah_wpl (B := B) (i := 0) (j := i) (by omega) hi
  rw [wpl_zero hB] at this
  omega
section
variable {B n x room : Int} {L : List ByteArray} {M : List Xb} {s : ByteArray}
theorem has_place (hB : U32 B) (hx : U32 x) (hl : L.length ≤ 64) : hasO B L x = true ↔ ∃ i, i < L.length ∧ x = wpl B i ∧ emB (st_ L i) = false := by
  unfold hasO atO
  constructor
  · intro h
    rcases Int.lt_or_le (ah B x) 0 with a | a
    · rw [atZ_out (.inl a), em_S0] at h; cases h
    · obtain ⟨p, hp⟩ := Int.eq_ofNat_of_zero_le a
      rw [hp, atZ_nat] at h
      have h' : emB (st_ L p) = false := by simpa using h
      exact ⟨p, st_in h', in_wpl hB hx hp, h'⟩
  · rintro ⟨i, hi, rfl, h⟩
    rw [ah_place hB (by omega), atZ_nat, h]; rfl
theorem Rel.has (h : Rel B L M) (hB : U32 B) (hx : U32 x) (hl : L.length ≤ 64) : hasO B L x = true ↔ ∃ s, (x, s) ∈ M := by
  rw [has_place hB hx hl]
  constructor
  · rintro ⟨i, hi, e, he⟩
    exact ⟨_, (h.all _ _).2 ⟨i, hi, e, rfl, he⟩⟩
  · rintro ⟨s, hs⟩
    obtain ⟨i, hi, e, rfl, he⟩ := (h.all _ _).1 hs
    exact ⟨i, hi, e, he⟩
theorem Rel.at_has (h : Rel B L M) (hB : U32 B) (hx : U32 x) (hl : L.length ≤ 64) {z : Int} (ha : AtB M x z) : decide (0 ≤ z) = hasO B L x := by
  rcases ha with ⟨rfl, hn⟩ | ⟨i, s, rfl, hs⟩
  · have : ¬ hasO B L x = true := fun e => by
      obtain ⟨s, hs⟩ := (h.has hB hx hl).1 e
      exact hn s hs
    cases hh : hasO B L x
    · rfl
    · exact absurd hh this
  · rw [(h.has hB hx hl).2 ⟨s, List.mem_of_getElem? hs⟩]
    exact decide_eq_true (Int.natCast_nonneg i)
theorem Rel.few (h : Rel B L M) (hl : L.length ≤ 64) : M.length ≤ 64 := by
  rw [h.count]
  exact Nat.le_trans (cnt_le L) hl
/-- one more. -/
theorem Rel.put (h : Rel B L M) (hB : U32 B) (hx : U32 x) (hl : L.length ≤ 64) (e : putE B n L x s = 3) : Rel B (putO B n L x s) (M ++ [(x, s)]) := by
  obtain ⟨h1, h2, h3, h4⟩ := pt_3 e
  obtain ⟨p, hp, hpn⟩ := in_place h2
  have e2 := (pt_new h1 h2 h3 h4).2
  rw [hp, show (p : Int).toNat = p from rfl] at e2
  rw [e2]
  have hxp := in_wpl hB hx hp
  have hemp : emB (st_ L p) = true := by
    unfold hasO atO at h3
    rw [hp, atZ_nat] at h3
    simpa using h3
  have hno : ∀ s', (x, s') ∉ M := fun s' hs => by
    have := (h.has hB hx hl).2 ⟨s', hs⟩
    rw [h3] at this; cases this
  have hlen := put_len L p s
  refine ⟨?_, fun y s' => ?_, ?_⟩
  · rw [List.map_append, List.nodup_append]
    refine ⟨h.one, by simp, fun a ha b hb q => ?_⟩
    have hb : b = x := by simpa using hb
    rw [hb] at q
    subst q
    obtain ⟨y, hy, rfl⟩ := List.mem_map.1 ha
    exact hno y.2 hy
  · rw [List.mem_append, List.mem_singleton]
    constructor
    · rintro (hm | hm)
      · obtain ⟨i, hi, hy, hs, he⟩ := (h.all _ _).1 hm
        refine ⟨i, by omega, hy, ?_, he⟩
        rw [put_st, if_neg]
        · exact hs
        · intro ei
          subst ei
          rw [hs, he] at hemp; cases hemp
      · injection hm with hm1 hm2
        subst hm1; subst hm2
        exact ⟨p, by omega, hxp, by rw [put_st, if_pos rfl], h4⟩
    · rintro ⟨i, hi, hy, hs, he⟩
      rw [put_st] at hs
      by_cases ei : p = i
      · rw [if_pos ei] at hs
        subst ei; subst hs
        exact .inr (by rw [hy, ← hxp])
      · rw [if_neg ei] at hs
        refine .inl ((h.all _ _).2 ⟨i, ?_, hy, hs, he⟩)
        rw [← hs] at he
        exact st_in he
  · rw [List.length_append, put_cnt L p s hemp h4, h.count]; rfl

/-! ### one less -/
theorem split_at {i : Nat} {y : Xb} (h : M[i]? = some y) : M = M.take i ++ y :: M.drop (i + 1) := by
  have hi := (List.getElem?_eq_some_iff.1 h).1
  have e := (List.getElem?_eq_some_iff.1 h).2
  rw [← e, ← List.drop_eq_getElem_cons hi, List.take_append_drop]
theorem without {i : Nat} (hd : (M.map Prod.fst).Nodup) (h : M[i]? = some (x, s)) : ∀ y, y ∈ M.take i ++ M.drop (i + 1) ↔ y ∈ M ∧ y.1 ≠ x := by
  have e := split_at h
  intro y
  rw [e] at hd
  simp only [List.map_append, List.map_cons, List.nodup_append, List.nodup_cons] at hd
  obtain ⟨_, ⟨h1, _⟩, h2⟩ := hd
  constructor
  · intro hy
    refine ⟨?_, fun ex => ?_⟩
    · rw [e]
      rcases List.mem_append.1 hy with hy | hy
      · exact List.mem_append.2 (.inl hy)
      · exact List.mem_append.2 (.inr (List.mem_cons_of_mem _ hy))
    · rcases List.mem_append.1 hy with hy | hy
      · exact h2 _ (List.mem_map.2 ⟨y, hy, rfl⟩) x (List.mem_cons_self ..) ex
      · exact h1 (List.mem_map.2 ⟨y, hy, ex⟩)
  · rintro ⟨hy, hne⟩
    rw [e] at hy
    rcases List.mem_append.1 hy with hy | hy
    · exact List.mem_append.2 (.inl hy)
    · rcases List.mem_cons.1 hy with hy | hy
      · exact absurd (by rw [hy]) hne
      · exact List.mem_append.2 (.inr hy)
theorem Rel.head (h : Rel B L M) (hB : U32 B) (hl : L.length ≤ 64) (hs : (B, s) ∈ M) : st_ L 0 = s ∧ emB s = false := by
  obtain ⟨i, hi, e, h1, h2⟩ := (h.all _ _).1 hs
  have : i = 0 := wpl_inj (B := B) (by omega) (by decide) (by rw [← e, wpl_zero hB])
  subst this
  exact ⟨h1, h2⟩
theorem Rel.none_ (h : Rel B L M) (hB : U32 B) (hn : ∀ s, (B, s) ∉ M) : emB (st_ L 0) = true := by
  cases e : emB (st_ L 0)
  · exact absurd ((h.all B (st_ L 0)).2 ⟨0, st_in e, (wpl_zero hB).symm, rfl, e⟩) (hn _)
  · rfl
theorem Rel.next (h : Rel B L M) (hB : U32 B) (hl : L.length ≤ 64) {i : Nat} (hi : M[i]? = some (B, s)) : Rel (wpl B 1) (L.drop 1) (M.take i ++ M.drop (i + 1)) := by
  obtain ⟨h1, h2⟩ := h.head hB hl (List.mem_of_getElem? hi)
  have hL : 0 < L.length := st_in (j := 0) (by rw [h1]; exact h2)
  have hlen : M.length = (M.take i ++ M.drop (i + 1)).length + 1 := by
    have := congrArg List.length (split_at hi)
    rw [List.length_append, List.length_cons] at this
    rw [List.length_append]; omega
  refine ⟨?_, fun y s' => ?_, ?_⟩
  · have e := split_at hi
    have hd := h.one
    rw [e] at hd
    refine hd.sublist ?_
    rw [List.map_append, List.map_append, List.map_cons]
    exact List.Sublist.append (List.Sublist.refl _) (List.sublist_cons_self _ _)
  · rw [without h.one hi, h.all]
    constructor
    · rintro ⟨⟨j, hj, e, hs, he⟩, hne⟩
      have hj0 : j ≠ 0 := fun ej => hne (by rw [e, ej, wpl_zero hB])
      refine ⟨j - 1, by rw [List.length_drop]; omega, ?_, ?_, he⟩
      · rw [wpl_wpl, show 1 + (j - 1) = j by omega]; exact e
      · rw [st_drop, show 1 + (j - 1) = j by omega]; exact hs
    · rintro ⟨j, hj, e, hs, he⟩
      rw [List.length_drop] at hj
      rw [wpl_wpl] at e
      rw [st_drop] at hs
      refine ⟨⟨1 + j, by omega, e, hs, he⟩, fun ex => ?_⟩
      have ex' : y = B := ex
      rw [ex'] at e
      have : 1 + j = 0 := wpl_inj (B := B) (by omega) (by decide) (by rw [← e, wpl_zero hB])
      omega
  · obtain ⟨y, R, hLR⟩ : ∃ y R, L = y :: R := by
      cases L with
      | nil => exact absurd hL (by simp)
      | cons y R => exact ⟨y, R, rfl⟩
    have hc := h.count
    have hy : emB y = false := by rw [hLR] at h1; rw [show y = s from h1]; exact h2
    rw [hLR] at hc ⊢
    have hc : M.length = (if emB y = true then 0 else 1) + cntO R := hc
    rw [if_neg (by rw [hy]; decide)] at hc
    show _ = cntO R
    omega
end
end Go.Proofs.Ytedecminaopgaaa

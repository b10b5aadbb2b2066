/- Plain lemmas on bodies that wait by their places, and by their numbers. No condition beyond those that each lemma names. -/
import Derived.Test.YtifekpdjenfnbaaOrMath
namespace Go.Proofs.Ytifekpdjenfnbaa
open Go.ChangeShapes Go.WideShapes Go.ChangeAt Go.RowKit

abbrev Xb := Int × ByteArray
/-- What waits by its place from B on is what waits by its number. -/
structure Rel (B : Int) (L : List ByteArray) (M : List Xb) : Prop where
  one : (M.map Prod.fst).Nodup
  all : ∀ x s, (x, s) ∈ M ↔ ∃ i, i < L.length ∧ x = wpl B i ∧ st_ L i = s ∧ emB s = false
  count : M.length = cntO L
/-- the place of a number; -1: it is not there. -/
def AtB (M : List Xb) (x : Int) (z : Int) : Prop := (z = -1 ∧ ∀ s, (x, s) ∉ M) ∨ ∃ (i : Nat) (s : ByteArray), z = i ∧ M[i]? = some (x, s)
theorem Rel.nil (B : Int) : Rel B [] [] := ⟨List.nodup_nil, fun _ _ => ⟨fun h => (nomatch h), fun ⟨_, h, _⟩ => (nomatch h)⟩, rfl⟩
theorem ah_place {B : Int} {i : Nat} (hB : U32 B) (hi : i < 1000) : ah B (wpl B i) = i := by
  have := ah_wpl (B := B) (i := 0) (j := i) (by omega) hi
  rw [wpl_zero hB] at this
  omega
section
variable {B n x room : Int} {L : List ByteArray} {M : List Xb} {s : ByteArray}
theorem has_place (hB : U32 B) (hx : U32 x) (hl : L.length ≤ 64) : hasO B L x = true ↔ ∃ i, i < L.length ∧ x = wpl B i ∧ emB (st_ L i) = false := by
  unfold hasO atO
  constructor
  · intro h
    rcases Int.lt_or_le (ah B x) 0 with a | a
    · rw [atZ_out (.inl a), em_S0] at h; cases h
    · obtain ⟨p, hp⟩ := Int.eq_ofNat_of_zero_le a
      rw [hp, atZ_nat] at h
      have h' : emB (st_ L p) = false := by simpa using h
      exact ⟨p, st_in h', in_wpl hB hx hp, h'⟩
  · rintro ⟨i, hi, rfl, h⟩
    rw [ah_place hB (by omega), atZ_nat, h]; rfl
theorem Rel.has (h : Rel B L M) (hB : U32 B) (hx : U32 x) (hl : L.length ≤ 64) : hasO B L x = true ↔ ∃ s, (x, s) ∈ M := by
  rw [has_place hB hx hl]
  constructor
  · rintro ⟨i, hi, e, he⟩
    exact ⟨_, (h.all _ _).2 ⟨i, hi, e, rfl, he⟩⟩
  · rintro ⟨s, hs⟩
    obtain ⟨i, hi, e, rfl, he⟩ := (h.all _ _).1 hs
    exact ⟨i, hi, e, he⟩
theorem Rel.at_has (h : Rel B L M) (hB : U32 B) (hx : U32 x) (hl : L.length ≤ 64) {z : Int} (ha : AtB M x z) : decide (0 ≤ z) = hasO B L x := by
  rcases ha with ⟨rfl, hn⟩ | ⟨i, s, rfl, hs⟩
  · have : ¬ hasO B L x = true := fun e => by
      obtain ⟨s, hs⟩ := (h.has hB hx hl).1 e
      exact hn s hs
    cases hh : hasO B L x
    · rfl
    · exact absurd hh this
  · rw [(h.has hB hx hl).2 ⟨s, List.mem_of_getElem? hs⟩]
    exact decide_eq_true (Int.natCast_nonneg i)
theorem Rel.few (h : Rel B L M) (hl : L.length ≤ 64) : M.length ≤ 64 := by
  rw [h.count]
  exact Nat.le_trans (cnt_le L) hl
/-- one more. -/
theorem Rel.put (h : Rel B L M) (hB : U32 B) (hx : U32 x) (hl : L.length ≤ 64) (e : putE B n L x s = 3) : Rel B (putO B n L x s) (M ++ [(x, s)]) := by
  obtain ⟨h1, h2, h3, h4⟩ := pt_3 e
  obtain ⟨p, hp, hpn⟩ := in_place h2
  have e2 := (pt_new h1 h2 h3 h4).2
  rw [hp, show (p : Int).toNat = p from rfl] at e2
  rw [e2]
  have hxp := in_wpl hB hx hp
  have hemp : emB (st_ L p) = true := by
    unfold hasO atO at h3
    rw [hp, atZ_nat] at h3
    simpa using h3
  have hno : ∀ s', (x, s') ∉ M := fun s' hs => by
    have := (h.has hB hx hl).2 ⟨s', hs⟩
    rw [h3] at this; cases this
  have hlen := put_len L p s
  refine ⟨?_, fun y s' => ?_, ?_⟩
  · rw [List.map_append, List.nodup_append]
    refine ⟨h.one, by simp, fun a ha b hb q => ?_⟩
    have hb : b = x := by simpa using hb
    rw [hb] at q
    subst q
    obtain ⟨y, hy, rfl⟩ := List.mem_map.1 ha
    exact hno y.2 hy
  · rw [List.mem_append, List.mem_singleton]
    constructor
    · rintro (hm | hm)
      · obtain ⟨i, hi, hy, hs, he⟩ := (h.all _ _).1 hm
        refine ⟨i, by omega, hy, ?_, he⟩
        rw [put_st, if_neg]
        · exact hs
        · intro ei
          subst ei
          rw [hs, he] at hemp; cases hemp
      · injection hm with hm1 hm2
        subst hm1; subst hm2
        exact ⟨p, by omega, hxp, by rw [put_st, if_pos rfl], h4⟩
    · rintro ⟨i, hi, hy, hs, he⟩
      rw [put_st] at hs
      by_cases ei : p = i
      · rw [if_pos ei] at hs
        subst ei; subst hs
        exact .inr (by rw [hy, ← hxp])
      · rw [if_neg ei] at hs
        refine .inl ((h.all _ _).2 ⟨i, ?_, hy, hs, he⟩)
        rw [← hs] at he
        exact st_in he
  · rw [List.length_append, put_cnt L p s hemp h4, h.count]; rfl

/-! ### one less -/
theorem split_at {i : Nat} {y : Xb} (h : M[i]? = some y) : M = M.take i ++ y :: M.drop (i + 1) := by
  have hi := (List.getElem?_eq_some_iff.1 h).1
  have e := (List.getElem?_eq_some_iff.1 h).2
  rw [← e, ← List.drop_eq_getElem_cons hi, List.take_append_drop]
theorem without {i : Nat} (hd : (M.map Prod.fst).Nodup) (h : M[i]? = some (x, s)) : ∀ y, y ∈ M.take i ++ M.drop (i + 1) ↔ y ∈ M ∧ y.1 ≠ x := by
  have e := split_at h
  intro y
  rw [e] at hd
  simp only [List.map_append, List.map_cons, List.nodup_append, List.nodup_cons] at hd
  obtain ⟨_, ⟨h1, _⟩, h2⟩ := hd
  constructor
  · intro hy
    refine ⟨?_, fun ex => ?_⟩
    · rw [e]
      rcases List.mem_append.1 hy with hy | hy
      · exact List.mem_append.2 (.inl hy)
      · exact List.mem_append.2 (.inr (List.mem_cons_of_mem _ hy))
    · rcases List.mem_append.1 hy with hy | hy
      · exact h2 _ (List.mem_map.2 ⟨y, hy, rfl⟩) x (List.mem_cons_self ..) ex
      · exact h1 (List.mem_map.2 ⟨y, hy, ex⟩)
  · rintro ⟨hy, hne⟩
    rw [e] at hy
    rcases List.mem_append.1 hy with hy | hy
    · exact List.mem_append.2 (.inl hy)
    · rcases List.mem_cons.1 hy with hy | hy
      · exact absurd (by rw [hy]) hne
      · exact List.mem_append.2 (.inr hy)
theorem Rel.head (h : Rel B L M) (hB : U32 B) (hl : L.length ≤ 64) (hs : (B, s) ∈ M) : st_ L 0 = s ∧ emB s = false := by
  obtain ⟨i, hi, e, h1, h2⟩ := (h.all _ _).1 hs
  have : i = 0 := wpl_inj (B := B) (by omega) (by decide) (by rw [← e, wpl_zero hB])
  subst this
  exact ⟨h1, h2⟩
theorem Rel.none_ (h : Rel B L M) (hB : U32 B) (hn : ∀ s, (B, s) ∉ M) : emB (st_ L 0) = true := by
  cases e : emB (st_ L 0)
  · exact absurd ((h.all B (st_ L 0)).2 ⟨0, st_in e, (wpl_zero hB).symm, rfl, e⟩) (hn _)
  · rfl
theorem Rel.next (h : Rel B L M) (hB : U32 B) (hl : L.length ≤ 64) {i : Nat} (hi : M[i]? = some (B, s)) : Rel (wpl B 1) (L.drop 1) (M.take i ++ M.drop (i + 1)) := by
  obtain ⟨h1, h2⟩ := h.head hB hl (List.mem_of_getElem? hi)
  have hL : 0 < L.length := st_in (j := 0) (by rw [h1]; exact h2)
  have hlen : M.length = (M.take i ++ M.drop (i + 1)).length + 1 := by
    have := congrArg List.length (split_at hi)
    rw [List.length_append, List.length_cons] at this
    rw [List.length_append]; omega
  refine ⟨?_, fun y s' => ?_, ?_⟩
  · have e := split_at hi
    have hd := h.one
    rw [e] at hd
    refine hd.sublist ?_
    rw [List.map_append, List.map_append, List.map_cons]
    exact List.Sublist.append (List.Sublist.refl _) (List.sublist_cons_self _ _)
  · rw [without h.one hi, h.all]
    constructor
    · rintro ⟨⟨j, hj, e, hs, he⟩, hne⟩
      have hj0 : j ≠ 0 := fun ej => hne (by rw [e, ej, wpl_zero hB])
      refine ⟨j - 1, by rw [List.length_drop]; omega, ?_, ?_, he⟩
      · rw [wpl_wpl, show 1 + (j - 1) = j by omega]; exact e
      · rw [st_drop, show 1 + (j - 1) = j by omega]; exact hs
    · rintro ⟨j, hj, e, hs, he⟩
      rw [List.length_drop] at hj
      rw [wpl_wpl] at e
      rw [st_drop] at hs
      refine ⟨⟨1 + j, by omega, e, hs, he⟩, fun ex => ?_⟩
      have ex' : y = B := ex
      rw [ex'] at e
      have : 1 + j = 0 := wpl_inj (B := B) (by omega) (by decide) (by rw [← e, wpl_zero hB])
      omega
  · obtain ⟨y, R, hLR⟩ : ∃ y R, L = y :: R := by
      cases L with
      | nil => exact absurd hL (by simp)
      | cons y R => exact ⟨y, R, rfl⟩
    have hc := h.count
    have hy : emB y = false := by rw [hLR] at h1; rw [show y = s from h1]; exact h2
    rw [hLR] at hc ⊢
    have hc : M.length = (if emB y = true then 0 else 1) + cntO R := hc
    rw [if_neg (by rw [hy]; decide)] at hc
    show _ = cntO R
    omega
end
end Go.Proofs.Ytifekpdjenfnbaa

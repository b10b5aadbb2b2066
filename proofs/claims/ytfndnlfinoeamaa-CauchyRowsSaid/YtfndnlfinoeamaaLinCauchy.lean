/- Plain lemmas: fewer equations than unknowns have a solution that is not 0; the table of 1 / (x + y) has none; any k unlike rows of the identity with that table below it have full rank. No condition beyond those that each lemma names. Nothing of the program is imported. -/
import Derived.Test.YtfndnlfinoeamaaLinElim
namespace Go.Proofs.Ytfndnlfinoeamaa
open F

theorem fsum_swapN {n a b : Nat} (ha : a < n) (hb : b < n) (f : Nat → F) : fsum n (fun i => f (swapN a b i)) = fsum n f := by
  have e1 : ∀ i, i < n → f (swapN a b i) = fsum n (fun j => idT (swapN a b i) j * f j) := fun i hi =>
    (id_mulT (a := fun j _ => f j) (j := 0) (swapN_lt ha hb hi)).symm
  rw [fsum_congr e1, fsum_swap]
  refine fsum_congr fun j hj => ?_
  have e2 : fsum n (fun i => idT (swapN a b i) j * f j) = fsum n (fun i => idT i (swapN a b j)) * f j := by
    rw [← fsum_mul']
    refine fsum_congr fun i _ => ?_
    congr 1
    unfold idT
    by_cases e : swapN a b i = j
    · rw [if_pos e, if_pos (by rw [← e, swapN_twice])]
    · rw [if_neg e, if_neg (fun q => e (by rw [q, swapN_twice]))]
  rw [e2, fsum_one (f := fun i => idT i (swapN a b j)) (swapN_lt ha hb hj) fun k _ hne => if_neg hne]
  show idT _ _ * _ = _
  rw [idT, if_pos rfl, one_mul]

/-- fewer equations than unknowns. -/
theorem null (s : Nat) : ∀ (k : Nat) (y : Tab), s < k → ∃ v : Nat → F, (∃ j, j < k ∧ v j ≠ 0) ∧ ∀ i, i < s → fsum k (fun j => y i j * v j) = 0 := by
  induction s with
  | zero => intro k y h; exact ⟨fun _ => 1, ⟨0, h, one_ne⟩, fun i hi => absurd hi (by omega)⟩
  | succ s ih =>
    intro k y h
    by_cases hp : ∃ p, p < k ∧ y s p ≠ 0
    · obtain ⟨p, hp, hy⟩ := hp
      obtain ⟨k', rfl⟩ : ∃ k', k = k' + 1 := ⟨k - 1, by omega⟩
      have hk : k' < k' + 1 := Nat.lt_succ_self k'
      generalize hz : (fun i j => y i (swapN p k' j)) = z
      have hz' : ∀ i j, z i j = y i (swapN p k' j) := fun i j => by rw [← hz]
      have hzs : z s k' ≠ 0 := by
        rw [hz']
        have : swapN p k' k' = p := by unfold swapN; by_cases e : k' = p
                                       · rw [if_pos e]; exact e
                                       · rw [if_neg e, if_pos rfl]
        rw [this]; exact hy
      obtain ⟨v', ⟨j, hj, hv⟩, hs⟩ := ih k' (fun i j => z i j + z i k' * (z s k').inv * z s j) (by omega)
      generalize hu : (fun j => if j = k' then (z s k').inv * fsum k' (fun j => z s j * v' j) else v' j) = u
      have hu1 : u k' = (z s k').inv * fsum k' (fun j => z s j * v' j) := by rw [← hu]; exact if_pos rfl
      have hu2 : ∀ j, j < k' → u j = v' j := fun j hj => by rw [← hu]; exact if_neg (by omega)
      have main : ∀ i, i < s + 1 → fsum (k' + 1) (fun j => z i j * u j) = 0 := fun i hi => by
        rw [fsum_succ, hu1, fsum_congr (g := fun j => z i j * v' j) fun j hj => by rw [hu2 j hj], ← mul_assoc]
        by_cases e : i = s
        · subst e
          rw [mul_inv hzs, one_mul, add_self]
        · have h1 := hs i (by omega)
          rw [fsum_congr (g := fun j => z i j * v' j + z i k' * (z s k').inv * (z s j * v' j)) fun j _ => by rw [add_mul, mul_assoc (z i k' * (z s k').inv)], fsum_add, fsum_mul] at h1
          exact h1
      refine ⟨fun j => u (swapN p k' j), ⟨swapN p k' j, swapN_lt hp hk (by omega), ?_⟩, fun i hi => ?_⟩
      · show u (swapN p k' (swapN p k' j)) ≠ 0
        rw [swapN_twice, hu2 j hj]; exact hv
      · rw [← main i hi, ← fsum_swapN hp hk]
        refine fsum_congr fun j _ => ?_
        rw [hz']
        show _ * u (swapN p k' (swapN p k' j)) = _
        rw [swapN_twice]
    · obtain ⟨v, hv, hs⟩ := ih k y (by omega)
      refine ⟨v, hv, fun i hi => ?_⟩
      by_cases e : i = s
      · subst e
        refine fsum_zero' fun j hj => ?_
        have : y i j = 0 := by
          by_cases e : y i j = 0
          · exact e
          · exact absurd ⟨j, hj, e⟩ hp
        rw [this, zero_mul]
      · exact hs i (by omega)
/-- a table of n rows and k places that takes nothing but 0 to 0 is not made of fewer than k. -/
theorem least_of_null {n k s : Nat} {a : Tab} (h : Made n k a s) (h0 : ∀ v : Nat → F, (∀ i, i < n → fsum k (fun j => a i j * v j) = 0) → ∀ j, j < k → v j = 0) : k ≤ s := by
  by_cases hlt : s < k
  · obtain ⟨x, y, h⟩ := h
    obtain ⟨v, ⟨j, hj, hv⟩, hs⟩ := null s k y hlt
    refine absurd (h0 v (fun i hi => ?_) j hj) hv
    have e : fsum k (fun j => a i j * v j) = mulT k (mulT s x y) (fun j _ => v j) i 0 := fsum_congr fun j hj => by rw [h i hi j hj]
    rw [e, mulT_assoc]
    refine fsum_zero' fun l hl => ?_
    have : mulT k y (fun j _ => v j) l 0 = 0 := hs l hl
    rw [this, mul_zero]
  · omega

/-! ### 1 / (x + y) -/
theorem inv_add {a b : F} (ha : a ≠ 0) (hb : b ≠ 0) : a.inv + b.inv = (a + b) * (a.inv * b.inv) := by
  rw [add_mul, ← mul_assoc, mul_inv ha, one_mul, mul_comm a.inv, ← mul_assoc, mul_inv hb, one_mul, add_comm]
theorem add_ne {a b : F} (h : a ≠ b) : a + b ≠ 0 := fun e => h (eq_of_add e)
/-- no v but 0 is taken to 0 by 1 / (x i + y j), whose x and y are all unlike. -/
theorem cauchy_null (s : Nat) : ∀ (x y v : Nat → F), (∀ i, i < s → ∀ j, j < s → x i ≠ y j) → (∀ i, i < s → ∀ j, j < s → x i = x j → i = j) → (∀ i, i < s → ∀ j, j < s → y i = y j → i = j) →
    (∀ i, i < s → fsum s (fun j => (x i + y j).inv * v j) = 0) → ∀ j, j < s → v j = 0 := by
  induction s with
  | zero => intro x y v _ _ _ _ j hj; omega
  | succ s ih =>
    intro x y v hxy hx hy h
    have hq : ∀ i, i < s + 1 → ∀ j, j < s + 1 → x i + y j ≠ 0 := fun i hi j hj => add_ne (hxy i hi j hj)
    have hs : s < s + 1 := Nat.lt_succ_self s
    have h1 : ∀ i, i < s + 1 → fsum s (fun j => (y j + y s) * ((x i + y j).inv * v j)) = fsum (s + 1) v := by
      intro i hi
      have e : (x i + y s) * fsum (s + 1) (fun j => (x i + y j).inv * v j) = 0 := by rw [h i hi, mul_zero]
      rw [← fsum_mul] at e
      have e2 : ∀ j, j < s + 1 → (x i + y s) * ((x i + y j).inv * v j) = v j + (y j + y s) * ((x i + y j).inv * v j) := by
        intro j hj
        have e3 : x i + y s = (x i + y j) + (y j + y s) := by
          rw [add_assoc, ← add_assoc (y j), add_self, zero_add]
        rw [e3, add_mul, ← mul_assoc (x i + y j), mul_inv (hq i hi j hj), one_mul]
      rw [fsum_congr e2, fsum_add] at e
      have e4 := eq_of_add e
      rw [e4, fsum_succ, add_self, zero_mul, add_zero]
    have h2 : ∀ j, j < s → (y j + y s) * ((x s + y j).inv * v j) = 0 := by
      refine ih x y (fun j => (y j + y s) * ((x s + y j).inv * v j)) (fun i hi j hj => hxy i (by omega) j (by omega)) (fun i hi j hj => hx i (by omega) j (by omega)) (fun i hi j hj => hy i (by omega) j (by omega)) ?_
      intro i hi
      have hxs : x i + x s ≠ 0 := add_ne fun e => by have := hx i (by omega) s hs e; omega
      have e : fsum s (fun j => (y j + y s) * ((x i + y j).inv * v j)) + fsum s (fun j => (y j + y s) * ((x s + y j).inv * v j)) = 0 := by
        rw [h1 i (by omega), h1 s hs, add_self]
      rw [← fsum_add] at e
      have e2 : ∀ j, j < s → (y j + y s) * ((x i + y j).inv * v j) + (y j + y s) * ((x s + y j).inv * v j) = (x i + x s) * ((x i + y j).inv * ((y j + y s) * ((x s + y j).inv * v j))) := by
        intro j hj
        rw [← mul_add, ← add_mul, inv_add (hq i (by omega) j (by omega)) (hq s hs j (by omega))]
        have e3 : x i + y j + (x s + y j) = x i + x s := by
          rw [add_assoc, add_comm (x s), ← add_assoc (y j), add_self, zero_add]
        rw [e3]
        ac_rfl
      rw [fsum_congr e2, fsum_mul] at e
      have e5 := congrArg ((x i + x s).inv * ·) e
      rw [← mul_assoc, inv_mul hxs, one_mul, mul_zero] at e5
      exact e5
    have h3 : ∀ j, j < s → v j = 0 := by
      intro j hj
      have e := h2 j hj
      by_cases z : v j = 0
      · exact z
      · refine absurd e (mul_ne (add_ne fun q => ?_) (mul_ne (inv_ne _) z))
        have := hy j (by omega) s hs q
        omega
    intro j hj
    by_cases e : j = s
    · subst e
      have e1 := h 0 (by omega)
      rw [fsum_succ, fsum_zero' fun k hk => by rw [h3 k hk, mul_zero], zero_add] at e1
      by_cases z : v j = 0
      · exact z
      · exact absurd e1 (mul_ne (inv_ne _) z)
    · exact h3 j (by omega)

/-! ### the rows that are picked -/
theorem nodup_le : ∀ (l m : List Nat), l.Pairwise (· ≠ ·) → (∀ x, x ∈ l → x ∈ m) → l.length ≤ m.length := by
  intro l
  induction l with
  | nil => intro m _ _; exact Nat.zero_le _
  | cons x l ih =>
    intro m hn hs
    have hx := hs x List.mem_cons_self
    have hn' := List.pairwise_cons.1 hn
    have h := ih (m.erase x) hn'.2 fun y hy => (List.mem_erase_of_ne (fun e => hn'.1 y hy e.symm)).2 (hs y (List.mem_cons_of_mem _ hy))
    rw [List.length_erase_of_mem hx] at h
    have := List.length_pos_of_mem hx
    rw [List.length_cons]
    omega
/-- the numbers below k that p takes. -/
def those (p : Nat → Bool) (k : Nat) : List Nat := (List.range k).filter p
theorem those_succ (p : Nat → Bool) (k : Nat) : those p (k + 1) = those p k ++ (if p k then [k] else []) := by
  unfold those
  rw [List.range_succ, List.filter_append]
  by_cases h : p k = true
  · rw [if_pos h, List.filter_cons_of_pos h]; rfl
  · rw [if_neg h, List.filter_cons_of_neg h]; rfl
theorem those_mem {p : Nat → Bool} {k j : Nat} : j ∈ those p k ↔ j < k ∧ p j = true := by
  unfold those; rw [List.mem_filter, List.mem_range]
theorem those_at {p : Nat → Bool} {k i : Nat} (h : i < (those p k).length) : (those p k).getD i 0 < k ∧ p ((those p k).getD i 0) = true := by
  rw [List.getD_eq_getElem?_getD, List.getElem?_eq_getElem h]
  exact those_mem.1 (List.getElem_mem h)
theorem those_lt (p : Nat → Bool) (k : Nat) : (those p k).Pairwise (· < ·) := List.Pairwise.filter _ List.pairwise_lt_range
theorem those_inj {p : Nat → Bool} {k i j : Nat} (hi : i < (those p k).length) (hj : j < (those p k).length) (e : (those p k).getD i 0 = (those p k).getD j 0) : i = j := by
  have h := List.pairwise_iff_getElem.1 (those_lt p k)
  rw [List.getD_eq_getElem?_getD, List.getD_eq_getElem?_getD, List.getElem?_eq_getElem hi, List.getElem?_eq_getElem hj] at e
  rcases Nat.lt_trichotomy i j with hlt | heq | hgt
  · have := h i j hi hj hlt
    simp at e; omega
  · exact heq
  · have := h j i hj hi hgt
    simp at e; omega
theorem those_not (p : Nat → Bool) (k : Nat) : (those p k).length + (those (fun j => !p j) k).length = k := by
  induction k with
  | zero => rfl
  | succ k ih =>
    rw [those_succ, those_succ, List.length_append, List.length_append]
    cases h : p k <;> simp <;> omega
/-- what p leaves out does not count. -/
theorem fsum_those (p : Nat → Bool) (f : Nat → F) (k : Nat) : (∀ j, j < k → p j = false → f j = 0) → fsum k f = fsum (those p k).length (fun i => f ((those p k).getD i 0)) := by
  induction k with
  | zero => intro _; rfl
  | succ k ih =>
    intro h
    rw [fsum_succ, ih fun j hj => h j (by omega), those_succ]
    cases hp : p k with
    | false => rw [if_neg (by decide), List.append_nil, h k (by omega) hp, add_zero]
    | true =>
      rw [if_pos rfl, List.length_append]
      show _ = fsum ((those p k).length + 1) _
      rw [fsum_succ]
      have e1 : ∀ i, i < (those p k).length → (those p k ++ [k]).getD i 0 = (those p k).getD i 0 := fun i hi => by
        rw [List.getD_eq_getElem?_getD, List.getD_eq_getElem?_getD, List.getElem?_append_left hi]
      have e2 : (those p k ++ [k]).getD (those p k).length 0 = k := by
        rw [List.getD_eq_getElem?_getD, List.getElem?_append_right (Nat.le_refl _), Nat.sub_self]; rfl
      rw [e2]
      congr 1
      exact fsum_congr fun i hi => by rw [e1 i hi]

/-- row i of the table: the identity's, or 1 / (i + j). -/
def cauT (k : Nat) : Tab := fun i j => if i < k then idT i j else (of (i ^^^ j)).inv
theorem pick_null {k : Nat} {a : Nat → Nat} {v : Nat → F} (hk : k ≤ 256) (ha : ∀ t, t < k → a t < 256) (hinj : ∀ s, s < k → ∀ t, t < k → a s = a t → s = t)
    (h : ∀ t, t < k → fsum k (fun j => cauT k (a t) j * v j) = 0) : ∀ j, j < k → v j = 0 := by
  have hid : ∀ t, t < k → a t < k → v (a t) = 0 := fun t ht hlt => by
    have e := h t ht
    rw [fsum_one hlt fun j _ hne => by rw [cauT, if_pos hlt, idT, if_neg (fun q => hne q.symm), zero_mul], cauT, if_pos hlt, idT, if_pos rfl, one_mul] at e
    exact e
  generalize hP : (fun t => decide (a t < k)) = P
  have hP' : ∀ t, P t = decide (a t < k) := fun t => by rw [← hP]
  generalize hH : (fun j => (List.range k).any fun t => a t == j) = H
  have hH' : ∀ j, H j = true ↔ ∃ t, t < k ∧ a t = j := fun j => by
    rw [← hH]
    simp only [List.any_eq_true, List.mem_range, beq_iff_eq]
  have hle : (those P k).length ≤ (those H k).length := by
    have h1 := nodup_le ((those P k).map a) (those H k) ?_ ?_
    · rwa [List.length_map] at h1
    · rw [List.pairwise_map]
      refine List.Pairwise.imp_of_mem ?_ (those_lt P k)
      intro s t hs ht hlt e
      have := hinj s (those_mem.1 hs).1 t (those_mem.1 ht).1 e
      omega
    · intro x hx
      obtain ⟨t, ht, rfl⟩ := List.mem_map.1 hx
      have ht' := those_mem.1 ht
      rw [hP'] at ht'
      exact those_mem.2 ⟨of_decide_eq_true ht'.2, (hH' _).2 ⟨t, ht'.1, rfl⟩⟩
  have c1 := those_not P k
  have c2 := those_not H k
  generalize hX : those (fun j => !P j) k = X at c1
  generalize hY : those (fun j => !H j) k = Y at c2
  have hX' : ∀ i, i < X.length → X.getD i 0 < k ∧ k ≤ a (X.getD i 0) := fun i hi => by
    rw [← hX] at hi ⊢
    have := those_at hi
    rw [hP'] at this
    refine ⟨this.1, ?_⟩
    have h2 := this.2
    simp at h2
    exact h2
  have hY' : ∀ i, i < Y.length → Y.getD i 0 < k ∧ ∀ t, t < k → a t ≠ Y.getD i 0 := fun i hi => by
    rw [← hY] at hi ⊢
    have := those_at hi
    refine ⟨this.1, fun t ht e => ?_⟩
    have h2 := this.2
    rw [(hH' _).2 ⟨t, ht, e⟩] at h2
    exact absurd h2 (by decide)
  have hv0 : ∀ j, j < k → (!H j) = false → v j = 0 := fun j _ hj => by
    have : H j = true := by simpa using hj
    obtain ⟨t, ht, rfl⟩ := (hH' _).1 this
    exact hid t ht (by assumption)
  have key := cauchy_null Y.length (fun i => of (a (X.getD i 0))) (fun j => of (Y.getD j 0)) (fun j => v (Y.getD j 0))
    (fun i hi j hj e => by
      have h1 := hX' i (by omega)
      have h2 := hY' j hj
      have := of_inj (ha _ h1.1) (by omega) e
      omega)
    (fun i hi j hj e => by
      have h1 := hX' i (by omega)
      have h2 := hX' j (by omega)
      have e1 := hinj _ h1.1 _ h2.1 (of_inj (ha _ h1.1) (ha _ h2.1) e)
      rw [← hX] at e1 c1
      exact those_inj (by omega) (by omega) e1)
    (fun i hi j hj e => by
      have h1 := hY' i hi
      have h2 := hY' j hj
      have e1 := of_inj (by omega) (by omega) e
      rw [← hY] at e1 hi hj
      exact those_inj hi hj e1)
    (fun i hi => by
      have h1 := hX' i (by omega)
      have e := h _ h1.1
      rw [fsum_those (fun j => !H j) _ k (fun j hj hn => by rw [hv0 j hj hn, mul_zero]), hY] at e
      rw [← e]
      refine fsum_congr fun j hj => ?_
      have h2 := hY' j hj
      show _ = cauT k _ _ * _
      rw [cauT, if_neg (by omega), of_xor (ha _ h1.1) (by omega)])
  intro j hj
  by_cases hh : H j = true
  · exact hv0 j hj (by rw [hh]; rfl)
  · have hm : j ∈ Y := by rw [← hY]; exact those_mem.2 ⟨hj, by simpa using hh⟩
    obtain ⟨i, hi, e⟩ := List.getElem_of_mem hm
    have := key i hi
    rw [List.getD_eq_getElem?_getD, List.getElem?_eq_getElem hi] at this
    rw [← e]
    exact this
/-- any k unlike rows have full rank. -/
theorem pick_rank {k r : Nat} {a : Nat → Nat} (hk : k ≤ 256) (ha : ∀ t, t < k → a t < 256) (hinj : ∀ s, s < k → ∀ t, t < k → a s = a t → s = t) (h : RankT k k (fun i j => cauT k (a i) j) r) : r = k :=
  Nat.le_antisymm h.le_rows (least_of_null h.1 fun _ hv => pick_null hk ha hinj hv)
end Go.Proofs.Ytfndnlfinoeamaa

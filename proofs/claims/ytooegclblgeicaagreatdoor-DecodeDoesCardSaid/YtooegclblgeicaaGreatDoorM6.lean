/- Proved: lemmas of one statement's proof, merged by program: what each part proves stands ahead of it. Conditions: those that the lemmas name. -/
import Derived.Test.YtooegclblgeicaaGreatDoorM5

/- Plain lemmas on elimination: tables that are reached by swapping rows, by multiples of a row, and by adding multiples of one row to the others; pivots; what they tell of the rank and of the inverse. No condition beyond those that each lemma names. Nothing of the program is imported. -/
namespace Go.Proofs.YtooegclblgeicaaGreatDoor
open F

/-- t is m, multiplied on the left by a table that has an inverse. -/
def Reach (n wd : Nat) (m t : Tab) : Prop := ∃ p q, InvT n p q ∧ EqT n wd t (mulT n p m)
theorem Reach.start (n wd : Nat) (m : Tab) : Reach n wd m m := ⟨idT, idT, InvT.id n, (id_mulTE n wd m).symm⟩
theorem Reach.congr {n wd : Nat} {m t t' : Tab} (h : Reach n wd m t) (e : EqT n wd t' t) : Reach n wd m t' := by
  obtain ⟨p, q, h, g⟩ := h
  exact ⟨p, q, h, e.trans g⟩
theorem Reach.less {n wd wd' : Nat} {m t : Tab} (h : Reach n wd m t) (hw : wd' ≤ wd) : Reach n wd' m t := by
  obtain ⟨p, q, h, g⟩ := h
  exact ⟨p, q, h, fun i hi j hj => g i hi j (by omega)⟩
theorem Reach.from_ {n wd : Nat} {m m' t : Tab} (h : Reach n wd m t) (e : EqT n wd m m') : Reach n wd m' t := by
  obtain ⟨p, q, h, g⟩ := h
  exact ⟨p, q, h, g.trans (EqT.mul (EqT.refl n n p) e)⟩
theorem Reach.step {n wd : Nat} {m t t' e e' : Tab} (h : Reach n wd m t) (he : InvT n e e') (ht : EqT n wd t' (mulT n e t)) : Reach n wd m t' := by
  obtain ⟨p, q, h, g⟩ := h
  refine ⟨mulT n e p, mulT n q e', he.mul h, ?_⟩
  refine ht.trans ?_
  refine (EqT.mul (EqT.refl n n e) g).trans ?_
  exact (mulT_assocE n n n wd e p m).symm

/-- the rows a and b swapped. -/
def swapN (a b i : Nat) : Nat := if i = a then b else if i = b then a else i
theorem swapN_lt {n a b i : Nat} (ha : a < n) (hb : b < n) (hi : i < n) : swapN a b i < n := by
  unfold swapN; split
  · exact hb
  · split
    · exact ha
    · exact hi
theorem swapN_twice (a b i : Nat) : swapN a b (swapN a b i) = i := by
  unfold swapN
  by_cases h1 : i = a
  · subst h1; rw [if_pos rfl]
    by_cases h2 : b = i
    · rw [if_pos h2]; exact h2
    · rw [if_neg h2, if_pos rfl]
  · rw [if_neg h1]
    by_cases h2 : i = b
    · subst h2; rw [if_pos rfl, if_pos rfl]
    · rw [if_neg h2, if_neg h1, if_neg h2]
theorem swapN_ge {a b i k : Nat} (ha : k ≤ a) (hb : k ≤ b) : (k ≤ swapN a b i ↔ k ≤ i) := by
  unfold swapN; split
  · omega
  · split
    · omega
    · exact Iff.rfl
theorem swapN_low {a b i k : Nat} (ha : k < a) (hb : k < b) : (swapN a b i = k ↔ i = k) := by
  unfold swapN; split
  · omega
  · split
    · omega
    · exact Iff.rfl
def swapT (a b : Nat) : Tab := fun i j => idT (swapN a b i) j
theorem swapT_mul {n a b : Nat} {t : Tab} {i j : Nat} (ha : a < n) (hb : b < n) (hi : i < n) : mulT n (swapT a b) t i j = t (swapN a b i) j :=
  id_mulT (a := t) (i := swapN a b i) (swapN_lt ha hb hi)
theorem swapT_inv {n a b : Nat} (ha : a < n) (hb : b < n) : InvT n (swapT a b) (swapT a b) := by
  have h : EqT n n (mulT n (swapT a b) (swapT a b)) idT := fun i hi j _ => by
    rw [swapT_mul ha hb hi]
    show idT (swapN a b (swapN a b i)) j = _
    rw [swapN_twice]
  exact ⟨h, h⟩
theorem Reach.swap {n wd a b : Nat} {m t : Tab} (h : Reach n wd m t) (ha : a < n) (hb : b < n) : Reach n wd m (fun i j => t (swapN a b i) j) :=
  h.step (swapT_inv ha hb) fun _ hi _ _ => (swapT_mul ha hb hi).symm

/-- row a multiplied by c. -/
def scaleT (a : Nat) (c : F) : Tab := fun i j => if i = j then (if i = a then c else 1) else 0
theorem scaleT_mul {n a : Nat} {c : F} {t : Tab} {i j : Nat} (hi : i < n) : mulT n (scaleT a c) t i j = if i = a then c * t i j else t i j := by
  show fsum n _ = _
  rw [fsum_one hi fun k _ hne => by rw [scaleT, if_neg (fun e => hne e.symm), zero_mul], scaleT, if_pos rfl]
  by_cases e : i = a
  · rw [if_pos e, if_pos e]
  · rw [if_neg e, if_neg e, one_mul]
theorem scaleT_inv {n a : Nat} {c : F} (hc : c ≠ 0) : InvT n (scaleT a c) (scaleT a c.inv) := by
  have half : ∀ x y : F, x * y = 1 → EqT n n (mulT n (scaleT a x) (scaleT a y)) idT := fun x y h i hi j _ => by
    rw [scaleT_mul hi]
    unfold scaleT idT
    by_cases e : i = j
    · rw [if_pos e, if_pos e]
      by_cases e' : i = a
      · rw [if_pos e', if_pos e', h]
      · rw [if_neg e', if_neg e']
    · rw [if_neg e, if_neg e]
      by_cases e' : i = a
      · rw [if_pos e', mul_zero]
      · rw [if_neg e']
  exact ⟨half _ _ (mul_inv hc), half _ _ (inv_mul hc)⟩
theorem Reach.scale {n wd a : Nat} {c : F} {m t : Tab} (h : Reach n wd m t) (hc : c ≠ 0) : Reach n wd m (fun i j => if i = a then c * t i j else t i j) :=
  h.step (scaleT_inv (a := a) hc) fun _ hi _ _ => (scaleT_mul hi).symm

/-- to each row i but a, c i times row a added. -/
def addT (a : Nat) (c : Nat → F) : Tab := fun i j => idT i j + (if j = a then (if i = a then 0 else c i) else 0)
theorem addT_mul {n a : Nat} {c : Nat → F} {t : Tab} {i j : Nat} (ha : a < n) (hi : i < n) : mulT n (addT a c) t i j = if i = a then t i j else t i j + c i * t a j := by
  have e : mulT n (addT a c) t i j = mulT n idT t i j + mulT n (fun i j => if j = a then (if i = a then 0 else c i) else 0) t i j := by
    show fsum n _ = fsum n _ + fsum n _
    rw [← fsum_add]
    exact fsum_congr fun k _ => by rw [addT, add_mul]
  rw [e, id_mulT hi]
  show _ + fsum n _ = _
  rw [fsum_one ha fun k _ hne => by dsimp only; rw [if_neg hne, zero_mul]]
  dsimp only
  rw [if_pos rfl]
  by_cases h : i = a
  · rw [if_pos h, if_pos h, zero_mul, add_zero]
  · rw [if_neg h, if_neg h]
theorem addT_inv {n a : Nat} {c : Nat → F} (ha : a < n) : InvT n (addT a c) (addT a c) := by
  have h : EqT n n (mulT n (addT a c) (addT a c)) idT := fun i hi j _ => by
    rw [addT_mul ha hi]
    unfold addT
    by_cases e : i = a
    · rw [if_pos e]
      rw [if_pos e]
      by_cases e' : j = a
      · rw [if_pos e', add_zero]
      · rw [if_neg e', add_zero]
    · rw [if_neg e, if_neg e, if_pos rfl]
      by_cases e' : j = a
      · rw [if_pos e', if_pos e', add_zero]
        subst e'
        have h1 : idT j j = 1 := if_pos rfl
        rw [h1, mul_one, add_assoc, add_self, add_zero]
      · rw [if_neg e', if_neg e', add_zero, add_zero]
        have h1 : idT a j = 0 := if_neg (fun q => e' q.symm)
        rw [h1, mul_zero, add_zero]
  exact ⟨h, h⟩
theorem Reach.add {n wd a : Nat} {c : Nat → F} {m t : Tab} (h : Reach n wd m t) (ha : a < n) : Reach n wd m (fun i j => if i = a then t i j else t i j + c i * t a j) :=
  h.step (addT_inv (c := c) ha) fun _ hi _ _ => (addT_mul ha hi).symm

/-! ### pivots -/
/-- the first 'at' rows have their pivots at the places c, below jm; the others have nothing but 0 below jm. -/
structure Piv (n jm at_ : Nat) (c : Nat → Nat) (t : Tab) : Prop where
  rows : at_ ≤ n
  below : ∀ k, k < at_ → c k < jm
  unit : ∀ k, k < at_ → ∀ i, i < n → t i (c k) = idT i k
  rest : ∀ i, at_ ≤ i → i < n → ∀ j, j < jm → t i j = 0
  least : at_ ≤ jm
  full : at_ = jm → ∀ k, k < at_ → c k = k
theorem Piv.start (n : Nat) (c : Nat → Nat) (t : Tab) : Piv n 0 0 c t :=
  ⟨Nat.zero_le _, fun _ h => absurd h (by omega), fun _ h => absurd h (by omega), fun _ _ _ _ h => absurd h (by omega), Nat.le_refl _, fun _ _ h => absurd h (by omega)⟩
theorem Piv.congr {n jm at_ wd : Nat} {c : Nat → Nat} {t t' : Tab} (h : Piv n jm at_ c t) (hj : jm ≤ wd) (e : EqT n wd t t') : Piv n jm at_ c t' :=
  ⟨h.rows, h.below, fun k hk i hi => by rw [← e i hi _ (by have := h.below k hk; omega)]; exact h.unit k hk i hi, fun i ha hi j hjj => by rw [← e i hi j (by omega)]; exact h.rest i ha hi j hjj, h.least, h.full⟩
/-- no row from 'at' on has anything at place j. -/
theorem Piv.skip {n j at_ : Nat} {c : Nat → Nat} {t : Tab} (h : Piv n j at_ c t) (h0 : ∀ i, at_ ≤ i → i < n → t i j = 0) : Piv n (j + 1) at_ c t :=
  ⟨h.rows, fun k hk => Nat.lt_succ_of_lt (h.below k hk), h.unit, fun i ha hi j' hj => by
    by_cases e : j' = j
    · subst e; exact h0 i ha hi
    · exact h.rest i ha hi j' (by omega), Nat.le_succ_of_le h.least, fun e => absurd e (by have := h.least; omega)⟩
/-- all rows have their pivots: whatever stands behind does not count. -/
theorem Piv.stop {n j : Nat} {c : Nat → Nat} {t : Tab} (h : Piv n j n c t) {jm : Nat} (hj : j ≤ jm) : Piv n jm n c t :=
  ⟨h.rows, fun k hk => Nat.lt_of_lt_of_le (h.below k hk) hj, h.unit, fun i ha hi => absurd hi (by omega), Nat.le_trans h.least hj, fun e => h.full (by have := h.least; omega)⟩
/-- the table behind one pivot's step: row p goes to 'at', is made 1 at place j, and is taken from all others. -/
def pivT (at_ p j : Nat) (t : Tab) : Tab := fun i l =>
  if i = at_ then (t p j).inv * t p l else t (swapN at_ p i) l + t (swapN at_ p i) j * ((t p j).inv * t p l)
theorem Piv.step {n j at_ p : Nat} {c : Nat → Nat} {t : Tab} (h : Piv n j at_ c t) (hp : at_ ≤ p) (hpn : p < n) (hne : t p j ≠ 0) :
    Piv n (j + 1) (at_ + 1) (fun k => if k = at_ then j else c k) (pivT at_ p j t) := by
  have hs : ∀ i, i < n → swapN at_ p i < n := fun i hi => swapN_lt (by omega) hpn hi
  have h0 : ∀ k, k < at_ → t p (c k) = 0 := fun k hk => by rw [h.unit k hk p hpn, idT, if_neg (by omega)]
  refine ⟨by omega, fun k hk => ?_, fun k hk i hi => ?_, fun i ha hi j' hj => ?_, by have := h.least; omega, fun e k hk => ?_⟩
  · by_cases e : k = at_
    · rw [if_pos e]; omega
    · rw [if_neg e]; exact Nat.lt_succ_of_lt (h.below k (by omega))
  · unfold pivT
    by_cases e : k = at_
    · subst e
      rw [if_pos rfl]
      by_cases e' : i = k
      · subst e'; rw [if_pos rfl, idT, if_pos rfl, inv_mul hne]
      · rw [if_neg e', inv_mul hne, mul_one, add_self, idT, if_neg e']
    · rw [if_neg e]
      have hk' : k < at_ := by omega
      rw [h0 k hk', mul_zero]
      by_cases e' : i = at_
      · rw [if_pos e', idT, if_neg (by omega)]
      · rw [if_neg e', mul_zero, add_zero, h.unit k hk' _ (hs i hi)]
        unfold idT
        by_cases e2 : i = k
        · rw [if_pos e2, if_pos ((swapN_low hk' (by omega)).2 e2)]
        · rw [if_neg e2, if_neg (fun q => e2 ((swapN_low hk' (by omega)).1 q))]
  · unfold pivT
    rw [if_neg (by omega)]
    by_cases e : j' = j
    · subst e; rw [inv_mul hne, mul_one, add_self]
    · have hj' : j' < j := by omega
      have h1 := h.rest (swapN at_ p i) ((swapN_ge (Nat.le_refl _) hp).2 (by omega)) (hs i hi) j' hj'
      rw [h1, h.rest p hp hpn j' hj', mul_zero, mul_zero, add_zero]
  · have hf := h.full (by omega)
    show (if k = at_ then j else c k) = k
    by_cases e' : k = at_
    · rw [if_pos e']; omega
    · rw [if_neg e']; exact hf k (by omega)
theorem Reach.piv {n wd j at_ p : Nat} {m t : Tab} (h : Reach n wd m t) (ha : at_ < n) (hpn : p < n) : Reach n wd m (pivT at_ p j t) := by
  have h1 := h.swap ha hpn
  have h2 := h1.scale (a := at_) (inv_ne (t p j))
  have h3 := h2.add (a := at_) (c := fun i => t (swapN at_ p i) j) ha
  refine h3.congr fun i _ l _ => ?_
  have hs : swapN at_ p at_ = p := if_pos rfl
  unfold pivT
  dsimp only
  by_cases e : i = at_
  · subst e; rw [if_pos rfl, if_pos rfl, if_pos rfl, hs]
  · rw [if_neg e, if_neg e, if_neg e, if_pos rfl, hs]
/-- the pivots' number is the rank. -/
theorem Piv.rank {n wd at_ : Nat} {c : Nat → Nat} {m t : Tab} (h : Piv n wd at_ c t) (g : Reach n wd m t) : RankT n wd m at_ := by
  obtain ⟨p, q, hpq, ht⟩ := g
  refine ⟨⟨q, t, fun i hi j hj => ?_⟩, fun s hs => hs.least (p := p) (c := c) h.below (fun i hi k hk => ?_)⟩
  · have e1 : m i j = mulT n q t i j := by
      have e2 : mulT n q t i j = mulT n q (mulT n p m) i j := mulT_congr (fun _ _ => rfl) (fun k hk => ht k hk j hj)
      rw [e2, ← mulT_assoc, ← id_mulT (a := m) (j := j) hi]
      exact mulT_congr (fun k hk => (hpq.2 i hi k hk).symm) (fun _ _ => rfl)
    rw [e1]
    exact fsum_cut h.rows fun k hk hkn => by rw [h.rest k hk hkn j hj, mul_zero]
  · rw [← ht i (Nat.lt_of_lt_of_le hi h.rows) (c k) (h.below k hk)]
    exact h.unit k hk i (Nat.lt_of_lt_of_le hi h.rows)
/-- m, with an identity behind it. -/
def wideT (n : Nat) (m : Tab) : Tab := fun i j => if j < n then m i j else idT i (j - n)
/-- all rows of m, with the identity behind, have pivots among m's places: what stands behind is m's inverse. -/
theorem Piv.inverse {n : Nat} {c : Nat → Nat} {m t : Tab} (h : Piv n n n c t) (g : Reach n (n + n) (wideT n m) t) : InvT n (fun i j => t i (n + j)) m := by
  obtain ⟨p, q, hpq, ht⟩ := g
  have hx : EqT n n p (fun i j => t i (n + j)) := fun i hi j hj => by
    show _ = t i (n + j)
    rw [ht i hi (n + j) (by omega), ← mulT_id (a := p) (i := i) hj]
    refine fsum_congr fun k _ => ?_
    show _ = p i k * wideT n m k (n + j)
    rw [wideT, if_neg (by omega), Nat.add_sub_cancel_left]
  have hm : EqT n n (mulT n p m) idT := fun i hi j hj => by
    have e := ht i hi j (by omega)
    have e2 : mulT n p (wideT n m) i j = mulT n p m i j := mulT_congr (fun _ _ => rfl) fun k _ => by unfold wideT; rw [if_pos hj]
    rw [e2] at e
    rw [← e]
    have hc := h.full rfl j hj
    have hu := h.unit j hj i hi
    rw [hc] at hu
    exact hu
  exact hpq.congr hx (hpq.only' hm).symm
theorem Reach.left {n : Nat} {m t : Tab} (g : Reach n (n + n) (wideT n m) t) : Reach n n m t :=
  (g.less (by omega)).from_ fun _ _ j hj => by unfold wideT; rw [if_pos hj]
end Go.Proofs.YtooegclblgeicaaGreatDoor

/- Plain lemmas on tables as lists of lists of numbers: made by a function, read as tables over the field. No condition beyond those that each lemma names. -/
namespace Go.Proofs.YtooegclblgeicaaGreatDoor

theorem rw_past (t : List (List Nat)) (r : Nat) (h : t.length ≤ r) : rw_ t r = [] := by
  unfold rw_
  rw [List.getD_eq_getElem?_getD, List.getElem?_eq_none h]; rfl
theorem ext_rows {t t' : List (List Nat)} {n : Nat} (h1 : t.length = n) (h2 : t'.length = n) (h : ∀ j, j < n → rw_ t j = rw_ t' j) : t = t' := by
  apply List.ext_getElem
  · rw [h1, h2]
  · intro j hj hj'
    have := h j (by omega)
    unfold rw_ at this
    rw [List.getD_eq_getElem?_getD, List.getD_eq_getElem?_getD, List.getElem?_eq_getElem hj, List.getElem?_eq_getElem hj'] at this
    exact this
/-- the rows f 0 .. f (n - 1). -/
def mkR (n : Nat) (f : Nat → List Nat) : List (List Nat) := (List.range n).map f
theorem mkR_len (n : Nat) (f : Nat → List Nat) : (mkR n f).length = n := by unfold mkR; rw [List.length_map, List.length_range]
theorem mkR_at (n : Nat) (f : Nat → List Nat) (j : Nat) (h : j < n) : rw_ (mkR n f) j = f j := by
  unfold mkR rw_
  rw [List.getD_eq_getElem?_getD, List.getElem?_map, List.getElem?_range h]; rfl
theorem mkR_succ (n : Nat) (f : Nat → List Nat) : mkR n f ++ [f n] = mkR (n + 1) f := by
  unfold mkR
  rw [List.range_succ, List.map_append]; rfl
theorem eq_mkR {t : List (List Nat)} {n : Nat} {f : Nat → List Nat} (h1 : t.length = n) (h : ∀ j, j < n → rw_ t j = f j) : t = mkR n f :=
  ext_rows h1 (mkR_len n f) fun j hj => by rw [mkR_at n f j hj]; exact h j hj
/-- the first k rows are f's. -/
def UptoT (n k : Nat) (f : Nat → List Nat) (t : List (List Nat)) : Prop := t.length = n ∧ ∀ r, r < k → rw_ t r = f r
theorem UptoT.start {n : Nat} {f : Nat → List Nat} {t : List (List Nat)} (h : t.length = n) : UptoT n 0 f t := ⟨h, fun _ h => absurd h (by omega)⟩
theorem UptoT.next {n k : Nat} {f : Nat → List Nat} {t : List (List Nat)} (h : UptoT n k f t) (hk : k < n) : UptoT n (k + 1) f (t.set k (f k)) := by
  refine ⟨by rw [List.length_set]; exact h.1, fun r hr => ?_⟩
  rw [rw_set _ _ _ _ (by rw [h.1]; exact hk)]
  by_cases e : k = r
  · rw [if_pos e, e]
  · rw [if_neg e]; exact h.2 r (by omega)
theorem UptoT.done {n : Nat} {f : Nat → List Nat} {t : List (List Nat)} (h : UptoT n n f t) : t = mkR n f := eq_mkR h.1 h.2

/-- n rows of m numbers below 256. -/
structure Good (n m : Nat) (t : List (List Nat)) : Prop where
  len : t.length = n
  row : ∀ r, r < n → (rw_ t r).length = m
  lt : ∀ r, r < n → ∀ j, (rw_ t r).getD j 0 < 256
/-- a table over the field. -/
def tabT (t : List (List Nat)) : Tab := fun i j => F.of ((rw_ t i).getD j 0)
theorem Good.ext {n m : Nat} {t t' : List (List Nat)} (h : Good n m t) (g : Good n m t') (e : EqT n m (tabT t) (tabT t')) : t = t' :=
  ext_rows h.len g.len fun r hr => ext_at (h.row r hr) (g.row r hr) fun j hj => F.of_inj (h.lt r hr j) (g.lt r hr j) (e r hr j hj)
theorem good_mk {n m : Nat} {f : Nat → Nat → Nat} (h : ∀ i j, f i j < 256) : Good n m (mkR n fun i => mk m (f i)) :=
  ⟨mkR_len _ _, fun r hr => by rw [mkR_at _ _ _ hr, mk_len], fun r hr j => by rw [mkR_at _ _ _ hr]; exact mk_lt m _ (h r) j⟩
theorem tab_mk {n m : Nat} {f : Nat → Nat → Nat} {i j : Nat} (hi : i < n) (hj : j < m) : tabT (mkR n fun i => mk m (f i)) i j = F.of (f i j) := by
  unfold tabT
  rw [mkR_at _ _ _ hi, mk_at _ _ _ hj]
theorem Good.set {n m : Nat} {t : List (List Nat)} (h : Good n m t) {k : Nat} {x : List Nat} (hk : k < n) (hx : x.length = m) (hl : ∀ j, x.getD j 0 < 256) : Good n m (t.set k x) := by
  refine ⟨by rw [List.length_set, h.len], fun r hr => ?_, fun r hr j => ?_⟩ <;> rw [rw_set _ _ _ _ (by rw [h.len]; exact hk)] <;> split
  · exact hx
  · exact h.row r hr
  · exact hl j
  · exact h.lt r hr j
theorem chk_dims {t : List (List Nat)} (h : chk t = 0) : ∃ n m, t.length = n ∧ 1 ≤ n ∧ n ≤ 255 ∧ 1 ≤ m ∧ m ≤ 255 ∧ (rw_ t 0).length = m ∧ ∀ r, r < n → (rw_ t r).length = m := by
  obtain ⟨h1, h2, h3⟩ := chk_zero h
  exact ⟨_, _, rfl, h1.1, h1.2, h2.1, h2.2, rfl, h3⟩
theorem Good.chk {n m : Nat} {t : List (List Nat)} (h : Good n m t) (h1 : 1 ≤ n) (h2 : n ≤ 255) (h3 : 1 ≤ m) (h4 : m ≤ 255) : chk t = 0 :=
  chk_ok ⟨⟨by rw [h.len]; exact h1, by rw [h.len]; exact h2⟩, ⟨by rw [h.row 0 (by omega)]; exact h3, by rw [h.row 0 (by omega)]; exact h4⟩⟩ (fun r hr => by rw [h.len] at hr; rw [h.row r hr, h.row 0 (by omega)])

/-! ### identities -/
def unitN (i j : Nat) : Nat := if i = j then 1 else 0
def idL (n : Nat) : List (List Nat) := mkR n fun i => mk n (unitN i)
theorem unitN_lt (i j : Nat) : unitN i j < 256 := by unfold unitN; split <;> decide
theorem idL_good (n : Nat) : Good n n (idL n) := good_mk fun i j => unitN_lt i j
theorem tab_idL (n : Nat) : EqT n n (tabT (idL n)) idT := fun i hi j hj => by
  unfold idL
  rw [tab_mk hi hj]
  unfold unitN idT
  split <;> rfl
/-- zeros but for a 1 at place i. -/
theorem unit_of (n i : Nat) (hi : i < n) : (List.replicate n 0).set i 1 = mk n (unitN i) :=
  eq_mk (by rw [List.length_set, List.length_replicate]) fun j hj => by
    rw [set_at _ _ _ _ (by rw [List.length_replicate]; exact hi), rep_at]
    rfl

/-! ### products -/
/-- column j of a table's first k rows. -/
def colL (k : Nat) (b : List (List Nat)) (j : Nat) : List Nat := mk k fun r => (rw_ b r).getD j 0
def mulL (n k m : Nat) (a b : List (List Nat)) : List (List Nat) := mkR n fun i => mk m fun j => dotN k (rw_ a i) (colL k b j)
theorem mulL_good {n k m : Nat} {a b : List (List Nat)} (ha : Good n k a) : Good n m (mulL n k m a b) := by
  have hl : ∀ i, i < n → ∀ j, (mk m fun j => dotN k (rw_ a i) (colL k b j)).getD j 0 < 256 := fun i hi => mk_lt m _ fun j => dotN_lt k _ _ (ha.lt i hi)
  exact ⟨mkR_len _ _, fun r hr => by unfold mulL; rw [mkR_at _ _ _ hr, mk_len], fun r hr j => by unfold mulL; rw [mkR_at _ _ _ hr]; exact hl r hr j⟩
theorem of_dot (k : Nat) (a b : List Nat) (ha : ∀ j, a.getD j 0 < 256) (hb : ∀ j, j < k → b.getD j 0 < 256) : F.of (dotN k a b) = fsum k fun l => F.of (a.getD l 0) * F.of (b.getD l 0) := by
  induction k with
  | zero => rfl
  | succ k ih =>
    rw [dotN_succ, fsum_succ, F.of_xor (dotN_lt k a b ha) (gmul_lt _ (ha k)), ih fun j hj => hb j (by omega), F.of_gmul (ha k) (hb k (by omega))]
theorem tab_mulL {n k m : Nat} {a b : List (List Nat)} (ha : Good n k a) (hb : Good k m b) : EqT n m (tabT (mulL n k m a b)) (mulT k (tabT a) (tabT b)) := fun i hi j hj => by
  unfold mulL
  have e := tab_mk (n := n) (m := m) (f := fun i j => dotN k (rw_ a i) (colL k b j)) hi hj
  rw [e, of_dot k _ _ (ha.lt i hi) fun l hl => by unfold colL; rw [mk_at _ _ _ hl]; exact hb.lt l hl j]
  exact fsum_congr fun l hl => by unfold colL; rw [mk_at _ _ _ hl]; rfl
end Go.Proofs.YtooegclblgeicaaGreatDoor

/- Proved: what the document's Check, its Same and the law's few answer for every table. Conditions: those that the theorems name. -/
namespace Go.Proofs.YtooegclblgeicaaGreatDoor
open Go.ChangeShapes Go.WideShapes Go.ChangeAt Go.RowKit

theorem Bs.drewN {w : World} {A : Option Addr} {n : Nat} {l : List Nat} (h : Bs w A n l) (q : Nat) : Bs (w.drewN q) A n l := h.below (below_drawn ⟨q, rfl⟩)
theorem Rows.drewN {w : World} {A : Option Addr} {n : Nat} {t : List (List Nat)} (h : Rows w A n t) (q : Nat) : Rows (w.drewN q) A n t := h.below (below_drawn ⟨q, rfl⟩)

set_option maxRecDepth 100000 in
set_option maxHeartbeats 800000 in
theorem rcheck_arg (A : Option Addr) (n c : Nat) (t : List (List Nat)) (w : World) (ht : Rows w A n t) (h : ¬ (Fit t.length ∧ Fit (rw_ t 0).length)) :
    Calls Tryz.prog 30 #[.slice A n c] w fun e w' => e = .returned (.int .i64 1) ∧ w = w' := by
  have HT := Lib.hid ht
  have HN := Lib.hid ht.len
  have HH := Lib.hid h
  clear ht h
  by_cases h1 : (n : Int) < 1
  · go_enter Tryz.func30, Tryz.ntmps30
    go_wp2_with fail
    go_ret
    exact ⟨rfl, rfl⟩
  · by_cases h2 : (n : Int) > 255
    · go_enter Tryz.func30, Tryz.ntmps30
      go_wp2_with fail
      go_ret
      exact ⟨rfl, rfl⟩
    · obtain ⟨ad, B, d, rfl, _, hc, _⟩ := HT.out.at_ (k := 0) (by omega)
      have e0 : ad.add 0 = ad := Addr.add_zero' ad
      rw [e0] at hc
      have H2 : Hid (¬ ((1 : Int) ≤ ((rw_ t 0).length : Int) ∧ ((rw_ t 0).length : Int) ≤ 255)) := Lib.hid (by
        have := HH.out
        rw [HN.out] at this
        unfold Fit at this
        omega)
      generalize (rw_ t 0).length = m at *
      have hn : 0 < n := by omega
      by_cases h3 : (m : Int) < 1
      · go_enter Tryz.func30, Tryz.ntmps30
        go_wp2_with fail
        go_ret
        exact ⟨rfl, rfl⟩
      · have h4 : (m : Int) > 255 := by have := H2.out; omega
        go_enter Tryz.func30, Tryz.ntmps30
        go_wp2_with fail
        go_ret
        exact ⟨rfl, rfl⟩

set_option maxRecDepth 100000 in
set_option maxHeartbeats 800000 in
theorem rcheck_fit (A : Option Addr) (n c : Nat) (t : List (List Nat)) (w : World) (ht : Rows w A n t) (h : Fit t.length ∧ Fit (rw_ t 0).length) :
    Calls Tryz.prog 30 #[.slice A n c] w fun e w' => e = .returned (.int .i64 (chk t : Nat)) ∧ ∃ m, w' = w.drewN m := by
  have HF : Hid (Fit t.length ∧ Fit (rw_ t 0).length) := Lib.hid h
  have HT := Lib.hid ht
  have HN := Lib.hid ht.len
  obtain ⟨⟨h1, h2⟩, h3, h4⟩ := h
  rw [ht.len] at h1 h2
  clear ht
  obtain ⟨ad, B, d, rfl, _, hc, _⟩ := HT.out.at_ (k := 0) (by omega)
  have e0 : ad.add 0 = ad := Addr.add_zero' ad
  rw [e0] at hc
  have EV : Hid (Even t ↔ ∀ r, r < n → (rw_ t r).length = (rw_ t 0).length) := Lib.hid (by unfold Even; rw [HN.out])
  generalize hm : (rw_ t 0).length = m at h3 h4 hc EV
  have HM := Lib.hid hm
  clear hm
  have h1' : ¬ (n : Int) < 1 := by omega
  have h2' : ¬ (n : Int) > 255 := by omega
  have h3' : ¬ (m : Int) < 1 := by omega
  have h4' : ¬ (m : Int) > 255 := by omega
  have hn : 0 < n := by omega
  go_enter Tryz.func30, Tryz.ntmps30
  go_wp2_with fail
  go_loopw [3] (fun i wr => ∃ k q : Nat, k ≤ n ∧ i = .int .i64 k ∧ (∀ r, r < k → (rw_ t r).length = m) ∧ wr = w.drewN q) (fun i _ => n - (intOf i).toNat)
  case atStart => exact ⟨0, 0, by omega, rfl, fun _ h => absurd h (by omega), rfl⟩
  case round =>
    obtain ⟨k, q, hk, rfl, hev, rfl⟩ := hrel
    have HV := Lib.hid hev
    clear hev
    by_cases hlt : k < n
    · obtain ⟨ad', B', d', e', _, hc', _⟩ := HT.out.at_ hlt
      injection e' with e'
      subst e'
      have hlt' : (k : Int) < (n : Int) := by omega
      have hk0 : (0 : Int) ≤ (k : Int) := Int.natCast_nonneg _
      have hn' : (0 : Int) < (n : Int) := by omega
      by_cases hl : (rw_ t k).length = m
      · rw [hl] at hc'
        have HL := Lib.hid hl
        clear hl
        go_wp2_with fail
        go_quiet (fail)
        go_wp2_with fail
        go_roundw
        case rel => exact ⟨k + 1, _, by omega, by go_num, fun r hr => by
          by_cases e : r = k
          · rw [e]; exact HL.out
          · exact HV.out r (by omega), by first | rfl | rw [World.drewN_drewN]⟩
        case measure => simp [intOf]; omega
      · have hne : (((rw_ t k).length : Int) != (m : Int)) = true := by simp; omega
        have hnf : chk t = 16 := chk_unlike HF.out (fun q => hl (EV.out.1 q k hlt))
        have HF' := Lib.hid hnf
        clear hnf hl
        generalize (rw_ t k).length = q at *
        go_wp2_with fail
        go_quiet (fail)
        go_wp2_with fail
        go_ret
        exact ⟨by rw [HF'.out]; rfl, _, by first | rfl | rw [World.drewN_drewN]⟩
    · obtain rfl : k = n := by omega
      have hyes : chk t = 0 := chk_ok HF.out (EV.out.2 HV.out)
      have HF' := Lib.hid hyes
      clear hyes
      go_wp2_with fail
      go_ret
      exact ⟨by rw [HF'.out]; rfl, _, rfl⟩
theorem rcheck_any (A : Option Addr) (n c : Nat) (t : List (List Nat)) (w : World) (ht : Rows w A n t) :
    Calls Tryz.prog 30 #[.slice A n c] w fun e w' => e = .returned (.int .i64 (chk t : Nat)) ∧ ∃ m, w' = w.drewN m := by
  by_cases h : Fit t.length ∧ Fit (rw_ t 0).length
  · exact rcheck_fit A n c t w ht h
  · rw [chk_arg h]; exact (rcheck_arg A n c t w ht h).mono fun _ _ h => ⟨h.1, 0, h.2.symm⟩

/-- is a table not too great? -/
def Few (t : List (List Nat)) (m : Nat) : Prop := t.length ≤ m ∧ ∀ r, r < t.length → (rw_ t r).length ≤ m
instance (t : List (List Nat)) (m : Nat) : Decidable (Few t m) := by unfold Few; infer_instance
end Go.Proofs.YtooegclblgeicaaGreatDoor

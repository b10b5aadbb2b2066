/- Plain lemmas on tables as lists of lists of numbers: made by a function, read as tables over the field. No condition beyond those that each lemma names. -/
import Derived.Test.YtfndnlfinoeamaaMatCheck
import Derived.Test.YtfndnlfinoeamaaLinElim
namespace Go.Proofs.Ytfndnlfinoeamaa

theorem rw_past (t : List (List Nat)) (r : Nat) (h : t.length ≤ r) : rw_ t r = [] := by
  unfold rw_
  rw [List.getD_eq_getElem?_getD, List.getElem?_eq_none h]; rfl
theorem ext_rows {t t' : List (List Nat)} {n : Nat} (h1 : t.length = n) (h2 : t'.length = n) (h : ∀ j, j < n → rw_ t j = rw_ t' j) : t = t' := by
  apply List.ext_getElem
  · rw [h1, h2]
  · intro j hj hj'
    have := h j (by omega)
    unfold rw_ at this
    rw [List.getD_eq_getElem?_getD, List.getD_eq_getElem?_getD, List.getElem?_eq_getElem hj, List.getElem?_eq_getElem hj'] at this
    exact this
/-- the rows f 0 .. f (n - 1). -/
def mkR (n : Nat) (f : Nat → List Nat) : List (List Nat) := (List.range n).map f
theorem mkR_len (n : Nat) (f : Nat → List Nat) : (mkR n f).length = n := by unfold mkR; rw [List.length_map, List.length_range]
theorem mkR_at (n : Nat) (f : Nat → List Nat) (j : Nat) (h : j < n) : rw_ (mkR n f) j = f j := by
  unfold mkR rw_
  rw [List.getD_eq_getElem?_getD, List.getElem?_map, List.getElem?_range h]; rfl
theorem mkR_succ (n : Nat) (f : Nat → List Nat) : mkR n f ++ [f n] = mkR (n + 1) f := by
  unfold mkR
  rw [List.range_succ, List.map_append]; rfl
theorem eq_mkR {t : List (List Nat)} {n : Nat} {f : Nat → List Nat} (h1 : t.length = n) (h : ∀ j, j < n → rw_ t j = f j) : t = mkR n f :=
  ext_rows h1 (mkR_len n f) fun j hj => by rw [mkR_at n f j hj]; exact h j hj
/-- the first k rows are f's. -/
def UptoT (n k : Nat) (f : Nat → List Nat) (t : List (List Nat)) : Prop := t.length = n ∧ ∀ r, r < k → rw_ t r = f r
theorem UptoT.start {n : Nat} {f : Nat → List Nat} {t : List (List Nat)} (h : t.length = n) : UptoT n 0 f t := ⟨h, fun _ h => absurd h (by omega)⟩
theorem UptoT.next {n k : Nat} {f : Nat → List Nat} {t : List (List Nat)} (h : UptoT n k f t) (hk : k < n) : UptoT n (k + 1) f (t.set k (f k)) := by
  refine ⟨by rw [List.length_set]; exact h.1, fun r hr => ?_⟩
  rw [rw_set _ _ _ _ (by rw [h.1]; exact hk)]
  by_cases e : k = r
  · rw [if_pos e, e]
  · rw [if_neg e]; exact h.2 r (by omega)
theorem UptoT.done {n : Nat} {f : Nat → List Nat} {t : List (List Nat)} (h : UptoT n n f t) : t = mkR n f := eq_mkR h.1 h.2

/-- n rows of m numbers below 256. -/
structure Good (n m : Nat) (t : List (List Nat)) : Prop where
  len : t.length = n
  row : ∀ r, r < n → (rw_ t r).length = m
  lt : ∀ r, r < n → ∀ j, (rw_ t r).getD j 0 < 256
/-- a table over the field. -/
def tabT (t : List (List Nat)) : Tab := fun i j => F.of ((rw_ t i).getD j 0)
theorem Good.ext {n m : Nat} {t t' : List (List Nat)} (h : Good n m t) (g : Good n m t') (e : EqT n m (tabT t) (tabT t')) : t = t' :=
  ext_rows h.len g.len fun r hr => ext_at (h.row r hr) (g.row r hr) fun j hj => F.of_inj (h.lt r hr j) (g.lt r hr j) (e r hr j hj)
theorem good_mk {n m : Nat} {f : Nat → Nat → Nat} (h : ∀ i j, f i j < 256) : Good n m (mkR n fun i => mk m (f i)) :=
  ⟨mkR_len _ _, fun r hr => by rw [mkR_at _ _ _ hr, mk_len], fun r hr j => by rw [mkR_at _ _ _ hr]; exact mk_lt m _ (h r) j⟩
theorem tab_mk {n m : Nat} {f : Nat → Nat → Nat} {i j : Nat} (hi : i < n) (hj : j < m) : tabT (mkR n fun i => mk m (f i)) i j = F.of (f i j) := by
  unfold tabT
  rw [mkR_at _ _ _ hi, mk_at _ _ _ hj]
theorem Good.set {n m : Nat} {t : List (List Nat)} (h : Good n m t) {k : Nat} {x : List Nat} (hk : k < n) (hx : x.length = m) (hl : ∀ j, x.getD j 0 < 256) : Good n m (t.set k x) := by
  refine ⟨by rw [List.length_set, h.len], fun r hr => ?_, fun r hr j => ?_⟩ <;> rw [rw_set _ _ _ _ (by rw [h.len]; exact hk)] <;> split
  · exact hx
  · exact h.row r hr
  · exact hl j
  · exact h.lt r hr j
theorem chk_dims {t : List (List Nat)} (h : chk t = 0) : ∃ n m, t.length = n ∧ 1 ≤ n ∧ n ≤ 255 ∧ 1 ≤ m ∧ m ≤ 255 ∧ (rw_ t 0).length = m ∧ ∀ r, r < n → (rw_ t r).length = m := by
  obtain ⟨h1, h2, h3⟩ := chk_zero h
  exact ⟨_, _, rfl, h1.1, h1.2, h2.1, h2.2, rfl, h3⟩
theorem Good.chk {n m : Nat} {t : List (List Nat)} (h : Good n m t) (h1 : 1 ≤ n) (h2 : n ≤ 255) (h3 : 1 ≤ m) (h4 : m ≤ 255) : chk t = 0 :=
  chk_ok ⟨⟨by rw [h.len]; exact h1, by rw [h.len]; exact h2⟩, ⟨by rw [h.row 0 (by omega)]; exact h3, by rw [h.row 0 (by omega)]; exact h4⟩⟩ (fun r hr => by rw [h.len] at hr; rw [h.row r hr, h.row 0 (by omega)])

/-! ### identities -/
def unitN (i j : Nat) : Nat := if i = j then 1 else 0
def idL (n : Nat) : List (List Nat) := mkR n fun i => mk n (unitN i)
theorem unitN_lt (i j : Nat) : unitN i j < 256 := by unfold unitN; split <;> decide
theorem idL_good (n : Nat) : Good n n (idL n) := good_mk fun i j => unitN_lt i j
theorem tab_idL (n : Nat) : EqT n n (tabT (idL n)) idT := fun i hi j hj => by
  unfold idL
  rw [tab_mk hi hj]
  unfold unitN idT
  split <;> rfl
/-- zeros but for a 1 at place i. -/
theorem unit_of (n i : Nat) (hi : i < n) : (List.replicate n 0).set i 1 = mk n (unitN i) :=
  eq_mk (by rw [List.length_set, List.length_replicate]) fun j hj => by
    rw [set_at _ _ _ _ (by rw [List.length_replicate]; exact hi), rep_at]
    rfl

/-! ### products -/
/-- column j of a table's first k rows. -/
def colL (k : Nat) (b : List (List Nat)) (j : Nat) : List Nat := mk k fun r => (rw_ b r).getD j 0
def mulL (n k m : Nat) (a b : List (List Nat)) : List (List Nat) := mkR n fun i => mk m fun j => dotN k (rw_ a i) (colL k b j)
theorem mulL_good {n k m : Nat} {a b : List (List Nat)} (ha : Good n k a) : Good n m (mulL n k m a b) := by
  have hl : ∀ i, i < n → ∀ j, (mk m fun j => dotN k (rw_ a i) (colL k b j)).getD j 0 < 256 := fun i hi => mk_lt m _ fun j => dotN_lt k _ _ (ha.lt i hi)
  exact ⟨mkR_len _ _, fun r hr => by unfold mulL; rw [mkR_at _ _ _ hr, mk_len], fun r hr j => by unfold mulL; rw [mkR_at _ _ _ hr]; exact hl r hr j⟩
theorem of_dot (k : Nat) (a b : List Nat) (ha : ∀ j, a.getD j 0 < 256) (hb : ∀ j, j < k → b.getD j 0 < 256) : F.of (dotN k a b) = fsum k fun l => F.of (a.getD l 0) * F.of (b.getD l 0) := by
  induction k with
  | zero => rfl
  | succ k ih =>
    rw [dotN_succ, fsum_succ, F.of_xor (dotN_lt k a b ha) (gmul_lt _ (ha k)), ih fun j hj => hb j (by omega), F.of_gmul (ha k) (hb k (by omega))]
theorem tab_mulL {n k m : Nat} {a b : List (List Nat)} (ha : Good n k a) (hb : Good k m b) : EqT n m (tabT (mulL n k m a b)) (mulT k (tabT a) (tabT b)) := fun i hi j hj => by
  unfold mulL
  have e := tab_mk (n := n) (m := m) (f := fun i j => dotN k (rw_ a i) (colL k b j)) hi hj
  rw [e, of_dot k _ _ (ha.lt i hi) fun l hl => by unfold colL; rw [mk_at _ _ _ hl]; exact hb.lt l hl j]
  exact fsum_congr fun l hl => by unfold colL; rw [mk_at _ _ _ hl]; rfl
end Go.Proofs.Ytfndnlfinoeamaa

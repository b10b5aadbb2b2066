/- Plain lemmas on rows of bytes as lists of numbers: sums, multiples, products. No condition beyond those that each lemma names. -/
import Derived.Test.YtlfpfgkmghdpaaaVecMem
namespace Go.Proofs.Ytlfpfgkmghdpaaa

/-- the list of f 0 .. f (n - 1). -/
def mk (n : Nat) (f : Nat → Nat) : List Nat := (List.range n).map f
theorem mk_len (n : Nat) (f : Nat → Nat) : (mk n f).length = n := by unfold mk; rw [List.length_map, List.length_range]
theorem mk_at (n : Nat) (f : Nat → Nat) (j : Nat) (h : j < n) : (mk n f).getD j 0 = f j := by
  unfold mk
  rw [List.getD_eq_getElem?_getD, List.getElem?_map, List.getElem?_range h]; rfl
theorem getD_past (l : List Nat) (j : Nat) (h : l.length ≤ j) : l.getD j 0 = 0 := by
  rw [List.getD_eq_getElem?_getD, List.getElem?_eq_none h]; rfl
theorem mk_lt (n : Nat) (f : Nat → Nat) (h : ∀ j, f j < 256) (j : Nat) : (mk n f).getD j 0 < 256 := by
  rcases Nat.lt_or_ge j n with hj | hj
  · rw [mk_at n f j hj]; exact h j
  · rw [getD_past _ _ (by rw [mk_len]; exact hj)]; decide
theorem ext_at {l l' : List Nat} {n : Nat} (h1 : l.length = n) (h2 : l'.length = n) (h : ∀ j, j < n → l.getD j 0 = l'.getD j 0) : l = l' := by
  apply List.ext_getElem
  · rw [h1, h2]
  · intro j hj hj'
    have := h j (by omega)
    rw [List.getD_eq_getElem?_getD, List.getD_eq_getElem?_getD, List.getElem?_eq_getElem hj, List.getElem?_eq_getElem hj'] at this
    exact this
theorem eq_mk {l : List Nat} {n : Nat} {f : Nat → Nat} (h1 : l.length = n) (h : ∀ j, j < n → l.getD j 0 = f j) : l = mk n f :=
  ext_at h1 (mk_len n f) fun j hj => by rw [mk_at n f j hj]; exact h j hj
theorem xor_lt (a b : Nat) (ha : a < 256) (hb : b < 256) : a ^^^ b < 256 := Nat.xor_lt_two_pow (n := 8) ha hb

def addL (n : Nat) (a b : List Nat) : List Nat := mk n fun j => a.getD j 0 ^^^ b.getD j 0
def scaleL (n c : Nat) (v : List Nat) : List Nat := mk n fun j => gmul c (v.getD j 0)
def dotN : Nat → List Nat → List Nat → Nat
  | 0, _, _ => 0
  | k + 1, a, b => dotN k a b ^^^ gmul (a.getD k 0) (b.getD k 0)
theorem dotN_succ (k : Nat) (a b : List Nat) : dotN (k + 1) a b = dotN k a b ^^^ gmul (a.getD k 0) (b.getD k 0) := rfl
theorem dotN_lt (k : Nat) (a b : List Nat) (ha : ∀ j, a.getD j 0 < 256) : dotN k a b < 256 := by
  induction k with
  | zero => exact (by decide : 0 < 256)
  | succ k ih => exact xor_lt _ _ ih (gmul_lt _ (ha k))
theorem addL_lt (n : Nat) (a b : List Nat) (ha : ∀ j, a.getD j 0 < 256) (hb : ∀ j, b.getD j 0 < 256) : ∀ j, (addL n a b).getD j 0 < 256 :=
  mk_lt n _ fun j => xor_lt _ _ (ha j) (hb j)
theorem scaleL_lt (n c : Nat) (v : List Nat) (hc : c < 256) : ∀ j, (scaleL n c v).getD j 0 < 256 := mk_lt n _ fun _ => gmul_lt _ hc

/-- what is added twice is gone. -/
theorem addL_twice (n : Nat) (a b : List Nat) (ha : a.length = n) : addL n (addL n a b) b = a := by
  refine (eq_mk ha fun j hj => ?_).symm
  unfold addL
  rw [mk_at _ _ j hj, Nat.xor_assoc, Nat.xor_self, Nat.xor_zero]
theorem dot_scale_left (k n c : Nat) (a b : List Nat) (hk : k ≤ n) (hc : c < 256) (ha : ∀ j, a.getD j 0 < 256) (hb : ∀ j, b.getD j 0 < 256) :
    dotN k (scaleL n c a) b = gmul c (dotN k a b) := by
  induction k with
  | zero => exact (gmul_zero c hc).symm
  | succ k ih =>
    rw [dotN_succ, dotN_succ, gmul_xor, ih (by omega), ← gmul_assoc c _ _ hc (ha k) (hb k)]
    unfold scaleL
    rw [mk_at n _ k (by omega)]
theorem dot_scale_right (k n c : Nat) (a b : List Nat) (hk : k ≤ n) (hc : c < 256) (ha : ∀ j, a.getD j 0 < 256) (hb : ∀ j, b.getD j 0 < 256) :
    dotN k a (scaleL n c b) = gmul c (dotN k a b) := by
  induction k with
  | zero => exact (gmul_zero c hc).symm
  | succ k ih =>
    have e : gmul (a.getD k 0) (gmul c (b.getD k 0)) = gmul c (gmul (a.getD k 0) (b.getD k 0)) := by
      rw [← gmul_assoc _ c _ (ha k) hc (hb k), gmul_comm _ c (ha k) hc, gmul_assoc c _ _ hc (ha k) (hb k)]
    rw [dotN_succ, dotN_succ, gmul_xor, ih (by omega), ← e]
    unfold scaleL
    rw [mk_at n _ k (by omega)]
theorem set_at (l : List Nat) (k x j : Nat) (hk : k < l.length) : (l.set k x).getD j 0 = if k = j then x else l.getD j 0 := by
  rw [List.getD_eq_getElem?_getD, List.getElem?_set]
  by_cases e : k = j
  · rw [if_pos e, if_pos e, if_pos (by omega)]; rfl
  · rw [if_neg e, if_neg e, ← List.getD_eq_getElem?_getD]
/-- the first k of l are f's, the others still v's. -/
def Upto (n k : Nat) (f : Nat → Nat) (v l : List Nat) : Prop := l.length = n ∧ ∀ j, j < n → l.getD j 0 = if j < k then f j else v.getD j 0
theorem Upto.start {n : Nat} {f : Nat → Nat} {v : List Nat} (h : v.length = n) : Upto n 0 f v v := ⟨h, fun j _ => by rw [if_neg (by omega)]⟩
theorem Upto.here {n k : Nat} {f : Nat → Nat} {v l : List Nat} (h : Upto n k f v l) (hk : k < n) : l.getD k 0 = v.getD k 0 := by
  rw [h.2 k hk, if_neg (by omega)]
theorem Upto.next {n k : Nat} {f : Nat → Nat} {v l : List Nat} (h : Upto n k f v l) (hk : k < n) : Upto n (k + 1) f v (l.set k (f k)) := by
  refine ⟨by rw [List.length_set]; exact h.1, fun j hj => ?_⟩
  rw [set_at _ _ _ _ (by rw [h.1]; exact hk)]
  by_cases e : k = j
  · subst e; rw [if_pos rfl, if_pos (by omega)]
  · rw [if_neg e, h.2 j hj]
    by_cases hlt : j < k
    · rw [if_pos hlt, if_pos (by omega)]
    · rw [if_neg hlt, if_neg (by omega)]
theorem Upto.done {n : Nat} {f : Nat → Nat} {v l : List Nat} (h : Upto n n f v l) : l = mk n f :=
  eq_mk h.1 fun j hj => by rw [h.2 j hj, if_pos hj]
end Go.Proofs.Ytlfpfgkmghdpaaa

/- Plain lemmas on what the law on fairness records. No condition beyond those that each lemma names. -/
import Derived.Test.YtplbdeaoeocgkaaDrAwake
import Derived.Test.YtplbdeaoeocgkaaDrInt
import Derived.Lib.MinMax
namespace Go.Proofs.Ytplbdeaoeocgkaa
open Go.ChangeShapes Go.WideShapes Go.ChangeAt Go.RowKit

def fW (w1 w2 : Int) : List (Int × Int) := [(1, w1), (2, w2), (3, 1)]
theorem fW_in (w1 w2 : Int) {i : Int} (h : i = 1 ∨ i = 2 ∨ i = 3) : inW (fW w1 w2) i = true := by
  rcases h with rfl | rfl | rfl <;> simp [inW, fW]
theorem fW_1 (w1 w2 : Int) : wOf (fW w1 w2) 1 = w1 := by simp [wOf, fW]
theorem fW_2 (w1 w2 : Int) : wOf (fW w1 w2) 2 = w2 := by simp [wOf, fW]
theorem f_add (w1 w2 : Int) (h1 : 1 ≤ w1 ∧ w1 ≤ 255) (h2 : 1 ≤ w2 ∧ w2 ≤ 255) :
    (addE [] 1 w1 = 0 ∧ addW [] 1 w1 = [(1, w1)]) ∧ (addE [(1, w1)] 2 w2 = 0 ∧ addW [(1, w1)] 2 w2 = [(1, w1), (2, w2)]) ∧ (addE [(1, w1), (2, w2)] 3 1 = 0 ∧ addW [(1, w1), (2, w2)] 3 1 = fW w1 w2) := by
  have a : addE [] 1 w1 = 0 := by unfold addE; rw [if_neg (by omega), if_neg (by simp [inW])]
  have b : addE [(1, w1)] 2 w2 = 0 := by unfold addE; rw [if_neg (by omega), if_neg (by simp [inW])]
  have c : addE [(1, w1), (2, w2)] 3 1 = 0 := by unfold addE; rw [if_neg (by omega), if_neg (by simp [inW])]
  exact ⟨⟨a, by unfold addW; rw [if_pos a]; rfl⟩, ⟨b, by unfold addW; rw [if_pos b]; rfl⟩, ⟨c, by unfold addW; rw [if_pos c]; rfl⟩⟩
theorem f_pushE {Q M w1 w2 : Int} {R : List Qd} (o : Ok Q M (fW w1 w2) R) {x : It} (hi : x.1 = 1 ∨ x.1 = 2 ∨ x.1 = 3) (hx : 1 ≤ x.2 ∧ x.2 ≤ 16) (hw : waitR R ≤ 1000) : pushE (fW w1 w2) R x = 0 := by
  unfold pushE
  rw [if_neg (by rw [fW_in w1 w2 hi]; decide), if_neg (by omega), if_neg]
  have := lenR_wait o x.1
  omega
/-- the first two items. -/
theorem phi_first {Q w1 w2 x y : Int} (hx : 1 ≤ x ∧ x ≤ 16) (hy : 1 ≤ y ∧ y ≤ 16) : Phi Q w1 w2 (push (fW w1 w2) (push (fW w1 w2) [] (1, x)) (2, y)) 0 := by
  have e1 : pushE (fW w1 w2) [] (1, x) = 0 := by
    unfold pushE
    rw [if_neg (by rw [fW_in w1 w2 (Or.inl rfl)]; decide), if_neg (by show ¬ (x < 1 ∨ 65536 < x); omega), if_neg (by simp [lenR])]
  have e2 : push (fW w1 w2) [] (1, x) = [⟨1, w1, 0, false, [(1, x)]⟩] := by
    rw [show push (fW w1 w2) [] (1, x) = pushR (fW w1 w2) [] (1, x) from if_pos e1]
    unfold pushR
    rw [if_neg (by simp [isR])]
    show [] ++ [(⟨1, wOf (fW w1 w2) 1, 0, false, [(1, x)]⟩ : Qd)] = _
    rw [fW_1]; rfl
  rw [e2]
  have e3 : pushE (fW w1 w2) [⟨1, w1, 0, false, [(1, x)]⟩] (2, y) = 0 := by
    unfold pushE
    rw [if_neg (by rw [fW_in w1 w2 (Or.inr (Or.inl rfl))]; decide), if_neg (by show ¬ (y < 1 ∨ 65536 < y); omega), if_neg (by simp [lenR])]
  rw [show push (fW w1 w2) [⟨1, w1, 0, false, [(1, x)]⟩] (2, y) = pushR (fW w1 w2) [⟨1, w1, 0, false, [(1, x)]⟩] (2, y) from if_pos e3]
  unfold pushR
  rw [if_neg (by simp [isR])]
  show Phi Q w1 w2 ([(⟨1, w1, 0, false, [(1, x)]⟩ : Qd)] ++ [⟨2, wOf (fW w1 w2) 2, 0, false, [(2, y)]⟩]) 0
  rw [fW_2]
  exact ⟨⟨1, w1, 0, false, [(1, x)]⟩, ⟨2, w2, 0, false, [(2, y)]⟩, rfl, rfl, rfl, rfl, Or.inl ⟨[], [], [], rfl, by simp⟩⟩
theorem lenR_push_other {Q M : Int} {W : List (Int × Int)} {R : List Qd} {x : It} (k : Ok Q M W R) (hM : 1 ≤ M) (hx : x.2 ≤ M) {id : Int} (hne : id ≠ x.1) : lenR (push W R x) id = lenR R id := by
  by_cases h : pushE W R x = 0
  · rw [lenR_it, itR_push k hM h hx, if_neg hne, ← lenR_it]
  · rw [show push W R x = R from if_neg h]
/-- what was recorded so far. -/
structure Rcs (Q w1 w2 : Int) (i : Nat) (A C : Int) (l1 l2 : List Int) : Prop where
  n1 : l1.length = i
  n2 : l2.length = i
  a : 0 ≤ A ∧ A ≤ 16 * (i : Int)
  c : 0 ≤ C ∧ C ≤ 16 * (i : Int)
  all : ∀ k, k < i → (0 ≤ l1.getD k 0 ∧ l1.getD k 0 ≤ 6400) ∧ (0 ≤ l2.getD k 0 ∧ l2.getD k 0 ≤ 6400) ∧ NearF Q w1 w2 (l1.getD k 0 * w2 - l2.getD k 0 * w1)
theorem Rcs.start (Q w1 w2 : Int) : Rcs Q w1 w2 0 0 0 [] [] := ⟨rfl, rfl, by omega, by omega, fun k hk => absurd hk (Nat.not_lt_zero _)⟩
theorem getD_snoc (l : List Int) (x : Int) (k : Nat) : (l ++ [x]).getD k 0 = if k < l.length then l.getD k 0 else if k = l.length then x else 0 := by
  rw [List.getD_eq_getElem?_getD, List.getD_eq_getElem?_getD]
  split
  · rename_i h; rw [List.getElem?_append_left h]
  · rename_i h
    rw [List.getElem?_append_right (by omega)]
    split
    · rename_i e; subst e; simp
    · rename_i e
      rw [List.getElem?_eq_none (by simp; omega)]; rfl
theorem Rcs.next {Q w1 w2 : Int} {i : Nat} {A C A' C' : Int} {l1 l2 : List Int} (h : Rcs Q w1 w2 i A C l1 l2) (hi : i < 400) (hA : A ≤ A' ∧ A' ≤ A + 16) (hC : C ≤ C' ∧ C' ≤ C + 16) (hn : NearF Q w1 w2 (A' * w2 - C' * w1)) : Rcs Q w1 w2 (i + 1) A' C' (l1 ++ [A']) (l2 ++ [C']) := by
  have ha := h.a
  have hc := h.c
  refine ⟨by rw [List.length_append, h.n1]; rfl, by rw [List.length_append, h.n2]; rfl, by omega, by omega, fun k hk => ?_⟩
  rw [getD_snoc, getD_snoc, h.n1, h.n2]
  by_cases e : k < i
  · rw [if_pos e, if_pos e]; exact h.all k e
  · have : k = i := by omega
    rw [if_neg e, if_neg e, if_pos this, if_pos this]
    exact ⟨by omega, by omega, hn⟩
/-- what is known of two rows, and the numbers beside them. -/
theorem Rcs.room {Q w1 w2 : Int} {i : Nat} {A C : Int} {l1 l2 : List Int} (h : Rcs Q w1 w2 i A C l1 l2) (hw1 : 1 ≤ w1 ∧ w1 ≤ 255) (hw2 : 1 ≤ w2 ∧ w2 ≤ 255) {j k : Nat} (hj : j < i) (hk : k < i) :
    let d := (l1.getD j 0 - l1.getD k 0) * w2 - (l2.getD j 0 - l2.getD k 0) * w1
    (d ≤ (Q + 32) * w1 * w2 ∧ -d ≤ (Q + 32) * w1 * w2) ∧ (-1632000 ≤ (l1.getD j 0 - l1.getD k 0) * w2 ∧ (l1.getD j 0 - l1.getD k 0) * w2 ≤ 1632000) ∧ (-1632000 ≤ (l2.getD j 0 - l2.getD k 0) * w1 ∧ (l2.getD j 0 - l2.getD k 0) * w1 ≤ 1632000) := by
  obtain ⟨a1, b1, n1⟩ := h.all j hj
  obtain ⟨a2, b2, n2⟩ := h.all k hk
  have big : ∀ {x w : Int}, -6400 ≤ x → x ≤ 6400 → 0 ≤ w → w ≤ 255 → -1632000 ≤ x * w ∧ x * w ≤ 1632000 := fun {x w} h1 h2 h3 h4 => by
    have u1 : x * w ≤ 6400 * w := Int.mul_le_mul_of_nonneg_right h2 h3
    have u2 : -6400 * w ≤ x * w := Int.mul_le_mul_of_nonneg_right h1 h3
    omega
  refine ⟨?_, big (by omega) (by omega) (by omega) (by omega), big (by omega) (by omega) (by omega) (by omega)⟩
  have e : (l1.getD j 0 - l1.getD k 0) * w2 - (l2.getD j 0 - l2.getD k 0) * w1 = (l1.getD j 0 * w2 - l2.getD j 0 * w1) - (l1.getD k 0 * w2 - l2.getD k 0 * w1) := by
    rw [Int.sub_mul, Int.sub_mul]; omega
  show (l1.getD j 0 - l1.getD k 0) * w2 - (l2.getD j 0 - l2.getD k 0) * w1 ≤ _ ∧ -((l1.getD j 0 - l1.getD k 0) * w2 - (l2.getD j 0 - l2.getD k 0) * w1) ≤ _
  rw [e]
  exact n1.apart n2 hw1.1 hw2.1
theorem gain_cases {w1 w2 A C : Int} {x : It} :
    (x.1 = 1 ∧ A * w2 - C * w1 + gain w1 w2 x = (A + x.2) * w2 - C * w1) ∨ (x.1 ≠ 1 ∧ x.1 = 2 ∧ A * w2 - C * w1 + gain w1 w2 x = A * w2 - (C + x.2) * w1) ∨ (x.1 ≠ 1 ∧ x.1 ≠ 2 ∧ A * w2 - C * w1 + gain w1 w2 x = A * w2 - C * w1) := by
  unfold gain
  by_cases h1 : x.1 = 1
  · left; rw [if_pos h1, Int.add_mul]; exact ⟨h1, by omega⟩
  · by_cases h2 : x.1 = 2
    · right; left; rw [if_neg h1, if_pos h2, Int.add_mul]; exact ⟨h1, h2, by omega⟩
    · right; right; rw [if_neg h1, if_neg h2]; exact ⟨h1, h2, by omega⟩
/-- one int more in a row beside another one. -/
theorem zz_put {w wi : World} {b : Nat} {L : Ly} {Q M : Int} {W : List (Int × Int)} {R : List Qd} {kl : Nat → Nat} {k k2 : Nat} {v v2 : Value} {l l2 : List Int} (h : SB w wi b L Q M W R) (hz : Zr wi (Kc L kl w.heap.size k) v l) (hz2 : Zr wi (Kc L kl w.heap.size k2) v2 l2)
    (hne : k ≠ k2) (h9 : k ≠ 9) (hk9 : ∀ j, wi.heap.size ≤ j → kl j = 9) (hn : l.length ≤ 65536) (x : Int) (ad : Addr) (h0 : wi.cell? (ad.add 0) = some (.int .i64 x)) (cp : Nat) (ty : TypeId) :
    ∃ w2 g cap, (Builtin.append_ #[29, 29] ty #[v, .slice (some ad) 1 cp]).run Try.prog wi = .ok (.slice (some ⟨g, 0, none⟩) (l.length + 1) cap) w2 ∧ SB w w2 b L Q M W R ∧ Tn (Kc L kl w.heap.size k) wi w2 ∧
      ∃ kl', (∀ j, w2.heap.size ≤ j → kl' j = 9) ∧ Zr w2 (Kc L kl' w.heap.size k) (.slice (some ⟨g, 0, none⟩) (l.length + 1) cap) (l ++ [x]) ∧ Zr w2 (Kc L kl' w.heap.size k2) v2 l2 ∧ ∀ c, c < wi.heap.size → kl c = 9 → kl' c = 9 := by
  obtain ⟨w2, g, cap, hr, hz3, hg, hgl, ht⟩ := hz.append hn x ad h0 cp ty
  refine ⟨w2, g, cap, hr, h.free ht (fun j _ e => e.1) (fun j hj e => by have := e.2.2; omega), ht, paintK kl g k, fun j hj => (paintK_far kl _ (by omega)).trans (hk9 j (Nat.le_trans ht.size hj)), hz3.mono fun a _ e => ?_, ?_, fun c hc e => ?_⟩
  · have e : a = g := e
    rw [e]
    refine ⟨?_, paintK_at kl g k, ?_⟩
    · rcases hg with hg | hg
      · exact hg.1
      · exact h.sr.ahead g hg
    · rcases hg with hg | hg
      · exact hg.2.2
      · exact Nat.le_trans h.bel.size hg
  · have hz0 : Zr wi (Kc L (paintK kl g k) w.heap.size k2) v2 l2 := hz2.mono fun a ha e => ⟨e.1, by
      by_cases c : a = g
      · rcases hg with hg | hg
        · have h1 := hg.2.1
          rw [← c, e.2.1] at h1
          exact absurd h1.symm hne
        · omega
      · rw [paintK_far kl _ c]; exact e.2.1, e.2.2⟩
    exact hz0.tn ht fun a ha e f => by
      have h1 := e.2.1
      have h2 := f.2.1
      by_cases c : a = g
      · rw [c, paintK_at] at h1; exact hne h1
      · rw [paintK_far kl _ c, h2] at h1; exact hne h1
  · by_cases e2 : c = g
    · rcases hg with hg | hg
      · have h1 := hg.2.1
        rw [← e2, e] at h1
        exact absurd h1.symm h9
      · omega
    · rw [paintK_far kl _ e2]; exact e
def absI (n : Int) : Int := max n (0 - n)
theorem absI_le {n m : Int} (h : n ≤ m ∧ -n ≤ m) : absI n ≤ m := by unfold absI; rw [Int.max_def]; split <;> omega
set_option maxRecDepth 100000 in
theorem dr_size (n : Int) (w : World) (h : -9223372036854775807 ≤ n ∧ n ≤ 9223372036854775807) : Calls Try.prog 16 #[.int .i64 n] w fun e w' => e = .returned (.int .i64 (absI n)) ∧ w = w' := by
  obtain ⟨h1, h2⟩ := h
  unfold absI
  go_enter Try.func16, Try.ntmps16
  go_wp2_with fail
  go_ret
  exact ⟨by first | rfl | simp, rfl⟩
end Go.Proofs.Ytplbdeaoeocgkaa

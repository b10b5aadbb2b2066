/- Plain lemmas on queues that take turns by weights: what was taken of two by their weights; what is taken is what came in. No condition beyond those that each lemma names. -/
import Derived.Test.YtplbdeaoeocgkaaDrNext
namespace Go.Proofs.Ytplbdeaoeocgkaa

/-! ### two queues, by their weights -/
/-- how far apart what was given to two queues is, by their weights. -/
def Phi (Q w1 w2 : Int) (R : List Qd) (f : Int) : Prop :=
  ∃ q1 q2 : Qd, q1.id = 1 ∧ q1.w = w1 ∧ q2.id = 2 ∧ q2.w = w2 ∧
    ((∃ A B C, R = A ++ q1 :: (B ++ q2 :: C) ∧ f = (if q1.s = true then Q * w1 * w2 else 0) - q1.d * w2 + q2.d * w1) ∨
     (∃ A B C, R = A ++ q2 :: (B ++ q1 :: C) ∧ f = (if q2.s = true then 0 else Q * w1 * w2) - q1.d * w2 + q2.d * w1))
theorem fail_d_of {Q : Int} {q : Qd} (h : q.s = true) : (q.fail Q).d = q.d := by rw [fail_d, serve_of h]
theorem fail_d_not {Q : Int} {q : Qd} (h : q.s = false) : (q.fail Q).d = q.d + Q * q.w := by rw [fail_d, serve_not h]
theorem serve_d_not {Q : Int} {q : Qd} (h : q.s = false) : (q.serve Q).d = q.d + Q * q.w := by rw [serve_not h]
theorem mul_two_w (Q w1 w2 d : Int) : (d + Q * w2) * w1 = d * w1 + Q * w1 * w2 := by rw [Int.add_mul, Int.mul_assoc, Int.mul_assoc, Int.mul_comm w2 w1]
theorem mul_one_w (Q w1 w2 d : Int) : (d + Q * w1) * w2 = d * w2 + Q * w1 * w2 := by rw [Int.add_mul]
theorem Phi.fail {Q M w1 w2 : Int} {W : List (Int × Int)} {h : Qd} {t : List Qd} {f : Int} (p : Phi Q w1 w2 (h :: t) f) (k : Ok Q M W (h :: t)) : Phi Q w1 w2 (t ++ [h.fail Q]) f := by
  have ht : ∀ x ∈ t, x.s = false := k.hd
  obtain ⟨q1, q2, i1, e1, i2, e2, hR | hR⟩ := p
  · obtain ⟨A, B, C, hR, hf⟩ := hR
    cases A with
    | nil =>
      rw [List.nil_append] at hR
      injection hR with ha hb
      subst ha; subst hb
      refine ⟨h.fail Q, q2, by rw [fail_id]; exact i1, by rw [fail_w]; exact e1, i2, e2, Or.inr ⟨B, C, [], by simp, ?_⟩⟩
      have s2 : q2.s = false := ht q2 (by simp)
      rw [if_neg (by rw [s2]; decide), hf]
      cases hs : h.s with
      | true => rw [fail_d_of hs, if_pos rfl]
      | false => rw [fail_d_not hs, if_neg (by decide), e1, mul_one_w]; omega
    | cons a A =>
      rw [List.cons_append] at hR
      injection hR with ha hb
      subst ha; subst hb
      exact ⟨q1, q2, i1, e1, i2, e2, Or.inl ⟨A, B, C ++ [h.fail Q], by simp, hf⟩⟩
  · obtain ⟨A, B, C, hR, hf⟩ := hR
    cases A with
    | nil =>
      rw [List.nil_append] at hR
      injection hR with ha hb
      subst ha; subst hb
      refine ⟨q1, h.fail Q, i1, e1, by rw [fail_id]; exact i2, by rw [fail_w]; exact e2, Or.inl ⟨B, C, [], by simp, ?_⟩⟩
      have s1 : q1.s = false := ht q1 (by simp)
      rw [if_neg (by rw [s1]; decide), hf]
      cases hs : h.s with
      | true => rw [fail_d_of hs, if_pos rfl]
      | false => rw [fail_d_not hs, if_neg (by decide), e2, mul_two_w]; omega
    | cons a A =>
      rw [List.cons_append] at hR
      injection hR with ha hb
      subst ha; subst hb
      exact ⟨q1, q2, i1, e1, i2, e2, Or.inr ⟨A, B, C ++ [h.fail Q], by simp, hf⟩⟩
theorem Phi.serve {Q w1 w2 : Int} {h : Qd} {t : List Qd} {f : Int} (p : Phi Q w1 w2 (h :: t) f) : Phi Q w1 w2 (h.serve Q :: t) f := by
  cases hs : h.s with
  | true => rw [serve_of hs]; exact p
  | false =>
    obtain ⟨q1, q2, i1, e1, i2, e2, hR | hR⟩ := p
    · obtain ⟨A, B, C, hR, hf⟩ := hR
      cases A with
      | nil =>
        rw [List.nil_append] at hR
        injection hR with ha hb
        subst ha; subst hb
        refine ⟨h.serve Q, q2, by rw [serve_id]; exact i1, by rw [serve_w]; exact e1, i2, e2, Or.inl ⟨[], B, C, rfl, ?_⟩⟩
        rw [if_pos (serve_s Q h), hf, if_neg (by rw [hs]; decide), serve_d_not hs, e1, mul_one_w]; omega
      | cons a A =>
        rw [List.cons_append] at hR
        injection hR with ha hb
        subst ha; subst hb
        exact ⟨q1, q2, i1, e1, i2, e2, Or.inl ⟨h.serve Q :: A, B, C, rfl, hf⟩⟩
    · obtain ⟨A, B, C, hR, hf⟩ := hR
      cases A with
      | nil =>
        rw [List.nil_append] at hR
        injection hR with ha hb
        subst ha; subst hb
        refine ⟨q1, h.serve Q, i1, e1, by rw [serve_id]; exact i2, by rw [serve_w]; exact e2, Or.inr ⟨[], B, C, rfl, ?_⟩⟩
        rw [if_pos (serve_s Q h), hf, if_neg (by rw [hs]; decide), serve_d_not hs, e2, mul_two_w]; omega
      | cons a A =>
        rw [List.cons_append] at hR
        injection hR with ha hb
        subst ha; subst hb
        exact ⟨q1, q2, i1, e1, i2, e2, Or.inr ⟨h.serve Q :: A, B, C, rfl, hf⟩⟩
theorem Phi.reach {Q M w1 w2 : Int} {W : List (Int × Int)} {R S : List Qd} {f : Int} (r : DrReach Q R S) : Ok Q M W R → Phi Q w1 w2 R f → Phi Q w1 w2 S f := by
  induction r with
  | refl _ => exact fun _ p => p
  | step a _ ih => exact fun k p => ih (k.fail a) (p.fail k)
/-- what an item that is taken turns. -/
def gain (w1 w2 : Int) (x : It) : Int := if x.1 = 1 then x.2 * w2 else if x.1 = 2 then -(x.2 * w1) else 0
theorem Phi.took {Q M w1 w2 : Int} {W : List (Int × Int)} {h : Qd} {t : List Qd} {f : Int} (p : Phi Q w1 w2 (h :: t) f) (k : Ok Q M W (h :: t)) (hl : h.id = 1 ∨ h.id = 2 → h.l.tail ≠ []) : Phi Q w1 w2 (tookR h t) (f + gain w1 w2 h.hd) := by
  have hid := k.head.size.1
  unfold gain
  rw [hid]
  obtain ⟨q1, q2, i1, e1, i2, e2, hR | hR⟩ := p
  · obtain ⟨A, B, C, hR, hf⟩ := hR
    cases A with
    | nil =>
      rw [List.nil_append] at hR
      injection hR with ha hb
      subst ha; subst hb
      unfold tookR
      rw [if_neg (hl (Or.inl i1)), if_pos i1]
      refine ⟨h.took, q2, i1, e1, i2, e2, Or.inl ⟨[], B, C, rfl, ?_⟩⟩
      show f + h.hd.2 * w2 = (if h.s = true then Q * w1 * w2 else 0) - (h.d - h.hd.2) * w2 + q2.d * w1
      rw [hf, Int.sub_mul]; omega
    | cons a A =>
      rw [List.cons_append] at hR
      injection hR with ha hb
      subst ha; subst hb
      have n1 : h.id ≠ 1 := fun e => by
        have hnd := k.rn
        rw [List.map_cons, List.nodup_cons] at hnd
        exact hnd.1 (List.mem_map.2 ⟨q1, by simp, by rw [i1, e]⟩)
      have n2 : h.id ≠ 2 := fun e => by
        have hnd := k.rn
        rw [List.map_cons, List.nodup_cons] at hnd
        exact hnd.1 (List.mem_map.2 ⟨q2, by simp, by rw [i2, e]⟩)
      rw [if_neg n1, if_neg n2, Int.add_zero]
      unfold tookR
      split
      · exact ⟨q1, q2, i1, e1, i2, e2, Or.inl ⟨A, B, C, rfl, hf⟩⟩
      · exact ⟨q1, q2, i1, e1, i2, e2, Or.inl ⟨h.took :: A, B, C, rfl, hf⟩⟩
  · obtain ⟨A, B, C, hR, hf⟩ := hR
    cases A with
    | nil =>
      rw [List.nil_append] at hR
      injection hR with ha hb
      subst ha; subst hb
      unfold tookR
      rw [if_neg (hl (Or.inr i2)), if_neg (by omega), if_pos i2]
      refine ⟨q1, h.took, i1, e1, i2, e2, Or.inr ⟨[], B, C, rfl, ?_⟩⟩
      show f + -(h.hd.2 * w1) = (if h.s = true then 0 else Q * w1 * w2) - q1.d * w2 + (h.d - h.hd.2) * w1
      rw [hf, Int.sub_mul]; omega
    | cons a A =>
      rw [List.cons_append] at hR
      injection hR with ha hb
      subst ha; subst hb
      have n1 : h.id ≠ 1 := fun e => by
        have hnd := k.rn
        rw [List.map_cons, List.nodup_cons] at hnd
        exact hnd.1 (List.mem_map.2 ⟨q1, by simp, by rw [i1, e]⟩)
      have n2 : h.id ≠ 2 := fun e => by
        have hnd := k.rn
        rw [List.map_cons, List.nodup_cons] at hnd
        exact hnd.1 (List.mem_map.2 ⟨q2, by simp, by rw [i2, e]⟩)
      rw [if_neg n1, if_neg n2, Int.add_zero]
      unfold tookR
      split
      · exact ⟨q1, q2, i1, e1, i2, e2, Or.inr ⟨A, B, C, rfl, hf⟩⟩
      · exact ⟨q1, q2, i1, e1, i2, e2, Or.inr ⟨h.took :: A, B, C, rfl, hf⟩⟩

/-! ### how many items a queue has does not hang on turns -/
theorem lenR_mem {Q M : Int} {W : List (Int × Int)} {R S : List Qd} (k : Ok Q M W R) (k' : Ok Q M W S) (h : ∀ q ∈ R, ∃ r ∈ S, r.id = q.id ∧ r.l = q.l) (h' : ∀ r ∈ S, ∃ q ∈ R, q.id = r.id) (id : Int) : lenR S id = lenR R id := by
  cases hr : isR R id with
  | true =>
    obtain ⟨q, hq, rfl⟩ := isR_iff.1 hr
    obtain ⟨r, hr, e1, e2⟩ := h q hq
    rw [k.lenR hq, ← e1, k'.lenR hr, e2]
  | false =>
    rw [lenR_not hr, lenR_not]
    refine isR_not.2 fun r hr' e => ?_
    obtain ⟨q, hq, e1⟩ := h' r hr'
    exact isR_not.1 hr q hq (by rw [e1, e])
theorem lenR_reach {Q M : Int} {W : List (Int × Int)} {R S : List Qd} (r : DrReach Q R S) : Ok Q M W R → ∀ id, lenR S id = lenR R id := by
  induction r with
  | refl _ => exact fun _ _ => rfl
  | @step h t R' a _ ih =>
    intro k id
    rw [ih (k.fail a) id]
    refine lenR_mem k (k.fail a) (fun q hq => ?_) (fun r hr => ?_) id
    · rcases List.mem_cons.1 hq with rfl | hq
      · exact ⟨q.fail Q, by simp, fail_id Q q, fail_l Q q⟩
      · exact ⟨q, by simp [hq], rfl, rfl⟩
    · rcases List.mem_append.1 hr with hr | hr
      · exact ⟨r, by simp [hr], rfl⟩
      · rw [List.mem_singleton] at hr
        exact ⟨h, by simp, by rw [hr, fail_id]⟩
theorem Phi.goes {Q M w1 w2 : Int} {W : List (Int × Int)} {R S : List Qd} {f : Int} {x : It} (p : Phi Q w1 w2 R f) (k : Ok Q M W R) (g : DrGoes Q R x S) (h1 : 1 < lenR R 1) (h2 : 1 < lenR R 2) : Phi Q w1 w2 S (f + gain w1 w2 x) := by
  obtain ⟨h, t, r, m, rfl, rfl⟩ := g
  have k2 := k.reach r
  have p2 := (p.reach r k).serve
  have hl := lenR_reach r k
  have := p2.took k2.serve (fun e => by
    rw [serve_l]
    rw [serve_id] at e
    have h3 := k2.lenR (List.mem_cons_self ..)
    rw [hl] at h3
    intro c
    have h4 := congrArg List.length c
    rw [List.length_tail] at h4
    have : (([] : List It)).length = 0 := rfl
    rcases e with e | e
    · rw [e] at h3; omega
    · rw [e] at h3; omega)
  rwa [serve_hd] at this
theorem Phi.push {Q w1 w2 : Int} {W : List (Int × Int)} {R : List Qd} {f : Int} (p : Phi Q w1 w2 R f) (x : It) : Phi Q w1 w2 (push W R x) f := by
  unfold Go.Proofs.Ytplbdeaoeocgkaa.push
  split
  · unfold pushR
    split
    · obtain ⟨q1, q2, i1, e1, i2, e2, hR⟩ := p
      refine ⟨if q1.id = x.1 then addQ q1 x else q1, if q2.id = x.1 then addQ q2 x else q2, by split <;> exact i1, by split <;> exact e1, by split <;> exact i2, by split <;> exact e2, ?_⟩
      have d1 : (if q1.id = x.1 then addQ q1 x else q1).d = q1.d := by split <;> rfl
      have d2 : (if q2.id = x.1 then addQ q2 x else q2).d = q2.d := by split <;> rfl
      have s1 : (if q1.id = x.1 then addQ q1 x else q1).s = q1.s := by split <;> rfl
      have s2 : (if q2.id = x.1 then addQ q2 x else q2).s = q2.s := by split <;> rfl
      rw [d1, d2, s1, s2]
      rcases hR with ⟨A, B, C, rfl, hf⟩ | ⟨A, B, C, rfl, hf⟩
      · exact Or.inl ⟨_, _, _, by rw [List.map_append, List.map_cons, List.map_append, List.map_cons], hf⟩
      · exact Or.inr ⟨_, _, _, by rw [List.map_append, List.map_cons, List.map_append, List.map_cons], hf⟩
    · obtain ⟨q1, q2, i1, e1, i2, e2, ⟨A, B, C, rfl, hf⟩ | ⟨A, B, C, rfl, hf⟩⟩ := p
      · exact ⟨q1, q2, i1, e1, i2, e2, Or.inl ⟨A, B, C ++ [⟨x.1, wOf W x.1, 0, false, [x]⟩], by simp, hf⟩⟩
      · exact ⟨q1, q2, i1, e1, i2, e2, Or.inr ⟨A, B, C ++ [⟨x.1, wOf W x.1, 0, false, [x]⟩], by simp, hf⟩⟩
  · exact p
/-- .. never further than so. -/
def NearF (Q w1 w2 f : Int) : Prop := -(15 * w2) ≤ f ∧ f ≤ Q * w1 * w2 + 15 * w1
theorem Phi.near {Q w1 w2 : Int} {W : List (Int × Int)} {R : List Qd} {f : Int} (p : Phi Q w1 w2 R f) (k : Ok Q 16 W R) : NearF Q w1 w2 f := by
  have low : ∀ q ∈ R, q.s = false → 0 ≤ q.d ∧ q.d ≤ 15 := fun q hq hs => by
    have o := k.r q hq
    have := o.d1 hs
    have := o.size
    have := o.d0
    omega
  have unserved : ∀ (A : List Qd) (a : Qd) (B : List Qd) (b : Qd) (C : List Qd), R = A ++ a :: (B ++ b :: C) → b.s = false := fun A a B b C e => by
    refine k.hd b ?_
    rw [e]
    cases A with
    | nil => simp
    | cons z A => simp
  have bound : ∀ {x d : Int} (w : Int), 0 ≤ w → x ≤ d → x * w ≤ d * w := fun w hw h => Int.mul_le_mul_of_nonneg_right h hw
  obtain ⟨q1, q2, i1, e1, i2, e2, ⟨A, B, C, hR, hf⟩ | ⟨A, B, C, hR, hf⟩⟩ := p
  · have m1 : q1 ∈ R := by rw [hR]; simp
    have m2 : q2 ∈ R := by rw [hR]; simp
    have o1 := k.r q1 m1
    have o2 := k.r q2 m2
    have hw1 := o1.w
    have hw2 := o2.w
    have b2 := low q2 m2 (unserved A q1 B q2 C hR)
    have hP : 0 ≤ Q * w1 * w2 := Int.mul_nonneg (Int.mul_nonneg (by have := k.q; omega) (by omega)) (by omega)
    have t2 := bound w1 (by omega) b2.2
    have t2' := bound w1 (by omega) b2.1
    unfold NearF
    rw [hf]
    cases hs : q1.s with
    | true =>
      rw [if_pos rfl]
      have u := bound w2 (by omega) o1.d2
      have u0 := bound w2 (by omega) o1.d0
      rw [e1, show ((16 : Int) - 1) = 15 from rfl, mul_one_w] at u
      rw [Int.zero_mul] at u0 t2'
      constructor <;> omega
    | false =>
      rw [if_neg (by decide)]
      have b1 := low q1 m1 hs
      have u := bound w2 (by omega) b1.2
      have u0 := bound w2 (by omega) b1.1
      rw [Int.zero_mul] at u0 t2'
      constructor <;> omega
  · have m1 : q1 ∈ R := by rw [hR]; simp
    have m2 : q2 ∈ R := by rw [hR]; simp
    have o1 := k.r q1 m1
    have o2 := k.r q2 m2
    have hw1 := o1.w
    have hw2 := o2.w
    have b1 := low q1 m1 (unserved A q2 B q1 C hR)
    have hP : 0 ≤ Q * w1 * w2 := Int.mul_nonneg (Int.mul_nonneg (by have := k.q; omega) (by omega)) (by omega)
    have t1 := bound w2 (by omega) b1.2
    have t1' := bound w2 (by omega) b1.1
    unfold NearF
    rw [hf]
    cases hs : q2.s with
    | true =>
      rw [if_pos rfl]
      have u := bound w1 (by omega) o2.d2
      have u0 := bound w1 (by omega) o2.d0
      rw [e2, show ((16 : Int) - 1) = 15 from rfl, mul_two_w] at u
      rw [Int.zero_mul] at u0 t1'
      constructor <;> omega
    | false =>
      rw [if_neg (by decide)]
      have b2 := low q2 m2 hs
      have u := bound w1 (by omega) b2.2
      have u0 := bound w1 (by omega) b2.1
      rw [Int.zero_mul] at u0 t1'
      constructor <;> omega
theorem NearF.apart {Q w1 w2 f g : Int} (h : NearF Q w1 w2 f) (k : NearF Q w1 w2 g) (h1 : 1 ≤ w1) (h2 : 1 ≤ w2) : f - g ≤ (Q + 32) * w1 * w2 ∧ -(f - g) ≤ (Q + 32) * w1 * w2 := by
  unfold NearF at h k
  have e : (Q + 32) * w1 * w2 = Q * w1 * w2 + 32 * w1 * w2 := by rw [Int.add_mul, Int.add_mul]
  have a : w1 * 1 ≤ w1 * w2 := Int.mul_le_mul_of_nonneg_left h2 (by omega)
  have b : 1 * w2 ≤ w1 * w2 := Int.mul_le_mul_of_nonneg_right h1 (by omega)
  have c : 32 * w1 * w2 = 32 * (w1 * w2) := Int.mul_assoc ..
  rw [e, c]
  omega
end Go.Proofs.Ytplbdeaoeocgkaa

/- Plain lemmas on queues that take turns by weights: which items each queue has, behind what comes in and is taken. No condition beyond those that each lemma names. -/
import Derived.Test.YtplbdeaoeocgkaaDrSum
import Derived.Test.YtplbdeaoeocgkaaDrOps
namespace Go.Proofs.Ytplbdeaoeocgkaa

/-- a queue's items. -/
def itR (R : List Qd) (id : Int) : List It := ((R.find? fun q => q.id == id).map (·.l)).getD []
theorem lenR_it (R : List Qd) (id : Int) : lenR R id = (itR R id).length := by
  unfold lenR itR
  cases R.find? fun q => q.id == id <;> rfl
theorem itR_not {R : List Qd} {id : Int} (h : isR R id = false) : itR R id = [] := by
  unfold itR
  have : R.find? (fun x => x.id == id) = none := List.find?_eq_none.2 fun x hx => by simpa using isR_not.1 h x hx
  rw [this]; rfl
theorem Ok.itR {Q M : Int} {W : List (Int × Int)} {R : List Qd} (k : Ok Q M W R) {q : Qd} (h : q ∈ R) : itR R q.id = q.l := by
  unfold Go.Proofs.Ytplbdeaoeocgkaa.itR
  cases hf : R.find? fun x => x.id == q.id with
  | none =>
    have := List.find?_eq_none.1 hf _ h
    simp at this
  | some y =>
    have h1 := List.mem_of_find?_eq_some hf
    have h2 : y.id = q.id := by simpa using List.find?_some hf
    rw [k.q_of h1 h h2]; rfl
theorem pushR_ok {Q M : Int} {W : List (Int × Int)} {R : List Qd} {x : It} (k : Ok Q M W R) (hM : 1 ≤ M) (h : pushE W R x = 0) (hx : x.2 ≤ M) : push W R x = pushR W R x ∧ Ok Q M W (pushR W R x) := by
  have e : push W R x = pushR W R x := if_pos h
  exact ⟨e, e ▸ k.push hM fun _ => hx⟩
theorem itR_push {Q M : Int} {W : List (Int × Int)} {R : List Qd} {x : It} (k : Ok Q M W R) (hM : 1 ≤ M) (h : pushE W R x = 0) (hx : x.2 ≤ M) (id : Int) : itR (push W R x) id = if id = x.1 then itR R id ++ [x] else itR R id := by
  obtain ⟨e, k'⟩ := pushR_ok k hM h hx
  rw [e]
  cases hr : isR R x.1 with
  | true =>
    obtain ⟨q, hq, hid⟩ := isR_iff.1 hr
    have hp : pushR W R x = R.map (fun q => if q.id = x.1 then addQ q x else q) := if_pos hr
    have hmem : ∀ y ∈ R, (if y.id = x.1 then addQ y x else y) ∈ pushR W R x := fun y hy => by rw [hp]; exact List.mem_map.2 ⟨y, hy, rfl⟩
    split
    · rename_i e2
      have h1 := hmem q hq
      rw [if_pos hid] at h1
      have h2 := k'.itR h1
      rw [addQ_id, hid] at h2
      rw [e2, h2, ← hid, k.itR hq]; rfl
    · rename_i e2
      cases hi : isR R id with
      | true =>
        obtain ⟨y, hy, hyd⟩ := isR_iff.1 hi
        have h1 := hmem y hy
        rw [if_neg (by rw [hyd]; exact e2)] at h1
        have h2 := k'.itR h1
        rw [hyd] at h2
        rw [h2, ← hyd, k.itR hy]
      | false =>
        rw [itR_not hi, itR_not]
        refine isR_not.2 fun y hy hyd => ?_
        rw [hp] at hy
        obtain ⟨z, hz, rfl⟩ := List.mem_map.1 hy
        refine isR_not.1 hi z hz ?_
        rw [← hyd]; split <;> rfl
  | false =>
    have hp : pushR W R x = R ++ [⟨x.1, wOf W x.1, 0, false, [x]⟩] := if_neg (by rw [hr]; decide)
    split
    · rename_i e2
      have h1 := k'.itR (q := ⟨x.1, wOf W x.1, 0, false, [x]⟩) (by rw [hp]; simp)
      rw [e2, itR_not hr]
      exact h1
    · rename_i e2
      cases hi : isR R id with
      | true =>
        obtain ⟨y, hy, hyd⟩ := isR_iff.1 hi
        have h2 := k'.itR (q := y) (by rw [hp]; simp [hy])
        rw [hyd] at h2
        rw [h2, ← hyd, k.itR hy]
      | false =>
        rw [itR_not hi, itR_not]
        refine isR_not.2 fun y hy hyd => ?_
        rw [hp] at hy
        rcases List.mem_append.1 hy with hy | hy
        · exact isR_not.1 hi y hy hyd
        · rw [List.mem_singleton] at hy
          subst hy
          exact e2 hyd.symm
theorem waitR_push {Q M : Int} {W : List (Int × Int)} {R : List Qd} {x : It} (k : Ok Q M W R) (h : pushE W R x = 0) : waitR (push W R x) = waitR R + 1 := by
  rw [show push W R x = pushR W R x from if_pos h]
  cases hr : isR R x.1 with
  | true =>
    rw [show pushR W R x = R.map (fun q => if q.id = x.1 then addQ q x else q) from if_pos hr]
    have hnd := k.rn
    clear k h
    induction R with
    | nil => cases hr
    | cons q r ih =>
      rw [List.map_cons, List.nodup_cons] at hnd
      rw [List.map_cons, waitR_cons, waitR_cons]
      by_cases e : q.id = x.1
      · rw [if_pos e]
        have : r.map (fun q => if q.id = x.1 then addQ q x else q) = r := (List.map_congr_left fun y hy => if_neg (fun f => hnd.1 (List.mem_map.2 ⟨y, hy, by rw [f, e]⟩))).trans (List.map_id _)
        rw [this]
        show (q.l ++ [x]).length + _ = _
        rw [List.length_append, List.length_singleton]; omega
      · rw [if_neg e, ih (by rw [isR_cons e] at hr; exact hr) hnd.2]; omega
  | false =>
    rw [show pushR W R x = R ++ [⟨x.1, wOf W x.1, 0, false, [x]⟩] from if_neg (by rw [hr]; decide), waitR_app]; rfl
theorem lenR_wait {Q M : Int} {W : List (Int × Int)} {R : List Qd} (k : Ok Q M W R) (id : Int) : lenR R id ≤ waitR R := by
  cases hr : isR R id with
  | false => rw [lenR_not hr]; exact Nat.zero_le _
  | true =>
    obtain ⟨q, hq, rfl⟩ := isR_iff.1 hr
    rw [k.lenR hq]
    obtain ⟨A, B, rfl⟩ := List.append_of_mem hq
    rw [waitR_app, waitR_cons]
    omega
theorem waitR_zero {Q M : Int} {W : List (Int × Int)} {R : List Qd} (k : Ok Q M W R) (h : waitR R = 0) : R = [] := by
  cases R with
  | nil => rfl
  | cons q r =>
    rw [waitR_cons] at h
    have := List.length_pos_iff.2 k.head.ne
    omega
theorem waitR_fail (Q : Int) (h : Qd) (t : List Qd) : waitR (t ++ [h.fail Q]) = waitR (h :: t) := by
  rw [waitR_app, waitR_cons, waitR_cons, fail_l]
  show waitR t + (h.l.length + 0) = _
  omega
theorem waitR_reach {Q : Int} {R S : List Qd} (r : DrReach Q R S) : waitR S = waitR R := by
  induction r with
  | refl _ => rfl
  | @step h t R' _ _ ih => rw [ih, waitR_fail]
theorem itR_mem {Q M : Int} {W : List (Int × Int)} {R S : List Qd} (k : Ok Q M W R) (k' : Ok Q M W S) (h : ∀ q ∈ R, ∃ r ∈ S, r.id = q.id ∧ r.l = q.l) (h' : ∀ r ∈ S, ∃ q ∈ R, q.id = r.id) (id : Int) : itR S id = itR R id := by
  cases hr : isR R id with
  | true =>
    obtain ⟨q, hq, rfl⟩ := isR_iff.1 hr
    obtain ⟨r, hr, e1, e2⟩ := h q hq
    rw [k.itR hq, ← e1, k'.itR hr, e2]
  | false =>
    rw [itR_not hr, itR_not]
    refine isR_not.2 fun r hr' e => ?_
    obtain ⟨q, hq, e1⟩ := h' r hr'
    exact isR_not.1 hr q hq (by rw [e1, e])
theorem itR_reach {Q M : Int} {W : List (Int × Int)} {R S : List Qd} (r : DrReach Q R S) : Ok Q M W R → ∀ id, itR S id = itR R id := by
  induction r with
  | refl _ => exact fun _ _ => rfl
  | @step h t R' a _ ih =>
    intro k id
    rw [ih (k.fail a) id]
    refine itR_mem k (k.fail a) (fun q hq => ?_) (fun r hr => ?_) id
    · rcases List.mem_cons.1 hq with rfl | hq
      · exact ⟨q.fail Q, by simp, fail_id Q q, fail_l Q q⟩
      · exact ⟨q, by simp [hq], rfl, rfl⟩
    · rcases List.mem_append.1 hr with hr | hr
      · exact ⟨r, by simp [hr], rfl⟩
      · rw [List.mem_singleton] at hr
        exact ⟨h, by simp, by rw [hr, fail_id]⟩
theorem waitR_took {h : Qd} {t : List Qd} (hne : h.l ≠ []) : waitR (h :: t) = waitR (tookR h t) + 1 := by
  have := List.length_pos_iff.2 hne
  unfold tookR
  split
  · rename_i e
    have := congrArg List.length e
    rw [List.length_tail] at this
    have e0 : (([] : List It)).length = 0 := rfl
    rw [waitR_cons]; omega
  · rw [waitR_cons, waitR_cons]
    show _ = h.l.tail.length + _ + 1
    rw [List.length_tail]; omega
theorem itR_took {Q M : Int} {W : List (Int × Int)} {h : Qd} {t : List Qd} (k : Ok Q M W (h :: t)) (k' : Ok Q M W (tookR h t)) (id : Int) : itR (h :: t) id = if id = h.id then h.hd :: itR (tookR h t) id else itR (tookR h t) id := by
  have hnd := k.rn
  rw [List.map_cons, List.nodup_cons] at hnd
  have hl : h.l = h.hd :: h.l.tail := by
    unfold Qd.hd
    cases hl : h.l with
    | nil => exact absurd hl k.head.ne
    | cons a r => rfl
  split
  · rename_i e
    rw [e, k.itR (List.mem_cons_self ..)]
    have : itR (tookR h t) h.id = h.l.tail := by
      by_cases c : h.l.tail = []
      · have ht : tookR h t = t := if_pos c
        rw [ht, c]
        exact itR_not (isR_not.2 fun q hq e => hnd.1 (List.mem_map.2 ⟨q, hq, e⟩))
      · have ht : tookR h t = h.took :: t := if_neg c
        rw [ht] at k' ⊢
        exact k'.itR (q := h.took) (List.mem_cons_self ..)
    rw [this]; exact hl
  · rename_i e
    cases hr : isR t id with
    | true =>
      obtain ⟨q, hq, rfl⟩ := isR_iff.1 hr
      rw [k.itR (List.mem_cons_of_mem _ hq), k'.itR (q := q) (by unfold tookR; split; exact hq; exact List.mem_cons_of_mem _ hq)]
    | false =>
      rw [itR_not (by rw [isR_cons (fun f => e f.symm)]; exact hr), itR_not]
      unfold tookR
      split
      · exact hr
      · rw [isR_cons (show h.took.id ≠ id from fun f => e f.symm)]; exact hr
/-- what is taken: an item that was there, its queue's first one. -/
theorem DrGoes.items {Q M : Int} {W : List (Int × Int)} {R S : List Qd} {x : It} (k : Ok Q M W R) (g : DrGoes Q R x S) :
    (∀ id, itR R id = if id = x.1 then x :: itR S id else itR S id) ∧ waitR R = waitR S + 1 ∧ inW W x.1 = true ∧ 1 ≤ x.2 ∧ x.2 ≤ M := by
  have kS := k.goes g
  obtain ⟨h, t, r, m, rfl, rfl⟩ := g
  have k2 := k.reach r
  have hz := k2.head.size
  refine ⟨fun id => ?_, ?_, ?_, hz.2.1, hz.2.2⟩
  · rw [← itR_reach r k id]
    have h1 := itR_took k2.serve kS id
    rw [serve_id, serve_hd] at h1
    rw [hz.1]
    rw [← h1]
    exact itR_mem k2.serve k2 (fun q hq => by
      rcases List.mem_cons.1 hq with rfl | hq
      · exact ⟨h, by simp, (serve_id Q h).symm, (serve_l Q h).symm⟩
      · exact ⟨q, by simp [hq], rfl, rfl⟩) (fun q hq => by
      rcases List.mem_cons.1 hq with rfl | hq
      · exact ⟨q.serve Q, by simp, serve_id Q q⟩
      · exact ⟨q, by simp [hq], rfl⟩) id
  · rw [← waitR_reach r, waitR_cons, ← serve_l Q h, ← waitR_cons]
    exact waitR_took (by rw [serve_l]; exact k2.head.ne)
  · rw [hz.1]
    exact inW_iff.2 ⟨_, k2.rw h (List.mem_cons_self ..)⟩
theorem DrGoes.some {Q M : Int} {W : List (Int × Int)} : ∀ (n : Nat) (R : List Qd), muR R ≤ n → Ok Q M W R → R ≠ [] → ∃ x S, DrGoes Q R x S := by
  intro n
  induction n with
  | zero =>
    intro R hn k hne
    cases R with
    | nil => exact absurd rfl hne
    | cons h t =>
      cases m : (h.serve Q).may with
      | true => exact ⟨_, _, DrGoes.now m⟩
      | false =>
        have := mu_fail k.head k.q.1 k.m m
        have : muR (h :: t) = h.mu + muR t := rfl
        omega
  | succ n ih =>
    intro R hn k hne
    cases R with
    | nil => exact absurd rfl hne
    | cons h t =>
      cases m : (h.serve Q).may with
      | true => exact ⟨_, _, DrGoes.now m⟩
      | false =>
        have h1 := mu_fail k.head k.q.1 k.m m
        have h2 : muR (h :: t) = h.mu + muR t := rfl
        have h3 : muR (t ++ [h.fail Q]) = muR t + (h.fail Q).mu := by unfold muR; rw [List.map_append, List.sum_append]; simp
        obtain ⟨x, S, g⟩ := ih (t ++ [h.fail Q]) (by omega) (k.fail m) (by simp)
        exact ⟨x, S, DrGoes.after (.step m (.refl _)) g⟩
end Go.Proofs.Ytplbdeaoeocgkaa

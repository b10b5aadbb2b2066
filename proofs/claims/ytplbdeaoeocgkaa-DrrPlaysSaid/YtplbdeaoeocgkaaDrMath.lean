/- Plain lemmas on queues that take turns by weights: whose turn it is, and that it is told in one way alone. No condition beyond those that each lemma names. -/
import Derived.Test.YtplbdeaoeocgkaaGfBase
namespace Go.Proofs.Ytplbdeaoeocgkaa

/-- an item: its queue's number and its size. -/
abbrev It := Int × Int
/-- a queue: number, weight, what may still be taken, whether it is served, its items. -/
structure Qd where
  id : Int
  w : Int
  d : Int
  s : Bool
  l : List It
/-- its first item. -/
def Qd.hd (q : Qd) : It := q.l.headD (0, 0)
def Qd.serve (Q : Int) (q : Qd) : Qd := if q.s = true then q else { q with d := q.d + Q * q.w, s := true }
def Qd.may (q : Qd) : Bool := decide (q.hd.2 ≤ q.d)
/-- a turn at which nothing was let. -/
def Qd.fail (Q : Int) (q : Qd) : Qd := { q.serve Q with s := false }
def Qd.took (q : Qd) : Qd := { q with d := q.d - q.hd.2, l := q.l.tail }
def tookR (q : Qd) (t : List Qd) : List Qd := if q.l.tail = [] then t else q.took :: t
theorem serve_id (Q : Int) (q : Qd) : (q.serve Q).id = q.id := by unfold Qd.serve; split <;> rfl
theorem serve_w (Q : Int) (q : Qd) : (q.serve Q).w = q.w := by unfold Qd.serve; split <;> rfl
theorem serve_l (Q : Int) (q : Qd) : (q.serve Q).l = q.l := by unfold Qd.serve; split <;> rfl
theorem serve_s (Q : Int) (q : Qd) : (q.serve Q).s = true := by
  unfold Qd.serve
  split
  · assumption
  · rfl
theorem serve_hd (Q : Int) (q : Qd) : (q.serve Q).hd = q.hd := by unfold Qd.hd; rw [serve_l]
theorem serve_of {Q : Int} {q : Qd} (h : q.s = true) : q.serve Q = q := if_pos h
theorem serve_not {Q : Int} {q : Qd} (h : q.s = false) : q.serve Q = { q with d := q.d + Q * q.w, s := true } := if_neg (by rw [h]; decide)
theorem serve_serve (Q : Int) (q : Qd) : (q.serve Q).serve Q = q.serve Q := serve_of (serve_s Q q)
theorem fail_id (Q : Int) (q : Qd) : (q.fail Q).id = q.id := serve_id Q q
theorem fail_w (Q : Int) (q : Qd) : (q.fail Q).w = q.w := serve_w Q q
theorem fail_l (Q : Int) (q : Qd) : (q.fail Q).l = q.l := serve_l Q q
theorem fail_s (Q : Int) (q : Qd) : (q.fail Q).s = false := rfl
theorem fail_hd (Q : Int) (q : Qd) : (q.fail Q).hd = q.hd := serve_hd Q q
theorem fail_d (Q : Int) (q : Qd) : (q.fail Q).d = (q.serve Q).d := rfl
theorem dmay_iff (q : Qd) : q.may = true ↔ q.hd.2 ≤ q.d := by unfold Qd.may; simp
theorem may_not {q : Qd} : q.may = false ↔ q.d < q.hd.2 := by unfold Qd.may; simp

/-- by turns at which nothing was let. -/
inductive DrReach (Q : Int) : List Qd → List Qd → Prop
  | refl (R : List Qd) : DrReach Q R R
  | step {h : Qd} {t R : List Qd} : (h.serve Q).may = false → DrReach Q (t ++ [h.fail Q]) R → DrReach Q (h :: t) R
/-- the next item, and what is left then. -/
def DrGoes (Q : Int) (R : List Qd) (x : It) (R' : List Qd) : Prop :=
  ∃ h t, DrReach Q R (h :: t) ∧ (h.serve Q).may = true ∧ x = h.hd ∧ R' = tookR (h.serve Q) t
theorem DrReach.trans {Q : Int} {R S T : List Qd} (h : DrReach Q R S) (k : DrReach Q S T) : DrReach Q R T := by
  induction h with
  | refl _ => exact k
  | step a _ ih => exact .step a (ih k)
theorem DrReach.pass {Q : Int} : ∀ (A B : List Qd), (∀ x ∈ A, (x.serve Q).may = false) → DrReach Q (A ++ B) (B ++ A.map (Qd.fail Q))
  | [], B, _ => by rw [List.map_nil, List.append_nil]; exact .refl _
  | a :: A, B, h => by
    have := DrReach.pass A (B ++ [a.fail Q]) fun x hx => h x (List.mem_cons_of_mem _ hx)
    rw [List.cons_append]
    refine .step (h a (List.mem_cons_self ..)) ?_
    rw [List.append_assoc, List.map_cons]
    rwa [List.append_assoc] at this
theorem DrReach.only {Q : Int} {R S : List Qd} (h : DrReach Q R S) : ∀ {g h' : Qd} {t t' : List Qd}, S = g :: t → (g.serve Q).may = true → DrReach Q R (h' :: t') → (h'.serve Q).may = true → g = h' ∧ t = t' := by
  induction h with
  | refl R =>
    intro g h' t t' e hg k hh
    subst e
    cases k with
    | refl _ => exact ⟨rfl, rfl⟩
    | step a _ => rw [a] at hg; cases hg
  | step a _ ih =>
    intro g h' t t' e hg k hh
    cases k with
    | refl _ => rw [a] at hh; cases hh
    | step _ k => exact ih e hg k hh
theorem DrGoes.only {Q : Int} {R S T : List Qd} {x y : It} (h : DrGoes Q R x S) (k : DrGoes Q R y T) : x = y ∧ S = T := by
  obtain ⟨h1, t1, r1, m1, rfl, rfl⟩ := h
  obtain ⟨h2, t2, r2, m2, rfl, rfl⟩ := k
  obtain ⟨rfl, rfl⟩ := r1.only rfl m1 r2 m2
  exact ⟨rfl, rfl⟩
theorem DrGoes.after {Q : Int} {R S T : List Qd} {x : It} (h : DrReach Q R S) (k : DrGoes Q S x T) : DrGoes Q R x T := by
  obtain ⟨a, t, r, m, e1, e2⟩ := k
  exact ⟨a, t, h.trans r, m, e1, e2⟩
theorem DrGoes.now {Q : Int} {h : Qd} {t : List Qd} (m : (h.serve Q).may = true) : DrGoes Q (h :: t) h.hd (tookR (h.serve Q) t) := ⟨h, t, .refl _, m, rfl, rfl⟩
theorem DrReach.serve_head {Q : Int} {h : Qd} {t R : List Qd} {x : It} (k : DrGoes Q (h.serve Q :: t) x R) (m : (h.serve Q).may = true) : DrGoes Q (h :: t) x R := by
  have := (DrGoes.now (Q := Q) (h := h.serve Q) (t := t) (by rw [serve_serve]; exact m)).only k
  rw [serve_serve, serve_hd] at this
  obtain ⟨rfl, rfl⟩ := this
  exact DrGoes.now m

/-! ### numbers that may be -/
structure QOk (Q M : Int) (q : Qd) : Prop where
  w : 1 ≤ q.w ∧ q.w ≤ 255
  ne : q.l ≠ []
  len : q.l.length ≤ 65536
  it : ∀ y ∈ q.l, y.1 = q.id ∧ 1 ≤ y.2 ∧ y.2 ≤ M
  d0 : 0 ≤ q.d
  d1 : q.s = false → q.d < q.hd.2
  d2 : q.d ≤ M - 1 + Q * q.w
structure Ok (Q M : Int) (W : List (Int × Int)) (R : List Qd) : Prop where
  q : 1 ≤ Q ∧ Q ≤ 65536
  m : M ≤ 65536
  w : ∀ x ∈ W, 0 ≤ x.1 ∧ x.1 ≤ 255 ∧ 1 ≤ x.2 ∧ x.2 ≤ 255
  wn : (W.map (·.1)).Nodup
  r : ∀ x ∈ R, QOk Q M x
  rn : (R.map Qd.id).Nodup
  rw : ∀ x ∈ R, (x.id, x.w) ∈ W
  hd : ∀ x ∈ R.tail, x.s = false
theorem Qd.hd_mem {q : Qd} (h : q.l ≠ []) : q.hd ∈ q.l := by
  unfold Qd.hd
  cases hl : q.l with
  | nil => exact absurd hl h
  | cons x r => exact List.mem_cons_self ..
theorem QOk.size {Q M : Int} {q : Qd} (h : QOk Q M q) : q.hd.1 = q.id ∧ 1 ≤ q.hd.2 ∧ q.hd.2 ≤ M := h.it _ (Qd.hd_mem h.ne)
theorem QOk.serve {Q M : Int} {q : Qd} (h : QOk Q M q) (hQ : 1 ≤ Q) : QOk Q M (q.serve Q) := by
  have h0 : 0 ≤ Q * q.w := Int.mul_nonneg (by omega) (by have := h.w; omega)
  refine ⟨by rw [serve_w]; exact h.w, by rw [serve_l]; exact h.ne, by rw [serve_l]; exact h.len, by rw [serve_l, serve_id]; exact h.it, ?_, (fun e => by rw [serve_s] at e; cases e), ?_⟩
  · have := h.d0
    unfold Qd.serve; split
    · exact this
    · show 0 ≤ q.d + Q * q.w
      omega
  · rw [serve_w]
    unfold Qd.serve; split
    · exact h.d2
    · rename_i hs
      have := h.d1 (by simpa using hs)
      have := h.size
      show q.d + Q * q.w ≤ _
      omega
theorem QOk.fail {Q M : Int} {q : Qd} (h : QOk Q M q) (hQ : 1 ≤ Q) (m : (q.serve Q).may = false) : QOk Q M (q.fail Q) := by
  have k := h.serve hQ
  exact ⟨k.w, k.ne, k.len, k.it, k.d0, fun _ => may_not.1 m, k.d2⟩
theorem Ok.head {Q M : Int} {W : List (Int × Int)} {h : Qd} {t : List Qd} (k : Ok Q M W (h :: t)) : QOk Q M h := k.r h (List.mem_cons_self ..)
theorem nodup_turn {a : Int} {l : List Int} (h : (a :: l).Nodup) : (l ++ [a]).Nodup := by
  rw [List.nodup_cons] at h
  rw [List.nodup_append]
  exact ⟨h.2, by simp, fun x hx y hy e => by
    have : y = a := by simpa using hy
    exact h.1 (this ▸ e ▸ hx)⟩
theorem Ok.fail {Q M : Int} {W : List (Int × Int)} {h : Qd} {t : List Qd} (k : Ok Q M W (h :: t)) (m : (h.serve Q).may = false) : Ok Q M W (t ++ [h.fail Q]) := by
  have ht : ∀ x ∈ t, x.s = false := k.hd
  refine ⟨k.q, k.m, k.w, k.wn, fun x hx => ?_, ?_, fun x hx => ?_, fun x hx => ?_⟩
  · rcases List.mem_append.1 hx with hx | hx
    · exact k.r x (List.mem_cons_of_mem _ hx)
    · rw [List.mem_singleton] at hx; subst hx; exact k.head.fail k.q.1 m
  · have e : (t ++ [h.fail Q]).map Qd.id = t.map Qd.id ++ [h.id] := by rw [List.map_append, List.map_cons, List.map_nil, fail_id]
    rw [e]
    exact nodup_turn k.rn
  · rcases List.mem_append.1 hx with hx | hx
    · exact k.rw x (List.mem_cons_of_mem _ hx)
    · rw [List.mem_singleton] at hx; subst hx; rw [fail_id, fail_w]; exact k.rw h (List.mem_cons_self ..)
  · rcases List.mem_append.1 (List.mem_of_mem_tail hx) with hx | hx
    · exact ht x hx
    · rw [List.mem_singleton] at hx; subst hx; rfl
theorem Ok.serve {Q M : Int} {W : List (Int × Int)} {h : Qd} {t : List Qd} (k : Ok Q M W (h :: t)) : Ok Q M W (h.serve Q :: t) := by
  refine ⟨k.q, k.m, k.w, k.wn, fun x hx => ?_, ?_, fun x hx => ?_, k.hd⟩
  · rcases List.mem_cons.1 hx with rfl | hx
    · exact k.head.serve k.q.1
    · exact k.r x (List.mem_cons_of_mem _ hx)
  · have := k.rn
    rw [List.map_cons] at this ⊢
    rwa [serve_id]
  · rcases List.mem_cons.1 hx with rfl | hx
    · rw [serve_id, serve_w]; exact k.rw h (List.mem_cons_self ..)
    · exact k.rw x (List.mem_cons_of_mem _ hx)
theorem Ok.took {Q M : Int} {W : List (Int × Int)} {h : Qd} {t : List Qd} (k : Ok Q M W (h :: t)) (hs : h.s = true) (m : h.may = true) : Ok Q M W (tookR h t) := by
  have hm := (dmay_iff h).1 m
  have hz := k.head.size
  unfold tookR
  split
  · refine ⟨k.q, k.m, k.w, k.wn, fun x hx => k.r x (List.mem_cons_of_mem _ hx), ?_, fun x hx => k.rw x (List.mem_cons_of_mem _ hx), fun x hx => k.hd x (List.mem_of_mem_tail hx)⟩
    have := k.rn
    rw [List.map_cons] at this
    exact (List.nodup_cons.1 this).2
  · rename_i hn
    refine ⟨k.q, k.m, k.w, k.wn, fun x hx => ?_, k.rn, fun x hx => ?_, k.hd⟩
    · rcases List.mem_cons.1 hx with rfl | hx
      · refine ⟨k.head.w, hn, ?_, fun y hy => k.head.it y (List.mem_of_mem_tail hy), ?_, ?_, ?_⟩
        · have := k.head.len
          show h.l.tail.length ≤ 65536
          rw [List.length_tail]; omega
        · show 0 ≤ h.d - h.hd.2
          omega
        · intro e
          have : h.s = false := e
          rw [hs] at this; cases this
        · have := k.head.d2
          show h.d - h.hd.2 ≤ M - 1 + Q * h.w
          omega
      · exact k.r x (List.mem_cons_of_mem _ hx)
    · rcases List.mem_cons.1 hx with rfl | hx
      · exact k.rw h (List.mem_cons_self ..)
      · exact k.rw x (List.mem_cons_of_mem _ hx)
theorem Ok.reach {Q M : Int} {W : List (Int × Int)} {R S : List Qd} (h : DrReach Q R S) : Ok Q M W R → Ok Q M W S := by
  induction h with
  | refl _ => exact id
  | step a _ ih => exact fun k => ih (k.fail a)
theorem Ok.goes {Q M : Int} {W : List (Int × Int)} {R S : List Qd} {x : It} (k : Ok Q M W R) (h : DrGoes Q R x S) : Ok Q M W S := by
  obtain ⟨a, t, r, m, rfl, rfl⟩ := h
  exact ((k.reach r).serve).took (serve_s Q a) m
/-- where a first item is let at once, its queue is served. -/
theorem QOk.served {Q M : Int} {q : Qd} (h : QOk Q M q) (m : q.may = true) : q.s = true := by
  cases hs : q.s with
  | true => rfl
  | false =>
    have := h.d1 hs
    have := (dmay_iff q).1 m
    omega

/-! ### how long it may take -/
def Qd.mu (q : Qd) : Nat := 2 * (65536 - q.d).toNat + if q.s = true then 1 else 0
def muR (R : List Qd) : Nat := (R.map Qd.mu).sum
theorem mu_fail {Q M : Int} {q : Qd} (h : QOk Q M q) (hQ : 1 ≤ Q) (hM : M ≤ 65536) (m : (q.serve Q).may = false) : (q.fail Q).mu < q.mu := by
  have hm := may_not.1 m
  rw [serve_hd] at hm
  have hz := h.size
  have h0 := h.d0
  have hw := h.w
  have hp : 0 < Q * q.w := Int.mul_pos (by omega) (by omega)
  unfold Qd.mu
  rw [fail_s, fail_d]
  cases hs : q.s with
  | true =>
    rw [serve_of hs] at hm ⊢
    simp
  | false =>
    rw [serve_not hs] at hm ⊢
    have : q.d + Q * q.w < q.hd.2 := hm
    simp only [Bool.false_eq_true, if_false]
    omega
theorem muR_pass {Q M : Int} (hQ : 1 ≤ Q) (hM : M ≤ 65536) : ∀ (R : List Qd), R ≠ [] → (∀ x ∈ R, QOk Q M x) → (∀ x ∈ R, (x.serve Q).may = false) → muR (R.map (Qd.fail Q)) < muR R
  | [], h, _, _ => absurd rfl h
  | [a], _, ho, hf => by
    have := mu_fail (ho a (List.mem_cons_self ..)) hQ hM (hf a (List.mem_cons_self ..))
    simpa [muR] using this
  | a :: b :: r, _, ho, hf => by
    have h1 := mu_fail (ho a (List.mem_cons_self ..)) hQ hM (hf a (List.mem_cons_self ..))
    have h2 := muR_pass hQ hM (b :: r) (by simp) (fun x hx => ho x (List.mem_cons_of_mem _ hx)) (fun x hx => hf x (List.mem_cons_of_mem _ hx))
    simp only [muR, List.map_cons, List.sum_cons] at h2 ⊢
    omega
/-- how many rounds there may still be. -/
def mR : List Qd → Nat
  | [] => 0
  | h :: t => if h.may = true then 0 else 1 + muR (h :: t)
theorem mR_may {h : Qd} {t : List Qd} (m : h.may = true) : mR (h :: t) = 0 := if_pos m
theorem mR_not {h : Qd} {t : List Qd} (m : h.may = false) : mR (h :: t) = 1 + muR (h :: t) := if_neg (by rw [m]; decide)
theorem mR_le (R : List Qd) : mR R ≤ 1 + muR R := by
  cases R with
  | nil => exact Nat.zero_le _
  | cons h t =>
    cases hm : h.may with
    | true => rw [mR_may hm]; exact Nat.zero_le _
    | false => rw [mR_not hm]; exact Nat.le_refl _

/-! ### what is asked -/
def inW (W : List (Int × Int)) (id : Int) : Bool := W.any fun x => x.1 == id
def wOf (W : List (Int × Int)) (id : Int) : Int := ((W.find? fun x => x.1 == id).map (·.2)).getD 0
def isR (R : List Qd) (id : Int) : Bool := R.any fun q => q.id == id
def lenR (R : List Qd) (id : Int) : Nat := ((R.find? fun q => q.id == id).map (·.l.length)).getD 0
def waitR (R : List Qd) : Nat := (R.map fun q => q.l.length).sum
def addQ (q : Qd) (x : It) : Qd := { q with l := q.l ++ [x] }
def pushR (W : List (Int × Int)) (R : List Qd) (x : It) : List Qd :=
  if isR R x.1 = true then R.map (fun q => if q.id = x.1 then addQ q x else q) else R ++ [⟨x.1, wOf W x.1, 0, false, [x]⟩]
def pushE (W : List (Int × Int)) (R : List Qd) (x : It) : Int :=
  if inW W x.1 = false then 7 else if x.2 < 1 ∨ 65536 < x.2 then 2 else if lenR R x.1 = 65536 then 9 else 0
def push (W : List (Int × Int)) (R : List Qd) (x : It) : List Qd := if pushE W R x = 0 then pushR W R x else R
def addE (W : List (Int × Int)) (id wt : Int) : Int := if id < 0 ∨ 255 < id ∨ wt < 1 ∨ 255 < wt then 2 else if inW W id = true then 8 else 0
def addW (W : List (Int × Int)) (id wt : Int) : List (Int × Int) := if addE W id wt = 0 then W ++ [(id, wt)] else W
def remE (W : List (Int × Int)) (id : Int) : Int := if inW W id = true then 0 else 7
def remW (W : List (Int × Int)) (id : Int) : List (Int × Int) := W.filter fun x => !(x.1 == id)
def remR (R : List Qd) (id : Int) : List Qd := R.filter fun q => !(q.id == id)
theorem inW_iff {W : List (Int × Int)} {id : Int} : inW W id = true ↔ ∃ wt, (id, wt) ∈ W := by
  unfold inW
  rw [List.any_eq_true]
  constructor
  · rintro ⟨⟨a, b⟩, hx, e⟩
    have e : a = id := by simpa using e
    exact ⟨b, e ▸ hx⟩
  · rintro ⟨wt, h⟩
    exact ⟨_, h, by simp⟩
theorem inW_not {W : List (Int × Int)} {id : Int} : inW W id = false ↔ ∀ x ∈ W, x.1 ≠ id := by
  constructor
  · intro h x hx e
    have : inW W id = true := inW_iff.2 ⟨x.2, by rw [← e]; exact hx⟩
    rw [h] at this; cases this
  · intro h
    cases hw : inW W id with
    | false => rfl
    | true =>
      obtain ⟨wt, h'⟩ := inW_iff.1 hw
      exact absurd rfl (h _ h')
theorem isR_iff {R : List Qd} {id : Int} : isR R id = true ↔ ∃ q ∈ R, q.id = id := by
  unfold isR
  rw [List.any_eq_true]
  simp
theorem isR_not {R : List Qd} {id : Int} : isR R id = false ↔ ∀ q ∈ R, q.id ≠ id := by
  constructor
  · intro h q hq e
    have : isR R id = true := isR_iff.2 ⟨q, hq, e⟩
    rw [h] at this; cases this
  · intro h
    cases hr : isR R id with
    | false => rfl
    | true =>
      obtain ⟨q, hq, e⟩ := isR_iff.1 hr
      exact absurd e (h q hq)
theorem same_of_nodup {α β : Type} {f : α → β} : ∀ {l : List α}, (l.map f).Nodup → ∀ {a b : α}, a ∈ l → b ∈ l → f a = f b → a = b
  | [], _, _, _, h, _, _ => nomatch h
  | x :: l, h, a, b, ha, hb, e => by
    rw [List.map_cons, List.nodup_cons] at h
    rcases List.mem_cons.1 ha with e1 | h1
    · rcases List.mem_cons.1 hb with e2 | h2
      · rw [e1, e2]
      · exact absurd (List.mem_map.2 ⟨b, h2, by rw [← e, e1]⟩) h.1
    · rcases List.mem_cons.1 hb with e2 | h2
      · exact absurd (List.mem_map.2 ⟨a, h1, by rw [e, e2]⟩) h.1
      · exact same_of_nodup h.2 h1 h2 e
theorem Ok.q_of {Q M : Int} {W : List (Int × Int)} {R : List Qd} (k : Ok Q M W R) {a b : Qd} (ha : a ∈ R) (hb : b ∈ R) (e : a.id = b.id) : a = b := same_of_nodup k.rn ha hb e
theorem Ok.w_of {Q M : Int} {W : List (Int × Int)} {R : List Qd} (k : Ok Q M W R) {id a b : Int} (ha : (id, a) ∈ W) (hb : (id, b) ∈ W) : a = b := by
  have := same_of_nodup k.wn ha hb rfl
  exact (Prod.mk.inj this).2
theorem Ok.wOf {Q M : Int} {W : List (Int × Int)} {R : List Qd} (k : Ok Q M W R) {id a : Int} (ha : (id, a) ∈ W) : wOf W id = a := by
  unfold Go.Proofs.Ytplbdeaoeocgkaa.wOf
  cases hf : W.find? fun x => x.1 == id with
  | none =>
    have := List.find?_eq_none.1 hf _ ha
    simp at this
  | some y =>
    have h1 := List.mem_of_find?_eq_some hf
    have h2 : y.1 = id := by simpa using List.find?_some hf
    have : y = (id, a) := same_of_nodup k.wn h1 ha h2
    rw [this]; rfl
theorem Ok.lenR {Q M : Int} {W : List (Int × Int)} {R : List Qd} (k : Ok Q M W R) {q : Qd} (h : q ∈ R) : lenR R q.id = q.l.length := by
  unfold Go.Proofs.Ytplbdeaoeocgkaa.lenR
  cases hf : R.find? fun x => x.id == q.id with
  | none =>
    have := List.find?_eq_none.1 hf _ h
    simp at this
  | some y =>
    have h1 := List.mem_of_find?_eq_some hf
    have h2 : y.id = q.id := by simpa using List.find?_some hf
    rw [k.q_of h1 h h2]; rfl
theorem lenR_not {R : List Qd} {id : Int} (h : isR R id = false) : lenR R id = 0 := by
  unfold lenR
  have : R.find? (fun x => x.id == id) = none := List.find?_eq_none.2 fun x hx => by simpa using isR_not.1 h x hx
  rw [this]; rfl

/-! ### what is asked leaves numbers that may be -/
theorem Ok.add {Q M : Int} {W : List (Int × Int)} {R : List Qd} (k : Ok Q M W R) (id wt : Int) : Ok Q M (addW W id wt) R := by
  unfold addW
  split
  · rename_i he
    unfold addE at he
    by_cases h1 : id < 0 ∨ 255 < id ∨ wt < 1 ∨ 255 < wt
    · rw [if_pos h1] at he; omega
    · rw [if_neg h1] at he
      cases hw : inW W id with
      | true => rw [if_pos hw] at he; omega
      | false =>
        have hn := inW_not.1 hw
        refine ⟨k.q, k.m, fun x hx => ?_, ?_, k.r, k.rn, fun x hx => List.mem_append_left _ (k.rw x hx), k.hd⟩
        · rcases List.mem_append.1 hx with hx | hx
          · exact k.w x hx
          · rw [List.mem_singleton] at hx; subst hx; exact ⟨by omega, by omega, by omega, by omega⟩
        · rw [List.map_append, List.nodup_append]
          refine ⟨k.wn, by simp, fun a ha b hb e => ?_⟩
          obtain ⟨x, hx, rfl⟩ := List.mem_map.1 ha
          have : b = id := by simpa using hb
          exact hn x hx (e.trans this)
  · exact k
theorem nodup_filter_map {α β : Type} {f : α → β} {p : α → Bool} {l : List α} (h : (l.map f).Nodup) : ((l.filter p).map f).Nodup :=
  h.sublist ((List.filter_sublist).map f)
theorem mem_tail_filter {α : Type} {p : α → Bool} : ∀ {l : List α} {x : α}, x ∈ (l.filter p).tail → x ∈ l.tail
  | [], _, h => by simp at h
  | a :: l, x, h => by
    by_cases hp : p a = true
    · rw [List.filter_cons_of_pos hp] at h
      exact (List.mem_filter.1 h).1
    · rw [List.filter_cons_of_neg hp] at h
      exact (List.mem_filter.1 (List.mem_of_mem_tail h)).1
theorem Ok.rem {Q M : Int} {W : List (Int × Int)} {R : List Qd} (k : Ok Q M W R) (id : Int) : Ok Q M (remW W id) (remR R id) := by
  unfold remW remR
  refine ⟨k.q, k.m, fun x hx => k.w x (List.mem_filter.1 hx).1, nodup_filter_map k.wn, fun x hx => k.r x (List.mem_filter.1 hx).1, nodup_filter_map k.rn, fun x hx => ?_, fun x hx => k.hd x (mem_tail_filter hx)⟩
  have := List.mem_filter.1 hx
  exact List.mem_filter.2 ⟨k.rw x this.1, this.2⟩
theorem pushE_zero {W : List (Int × Int)} {R : List Qd} {x : It} (h : pushE W R x = 0) : inW W x.1 = true ∧ 1 ≤ x.2 ∧ x.2 ≤ 65536 ∧ lenR R x.1 ≠ 65536 := by
  unfold pushE at h
  cases hw : inW W x.1 with
  | false => rw [if_pos hw] at h; omega
  | true =>
    rw [if_neg (by rw [hw]; decide)] at h
    by_cases h1 : x.2 < 1 ∨ 65536 < x.2
    · rw [if_pos h1] at h; omega
    · rw [if_neg h1] at h
      by_cases h2 : lenR R x.1 = 65536
      · rw [if_pos h2] at h; omega
      · exact ⟨rfl, by omega, by omega, h2⟩
theorem addQ_id (q : Qd) (x : It) : (addQ q x).id = q.id := rfl
theorem addQ_hd {q : Qd} (x : It) (h : q.l ≠ []) : (addQ q x).hd = q.hd := by
  unfold addQ Qd.hd
  cases hl : q.l with
  | nil => exact absurd hl h
  | cons a r => rfl
theorem Ok.push {Q M : Int} {W : List (Int × Int)} {R : List Qd} (k : Ok Q M W R) {x : It} (hM : 1 ≤ M) (hx : pushE W R x = 0 → x.2 ≤ M) : Ok Q M W (push W R x) := by
  unfold Go.Proofs.Ytplbdeaoeocgkaa.push
  split
  · rename_i he
    obtain ⟨hin, h1, _, hlen⟩ := pushE_zero he
    have hxM := hx he
    obtain ⟨wt, hwt⟩ := inW_iff.1 hin
    unfold pushR
    cases hr : isR R x.1 with
    | true =>
      rw [if_pos rfl]
      have hid : ∀ q : Qd, (if q.id = x.1 then addQ q x else q).id = q.id := fun q => by split <;> rfl
      have hw' : ∀ q : Qd, (if q.id = x.1 then addQ q x else q).w = q.w := fun q => by split <;> rfl
      have hs' : ∀ q : Qd, (if q.id = x.1 then addQ q x else q).s = q.s := fun q => by split <;> rfl
      refine ⟨k.q, k.m, k.w, k.wn, fun y hy => ?_, ?_, fun y hy => ?_, fun y hy => ?_⟩
      · obtain ⟨q, hq, rfl⟩ := List.mem_map.1 hy
        have o := k.r q hq
        split
        · rename_i e
          have hl := k.lenR hq
          refine ⟨o.w, by simp [addQ], ?_, fun y hy => ?_, o.d0, fun hs => by rw [addQ_hd x o.ne]; exact o.d1 hs, o.d2⟩
          · have := o.len
            rw [e] at hl
            show (q.l ++ [x]).length ≤ 65536
            rw [List.length_append, List.length_singleton]; omega
          · rcases List.mem_append.1 hy with hy | hy
            · exact o.it y hy
            · rw [List.mem_singleton] at hy; subst hy; exact ⟨e.symm, h1, hxM⟩
        · exact o
      · rw [List.map_map, show (Qd.id ∘ fun q => if q.id = x.1 then addQ q x else q) = Qd.id from funext hid]
        exact k.rn
      · obtain ⟨q, hq, rfl⟩ := List.mem_map.1 hy
        rw [hid, hw']; exact k.rw q hq
      · rw [← List.map_tail] at hy
        obtain ⟨q, hq, rfl⟩ := List.mem_map.1 hy
        rw [hs']; exact k.hd q hq
    | false =>
      rw [if_neg (by decide)]
      have hn := isR_not.1 hr
      have ew := k.wOf hwt
      have hb := k.w _ hwt
      refine ⟨k.q, k.m, k.w, k.wn, fun y hy => ?_, ?_, fun y hy => ?_, fun y hy => ?_⟩
      · rcases List.mem_append.1 hy with hy | hy
        · exact k.r y hy
        · rw [List.mem_singleton] at hy; subst hy
          have h0 : 0 ≤ Q * wt := Int.mul_nonneg (by have := k.q; omega) (by have : 1 ≤ wt := hb.2.2.1; omega)
          refine ⟨by show 1 ≤ Go.Proofs.Ytplbdeaoeocgkaa.wOf W x.1 ∧ Go.Proofs.Ytplbdeaoeocgkaa.wOf W x.1 ≤ 255; rw [ew]; exact hb.2.2, by simp, by simp, fun y hy => ?_, Int.le_refl _, fun _ => ?_, ?_⟩
          · have : y = x := by simpa using hy
            subst this; exact ⟨rfl, h1, hxM⟩
          · show 0 < x.2
            omega
          · show 0 ≤ M - 1 + Q * Go.Proofs.Ytplbdeaoeocgkaa.wOf W x.1
            rw [ew]; omega
      · rw [List.map_append, List.nodup_append]
        refine ⟨k.rn, by simp, fun a ha b hb' e => ?_⟩
        obtain ⟨q, hq, rfl⟩ := List.mem_map.1 ha
        have : b = x.1 := by simpa using hb'
        exact hn q hq (e.trans this)
      · rcases List.mem_append.1 hy with hy | hy
        · exact k.rw y hy
        · rw [List.mem_singleton] at hy; subst hy
          show (x.1, Go.Proofs.Ytplbdeaoeocgkaa.wOf W x.1) ∈ W
          rw [ew]; exact hwt
      · cases hR : R with
        | nil => rw [hR] at hy; simp at hy
        | cons a r =>
          rw [hR, List.cons_append, List.tail_cons] at hy
          rcases List.mem_append.1 hy with hy | hy
          · exact k.hd y (by rw [hR]; exact hy)
          · rw [List.mem_singleton] at hy; subst hy; rfl
  · exact k
end Go.Proofs.Ytplbdeaoeocgkaa

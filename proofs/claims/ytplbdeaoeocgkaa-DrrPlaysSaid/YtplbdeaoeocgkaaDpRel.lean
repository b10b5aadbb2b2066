/- Plain lemmas: the document's queues and the scheduler's are the same. No condition beyond those that each lemma names. -/
import Derived.Test.YtplbdeaoeocgkaaDpSet
namespace Go.Proofs.Ytplbdeaoeocgkaa

/-- the document's queues xs and round rd are those of W and R. -/
structure DRel (xs : List Qv) (rd : List Int) (W : List (Int × Int)) (R : List Qd) : Prop where
  w : xs.map (fun x => (x.q.id, x.q.w)) = W
  rd : rd = R.map Qd.id
  has : ∀ q ∈ R, ∃ x ∈ xs, x.q = q
  emp : ∀ x ∈ xs, x.q.l = [] ∨ x.q ∈ R
section
variable {xs : List Qv} {rd : List Int} {W : List (Int × Int)} {R : List Qd} {Q M : Int}
theorem DRel.start : DRel [] [] [] [] := ⟨rfl, rfl, (fun _ h => nomatch h), (fun _ h => nomatch h)⟩
theorem DRel.nodup (r : DRel xs rd W R) (k : Ok Q M W R) : (xs.map fun x => x.q.id).Nodup := by
  have := k.wn
  rw [← r.w, List.map_map] at this
  exact this
theorem DRel.inW (r : DRel xs rd W R) (id : Int) : inW W id = true ↔ ∃ x ∈ xs, x.q.id = id := by
  rw [inW_iff, ← r.w]
  constructor
  · rintro ⟨wt, h⟩
    obtain ⟨x, hx, e⟩ := List.mem_map.1 h
    injection e with e1 e2
    exact ⟨x, hx, e1⟩
  · rintro ⟨x, hx, rfl⟩
    exact ⟨x.q.w, List.mem_map.2 ⟨x, hx, rfl⟩⟩
theorem DRel.notW (r : DRel xs rd W R) {id : Int} (h : ∀ x ∈ xs, x.q.id ≠ id) : Go.Proofs.Ytplbdeaoeocgkaa.inW W id = false := by
  cases e : Go.Proofs.Ytplbdeaoeocgkaa.inW W id with
  | false => rfl
  | true =>
    obtain ⟨x, hx, e⟩ := (r.inW id).1 e
    exact absurd e (h x hx)
theorem DRel.few (r : DRel xs rd W R) (k : Ok Q M W R) : xs.length ≤ 256 := by
  have := k.fewW
  rw [← r.w, List.length_map] at this
  exact this
theorem DRel.fewR (r : DRel xs rd W R) (k : Ok Q M W R) : rd.length ≤ 256 := by
  have := k.few
  rw [r.rd, List.length_map]
  exact this
theorem DRel.items (r : DRel xs rd W R) (k : Ok Q M W R) : ∀ x ∈ xs, x.q.l.length ≤ 65536 := fun x hx => by
  rcases r.emp x hx with e | e
  · rw [e]; exact Nat.zero_le _
  · exact (k.r _ e).len
/-- a queue that takes turns is the one of its number. -/
theorem DRel.only (r : DRel xs rd W R) (k : Ok Q M W R) {x : Qv} {q : Qd} (hx : x ∈ xs) (hq : q ∈ R) (e : x.q.id = q.id) : x.q = q := by
  obtain ⟨y, hy, rfl⟩ := r.has q hq
  rw [same_of_nodup (r.nodup k) hx hy e]
theorem DRel.empty (r : DRel xs rd W R) {x : Qv} (hx : x ∈ xs) (h : isR R x.q.id = false) : x.q.l = [] := by
  rcases r.emp x hx with e | e
  · exact e
  · exact absurd rfl (isR_not.1 h _ e)
theorem DRel.len (r : DRel xs rd W R) (k : Ok Q M W R) {id : Int} {n : Nat} (h : LenIs xs id n) : n = lenR R id := by
  cases hr : isR R id with
  | false =>
    rw [lenR_not hr]
    rcases h with ⟨_, e⟩ | ⟨i, x, hx, rfl, e⟩
    · exact e
    · rw [e, r.empty (List.mem_of_getElem? hx) hr]; rfl
  | true =>
    obtain ⟨q, hq, rfl⟩ := isR_iff.1 hr
    rcases h with ⟨h, _⟩ | ⟨i, x, hx, hid, e⟩
    · obtain ⟨y, hy, e⟩ := r.has q hq
      exact absurd (by rw [e]) (h y hy)
    · rw [e, r.only k (List.mem_of_getElem? hx) hq hid, k.lenR hq]
theorem nodup_of_map {α β : Type} {f : α → β} {l : List α} (h : (l.map f).Nodup) : l.Nodup := by
  induction l with
  | nil => exact List.nodup_nil
  | cons a t ih =>
    rw [List.map_cons, List.nodup_cons] at h
    rw [List.nodup_cons]
    exact ⟨fun e => h.1 (List.mem_map_of_mem e), ih h.2⟩
theorem waitS_filter (xs : List Qv) : waitS xs = waitR ((xs.map Qv.q).filter fun q => !q.l.isEmpty) := by
  unfold waitS waitR
  induction xs with
  | nil => rfl
  | cons x t ih =>
    rw [List.map_cons, List.sum_cons, List.map_cons, List.filter_cons]
    split
    · rw [List.map_cons, List.sum_cons, ih]
    · rename_i h
      have : x.q.l = [] := by simpa using h
      rw [this, ih]; simp
theorem DRel.wait (r : DRel xs rd W R) (k : Ok Q M W R) : waitS xs = waitR R := by
  rw [waitS_filter]
  have n1 : ((xs.map Qv.q).filter fun q => !q.l.isEmpty).Nodup := by
    refine List.Pairwise.filter _ (nodup_of_map (f := Qd.id) ?_)
    rw [List.map_map]
    exact r.nodup k
  have n2 : R.Nodup := nodup_of_map k.rn
  have hp : ((xs.map Qv.q).filter fun q => !q.l.isEmpty).Perm R := (List.perm_ext_iff_of_nodup n1 n2).2 fun q => by
    rw [List.mem_filter, List.mem_map]
    constructor
    · rintro ⟨⟨x, hx, rfl⟩, h⟩
      rcases r.emp x hx with e | e
      · rw [e] at h; simp at h
      · exact e
    · intro h
      obtain ⟨x, hx, e⟩ := r.has q h
      refine ⟨⟨x, hx, e⟩, ?_⟩
      have := (k.r q h).ne
      cases hl : q.l with
      | nil => exact absurd hl this
      | cons _ _ => rfl
  unfold waitR
  exact (hp.map _).sum_nat

/-! ### what the operations leave -/
theorem DRel.add (r : DRel xs rd W R) (id wt : Int) : DRel (xs ++ [⟨⟨id, wt, 0, false, []⟩, none, 0⟩]) rd (W ++ [(id, wt)]) R :=
  ⟨by rw [List.map_append, r.w]; rfl, r.rd, fun q hq => by
    obtain ⟨x, hx, e⟩ := r.has q hq
    exact ⟨x, List.mem_append_left _ hx, e⟩, fun x hx => by
    rcases List.mem_append.1 hx with hx | hx
    · exact r.emp x hx
    · rw [List.mem_singleton] at hx; subst hx; exact Or.inl rfl⟩
theorem erase_filter {xs : List Qv} {i : Nat} {x : Qv} (hn : (xs.map fun x => x.q.id).Nodup) (hx : xs[i]? = some x) : xs.take i ++ xs.drop (i + 1) = xs.filter fun y => !(y.q.id == x.q.id) := by
  induction xs generalizing i with
  | nil => simp at hx
  | cons a t ih =>
    rw [List.map_cons, List.nodup_cons] at hn
    cases i with
    | zero =>
      simp at hx
      subst hx
      rw [List.filter_cons_of_neg (by simp)]
      rw [List.filter_eq_self.2 fun y hy => by
        have : y.q.id ≠ a.q.id := fun e => hn.1 (List.mem_map.2 ⟨y, hy, e⟩)
        simpa using this]
      rfl
    | succ i =>
      have hx' : t[i]? = some x := by simpa using hx
      have hne : a.q.id ≠ x.q.id := fun e => hn.1 (List.mem_map.2 ⟨x, List.mem_of_getElem? hx', e.symm⟩)
      rw [List.filter_cons_of_pos (by simpa using hne), ← ih hn.2 hx']
      rfl
theorem DRel.rem (r : DRel xs rd W R) (k : Ok Q M W R) {i : Nat} {x : Qv} (hx : xs[i]? = some x) : DRel (xs.take i ++ xs.drop (i + 1)) (outL rd x.q.id) (remW W x.q.id) (remR R x.q.id) := by
  rw [erase_filter (r.nodup k) hx]
  refine ⟨?_, ?_, fun q hq => ?_, fun y hy => ?_⟩
  · rw [← r.w]
    unfold remW
    rw [List.filter_map]; rfl
  · rw [r.rd]
    unfold outL remR
    rw [List.filter_map]
    congr 1
    refine List.filter_congr fun q _ => ?_
    simp only [Function.comp]
    by_cases e : q.id = x.q.id <;> simp [e]
  · unfold remR at hq
    rw [List.mem_filter] at hq
    obtain ⟨y, hy, e⟩ := r.has q hq.1
    exact ⟨y, List.mem_filter.2 ⟨hy, by rw [e]; exact hq.2⟩, e⟩
  · rw [List.mem_filter] at hy
    rcases r.emp y hy.1 with e | e
    · exact Or.inl e
    · exact Or.inr (List.mem_filter.2 ⟨e, hy.2⟩)
theorem map_set_same {α β : Type} (f : α → β) (xs : List α) (i : Nat) (x y : α) (hx : xs[i]? = some x) (e : f y = f x) : (xs.set i y).map f = xs.map f := by
  rw [List.map_set, e]
  induction xs generalizing i with
  | nil => rfl
  | cons a t ih =>
    cases i with
    | zero => simp at hx; subst hx; rfl
    | succ i =>
      rw [List.map_cons, List.set_cons_succ, ih i (by simpa using hx)]
/-- one queue is another one of the same number. -/
theorem DRel.put (r : DRel xs rd W R) (k : Ok Q M W R) {i : Nat} {x y : Qv} (hx : xs[i]? = some x) (e1 : y.q.id = x.q.id) (e2 : y.q.w = x.q.w) {S : List Qd} {rd' : List Int} (hrd : rd' = S.map Qd.id)
    (hs : ∀ q ∈ S, q = y.q ∨ (q ∈ R ∧ q.id ≠ x.q.id)) (hr : ∀ q ∈ R, q.id ≠ x.q.id → q ∈ S) (hy : y.q.l = [] ∨ y.q ∈ S) : DRel (xs.set i y) rd' W S := by
  have hil := (List.getElem?_eq_some_iff.1 hx).1
  refine ⟨?_, hrd, fun q hq => ?_, fun z hz => ?_⟩
  · rw [map_set_same _ xs i x y hx (by rw [e1, e2])]; exact r.w
  · rcases hs q hq with rfl | ⟨h, hne⟩
    · exact ⟨y, List.mem_set hil y, rfl⟩
    · obtain ⟨z, hz, e⟩ := r.has q h
      refine ⟨z, ?_, e⟩
      obtain ⟨j, hj, rfl⟩ := List.getElem_of_mem hz
      have hji : j ≠ i := fun e' => by
        subst e'
        rw [List.getElem?_eq_getElem hj] at hx
        injection hx with hx
        rw [hx] at e
        exact hne (by rw [e])
      rw [← List.getElem_set_ne (h := Ne.symm hji) (a := y) (hj := by rw [List.length_set]; exact hj)]
      exact List.getElem_mem _
  · obtain ⟨j, hj, e⟩ := List.getElem_of_mem hz
    rw [List.length_set] at hj
    rw [List.getElem_set] at e
    split at e
    · subst e; exact hy
    · rename_i hne
      subst e
      rcases r.emp xs[j] (List.getElem_mem hj) with h | h
      · exact Or.inl h
      · refine Or.inr (hr _ h fun e => hne ?_)
        rw [List.getElem?_eq_getElem hil] at hx
        injection hx with hx
        have e3 : xs[j] = xs[i] := same_of_nodup (r.nodup k) (List.getElem_mem hj) (List.getElem_mem hil) (by rw [hx]; exact e)
        have n1 := nodup_of_map (r.nodup k)
        exact ((List.getElem_inj n1).1 e3).symm
end
end Go.Proofs.Ytplbdeaoeocgkaa

/- Proved: lemmas of one statement's proof, merged by program: what each part proves stands ahead of it. Conditions: those that the lemmas name. -/
import Derived.Test.YtmnbkghihdbepaaM15
import Derived.Test.YtmnbkghihdbepaaM13

/- Plain lemmas on cells that lie in memory, from an address on, in a block of a type; and on parts of slices. No condition beyond those that each lemma names. -/
namespace Go.Proofs.Ytmnbkghihdbepaa
open Go.ChangeShapes Go.WideShapes Go.ChangeAt Go.RowKit

/-- These cells lie from address A on; their block is one of type t. -/
def Tw (w : World) (t : TypeId) (A : Option Addr) (xs : List Value) : Prop :=
  0 < xs.length → ∃ g o cur f, A = some ⟨g, o, none⟩ ∧ w.heap[g]? = some (.cells cur t f) ∧ ∀ j u, xs[j]? = some u → w.cell? ⟨g, o + j, none⟩ = some u
section
variable {w w' : World} {t : TypeId} {A : Option Addr} {xs : List Value}
theorem Tw.nil (w : World) (t : TypeId) (A : Option Addr) : Tw w t A [] := fun h => absurd h (Nat.lt_irrefl 0)
theorem Tw.move (h : Tw w t A xs) (hb : ∀ (g : Nat) (cur : Array Value) (f : Nat × Nat), w.heap[g]? = some (Obj.cells cur t f) → w'.heap[g]? = w.heap[g]?) : Tw w' t A xs := fun h0 => by
  obtain ⟨g, o, cur, f, e, hg, hx⟩ := h h0
  have hk := hb g cur f hg
  exact ⟨g, o, cur, f, e, hk.trans hg, fun j u hj => (World.cell?_of_block (a := ⟨g, o + j, none⟩) hk).trans (hx j u hj)⟩
theorem Tw.below (h : Tw w t A xs) (k : Below w.heap.size w w') : Tw w' t A xs := h.move fun g _ _ hg => k.block g (Array.getElem?_eq_some_iff.1 hg).1
/-- a store into a block of another type. -/
theorem Tw.set_ (h : Tw w t A xs) {b : Nat} {ty : TypeId} {vs : List Value} (k : At w b ty vs) (ht : ty ≠ t) (j : Nat) (v : Value) : Tw (w.setCell ⟨b, j, none⟩ v) t A xs :=
  h.move fun g cur f hg => Below.heap_setCell w ⟨b, j, none⟩ v g fun e => by
    have e : g = b := e
    subst e
    rw [show w.heap[g]? = some (.cells vs.toArray ty (0, 0)) from k] at hg
    injection hg with hg
    injection hg with _ hg _
    exact ht hg
theorem Tw.cl (h : Tw w t A xs) : Cl w (fun _ => True) A xs := fun h0 => by
  obtain ⟨g, o, cur, f, e, hg, hx⟩ := h h0
  exact ⟨g, o, e, trivial, (Array.getElem?_eq_some_iff.1 hg).1, hx⟩
theorem Tw.own {base k n : Nat} {v : Value} (h : w.ownsRow base t k v n xs) : ∃ A cap, v = .slice A n cap ∧ n ≤ cap ∧ (A = none → cap = 0) ∧ Tw w t A xs := by
  obtain ⟨hl, hv⟩ := h
  rcases hv with ⟨rfl, h0⟩ | ⟨g, cap, cur, rfl, hb, hg, h1, h2, h3, h4⟩
  · subst h0
    refine ⟨none, 0, rfl, Nat.le_refl _, fun _ => rfl, ?_⟩
    have : xs = [] := List.eq_nil_of_length_eq_zero (by rw [hl, Nat.zero_mul])
    subst this
    exact Tw.nil _ _ _
  · refine ⟨_, cap, rfl, h1, (fun e => nomatch e), fun _ => ⟨g, 0, cur, _, rfl, hg, fun j u hj => ?_⟩⟩
    rw [Nat.zero_add, cell_of_row w g j cur _ (0, 0) hg]
    rw [← h4, List.getElem?_take] at hj
    split at hj
    · simpa using hj
    · cases hj
end

/-! ### parts of slices -/
section
variable {t e : TypeId} {z : Value} {k bytes : Nat}
theorem head_part (ht : Try.prog.underlying t = some (.slice e)) (info : (Try.prog.info? e).map (fun i => (i.zero, i.size, i.bytes)) = some (some z, k, bytes)) (A : Option Addr) (n c i : Nat) (h : i ≤ c) (W : World) :
    (Instr.slice t (.slice A n c) none (some (.int .i64 (i : Nat))) none).run Try.prog W = .ok (.slice A i c) W := by
  obtain ⟨q, hi, hz0, hz1, hz2⟩ := info_parts info
  have he : Try.prog.elem t = e := by unfold Program.elem; rw [ht]
  have ht' : Try.prog.underlying t = some (.slice (Try.prog.elem t)) := by rw [he]; exact ht
  rw [run_slice_h W t A n c ht' .i64 (i : Int) (by omega) (by omega), he]
  have e0 : ∀ a : Addr, a.add 0 = a := fun a => rfl
  have e1 : A.map (fun a => a) = A := by cases A <;> rfl
  simp [sizeOf, typeInfo, hi, hz1, sliced, e0, e1]
theorem rest_part (ht : Try.prog.underlying t = some (.slice e)) (info : (Try.prog.info? e).map (fun i => (i.zero, i.size, i.bytes)) = some (some z, k, bytes)) (hk : 0 < k) (g o n c i : Nat) (h : i ≤ n) :
    ∃ A', (∀ W : World, (Instr.slice t (.slice (some ⟨g, o, none⟩) n c) (some (.int .i64 (i : Int))) none none).run Try.prog W = .ok (.slice A' (n - i) (c - i)) W) ∧ (A' = none → False) ∧ (i < c → A' = some ⟨g, o + i * k, none⟩) := by
  obtain ⟨q, hi, hz0, hz1, hz2⟩ := info_parts info
  have he : Try.prog.elem t = e := by unfold Program.elem; rw [ht]
  have ht' : Try.prog.underlying t = some (.slice (Try.prog.elem t)) := by rw [he]; exact ht
  refine ⟨if c = i then some ⟨g, o, none⟩ else some ⟨g, o + i * k, none⟩, fun W => ?_, ?_, ?_⟩
  · rw [run_slice_l W t (some ⟨g, o, none⟩) n c ht' .i64 (i : Int) (by omega) (by omega), he]
    simp [sizeOf, typeInfo, hi, hz1, sliced, Addr.add]
    rcases Nat.eq_zero_or_pos i with rfl | h0
    · simp
    · rw [if_neg (Nat.ne_of_gt (Nat.mul_pos h0 hk))]
  · split <;> intro e <;> cases e
  · intro hc
    rw [if_neg (by omega)]
end
end Go.Proofs.Ytmnbkghihdbepaa

/- Plain lemmas on what is to be said, in memory: a row of pointers, and a map from what each speaks of. No condition beyond those that each lemma names. -/
namespace Go.Proofs.Ytmnbkghihdbepaa
open Go.ChangeShapes Go.WideShapes Go.ChangeAt Go.RowKit

/-- a datagram and the block where it lies. -/
abbrev Pd := Nat × Dg
def ptrs (X : List Pd) : List Value := X.map fun x => ptv x.1
def ptOf (X : List Pd) (k : Sk) : Option Nat := (X.find? fun x => decide (subj x.2 = k)).map (·.1)
def keepX (u : Dg → Bool) (X : List Pd) : List Pd := X.filter fun x => !u x.2
theorem ptrs_len (X : List Pd) : (ptrs X).length = X.length := List.length_map ..
theorem ptrs_one (X : List Pd) : ∀ u ∈ ptrs X, u.oneCell' = true := by
  intro u hu
  obtain ⟨x, _, rfl⟩ := List.mem_map.1 hu
  rfl
theorem ptrs_at {X : List Pd} {j : Nat} {x : Pd} (h : X[j]? = some x) : (ptrs X)[j]? = some (ptv x.1) := by
  unfold ptrs
  rw [List.getElem?_map, h]; rfl
theorem infoPt : (Try.prog.info? 56).map (fun i => (i.zero, i.size, i.bytes)) = some (some (.pointer none), 1, 8) := by kernel_rfl
theorem ptOf_nil (k : Sk) : ptOf [] k = none := rfl
theorem ptOf_cons (x : Pd) (X : List Pd) (k : Sk) : ptOf (x :: X) k = if subj x.2 = k then some x.1 else ptOf X k := by
  unfold ptOf
  rw [List.find?_cons]
  by_cases e : subj x.2 = k
  · simp [e]
  · simp [e]
theorem ptOf_app (A B : List Pd) (k : Sk) : ptOf (A ++ B) k = (ptOf A k).or (ptOf B k) := by
  induction A with
  | nil => simp [ptOf_nil]
  | cons a A ih =>
    rw [List.cons_append, ptOf_cons, ptOf_cons, ih]
    split <;> simp
theorem ptOf_none {X : List Pd} {k : Sk} (h : ∀ x ∈ X, subj x.2 ≠ k) : ptOf X k = none := by
  unfold ptOf
  rw [List.find?_eq_none.2 (fun x hx => by simpa using h x hx)]; rfl
theorem ptOf_none_iff {X : List Pd} {k : Sk} : ptOf X k = none ↔ ∀ x ∈ X, subj x.2 ≠ k := by
  refine ⟨fun h x hx e => ?_, ptOf_none⟩
  unfold ptOf at h
  rw [Option.map_eq_none_iff, List.find?_eq_none] at h
  have := h x hx
  simp [e] at this
theorem ptOf_some {X : List Pd} {k : Sk} {p : Nat} (h : ptOf X k = some p) : ∃ A B d, X = A ++ (p, d) :: B ∧ subj d = k := by
  induction X with
  | nil => cases h
  | cons x X ih =>
    rw [ptOf_cons] at h
    by_cases e : subj x.2 = k
    · rw [if_pos e] at h
      injection h with h
      exact ⟨[], X, x.2, by rw [← h]; rfl, e⟩
    · rw [if_neg e] at h
      obtain ⟨A, B, d, rfl, hk⟩ := ih h
      exact ⟨x :: A, B, d, rfl, hk⟩
def subjs (X : List Pd) : List Sk := X.map fun x => subj x.2
theorem subjs_app (A B : List Pd) : subjs (A ++ B) = subjs A ++ subjs B := List.map_append
theorem ptOf_mid {A B : List Pd} {x : Pd} (h : (subjs (A ++ x :: B)).Nodup) : ptOf (A ++ x :: B) (subj x.2) = some x.1 := by
  rw [ptOf_app, ptOf_none, ptOf_cons, if_pos rfl]; rfl
  intro y hy e
  rw [subjs_app, List.nodup_append] at h
  exact h.2.2 (subj y.2) (List.mem_map.2 ⟨y, hy, rfl⟩) (subj x.2) (List.mem_map.2 ⟨x, List.mem_cons_self .., rfl⟩) e
/-- one goes. -/
theorem ptOf_del {A B : List Pd} {x : Pd} (h : (subjs (A ++ x :: B)).Nodup) (k : Sk) : ptOf (A ++ B) k = if k = subj x.2 then none else ptOf (A ++ x :: B) k := by
  rw [subjs_app, List.nodup_append] at h
  obtain ⟨h1, h2, h3⟩ := h
  have h2 : (subj x.2 :: subjs B).Nodup := h2
  by_cases e : k = subj x.2
  · rw [if_pos e]
    subst e
    refine ptOf_none fun y hy e => ?_
    rcases List.mem_append.1 hy with hy | hy
    · exact h3 (subj y.2) (List.mem_map.2 ⟨y, hy, rfl⟩) (subj x.2) (List.mem_map.2 ⟨x, List.mem_cons_self .., rfl⟩) e
    · exact (List.nodup_cons.1 h2).1 (List.mem_map.2 ⟨y, hy, e⟩)
  · rw [if_neg e, ptOf_app, ptOf_app, ptOf_cons, if_neg (fun q => e q.symm)]
/-- one more behind. -/
theorem ptOf_snoc {X : List Pd} {p : Nat} {d : Dg} (h : ptOf X (subj d) = none) (k : Sk) : ptOf (X ++ [(p, d)]) k = if k = subj d then some p else ptOf X k := by
  rw [ptOf_app, ptOf_cons, ptOf_nil]
  by_cases e : k = subj d
  · subst e; rw [h]; simp
  · rw [if_neg (fun q => e q.symm), if_neg e]; simp
/-- one takes another one's place. -/
theorem ptOf_turn {A B : List Pd} {p : Nat} {d d' : Dg} (h : subj d' = subj d) (k : Sk) : ptOf (A ++ (p, d') :: B) k = ptOf (A ++ (p, d) :: B) k := by
  rw [ptOf_app, ptOf_app, ptOf_cons, ptOf_cons]
  show (ptOf A k).or (if subj d' = k then some p else ptOf B k) = (ptOf A k).or (if subj d = k then some p else ptOf B k)
  rw [h]

/-! ### in memory -/
/-- where it lies: its block, its map's, and which blocks are its own. -/
structure Ly where
  b : Nat
  m : Nat
  own : Nat → Prop
/-- what is to be said, in memory. -/
structure Ct (w : World) (L : Ly) (X : List Pd) : Prop where
  ctl : ∃ rv r, At w L.b 50 [rv, .map (some L.m)] ∧ Qu w r 56 1 rv X.length (ptrs X) ∧ ∀ g, r = some g → L.own g
  cb : L.own L.b
  cm : L.own L.m
  map : Mq w L.m (ptOf X) X.length
  pts : ∀ x ∈ X, L.own x.1 ∧ At w x.1 29 x.2.cells
  nd : (X.map (·.1)).Nodup
  ks : (subjs X).Nodup
  ok : ∀ x ∈ X, DOk x.2
  ahead : ∀ i, w.heap.size ≤ i → ¬ L.own i
theorem At.ne {w : World} {a b : Nat} {t u : TypeId} {xs ys : List Value} (h : At w a t xs) (k : At w b u ys) (e : t ≠ u) : a ≠ b := by
  intro q
  subst q
  have k : some (Obj.cells xs.toArray t (0, 0)) = some (.cells ys.toArray u (0, 0)) := (show w.heap[a]? = some (Obj.cells xs.toArray t (0, 0)) from h).symm.trans k
  injection k with k
  injection k with _ k _
  exact e k
theorem Qu.ne {w : World} {r : Option Nat} {e : TypeId} {k n : Nat} {v : Value} {xs : List Value} (h : Qu w r e k v n xs) {b : Nat} {t : TypeId} {ys : List Value} (a : At w b t ys) (q : t ≠ e) : r ≠ some b := by
  intro hr
  rcases h.2 with ⟨_, _, h⟩ | ⟨g, o, cap, cur, h, _, hb, _⟩
  · rw [hr] at h; cases h
  · rw [hr] at h
    injection h with h
    subst h
    rw [show w.heap[b]? = some (.cells ys.toArray t (0, 0)) from a] at hb
    injection hb with hb
    injection hb with _ hb _
    exact q hb
theorem Qu.no_map {w : World} {r : Option Nat} {e : TypeId} {k n : Nat} {v : Value} {xs : List Value} (h : Qu w r e k v n xs) {m n' : Nat} {f : Sk → Option Nat} (a : Mq w m f n') : r ≠ some m := by
  intro hr
  rcases h.2 with ⟨_, _, h⟩ | ⟨g, o, cap, cur, h, _, hb, _⟩
  · rw [hr] at h; cases h
  · rw [hr] at h
    injection h with h
    exact a.no_row hb h.symm
theorem ct_ne_pt : (50 : TypeId) ≠ 56 := by decide
theorem ct_ne_dg : (50 : TypeId) ≠ 29 := by decide
theorem dg_ne_pt : (29 : TypeId) ≠ 56 := by decide
/-- what is not its own has turned alone. -/
theorem Ct.free {w w' : World} {L : Ly} {X : List Pd} (h : Ct w L X) (k : Tn Nil w w') : Ct w' L X := by
  obtain ⟨rv, r, h1, h2, h3⟩ := h.ctl
  exact ⟨⟨rv, r, h1.tn k (fun e => e), h2.tn k (fun _ _ e => e), h3⟩, h.cb, h.cm, h.map.tn k (fun e => e), fun x hx => ⟨(h.pts x hx).1, (h.pts x hx).2.tn k (fun e => e)⟩, h.nd, h.ks, h.ok, fun i hi => h.ahead i (Nat.le_trans k.size hi)⟩
/-- blocks that are not its own have turned. -/
theorem Ct.far {w w' : World} {L : Ly} {X : List Pd} {c : Nat → Prop} (h : Ct w L X) (k : Tn c w w') (hc : ∀ g, c g → ¬ L.own g) : Ct w' L X := by
  obtain ⟨rv, r, h1, h2, h3⟩ := h.ctl
  exact ⟨⟨rv, r, h1.tn k (fun e => hc _ e h.cb), h2.tn k (fun g hg e => hc _ e (h3 g hg)), h3⟩, h.cb, h.cm, h.map.tn k (fun e => hc _ e h.cm), fun x hx => ⟨(h.pts x hx).1, (h.pts x hx).2.tn k (fun e => hc _ e (h.pts x hx).1)⟩, h.nd, h.ks, h.ok, fun i hi => h.ahead i (Nat.le_trans k.size hi)⟩
theorem Ct.below {w w' : World} {L : Ly} {X : List Pd} (h : Ct w L X) (k : Below w.heap.size w w') : Ct w' L X := h.free (tn_below _ k)
/-- .. and the blocks that were made since may be called its own. -/
def Ly.more (L : Ly) (p : Nat → Prop) : Ly := ⟨L.b, L.m, fun i => L.own i ∨ p i⟩
end Go.Proofs.Ytmnbkghihdbepaa

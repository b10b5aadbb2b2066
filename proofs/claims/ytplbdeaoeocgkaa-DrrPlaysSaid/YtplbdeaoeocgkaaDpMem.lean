/- Plain lemmas on the document's queues in memory. No condition beyond those that each lemma names. -/
import Derived.Test.YtplbdeaoeocgkaaDrAwake
import Derived.Test.YtplbdeaoeocgkaaIntA
namespace Go.Proofs.Ytplbdeaoeocgkaa
open Go.ChangeShapes Go.WideShapes Go.ChangeAt Go.RowKit

/-- These cells lie from address A on; their block is one for which c holds. -/
def Cl (w : World) (c : Nat → Prop) (A : Option Addr) (xs : List Value) : Prop :=
  0 < xs.length → ∃ g o, A = some ⟨g, o, none⟩ ∧ c g ∧ g < w.heap.size ∧ ∀ j u, xs[j]? = some u → w.cell? ⟨g, o + j, none⟩ = some u
theorem Cl.nil (w : World) (c : Nat → Prop) (A : Option Addr) : Cl w c A [] := fun h => absurd h (Nat.lt_irrefl 0)
theorem Cl.tn {w w' : World} {c d : Nat → Prop} {A : Option Addr} {xs : List Value} (h : Cl w c A xs) (k : Tn d w w') (hd : ∀ g, g < w.heap.size → c g → ¬ d g) : Cl w' c A xs := fun h0 => by
  obtain ⟨g, o, e, hc, hl, hx⟩ := h h0
  refine ⟨g, o, e, hc, Nat.lt_of_lt_of_le hl k.size, fun j u hj => ?_⟩
  rw [← hx j u hj]
  exact World.cell?_of_block (a := ⟨g, o + j, none⟩) (k.block _ hl (hd _ hl hc))
theorem Cl.mono {w : World} {c d : Nat → Prop} {A : Option Addr} {xs : List Value} (h : Cl w c A xs) (hd : ∀ g, g < w.heap.size → c g → d g) : Cl w d A xs := fun h0 => by
  obtain ⟨g, o, e, hc, hl, hx⟩ := h h0
  exact ⟨g, o, e, hd _ hl hc, hl, hx⟩
theorem tn_none {w w' : World} (h : Below w.heap.size w w') : Tn (fun _ => False) w w' := tn_below _ h
theorem Cl.below {w w' : World} {c : Nat → Prop} {A : Option Addr} {xs : List Value} (h : Cl w c A xs) (k : Below w.heap.size w w') : Cl w' c A xs := h.tn (tn_none k) fun _ _ _ f => f
/-- an own row's cells. -/
theorem Cl.own {w : World} {base : Nat} {e : TypeId} {k n : Nat} {v : Value} {xs : List Value} {c : Nat → Prop} (h : w.ownsRow base e k v n xs) (hc : ∀ g, base ≤ g → c g) :
    ∃ A cap, v = .slice A n cap ∧ n ≤ cap ∧ (A = none → cap = 0) ∧ Cl w c A xs := by
  obtain ⟨hl, hv⟩ := h
  rcases hv with ⟨rfl, h0⟩ | ⟨g, cap, cur, rfl, hb, hg, h1, h2, h3, h4⟩
  · subst h0
    refine ⟨none, 0, rfl, Nat.le_refl _, fun _ => rfl, ?_⟩
    have : xs = [] := List.eq_nil_of_length_eq_zero (by rw [hl, Nat.zero_mul])
    subst this
    exact Cl.nil _ _ _
  · refine ⟨_, cap, rfl, h1, (fun e => nomatch e), fun _ => ⟨g, 0, rfl, hc g hb, (Array.getElem?_eq_some_iff.1 hg).1, fun j u hj => ?_⟩⟩
    rw [Nat.zero_add, cell_of_row w g j cur _ (0, 0) hg]
    rw [← h4, List.getElem?_take] at hj
    split at hj
    · simpa using hj
    · cases hj

/-- slices of k cells each are appended to an own row, whatever they lie in, none too. -/
theorem run_copy {w : World} {base : Nat} {t ty e : TypeId} {z : Value} {k bytes : Nat} (ht : Try.prog.underlying t = some (.slice e)) (info : (Try.prog.info? e).map (fun i => (i.zero, i.size, i.bytes)) = some (some z, k, bytes)) (hzs : z.cells.size = k) (hk : 0 < k)
    {v : Value} {n : Nat} {xs : List Value} (hown : w.ownsRow base e k v n xs) {c : Nat → Prop} {A : Option Addr} {m cp : Nat} {ys : List Value} (hl : ys.length = m * k) (hy : Cl w c A ys) (hA : A = none → cp = 0) (one : ∀ u ∈ ys, u.oneCell' = true)
    (h63 : n + m ≤ 70000) (hby : bytes ≤ 1000) (hbase : base ≤ w.heap.size) :
    ∃ v' w', (Builtin.append_ #[t, t] ty #[v, .slice A m cp]).run Try.prog w = .ok v' w' ∧ w'.ownsRow base e k v' (n + m) (xs ++ ys) ∧ w.grownBy w' v.ownBlock := by
  obtain ⟨i, hi, hz0, hz1, hz2⟩ := info_parts info
  have hb : (n + m) * bytes ≤ 140737488355328 := Nat.le_trans (Nat.mul_le_mul h63 hby) (by decide)
  cases A with
  | none =>
    obtain rfl := hA rfl
    have hm : m = 0 := by
      rcases Nat.eq_zero_or_pos m with e | e
      · exact e
      · obtain ⟨g, o, e2, _⟩ := hy (by rw [hl]; exact Nat.mul_pos e hk)
        cases e2
    subst hm
    have hys : ys = [] := List.eq_nil_of_length_eq_zero (by rw [hl, Nat.zero_mul])
    subst hys
    refine ⟨v, w, run_append_owned_none (P := Try.prog) (w := w) base t ty e i k ht hi v n xs hown, by rw [List.append_nil]; exact hown, grown_refl _ _⟩
  | some a =>
    obtain ⟨v', w', hr, h2, h3, _⟩ := run_append_own_at (P := Try.prog) w base t ty e i z k bytes ht hi hz0 hz1 hz2 hzs hk v n xs hown a m cp ys hl (fun j u hj => by
      obtain ⟨g, o, e', _, _, hx⟩ := hy (by have := (List.getElem?_eq_some_iff.1 hj).1; omega)
      injection e' with e'
      subst e'
      rw [Addr.add_lit]
      exact hx j u hj) one (by unfold maxLen; omega) hb hbase
    exact ⟨v', w', hr, h2, h3⟩

/-! ### a queue of the document's -/
structure Qv where
  q : Qd
  A : Option Addr
  c : Nat
def Qv.cells (x : Qv) : List Value := [.int .i64 x.q.id, .int .i64 x.q.w, .int .i64 x.q.d, .bool x.q.s, .slice x.A x.q.l.length x.c]
def Qv.val (x : Qv) : Value := .agg #[.int .i64 x.q.id, .int .i64 x.q.w, .int .i64 x.q.d, .bool x.q.s, .slice x.A x.q.l.length x.c]
def qcells : List Qv → List Value
  | [] => []
  | x :: r => x.cells ++ qcells r
theorem qcells_len (xs : List Qv) : (qcells xs).length = xs.length * 5 := by
  induction xs with
  | nil => rfl
  | cons x r ih => show (x.cells ++ qcells r).length = _; rw [List.length_append, ih, List.length_cons, show x.cells.length = 5 from rfl]; omega
theorem qcells_app (xs ys : List Qv) : qcells (xs ++ ys) = qcells xs ++ qcells ys := by
  induction xs with
  | nil => rfl
  | cons x r ih => show x.cells ++ qcells (r ++ ys) = _; rw [ih, ← List.append_assoc]; rfl
theorem qcells_one (xs : List Qv) : ∀ u ∈ qcells xs, u.oneCell' = true := by
  induction xs with
  | nil => intro u hu; simp [qcells] at hu
  | cons x r ih =>
    intro u hu
    rcases List.mem_append.1 hu with hu | hu
    · simp only [Qv.cells, List.mem_cons, List.not_mem_nil, or_false] at hu
      rcases hu with rfl | rfl | rfl | rfl | rfl <;> rfl
    · exact ih u hu
theorem qcells_at (xs : List Qv) (i r : Nat) (hr : r < 5) : (qcells xs)[i * 5 + r]? = (xs[i]?).bind (fun x => x.cells[r]?) := by
  induction xs generalizing i with
  | nil => simp [qcells]
  | cons x t ih =>
    show (x.cells ++ qcells t)[i * 5 + r]? = _
    cases i with
    | zero =>
      rw [List.getElem?_append_left (by show 0 * 5 + r < 5; omega)]
      simp
    | succ i =>
      rw [List.getElem?_append_right (by show 5 ≤ (i + 1) * 5 + r; omega), show (i + 1) * 5 + r - x.cells.length = i * 5 + r by show (i + 1) * 5 + r - 5 = _; omega, ih]
      simp
theorem Try.infoQ : (Try.prog.info? 68).map (fun i => (i.zero, i.size, i.bytes)) = some (some (.agg #[.int .i64 0, .int .i64 0, .int .i64 0, .bool false, .slice none 0 0]), 5, 56) := by kernel_rfl
/-- its items lie in memory. -/
structure Ql (w : World) (c : Nat → Prop) (x : Qv) : Prop where
  cl : Cl w c x.A (itcells x.q.l)
  cap : x.q.l.length ≤ x.c
  no : x.A = none → x.c = 0
theorem Ql.tn {w w' : World} {c d : Nat → Prop} {x : Qv} (h : Ql w c x) (k : Tn d w w') (hd : ∀ g, g < w.heap.size → c g → ¬ d g) : Ql w' c x := ⟨h.cl.tn k hd, h.cap, h.no⟩
theorem Ql.mono {w : World} {c d : Nat → Prop} {x : Qv} (h : Ql w c x) (hd : ∀ g, g < w.heap.size → c g → d g) : Ql w d x := ⟨h.cl.mono hd, h.cap, h.no⟩
theorem Ql.below {w w' : World} {c : Nat → Prop} {x : Qv} (h : Ql w c x) (k : Below w.heap.size w w') : Ql w' c x := h.tn (tn_none k) fun _ _ _ f => f

/-! ### its scheduler -/
structure Sv where
  Q : Int
  xs : List Qv
  A : Option Addr
  c : Nat
  rd : List Int
  B : Option Addr
  d : Nat
def Sv.cells (s : Sv) : List Value := [.int .i64 s.Q, .slice s.A s.xs.length s.c, .slice s.B s.rd.length s.d]
def Sv.val (s : Sv) : Value := .agg #[.int .i64 s.Q, .slice s.A s.xs.length s.c, .slice s.B s.rd.length s.d]
structure Sg (w : World) (c : Nat → Prop) (s : Sv) : Prop where
  qs : Cl w c s.A (qcells s.xs)
  qn : s.A = none → s.c = 0
  qc : s.xs.length ≤ s.c
  ql : ∀ x ∈ s.xs, Ql w c x
  rs : Cl w c s.B (zcells s.rd)
  rn : s.B = none → s.d = 0
  rc : s.rd.length ≤ s.d
theorem Sg.tn {w w' : World} {c d : Nat → Prop} {s : Sv} (h : Sg w c s) (k : Tn d w w') (hd : ∀ g, g < w.heap.size → c g → ¬ d g) : Sg w' c s := ⟨h.qs.tn k hd, h.qn, h.qc, fun x hx => (h.ql x hx).tn k hd, h.rs.tn k hd, h.rn, h.rc⟩
theorem Sg.mono {w : World} {c d : Nat → Prop} {s : Sv} (h : Sg w c s) (hd : ∀ g, g < w.heap.size → c g → d g) : Sg w d s := ⟨h.qs.mono hd, h.qn, h.qc, fun x hx => (h.ql x hx).mono hd, h.rs.mono hd, h.rn, h.rc⟩
theorem Sg.below {w w' : World} {c : Nat → Prop} {s : Sv} (h : Sg w c s) (k : Below w.heap.size w w') : Sg w' c s := h.tn (tn_none k) fun _ _ _ f => f
/-- how much there may be. -/
structure Sb (s : Sv) : Prop where
  x : s.xs.length ≤ 256
  r : s.rd.length ≤ 256
  l : ∀ x ∈ s.xs, x.q.l.length ≤ 65536
/-- the cells of the queue at a place. -/
theorem Sg.at_ {w : World} {c : Nat → Prop} {s : Sv} (h : Sg w c s) {i : Nat} {x : Qv} (hx : s.xs[i]? = some x) :
    ∃ g o, s.A = some ⟨g, o, none⟩ ∧ c g ∧ g < w.heap.size ∧ ∀ r u, x.cells[r]? = some u → w.cell? ⟨g, o + i * 5 + r, none⟩ = some u := by
  have hi := (List.getElem?_eq_some_iff.1 hx).1
  obtain ⟨g, o, e, hc, hl, hj⟩ := h.qs (by rw [qcells_len]; omega)
  refine ⟨g, o, e, hc, hl, fun r u hr => ?_⟩
  have h5 : r < 5 := (List.getElem?_eq_some_iff.1 hr).1
  rw [Nat.add_assoc]
  refine hj _ _ ?_
  rw [qcells_at _ _ _ h5, hx]
  exact hr
/-- the place of a queue; -1: it is not there. -/
def AtIs (xs : List Qv) (id z : Int) : Prop := (z = -1 ∧ ∀ x ∈ xs, x.q.id ≠ id) ∨ ∃ (i : Nat) (x : Qv), z = i ∧ xs[i]? = some x ∧ x.q.id = id
end Go.Proofs.Ytplbdeaoeocgkaa

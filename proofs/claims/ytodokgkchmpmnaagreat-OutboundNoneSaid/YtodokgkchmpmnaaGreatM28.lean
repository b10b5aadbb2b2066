/- Proved: lemmas of one statement's proof, merged by program: what each part proves stands ahead of it. Conditions: those that the lemmas name. -/
import Derived.Test.YtodokgkchmpmnaaGreatM27
import Derived.RangeFuncNested

/- Plain lemmas on windows of numbers that go round. No condition beyond those that each lemma names. -/
namespace Go.Proofs.YtodokgkchmpmnaaGreat
open Go.ChangeShapes Go.WideShapes Go.ChangeAt Go.RowKit

/-- the number that is so far from base B on. -/
def wpl (B : Int) (i : Nat) : Int := (B + (i : Int)) % 4294967296
theorem wpl_u32 (B : Int) (i : Nat) : U32 (wpl B i) := by unfold wpl U32; omega
theorem wpl_inj {B : Int} {i j : Nat} (hi : i < 4294967296) (hj : j < 4294967296) (h : wpl B i = wpl B j) : i = j := by unfold wpl at h; omega
/-! ### a mark -/
/-! ### a slide -/
/-! ### those that are missing -/
end Go.Proofs.YtodokgkchmpmnaaGreat

/- Plain lemmas on a flight (blocks that were sent) in memory. No condition beyond those that each lemma names. -/
namespace Go.Proofs.YtodokgkchmpmnaaGreat
open Go.ChangeShapes Go.WideShapes Go.ChangeAt Go.RowKit

/-! ### blocks that were sent -/
structure Bl where
  body : ByteArray
  n : Int
  at_ : Int
def Bl.cells (x : Bl) : List Value := [.string x.body, .int .i64 x.n, .int .i64 x.at_]
abbrev Bl.val (x : Bl) : Value := .agg #[.string x.body, .int .i64 x.n, .int .i64 x.at_]
def bl0 : Bl := ⟨ByteArray.empty, 0, 0⟩
def blcells : List Bl → List Value
  | [] => []
  | x :: r => x.cells ++ blcells r
theorem bl_three (x : Bl) : x.cells.length = 3 := rfl
theorem blcells_len (l : List Bl) : (blcells l).length = l.length * 3 := by
  induction l with
  | nil => rfl
  | cons x r ih => show (x.cells ++ blcells r).length = _; rw [List.length_append, ih, List.length_cons, Nat.succ_mul, Nat.add_comm]; rfl
theorem blcells_app (l r : List Bl) : blcells (l ++ r) = blcells l ++ blcells r := by
  induction l with
  | nil => rfl
  | cons x l ih => show x.cells ++ blcells (l ++ r) = (x.cells ++ blcells l) ++ blcells r; rw [ih, List.append_assoc]
theorem bl_one (x : Bl) : ∀ u ∈ x.cells, u.oneCell' = true := by
  intro u hu
  simp only [Bl.cells, List.mem_cons, List.not_mem_nil, or_false] at hu
  rcases hu with rfl | rfl | rfl <;> rfl
theorem blcells_one (l : List Bl) : ∀ u ∈ blcells l, u.oneCell' = true := by
  induction l with
  | nil => intro u hu; simp [blcells] at hu
  | cons x r ih =>
    intro u hu
    rcases List.mem_append.1 (show u ∈ x.cells ++ blcells r from hu) with h | h
    · exact bl_one x u h
    · exact ih u h
theorem blcells_drop (l : List Bl) (k : Nat) : blcells (l.drop k) = (blcells l).drop (k * 3) := by
  induction k generalizing l with
  | zero => simp
  | succ k ih =>
    cases l with
    | nil => simp [blcells]
    | cons x r =>
      rw [List.drop_succ_cons, ih]
      show _ = (x.cells ++ blcells r).drop _
      rw [Nat.succ_mul, Nat.add_comm, ← List.drop_drop]
      rfl
theorem blcells_at (l : List Bl) (i : Nat) (hi : i < l.length) : ∀ j, j < 3 → (blcells l)[i * 3 + j]? = ((l.getD i bl0).cells)[j]? := by
  intro j hj
  have h1 : (blcells l)[i * 3 + j]? = ((blcells l).drop (i * 3))[j]? := by rw [List.getElem?_drop]
  rw [h1, ← blcells_drop, List.drop_eq_getElem_cons hi, List.getD_eq_getElem?_getD, List.getElem?_eq_getElem hi]
  show (l[i].cells ++ _)[j]? = _
  rw [List.getElem?_append_left (by rw [bl_three]; exact hj)]
  rfl
theorem infoBlock : (Tryz.prog.info? 108).map (fun i => (i.zero, i.size, i.bytes)) = some (some bl0.val, 3, 32) := by kernel_rfl

/-! ### a flight -/
/-- the first one's number, where n fly and the next one is nx. -/
def fb (nx : Int) (n : Nat) : Int := (nx - n) % 4294967296
theorem fb_u32 (nx : Int) (n : Nat) : U32 (fb nx n) := by unfold fb U32; omega
/-- the number of place i. -/
abbrev fno (nx : Int) (n i : Nat) : Int := wpl (fb nx n) i

/-- Block f is a flight of wd blocks at most, the next one's number is nx; L were sent; their row is r. -/
structure Fl (w : World) (f : Nat) (wd nx : Int) (r : Option Nat) (v : Value) (L : List Bl) : Prop where
  own : At w f 87 [.int .i64 wd, .int .u32 nx, v]
  row : Qu w r 108 3 v L.length (blcells L)
  ne : ∀ g, r = some g → g ≠ f
  u32 : U32 nx
  few : (L.length : Int) ≤ wd
  high : wd ≤ 64
/-- a flight's own blocks. -/
abbrev FlOwn (f : Nat) (r : Option Nat) : Nat → Prop := fun i => i = f ∨ r = some i
section
variable {w w' : World} {f : Nat} {wd nx : Int} {r : Option Nat} {v : Value} {L : List Bl}
theorem Fl.lt (h : Fl w f wd nx r v L) : f < w.heap.size := h.own.lt
theorem Fl.tn {c : Nat → Prop} (h : Fl w f wd nx r v L) (t : Tn c w w') (hf : ¬ c f) (hr : ∀ g, r = some g → ¬ c g) : Fl w' f wd nx r v L :=
  ⟨h.own.tn t hf, h.row.tn t hr, h.ne, h.u32, h.few, h.high⟩
theorem Fl.below (h : Fl w f wd nx r v L) (t : Below w.heap.size w w') : Fl w' f wd nx r v L := h.tn (tn_below Nil t) (fun e => e) (fun _ _ e => e)
theorem Fl.cells_ (h : Fl w f wd nx r v L) : ∀ g, FlOwn f r g → ∃ c t, w.heap[g]? = some (.cells c t (0, 0)) := by
  rintro g (rfl | e)
  · exact ⟨_, _, h.own⟩
  · rcases h.row.2 with ⟨_, _, e'⟩ | ⟨g', o, cap, cur, e', _, hb, _⟩
    · rw [e] at e'; cases e'
    · rw [e] at e'; injection e' with e'; subst e'; exact ⟨_, _, hb⟩
theorem Fl.kept {row : Option Nat} (h : Fl w f wd nx r v L) (hg : w.grownBy w' row) (hr : ∀ i, row = some i → ∃ o : Obj, w.heap[i]? = some o ∧ o.isCells = false) : Fl w' f wd nx r v L := by
  have no : ∀ g, FlOwn f r g → ¬ row = some g := fun g hgc e => by
    obtain ⟨c, t, hb⟩ := h.cells_ g hgc
    obtain ⟨o, ho, hn⟩ := hr g e
    rw [hb] at ho; cases ho; cases hn
  exact h.tn (c := fun i => row = some i) (tn_grown hg (fun g e => e)) (no f (.inl rfl)) (fun g e => no g (.inr e))
theorem Fl.form (h : Fl w f wd nx r v L) : ∃ A cap, v = .slice A L.length cap := h.row.form
theorem Fl.n64 (h : Fl w f wd nx r v L) : L.length ≤ 64 := by have := h.few; have := h.high; omega
/-- a block that flies, in its row. -/
theorem Fl.place (h : Fl w f wd nx r v L) {i : Nat} (hi : i < L.length) :
    ∃ g o cap, r = some g ∧ v = .slice (some ⟨g, o, none⟩) L.length cap ∧ L.length ≤ cap ∧ g < w.heap.size ∧ (∀ j u, (L.getD i bl0).cells[j]? = some u → w.cell? ⟨g, o + (i * 3 + j), none⟩ = some u) ∧ ∀ j, w.frozen? ⟨g, j, none⟩ = false := by
  obtain ⟨g, o, cap, hr, hv, hg, hc, hx, hf⟩ := h.row.head (by omega)
  refine ⟨g, o, cap, hr, hv, hc, hg, fun j u hj => hx _ _ ?_, hf⟩
  have hj3 : j < 3 := by have := (List.getElem?_eq_some_iff.1 hj).1; rw [bl_three] at this; exact this
  rw [blcells_at L i hi j hj3]; exact hj
end
/-- A flight, or none. -/
def FlO (w : World) (p : Option Addr) (nx : Int) (r : Option Nat) (v : Value) (L : List Bl) : Prop :=
  (p = none ∧ nx = 0 ∧ r = none ∧ v = .slice none 0 0 ∧ L = []) ∨ ∃ f wd, p = some ⟨f, 0, none⟩ ∧ Fl w f wd nx r v L
section
variable {w w' : World} {p : Option Addr} {nx : Int} {r : Option Nat} {v : Value} {L : List Bl}
theorem Fl.flo {f : Nat} {wd : Int} (h : Fl w f wd nx r v L) : FlO w (some ⟨f, 0, none⟩) nx r v L := .inr ⟨f, wd, rfl, h⟩
theorem FlO.n64 (h : FlO w p nx r v L) : L.length ≤ 64 := by
  rcases h with ⟨_, _, _, _, rfl⟩ | ⟨f, wd, e, h⟩
  · exact Nat.zero_le _
  · exact h.n64
theorem FlO.some_ (h : FlO w p nx r v L) (hn : 0 < L.length) : ∃ f wd, p = some ⟨f, 0, none⟩ ∧ Fl w f wd nx r v L := by
  rcases h with ⟨_, _, _, _, rfl⟩ | h
  · simp at hn
  · exact h
end

/-! ### what of a flight the iterator reads -/
def FlC (w : World) (p : Option Addr) (nx : Int) (v : Value) (n : Nat) : Prop :=
  (p = none ∧ nx = 0 ∧ n = 0) ∨ ∃ f A cap, p = some ⟨f, 0, none⟩ ∧ v = .slice A n cap ∧ w.cell? ⟨f, 1, none⟩ = some (.int .u32 nx) ∧ w.cell? ⟨f, 2, none⟩ = some v
section
variable {w w' : World} {p : Option Addr} {nx : Int} {r : Option Nat} {v : Value} {L : List Bl} {n : Nat}
theorem Fl.c {f : Nat} {wd : Int} (h : Fl w f wd nx r v L) : FlC w (some ⟨f, 0, none⟩) nx v L.length := by
  obtain ⟨A, cap, e⟩ := h.form
  exact .inr ⟨f, A, cap, rfl, e, h.own.cell 1 rfl, h.own.cell 2 rfl⟩
theorem FlO.c (h : FlO w p nx r v L) : FlC w p nx v L.length := by
  rcases h with ⟨h1, h2, _, _, rfl⟩ | ⟨f, wd, rfl, h⟩
  · exact .inl ⟨h1, h2, rfl⟩
  · exact h.c
theorem FlC.move (h : FlC w p nx v n) (k : ∀ (a : Addr) u, w.cell? a = some u → w'.cell? a = some u) : FlC w' p nx v n := by
  rcases h with h | ⟨f, A, cap, e, e', h1, h2⟩
  · exact .inl h
  · exact .inr ⟨f, A, cap, e, e', k _ _ h1, k _ _ h2⟩
theorem FlC.below (h : FlC w p nx v n) (t : Below w.heap.size w w') : FlC w' p nx v n :=
  h.move fun _ _ e => (t.cell (World.block_lt_of_cell? w _ e)).trans e
theorem FlC.kept {row : Option Nat} (h : FlC w p nx v n) (hg : w.grownBy w' row) (hr : ∀ i, row = some i → ∃ o : Obj, w.heap[i]? = some o ∧ o.isCells = false) : FlC w' p nx v n :=
  h.move fun _ _ e => cell_kept e hg hr
theorem FlC.drewN (h : FlC w p nx v n) (q : Nat) : FlC (w.drewN q) p nx v n := h
end
end Go.Proofs.YtodokgkchmpmnaaGreat

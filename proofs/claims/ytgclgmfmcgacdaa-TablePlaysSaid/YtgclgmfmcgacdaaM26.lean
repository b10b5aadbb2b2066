/- Proved: lemmas of one statement's proof, merged by program: what each part proves stands ahead of it. Conditions: those that the lemmas name. -/
import Derived.Test.YtgclgmfmcgacdaaM25
import Derived.Test.YtgclgmfmcgacdaaM23
import Derived.Deep.DeepCutAuto
import Derived.BigQuiet

/- Plain lemmas on the document's table in memory. No condition beyond those that each lemma names. -/
namespace Go.Proofs.Ytgclgmfmcgacdaa
open Go.ChangeShapes Go.WideShapes Go.ChangeAt Go.RowKit

/-- These cells lie from address A on; their block is one for which c holds. -/
def Cl (w : World) (c : Nat → Prop) (A : Option Addr) (xs : List Value) : Prop :=
  0 < xs.length → ∃ g o, A = some ⟨g, o, none⟩ ∧ c g ∧ g < w.heap.size ∧ ∀ j u, xs[j]? = some u → w.cell? ⟨g, o + j, none⟩ = some u
theorem Cl.nil (w : World) (c : Nat → Prop) (A : Option Addr) : Cl w c A [] := fun h => absurd h (Nat.lt_irrefl 0)
theorem Cl.tn {w w' : World} {c d : Nat → Prop} {A : Option Addr} {xs : List Value} (h : Cl w c A xs) (k : Tn d w w') (hd : ∀ g, g < w.heap.size → c g → ¬ d g) : Cl w' c A xs := fun h0 => by
  obtain ⟨g, o, e, hc, hl, hx⟩ := h h0
  refine ⟨g, o, e, hc, Nat.lt_of_lt_of_le hl k.size, fun j u hj => ?_⟩
  rw [← hx j u hj]
  exact World.cell?_of_block (a := ⟨g, o + j, none⟩) (k.block _ hl (hd _ hl hc))
theorem Cl.mono {w : World} {c d : Nat → Prop} {A : Option Addr} {xs : List Value} (h : Cl w c A xs) (hd : ∀ g, g < w.heap.size → c g → d g) : Cl w d A xs := fun h0 => by
  obtain ⟨g, o, e, hc, hl, hx⟩ := h h0
  exact ⟨g, o, e, hd _ hl hc, hl, hx⟩
theorem Cl.below {w w' : World} {c : Nat → Prop} {A : Option Addr} {xs : List Value} (h : Cl w c A xs) (k : Below w.heap.size w w') : Cl w' c A xs := h.tn (tn_below Nil k) fun _ _ _ f => f
/-- an own row's cells. -/
theorem Cl.own {w : World} {base : Nat} {e : TypeId} {k n : Nat} {v : Value} {xs : List Value} {c : Nat → Prop} (h : w.ownsRow base e k v n xs) (hc : ∀ g, base ≤ g → c g) :
    ∃ A cap, v = .slice A n cap ∧ n ≤ cap ∧ (A = none → cap = 0) ∧ Cl w c A xs := by
  obtain ⟨hl, hv⟩ := h
  rcases hv with ⟨rfl, h0⟩ | ⟨g, cap, cur, rfl, hb, hg, h1, h2, h3, h4⟩
  · subst h0
    refine ⟨none, 0, rfl, Nat.le_refl _, fun _ => rfl, ?_⟩
    have : xs = [] := List.eq_nil_of_length_eq_zero (by rw [hl, Nat.zero_mul])
    subst this
    exact Cl.nil _ _ _
  · refine ⟨_, cap, rfl, h1, (fun e => nomatch e), fun _ => ⟨g, 0, rfl, hc g hb, (Array.getElem?_eq_some_iff.1 hg).1, fun j u hj => ?_⟩⟩
    rw [Nat.zero_add, cell_of_row w g j cur _ (0, 0) hg]
    rw [← h4, List.getElem?_take] at hj
    split at hj
    · simpa using hj
    · cases hj

set_option maxRecDepth 100000 in
/-- slices of k cells each are appended to an own row, whatever they lie in, none too. -/
theorem run_copy {w : World} {base : Nat} {t ty e : TypeId} {z : Value} {k bytes : Nat} (ht : Try.prog.underlying t = some (.slice e)) (info : (Try.prog.info? e).map (fun i => (i.zero, i.size, i.bytes)) = some (some z, k, bytes)) (hzs : z.cells.size = k) (hk : 0 < k)
    {v : Value} {n : Nat} {xs : List Value} (hown : w.ownsRow base e k v n xs) {c : Nat → Prop} {A : Option Addr} {m cp : Nat} {ys : List Value} (hl : ys.length = m * k) (hy : Cl w c A ys) (hA : A = none → cp = 0) (one : ∀ u ∈ ys, u.oneCell' = true)
    (h63 : n + m ≤ 70000) (hby : bytes ≤ 1000) (hbase : base ≤ w.heap.size) :
    ∃ v' w', (Builtin.append_ #[t, t] ty #[v, .slice A m cp]).run Try.prog w = .ok v' w' ∧ w'.ownsRow base e k v' (n + m) (xs ++ ys) ∧ w.grownBy w' v.ownBlock := by
  obtain ⟨i, hi, hz0, hz1, hz2⟩ := info_parts info
  have hb : (n + m) * bytes ≤ 140737488355328 := Nat.le_trans (Nat.mul_le_mul h63 hby) (by decide)
  cases A with
  | none =>
    obtain rfl := hA rfl
    have hm : m = 0 := by
      rcases Nat.eq_zero_or_pos m with e | e
      · exact e
      · obtain ⟨g, o, e2, _⟩ := hy (by rw [hl]; exact Nat.mul_pos e hk)
        cases e2
    subst hm
    have hys : ys = [] := List.eq_nil_of_length_eq_zero (by rw [hl, Nat.zero_mul])
    subst hys
    refine ⟨v, w, run_append_owned_none (P := Try.prog) (w := w) base t ty e i k ht hi v n xs hown, by rw [List.append_nil]; exact hown, grown_refl _ _⟩
  | some a =>
    obtain ⟨v', w', hr, h2, h3, _⟩ := run_append_own_at (P := Try.prog) w base t ty e i z k bytes ht hi hz0 hz1 hz2 hzs hk v n xs hown a m cp ys hl (fun j u hj => by
      obtain ⟨g, o, e', _, _, hx⟩ := hy (by have := (List.getElem?_eq_some_iff.1 hj).1; omega)
      injection e' with e'
      subst e'
      rw [Addr.add_lit]
      exact hx j u hj) one (by unfold maxLen; omega) hb hbase
    exact ⟨v', w', hr, h2, h3⟩

theorem cl_at {w : World} {c : Nat → Prop} {g n : Nat} {t : TypeId} {L xs : List Value} (h : At w g t L) (hc : c g) (e : L.take n = xs) : Cl w c (some ⟨g, 0, none⟩) xs := fun _ => ⟨g, 0, rfl, hc, h.lt, fun j u hj => by
  rw [Nat.zero_add]
  rw [← e, List.getElem?_take] at hj
  split at hj
  · exact h.cell j hj
  · cases hj⟩
theorem Cl.take {w : World} {c : Nat → Prop} {A : Option Addr} {xs : List Value} (h : Cl w c A xs) (n : Nat) : Cl w c A (xs.take n) := fun h0 => by
  obtain ⟨g, o, e, hc, hl, hx⟩ := h (by rw [List.length_take] at h0; omega)
  refine ⟨g, o, e, hc, hl, fun j u hj => hx j u ?_⟩
  rw [List.getElem?_take] at hj
  split at hj
  · exact hj
  · cases hj
theorem Cl.drop {w : World} {c : Nat → Prop} {g o : Nat} {xs : List Value} (h : Cl w c (some ⟨g, o, none⟩) xs) (n : Nat) : Cl w c (some ⟨g, o + n, none⟩) (xs.drop n) := fun h0 => by
  obtain ⟨g', o', e, hc, hl, hx⟩ := h (by rw [List.length_drop] at h0; omega)
  injection e with e
  injection e with e1 e2
  subst e1; subst e2
  refine ⟨g, o + n, rfl, hc, hl, fun j u hj => ?_⟩
  rw [List.getElem?_drop] at hj
  rw [Nat.add_assoc]
  exact hx _ u hj
theorem pset_below {W w : World} {B b j : Nat} {v : Value} (h : Below B w W) (hw : B ≤ w.heap.size) (hb : B ≤ b) : Below B w (W.setCell ⟨b, j, none⟩ v) := h.grown (grown_set W ⟨b, j, none⟩ v) (Nat.le_trans hw h.size) (fun k e => by injection e with e; show B ≤ k; rw [← e]; exact hb)

/-! ### an entry of the document's -/
structure Ev where
  e : Fe
  A : Option Addr
  c : Nat
def Ev.cells (x : Ev) : List Value := [.int .i64 x.e.k.1, .int .u32 x.e.k.2, .int .i64 x.e.need, .slice x.A x.e.l.length x.c]
def Ev.val (x : Ev) : Value := .agg #[.int .i64 x.e.k.1, .int .u32 x.e.k.2, .int .i64 x.e.need, .slice x.A x.e.l.length x.c]
def evcells : List Ev → List Value
  | [] => []
  | x :: r => x.cells ++ evcells r
theorem evcells_len (xs : List Ev) : (evcells xs).length = xs.length * 4 := by
  induction xs with
  | nil => rfl
  | cons x r ih => show (x.cells ++ evcells r).length = _; rw [List.length_append, ih, List.length_cons, show x.cells.length = 4 from rfl]; omega
theorem evcells_app (xs ys : List Ev) : evcells (xs ++ ys) = evcells xs ++ evcells ys := by
  induction xs with
  | nil => rfl
  | cons x r ih => show x.cells ++ evcells (r ++ ys) = _; rw [ih, ← List.append_assoc]; rfl
theorem evcells_one (xs : List Ev) : ∀ u ∈ evcells xs, u.oneCell' = true := by
  induction xs with
  | nil => intro u hu; simp [evcells] at hu
  | cons x r ih =>
    intro u hu
    rcases List.mem_append.1 hu with hu | hu
    · simp only [Ev.cells, List.mem_cons, List.not_mem_nil, or_false] at hu
      rcases hu with rfl | rfl | rfl | rfl <;> rfl
    · exact ih u hu
theorem evcells_at (xs : List Ev) (i r : Nat) (hr : r < 4) : (evcells xs)[i * 4 + r]? = (xs[i]?).bind (fun x => x.cells[r]?) := by
  induction xs generalizing i with
  | nil => simp [evcells]
  | cons x t ih =>
    show (x.cells ++ evcells t)[i * 4 + r]? = _
    cases i with
    | zero =>
      rw [List.getElem?_append_left (by show 0 * 4 + r < 4; omega)]
      simp
    | succ i =>
      rw [List.getElem?_append_right (by show 4 ≤ (i + 1) * 4 + r; omega), show (i + 1) * 4 + r - x.cells.length = i * 4 + r by show (i + 1) * 4 + r - 4 = _; omega, ih]
      simp
theorem Try.infoE : (Try.prog.info? 76).map (fun i => (i.zero, i.size, i.bytes)) = some (some (.agg #[.int .i64 0, .int .u32 0, .int .i64 0, .slice none 0 0]), 4, 48) := by kernel_rfl
/-- its shards lie in memory. -/
structure El (w : World) (c : Nat → Prop) (x : Ev) : Prop where
  cl : Cl w c x.A (hcells x.e.l)
  cap : x.e.l.length ≤ x.c
  no : x.A = none → x.c = 0
theorem El.tn {w w' : World} {c d : Nat → Prop} {x : Ev} (h : El w c x) (k : Tn d w w') (hd : ∀ g, g < w.heap.size → c g → ¬ d g) : El w' c x := ⟨h.cl.tn k hd, h.cap, h.no⟩
theorem El.mono {w : World} {c d : Nat → Prop} {x : Ev} (h : El w c x) (hd : ∀ g, g < w.heap.size → c g → d g) : El w d x := ⟨h.cl.mono hd, h.cap, h.no⟩
theorem El.below {w w' : World} {c : Nat → Prop} {x : Ev} (h : El w c x) (k : Below w.heap.size w w') : El w' c x := h.tn (tn_below Nil k) fun _ _ _ f => f

/-! ### its table -/
structure Tv where
  room : Nat
  xs : List Ev
  A : Option Addr
  c : Nat
def Tv.cells (s : Tv) : List Value := [.int .i64 s.room, .slice s.A s.xs.length s.c]
def Tv.val (s : Tv) : Value := .agg #[.int .i64 s.room, .slice s.A s.xs.length s.c]
/-- the entries lie in memory. -/
structure Tg (w : World) (c : Nat → Prop) (s : Tv) : Prop where
  qs : Cl w c s.A (evcells s.xs)
  qn : s.A = none → s.c = 0
  qc : s.xs.length ≤ s.c
  ql : ∀ x ∈ s.xs, El w c x
theorem Tg.tn {w w' : World} {c d : Nat → Prop} {s : Tv} (h : Tg w c s) (k : Tn d w w') (hd : ∀ g, g < w.heap.size → c g → ¬ d g) : Tg w' c s := ⟨h.qs.tn k hd, h.qn, h.qc, fun x hx => (h.ql x hx).tn k hd⟩
theorem Tg.mono {w : World} {c d : Nat → Prop} {s : Tv} (h : Tg w c s) (hd : ∀ g, g < w.heap.size → c g → d g) : Tg w d s := ⟨h.qs.mono hd, h.qn, h.qc, fun x hx => (h.ql x hx).mono hd⟩
theorem Tg.below {w w' : World} {c : Nat → Prop} {s : Tv} (h : Tg w c s) (k : Below w.heap.size w w') : Tg w' c s := h.tn (tn_below Nil k) fun _ _ _ f => f
theorem Tg.start (w : World) (c : Nat → Prop) (room : Nat) : Tg w c ⟨room, [], none, 0⟩ := ⟨Cl.nil _ _ _, fun _ => rfl, Nat.le_refl _, fun _ h => nomatch h⟩
/-- the cells of the entry at a place. -/
theorem Tg.at_ {w : World} {c : Nat → Prop} {s : Tv} (h : Tg w c s) {i : Nat} {x : Ev} (hx : s.xs[i]? = some x) :
    ∃ g o, s.A = some ⟨g, o, none⟩ ∧ c g ∧ g < w.heap.size ∧ ∀ r u, x.cells[r]? = some u → w.cell? ⟨g, o + i * 4 + r, none⟩ = some u := by
  have hi := (List.getElem?_eq_some_iff.1 hx).1
  obtain ⟨g, o, e, hc, hl, hj⟩ := h.qs (by rw [evcells_len]; omega)
  refine ⟨g, o, e, hc, hl, fun r u hr => ?_⟩
  have h5 : r < 4 := (List.getElem?_eq_some_iff.1 hr).1
  rw [Nat.add_assoc]
  refine hj _ _ ?_
  rw [evcells_at _ _ _ h5, hx]
  exact hr
/-- shards that lie in memory: those at a place. -/
theorem Cl.shard {w : World} {c : Nat → Prop} {A : Option Addr} {l : List Shd} (h : Cl w c A (hcells l)) {j : Nat} (hj : j < l.length) : ∃ g o, A = some ⟨g, o, none⟩ ∧ c g ∧ g < w.heap.size ∧ w.cell? ⟨g, o + j * 2, none⟩ = some (.int .i64 (sh_ l j).1) ∧ w.cell? ⟨g, o + j * 2 + 1, none⟩ = some (.string (sh_ l j).2) := by
  obtain ⟨g, o, e, hc, hl, hx⟩ := h (by rw [hcells_len]; omega)
  obtain ⟨e0, e1⟩ := hcells_at l j hj
  refine ⟨g, o, e, hc, hl, hx _ _ e0, ?_⟩
  rw [Nat.add_assoc]
  exact hx _ _ e1
/-- the place of an entry; -1: it is not there. -/
def AtIs (xs : List Ev) (k : Ky) (z : Int) : Prop := (z = -1 ∧ ∀ x ∈ xs, x.e.k ≠ k) ∨ ∃ (i : Nat) (x : Ev), z = i ∧ xs[i]? = some x ∧ x.e.k = k
end Go.Proofs.Ytgclgmfmcgacdaa

/- Proved: what the document's at, ready, Same and Get answer. Conditions: those that the theorems name. -/
namespace Go.Proofs.Ytgclgmfmcgacdaa
open Go.ChangeShapes Go.WideShapes Go.ChangeAt Go.RowKit

theorem below_drewN {B : Nat} {w w' : World} (h : Below B w w') (hs : B ≤ w.heap.size) (q : Nat) : Below B w (w'.drewN q) := h.grown (grown_drewN _ _ none) (Nat.le_trans hs h.size) (by simp)
theorem one_of_nodup {α β : Type} {f : α → β} : ∀ {l : List α}, (l.map f).Nodup → ∀ {a b : α}, a ∈ l → b ∈ l → f a = f b → a = b
  | [], _, _, _, h, _, _ => nomatch h
  | x :: l, h, a, b, ha, hb, e => by
    rw [List.map_cons, List.nodup_cons] at h
    rcases List.mem_cons.1 ha with e1 | h1
    · rcases List.mem_cons.1 hb with e2 | h2
      · rw [e1, e2]
      · exact absurd (List.mem_map.2 ⟨b, h2, by rw [← e, e1]⟩) h.1
    · rcases List.mem_cons.1 hb with e2 | h2
      · exact absurd (List.mem_map.2 ⟨a, h1, by rw [e, e2]⟩) h.1
      · exact one_of_nodup h.2 h1 h2 e
/-- A box with a table, and one with a key behind it. -/
theorem tkboxes (s : Tv) (k : Ky) (w : World) : ∃ W, W = (w.alloc (.cells #[.int .i64 s.room, .slice s.A s.xs.length s.c] 30)).alloc (.cells #[.int .i64 k.1, .int .u32 k.2] 35) ∧ At W w.heap.size 30 [.int .i64 s.room, .slice s.A s.xs.length s.c] ∧ At W (w.heap.size + 1) 35 [.int .i64 k.1, .int .u32 k.2] ∧ Below w.heap.size w W ∧ W.heap.size = w.heap.size + 2 := by
  refine ⟨_, rfl, ?_, ?_, ?_, by simp⟩
  · exact (At.new w 30 [.int .i64 s.room, .slice s.A s.xs.length s.c]).alloc _
  · have h := At.new (w.alloc (.cells #[.int .i64 s.room, .slice s.A s.xs.length s.c] 30)) 35 [.int .i64 k.1, .int .u32 k.2]
    simpa using h
  · exact ((Below.refl _ _).alloc (Nat.le_refl _) _).alloc (by simp) _
set_option maxRecDepth 100000 in
set_option maxHeartbeats 800000 in
theorem rat_any {w : World} {c : Nat → Prop} {s : Tv} (h : Tg w c s) (hb : s.xs.length ≤ 65536) (k : Ky) :
    Calls Try.prog 34 #[s.val, kyV k] w fun e w' => ∃ z, e = .returned (.int .i64 z) ∧ AtIs s.xs k z ∧ Below w.heap.size w w' := by
  obtain ⟨W1, HW, A1, A2, B1, hs⟩ := tkboxes s k w
  obtain ⟨room, xs, A, n⟩ := s
  obtain ⟨k0, k1⟩ := k
  dsimp only at HW A1 A2
  have HG := Lib.hid (h.below B1)
  have HB1 := Lib.hid B1
  have KP : Hid (∀ V, Below W1.heap.size W1 V → V.cell? ⟨w.heap.size, 1, none⟩ = some (.slice A xs.length n) ∧ V.cell? ⟨w.heap.size + 1, 0, none⟩ = some (.int .i64 k0) ∧ V.cell? ⟨w.heap.size + 1, 1, none⟩ = some (.int .u32 k1)) := Lib.hid fun V hV =>
    ⟨(A1.below hV A1.lt).cell 1 rfl, (A2.below hV A2.lt).cell 0 rfl, (A2.below hV A2.lt).cell 1 rfl⟩
  have hb' : (xs.length : Int) ≤ 65536 := by have : xs.length ≤ 65536 := hb; omega
  clear h hb A1 A2 B1 hs
  show Calls Try.prog 34 #[.agg #[.int .i64 room, .slice A xs.length n], .agg #[.int .i64 k0, .int .u32 k1]] w _
  generalize hm : xs.length = m at *
  have HM := Lib.hid hm
  clear hm
  go_enter Try.func34, Try.ntmps34
  go_upto_region 1 with fail
  rw [← HW]; clear HW
  go_wp2_with fail
  go_loopw [5] (fun i wr => ∃ j : Nat, j ≤ m ∧ i = .int .i64 j ∧ (∀ p x, p < j → xs[p]? = some x → x.e.k ≠ (k0, k1)) ∧ Below W1.heap.size W1 wr) (fun i _ => m - (intOf i).toNat)
  case atStart => exact ⟨0, by omega, rfl, fun p _ hp => absurd hp (by omega), Below.refl _ _⟩
  case round =>
    obtain ⟨j, hj, rfl, hne, hbel⟩ := hrel
    have HN := Lib.hid hne
    have HB := Lib.hid hbel
    obtain ⟨e0, e1, e2⟩ := KP.out _ hbel
    clear hne hbel
    have hj0 : (0 : Int) ≤ (j : Int) := Int.natCast_nonneg _
    by_cases hlt : j < m
    · obtain ⟨x, hx⟩ : ∃ x, xs[j]? = some x := ⟨_, List.getElem?_eq_getElem (by rw [HM.out]; exact hlt)⟩
      obtain ⟨g, o, e, _, hgl, hcs⟩ := HG.out.at_ hx
      have e : A = some ⟨g, o, none⟩ := e
      subst e
      have d0 := (HB.out.cell (p := ⟨g, o + j * 4 + 0, none⟩) hgl).trans (hcs 0 _ rfl)
      have d1 := (HB.out.cell (p := ⟨g, o + j * 4 + 1, none⟩) hgl).trans (hcs 1 _ rfl)
      have HX := Lib.hid hx
      have hlt' : (j : Int) < (m : Int) := by omega
      have he := fun W => eq_key x.e.k (k0, k1) W
      clear hcs hx hgl
      obtain ⟨⟨⟨q0, q1⟩, nd, l⟩, xA, xc⟩ := x
      dsimp only [Nat.add_zero] at d0 d1 he
      by_cases e : ((q0, q1) : Ky) = (k0, k1)
      · have HE := Lib.hid e
        rw [decide_eq_true e] at he
        clear e
        go_wp2_with fail
        go_quiet (fail)
        go_wp2_with fail
        go_ret
        exact ⟨j, rfl, .inr ⟨j, _, rfl, HX.out, HE.out⟩, HB1.out.trans (below_drewN (HB.out.mono HB1.out.size) HB1.out.size _)⟩
      · have HE := Lib.hid e
        rw [decide_eq_false e] at he
        clear e
        go_wp2_with fail
        go_quiet (fail)
        go_wp2_with fail
        go_roundw
        case rel =>
          refine ⟨j + 1, by omega, by go_num, fun p x hp hx => ?_, below_drewN HB.out (Nat.le_refl _) _⟩
          rcases Nat.lt_or_ge p j with q | q
          · exact HN.out p x q hx
          · obtain rfl : p = j := by omega
            rw [HX.out] at hx
            injection hx with hx
            subst hx
            exact HE.out
        case measure => simp [intOf]; omega
    · obtain rfl : j = m := by omega
      go_wp2_with fail
      go_ret
      refine ⟨-1, rfl, .inl ⟨rfl, fun x hx => ?_⟩, HB1.out.trans (HB.out.mono HB1.out.size)⟩
      obtain ⟨p, hp, rfl⟩ := List.getElem_of_mem hx
      exact HN.out p _ (by rw [← HM.out]; exact hp) (List.getElem?_eq_getElem hp)
set_option maxRecDepth 100000 in
set_option maxHeartbeats 800000 in
theorem rready_any (x : Ev) (h1 : x.e.l.length ≤ x.e.need) (h2 : x.e.need ≤ 32) (w : World) :
    Calls Try.prog 22 #[x.val] w fun e w' => e = .returned (.bool x.e.ready) ∧ Below w.heap.size w w' := by
  obtain ⟨⟨⟨q0, q1⟩, nd, l⟩, xA, xc⟩ := x
  have hA := At.new w 76 [.int .i64 q0, .int .u32 q1, .int .i64 nd, .slice xA l.length xc]
  have HB : Hid (Below w.heap.size w (w.alloc (.cells #[.int .i64 q0, .int .u32 q1, .int .i64 nd, .slice xA l.length xc] 76))) := Lib.hid ((Below.refl _ _).alloc (Nat.le_refl _) _)
  have c2 := hA.cell 2 rfl
  have c3 := hA.cell 3 rfl
  dsimp only at h1 h2
  unfold Fe.ready
  show Calls Try.prog 22 #[.agg #[.int .i64 q0, .int .u32 q1, .int .i64 nd, .slice xA l.length xc]] w _
  dsimp only
  clear hA
  generalize l.length = m at *
  by_cases e : m = nd
  · subst e
    rw [decide_eq_true rfl]
    go_enter Try.func22, Try.ntmps22
    go_wp2_with fail
    go_ret
    exact ⟨rfl, HB.out⟩
  · have h3 : ¬ (nd : Int) ≤ (m : Int) := by omega
    rw [decide_eq_false e]
    clear e h1
    go_enter Try.func22, Try.ntmps22
    go_wp2_with fail
    go_ret
    exact ⟨rfl, HB.out⟩
theorem neq_shd (x : Shd) (w : World) : (binOp .neq 32 (.agg #[.int .i64 x.1, .string x.2]) (.agg #[.int .i64 x.1, .string x.2])).run Try.prog w = .ok (.bool false) w := by
  rw [run_neq_struct, run_equalIn_agg w _ 32 _ _ (by kernel_rfl) (by kernel_rfl)]
  simp [go_sem, Try.underlying32]
set_option maxRecDepth 100000 in
set_option maxHeartbeats 800000 in
theorem rsame_yes {w : World} {c d : Nat → Prop} {A B : Option Addr} {l : List Shd} (ca cb : Nat) (hA : Cl w c A (hcells l)) (hB : Cl w d B (hcells l)) (hl : l.length ≤ 65536) :
    Calls Try.prog 20 #[.slice A l.length ca, .slice B l.length cb] w fun e w' => e = .returned (.bool true) ∧ Below w.heap.size w w' := by
  have HA := Lib.hid hA
  have HC := Lib.hid hB
  have hl' : (l.length : Int) ≤ 65536 := by omega
  clear hA hB hl
  generalize hm : l.length = m at *
  have HM := Lib.hid hm
  clear hm
  go_enter Try.func20, Try.ntmps20
  go_wp2_with fail
  go_loopw [5] (fun i wr => ∃ j : Nat, j ≤ m ∧ i = .int .i64 j ∧ Below w.heap.size w wr) (fun i _ => m - (intOf i).toNat)
  case atStart => exact ⟨0, by omega, rfl, Below.refl _ _⟩
  case round =>
    obtain ⟨j, hj, rfl, hbel⟩ := hrel
    have HB := Lib.hid hbel
    clear hbel
    have hj0 : (0 : Int) ≤ (j : Int) := Int.natCast_nonneg _
    by_cases hlt : j < m
    · obtain ⟨g, o, rfl, _, hgl, a0, a1⟩ := HA.out.shard (j := j) (by rw [HM.out]; exact hlt)
      obtain ⟨g', o', rfl, _, hgl', b0, b1⟩ := HC.out.shard (j := j) (by rw [HM.out]; exact hlt)
      have x0 := (HB.out.cell (p := ⟨g, o + j * 2, none⟩) hgl).trans a0
      have x1 := (HB.out.cell (p := ⟨g, o + j * 2 + 1, none⟩) hgl).trans a1
      have y0 := (HB.out.cell (p := ⟨g', o' + j * 2, none⟩) hgl').trans b0
      have y1 := (HB.out.cell (p := ⟨g', o' + j * 2 + 1, none⟩) hgl').trans b1
      have hlt' : (j : Int) < (m : Int) := by omega
      have he := fun W => neq_shd (sh_ l j) W
      clear a0 a1 b0 b1 hgl hgl'
      generalize sh_ l j = x at *
      obtain ⟨x0, x1⟩ := x
      dsimp only at *
      go_wp2_with fail
      go_quiet (fail)
      go_wp2_with fail
      go_roundw
      case rel => exact ⟨j + 1, by omega, by go_num, below_drewN HB.out (Nat.le_refl _) _⟩
      case measure => simp [intOf]; omega
    · obtain rfl : j = m := by omega
      go_wp2_with fail
      go_ret
      exact ⟨rfl, HB.out⟩
/-- what stands at a place is what is found. -/
theorem find_at {xs : List Ev} {k : Ky} {z : Int} (hk : (xs.map fun x => x.e.k).Nodup) (h : AtIs xs k z) : (z = -1 ∧ findF (xs.map Ev.e) k = none) ∨ ∃ (i : Nat) (x : Ev), z = i ∧ xs[i]? = some x ∧ x.e.k = k ∧ findF (xs.map Ev.e) k = some x.e := by
  rcases h with ⟨e, hn⟩ | ⟨i, x, e, hx, hk'⟩
  · refine .inl ⟨e, ?_⟩
    unfold findF
    rw [List.find?_eq_none]
    intro y hy
    obtain ⟨x, hx, rfl⟩ := List.mem_map.1 hy
    simpa using hn x hx
  · refine .inr ⟨i, x, e, hx, hk', ?_⟩
    have hm := List.mem_of_getElem? hx
    cases hf : findF (xs.map Ev.e) k with
    | none =>
      unfold findF at hf
      rw [List.find?_eq_none] at hf
      exact absurd hk' (by simpa using hf x.e (List.mem_map.2 ⟨x, hm, rfl⟩))
    | some e' =>
      have h1 := findF_k hf
      unfold findF at hf
      obtain ⟨y, hy, rfl⟩ := List.mem_map.1 (List.mem_of_find?_eq_some hf)
      rw [one_of_nodup hk hy hm (h1.trans hk'.symm)]
end Go.Proofs.Ytgclgmfmcgacdaa

/- Plain lemmas on slices of calls in memory. No condition beyond those that each lemma names. -/
import Derived.Test.YtamcpdhehipcfaaCaMap
import Derived.Test.YtamcpdhehipcfaaObjRow
import Derived.Great.BuildSlice
import Derived.Test.YtamcpdhehipcfaaVecMem
import Derived.Maps.AppendAt
import Derived.Laws.AppendOwnNone
import Derived.Laws.EntriesVeiled
import Derived.Laws.StructEq
namespace Go.Proofs.Ytamcpdhehipcfaa
open Go.ChangeShapes Go.WideShapes Go.ChangeAt Go.RowKit

/-- from address p on, the cells of a call. -/
def WtC (w : World) (p : Addr) (x : Wt) : Prop := w.cell? p = some (.int .i64 x.id) ∧ w.cell? ⟨p.block, p.off + 1, none⟩ = some (.int .i64 x.kind) ∧ w.cell? ⟨p.block, p.off + 2, none⟩ = some (.int .i64 x.str) ∧ w.cell? ⟨p.block, p.off + 3, none⟩ = some (.int .i64 x.num) ∧ w.cell? ⟨p.block, p.off + 4, none⟩ = some (.string x.body)
theorem WtC.block {w w' : World} {p : Addr} {x : Wt} (h : WtC w p x) (e : w'.heap[p.block]? = w.heap[p.block]?) : WtC w' p x := by
  have k : ∀ q : Addr, q.block = p.block → w'.cell? q = w.cell? q := fun q hq => World.cell?_of_block (by rw [hq]; exact e)
  obtain ⟨h0, h1, h2, h3, h4⟩ := h
  exact ⟨(k p rfl).trans h0, (k ⟨p.block, p.off + 1, none⟩ rfl).trans h1, (k ⟨p.block, p.off + 2, none⟩ rfl).trans h2, (k ⟨p.block, p.off + 3, none⟩ rfl).trans h3, (k ⟨p.block, p.off + 4, none⟩ rfl).trans h4⟩
theorem WtC.below {w w' : World} {B : Nat} {p : Addr} {x : Wt} (h : WtC w p x) (k : Below B w w') (hb : p.block < B) : WtC w' p x := h.block (k.block _ hb)
theorem wtc_at {w : World} {b : Nat} {x : Wt} (h : At w b 30 (wtC x)) : WtC w ⟨b, 0, none⟩ x := ⟨h.cell 0 rfl, h.cell 1 rfl, h.cell 2 rfl, h.cell 3 rfl, h.cell 4 rfl⟩
/-- The slice value with address A and length n holds the calls l, in memory that is there. -/
def Ws (w : World) (A : Option Addr) (n : Nat) (l : List Wt) : Prop :=
  l.length = n ∧ (0 < n → ∃ ad, A = some ad ∧ ad.block < w.heap.size ∧ ∀ j, j < n → WtC w (ad.add (j * 5)) (wt_ l j))
theorem Ws.nil (w : World) (A : Option Addr) : Ws w A 0 [] := ⟨rfl, fun h => absurd h (by omega)⟩
theorem Ws.len {w : World} {A : Option Addr} {n : Nat} {l : List Wt} (h : Ws w A n l) : l.length = n := h.1
theorem Ws.at_ {w : World} {A : Option Addr} {n : Nat} {l : List Wt} (h : Ws w A n l) {k : Nat} (hk : k < n) : ∃ ad, A = some ad ∧ ad.block < w.heap.size ∧ WtC w (ad.add (k * 5)) (wt_ l k) := by
  obtain ⟨ad, e, hb, hc⟩ := h.2 (by omega)
  exact ⟨ad, e, hb, hc k hk⟩
theorem Ws.move {w w' : World} {A : Option Addr} {n : Nat} {l : List Wt} (h : Ws w A n l) (hs : w.heap.size ≤ w'.heap.size) (hb : ∀ ad v, A = some ad → (∃ c, w.cell? c = some v ∧ c.block = ad.block) → w'.heap[ad.block]? = w.heap[ad.block]?) : Ws w' A n l := by
  refine ⟨h.1, fun hn => ?_⟩
  obtain ⟨ad, e, hlt, hc⟩ := h.2 hn
  have hk := hb ad _ e ⟨_, (hc 0 hn).1, by rw [add_block]⟩
  exact ⟨ad, e, Nat.lt_of_lt_of_le hlt hs, fun j hj => (hc j hj).block (by rw [add_block]; exact hk)⟩
theorem Ws.below {w w' : World} {A : Option Addr} {n : Nat} {l : List Wt} (h : Ws w A n l) (hb : Below w.heap.size w w') : Ws w' A n l :=
  h.move hb.size fun ad _ _ ⟨c, hc, e⟩ => hb.block _ (by rw [← e]; exact World.block_lt_of_cell? w c hc)
theorem Ws.turned {w w' : World} {A : Option Addr} {n m : Nat} {l r : List Wt} (h : Ws w A n l) (k : w.grownBy w' (some m)) (hm : Mw w m r) : Ws w' A n l :=
  h.move k.size fun ad _ _ ⟨c, hc, e⟩ => k.block _ (by rw [← e]; exact World.block_lt_of_cell? w c hc) fun q => by
    injection q with q
    rw [hm.cell (a := c) (by rw [e, q])] at hc
    cases hc
theorem Ws.grown2 {w w' : World} {A : Option Addr} {n B : Nat} {l : List Wt} {row : Option Nat} (h : Ws w A n l) (k : w.grownBy w' row) (hr : ∀ q, row = some q → B ≤ q) (hA : ∀ ad, A = some ad → 0 < n → ad.block < B) : Ws w' A n l := by
  rcases Nat.eq_zero_or_pos n with h0 | h0
  · subst h0
    exact ⟨h.1, fun q => absurd q (by omega)⟩
  · exact h.move k.size fun ad _ e ⟨c, hc, ec⟩ => k.block _ (by rw [← ec]; exact World.block_lt_of_cell? w c hc) fun q => by
      have := hr _ q.symm
      have := hA ad e h0
      omega
theorem Ws.lt {w : World} {A : Option Addr} {n : Nat} {l : List Wt} (h : Ws w A n l) : ∀ ad, A = some ad → 0 < n → ad.block < w.heap.size := by
  intro ad e h0
  obtain ⟨ad', e', hlt, _⟩ := h.2 h0
  rw [e] at e'
  injection e' with e'
  rw [e']; exact hlt
theorem Ws.cut {w : World} {A : Option Addr} {n : Nat} {l : List Wt} (h : Ws w A n l) {k : Nat} (hk : k ≤ n) : Ws w A k (l.take k) := by
  refine ⟨by rw [List.length_take, h.1]; omega, fun h0 => ?_⟩
  obtain ⟨ad, e, hlt, hc⟩ := h.2 (by omega)
  exact ⟨ad, e, hlt, fun j hj => by rw [wt_take hj]; exact hc j (by omega)⟩
/-- the rest of a slice, from place o on. -/
def wtA (A : Option Addr) (c o : Nat) : Option Addr := if c = o then A else A.map (·.add (o * 5))
theorem add_more29 (a : Addr) (n m : Nat) : (a.add n).add m = a.add (n + m) := by
  obtain ⟨b, o, s⟩ := a
  unfold Addr.add
  by_cases h : n = 0
  · subst h; simp
  · by_cases g : m = 0
    · subst g; simp [h]
    · simp [h, g]; omega
theorem Ws.rest {w : World} {A : Option Addr} {n c : Nat} {l : List Wt} (h : Ws w A n l) (hc : n ≤ c) {k : Nat} (hk : k ≤ n) : Ws w (wtA A c k) (n - k) (l.drop k) := by
  refine ⟨by rw [List.length_drop, h.1], fun h0 => ?_⟩
  obtain ⟨ad, e, hlt, hd⟩ := h.2 (by omega)
  refine ⟨ad.add (k * 5), ?_, by rw [add_block]; exact hlt, fun j hj => ?_⟩
  · unfold wtA
    rw [if_neg (by omega), e]; rfl
  · rw [add_more29, ← Nat.add_mul, wt_drop]
    exact hd (k + j) (by omega)

/-! ### slices of them, as run equations -/
theorem infoWt : (Try.prog.info? 30).map (fun i => (i.zero, i.size, i.bytes)) = some (some (wtV wt0), 5, 48) := by kernel_rfl
theorem wt_head_run (A : Option Addr) (n c k : Nat) (h : k ≤ c) (W : World) :
    (Instr.slice 26 (.slice A n c) none (some (.int .i64 (k : Nat))) none).run Try.prog W = .ok (.slice A k c) W := by
  have hu : Try.prog.underlying 26 = some (.slice (Try.prog.elem 26)) := by kernel_rfl
  have he : Try.prog.elem 26 = 30 := by kernel_rfl
  obtain ⟨i, hi, hz0, hz1, hz2⟩ := info_parts infoWt
  rw [run_slice_h W 26 A n c hu .i64 (k : Int) (by omega) (by omega), he]
  have e0 : ∀ a : Addr, a.add 0 = a := fun a => rfl
  have e1 : A.map (fun a => a) = A := by cases A <;> rfl
  simp [sizeOf, typeInfo, hi, hz1, sliced, e0, e1]
theorem wt_rest_run (A : Option Addr) (n c k : Nat) (h : k ≤ n) (W : World) :
    (Instr.slice 26 (.slice A n c) (some (.int .i64 (k : Nat))) none none).run Try.prog W = .ok (.slice (wtA A c k) (n - k) (c - k)) W := by
  have hu : Try.prog.underlying 26 = some (.slice (Try.prog.elem 26)) := by kernel_rfl
  have he : Try.prog.elem 26 = 30 := by kernel_rfl
  obtain ⟨i, hi, hz0, hz1, hz2⟩ := info_parts infoWt
  rw [run_slice_l W 26 A n c hu .i64 (k : Int) (by omega) (by omega), he]
  simp [sizeOf, typeInfo, hi, hz1, sliced, wtA]

/-! ### what is gathered -/
def wcells : List Wt → List Value
  | [] => []
  | x :: r => .int .i64 x.id :: .int .i64 x.kind :: .int .i64 x.str :: .int .i64 x.num :: .string x.body :: wcells r
theorem wcells_len (l : List Wt) : (wcells l).length = l.length * 5 := by
  induction l with
  | nil => rfl
  | cons x r ih => show (wcells r).length + 1 + 1 + 1 + 1 + 1 = _; rw [ih, List.length_cons]; omega
theorem wcells_app (l r : List Wt) : wcells (l ++ r) = wcells l ++ wcells r := by
  induction l with
  | nil => rfl
  | cons x l ih => show _ :: _ :: _ :: _ :: _ :: wcells (l ++ r) = _; rw [ih]; rfl
theorem wcells_one (l : List Wt) : ∀ u ∈ wcells l, u.oneCell' = true := by
  induction l with
  | nil => intro u hu; simp [wcells] at hu
  | cons x r ih =>
    intro u hu
    simp only [wcells, List.mem_cons] at hu
    rcases hu with rfl | rfl | rfl | rfl | rfl | hu
    · rfl
    · rfl
    · rfl
    · rfl
    · rfl
    · exact ih u hu
theorem wcells_at (l : List Wt) (j : Nat) (hj : j < l.length) : (wcells l)[j * 5]? = some (.int .i64 (wt_ l j).id) ∧ (wcells l)[j * 5 + 1]? = some (.int .i64 (wt_ l j).kind) ∧ (wcells l)[j * 5 + 2]? = some (.int .i64 (wt_ l j).str) ∧ (wcells l)[j * 5 + 3]? = some (.int .i64 (wt_ l j).num) ∧ (wcells l)[j * 5 + 4]? = some (.string (wt_ l j).body) := by
  induction l generalizing j with
  | nil => exact absurd hj (by simp)
  | cons x r ih =>
    rcases j with _ | j
    · exact ⟨rfl, rfl, rfl, rfl, rfl⟩
    · have := ih j (by simpa using hj)
      rw [Nat.succ_mul]
      exact this
/-- a place and which of its five cells. -/
theorem wcells_mod {l : List Wt} {j : Nat} {u : Value} (h : (wcells l)[j]? = some u) : j / 5 < l.length ∧ ∀ (w : World) (p : Addr), WtC w p (wt_ l (j / 5)) → (∀ o, 0 < o → p.add o = ⟨p.block, p.off + o, none⟩) → w.cell? (p.add (j % 5)) = some u := by
  have hj := (List.getElem?_eq_some_iff.1 h).1
  rw [wcells_len] at hj
  have hq : j / 5 < l.length := by omega
  refine ⟨hq, fun w p ⟨c0, c1, c2, c3, c4⟩ hp => ?_⟩
  obtain ⟨t0, t1, t2, t3, t4⟩ := wcells_at l (j / 5) hq
  have hm : j % 5 = 0 ∨ j % 5 = 1 ∨ j % 5 = 2 ∨ j % 5 = 3 ∨ j % 5 = 4 := by omega
  rcases hm with e | e | e | e | e
  · rw [show j = j / 5 * 5 by omega, t0] at h
    rw [e, Addr.add_zero', ← h]; exact c0
  · rw [show j = j / 5 * 5 + 1 by omega, t1] at h
    rw [e, hp 1 (by omega), ← h]; exact c1
  · rw [show j = j / 5 * 5 + 2 by omega, t2] at h
    rw [e, hp 2 (by omega), ← h]; exact c2
  · rw [show j = j / 5 * 5 + 3 by omega, t3] at h
    rw [e, hp 3 (by omega), ← h]; exact c3
  · rw [show j = j / 5 * 5 + 4 by omega, t4] at h
    rw [e, hp 4 (by omega), ← h]; exact c4
/-- What was gathered, as a slice that reads as calls. -/
theorem ws_of {w : World} {base n : Nat} {v : Value} {l : List Wt} (h : w.ownsRow base 30 5 v n (wcells l)) : ∃ A c, v = .slice A n c ∧ n ≤ c ∧ (A = none → c = 0) ∧ Ws w A n l := by
  obtain ⟨hl, hv⟩ := h
  rw [wcells_len] at hl
  have hl : l.length = n := by omega
  rcases hv with ⟨rfl, h0⟩ | ⟨g, cap, cur, rfl, hg, hc, h1, h2, h3, h4⟩
  · have h0' : n = 0 := by simpa using h0
    subst h0'
    exact ⟨_, _, rfl, Nat.le_refl _, fun _ => rfl, ⟨hl, fun h => absurd h (by omega)⟩⟩
  · refine ⟨_, _, rfl, h1, (fun e => nomatch e), hl, fun _ => ⟨_, rfl, (Array.getElem?_eq_some_iff.1 hc).1, fun j hj => ?_⟩⟩
    have e : ∀ i, (⟨g, 0, none⟩ : Addr).add i = ⟨g, i, none⟩ := fun i => by unfold Addr.add; split <;> simp_all
    obtain ⟨t0, t1, t2, t3, t4⟩ := wcells_at l j (by omega)
    have k : ∀ o v, o < n * 5 → (wcells l)[o]? = some v → w.cell? ⟨g, o, none⟩ = some v := fun o v ho hv => by
      rw [← h4, List.getElem?_take, if_pos (by omega)] at hv
      rw [cell_of_row w g _ cur _ (0, 0) hc]
      simpa using hv
    rw [e]
    exact ⟨k (j * 5) _ (by omega) t0, k (j * 5 + 1) _ (by omega) t1, k (j * 5 + 2) _ (by omega) t2, k (j * 5 + 3) _ (by omega) t3, k (j * 5 + 4) _ (by omega) t4⟩
/-- What an append asks of its source. -/
theorem Ws.source {w : World} {ad : Addr} {n : Nat} {l : List Wt} (h : Ws w (some ad) n l) : ∀ j u, (wcells l)[j]? = some u → w.cell? (ad.add j) = some u := by
  intro j u hu
  obtain ⟨hq, hk⟩ := wcells_mod hu
  rw [h.1] at hq
  obtain ⟨ad', e, _, hc⟩ := h.2 (by omega)
  injection e with e
  subst e
  have := hk w (ad.add (j / 5 * 5)) (hc _ hq) (fun o ho => by
    unfold Addr.add
    rw [if_neg (show ¬ o = 0 by omega)])
  rw [add_more29, show j / 5 * 5 + j % 5 = j by omega] at this
  exact this
/-- AT THE OPERATION: calls are appended to what is gathered. -/
theorem wt_append2 {w : World} {ops : Array Oper} {rest : List Oper} {o : Oper} {a : Act} {Q : Exit → Act → World → Prop} (hgd : o.guard = none) (s x : Operand) (t : TypeId)
    (ho : o.op = .call { callee := .builtin .append, args := #[s, x], argTypes := #[t, t] }) (ht : Try.prog.underlying t = some (.slice 30))
    (base : Nat) (v : Value) (n : Nat) (p : List Wt) (hs : a.eval s = v) (hown : w.ownsRow base 30 5 v n (wcells p))
    (A : Option Addr) (m c : Nat) (q : List Wt) (hx : a.eval x = .slice A m c) (hq : Ws w A m q) (hc : A = none → c = 0)
    (h63 : n + m ≤ 1000) (hbase : base ≤ w.heap.size)
    (h : ∀ v' w', w'.ownsRow base 30 5 v' (n + m) (wcells (p ++ q)) → w.grownBy w' v.ownBlock → (v'.ownBlock = v.ownBlock ∨ v'.ownBlock = some w.heap.size) → wpList Try.prog ops Q rest (a.put o.dst v') w') :
    wpList Try.prog ops Q (o :: rest) a w := by
  obtain ⟨i, hi, hz0, hz1, hz2⟩ := info_parts infoWt
  cases A with
  | none =>
    obtain rfl := hc rfl
    have hm : m = 0 := by
      rcases Nat.eq_zero_or_pos m with e | e
      · exact e
      · obtain ⟨ad, e, _⟩ := hq.2 e
        cases e
    subst hm
    have hq0 : q = [] := List.eq_nil_of_length_eq_zero hq.1
    subst hq0
    refine wpList_append_own_none hgd s x t ho base _ i 5 ht hi v n _ hs hown hx (h _ _ ?_ (grown_refl _ _) (Or.inl rfl))
    rw [List.append_nil]
    exact hown
  | some ad =>
    refine wpList_append_own_at w hgd s x t ho base _ i _ 5 48 ht hi hz0 hz1 hz2 rfl (by omega) v n _ hs hown ad m c (wcells q) hx (by rw [wcells_len, hq.1]) hq.source (wcells_one q) (by unfold maxLen; omega) (by omega) hbase ?_
    intro v' w' ho' hg _ hb
    exact h v' w' (by rw [wcells_app]; exact ho') hg hb
/-- AT THE OPERATION: calls are appended to what is gathered. -/
theorem wt_append {w : World} {ops : Array Oper} {rest : List Oper} {o : Oper} {a : Act} {Q : Exit → Act → World → Prop} (hgd : o.guard = none) (s x : Operand) (t : TypeId)
    (ho : o.op = .call { callee := .builtin .append, args := #[s, x], argTypes := #[t, t] }) (ht : Try.prog.underlying t = some (.slice 30))
    (base : Nat) (v : Value) (n : Nat) (p : List Wt) (hs : a.eval s = v) (hown : w.ownsRow base 30 5 v n (wcells p))
    (A : Option Addr) (m c : Nat) (q : List Wt) (hx : a.eval x = .slice A m c) (hq : Ws w A m q) (hc : A = none → c = 0)
    (h63 : n + m ≤ 1000) (hbase : base ≤ w.heap.size)
    (h : ∀ v' w', w'.ownsRow base 30 5 v' (n + m) (wcells (p ++ q)) → w.grownBy w' v.ownBlock → wpList Try.prog ops Q rest (a.put o.dst v') w') :
    wpList Try.prog ops Q (o :: rest) a w :=
  wt_append2 hgd s x t ho ht base v n p hs hown A m c q hx hq hc h63 hbase fun v' w' a b _ => h v' w' a b
/-- a call that lies in a block of its own, as a slice of one. -/
theorem ws_lit (w : World) (x : Wt) : Ws (w.alloc (.cells (wtC x).toArray 30)) (some ⟨w.heap.size, 0, none⟩) 1 [x] := by
  have h := At.new w 30 (wtC x)
  refine ⟨rfl, fun _ => ⟨_, rfl, h.lt, fun j hj => ?_⟩⟩
  obtain rfl : j = 0 := by omega
  exact wtc_at h

/-! ### calls compared -/
theorem toList_iff29 (a b : ByteArray) : a.toList = b.toList ↔ a = b := by
  rw [ByteArray.toList_eq, ByteArray.toList_eq]
  exact ⟨fun h => ByteArray.ext (Array.toList_inj.1 h), fun h => by rw [h]⟩
theorem eq_wt (x y : Wt) (w : World) : (binOp .eql 30 (wtV x) (wtV y)).run Try.prog w = .ok (.bool (decide (x = y))) w := by
  unfold wtV
  rw [run_eql_struct, run_equalIn_agg w _ 30 _ _ (by kernel_rfl) (by kernel_rfl)]
  obtain ⟨a, b, c, d, s⟩ := x
  obtain ⟨a', b', c', d', s'⟩ := y
  simp [go_sem, Try.underlying30, Try.underlying28]
  simp only [toList_iff29]
  repeat' (split <;> simp_all)
theorem neq_wt (x y : Wt) (w : World) : (binOp .neq 30 (wtV x) (wtV y)).run Try.prog w = .ok (.bool (!decide (x = y))) w := by
  unfold wtV
  rw [run_neq_struct, run_equalIn_agg w _ 30 _ _ (by kernel_rfl) (by kernel_rfl)]
  obtain ⟨a, b, c, d, s⟩ := x
  obtain ⟨a', b', c', d', s'⟩ := y
  simp [go_sem, Try.underlying30, Try.underlying28]
  simp only [toList_iff29]
  repeat' (split <;> simp_all)

/-! ### a call by value, never laid open -/
abbrev tW : TypeId := 30
theorem tW_size : (Try.prog.info? tW).map (·.size) = some 5 := by kernel_rfl
theorem wtC_one (x : Wt) : ∀ v ∈ wtC x, v.oneCell' = true := by
  intro v hv
  unfold wtC at hv
  simp only [List.mem_cons, List.not_mem_nil, or_false] at hv
  rcases hv with rfl | rfl | rfl | rfl | rfl <;> rfl
theorem WtC.run {w : World} {p : Addr} {x : Wt} (h : WtC w p x) : (loadVar tW p).run Try.prog w = .ok (wtV x) w := by
  have hl : (loadCells p (wtC x).length).run Try.prog w = .ok (wtC x).toArray w := run_loadCells_list (P := Try.prog) w p (wtC x) (fun j v hv => by
    have e : ∀ o, 0 < o → p.add o = ⟨p.block, p.off + o, none⟩ := fun o ho => by
      unfold Addr.add
      rw [if_neg (show ¬ o = 0 by omega)]
    obtain ⟨c0, c1, c2, c3, c4⟩ := h
    match j, hv with
    | 0, hv => rw [Addr.add_zero', c0]; exact hv
    | 1, hv => rw [e 1 (by omega), c1]; exact hv
    | 2, hv => rw [e 2 (by omega), c2]; exact hv
    | 3, hv => rw [e 3 (by omega), c3]; exact hv
    | 4, hv => rw [e 4 (by omega), c4]; exact hv)
  obtain ⟨i, hi, hz0, hz1, hz2⟩ := info_parts infoWt
  have hagg : (isAgg tW).run Try.prog w = .ok true w := by
    unfold isAgg
    rw [Sem.run_bind, run_underlying Try.underlying30 w]
    rfl
  have h5 : i.size = (wtC x).length := hz1
  simp [loadVar, Sem.run_bind, hagg, sizeOf, typeInfo, hi, h5, hl]
  rfl
section
variable {ops : Array Oper} {rest : List Oper} {op : Oper} {a : Act} {w : World} {Q : Exit → Act → World → Prop}
/-- AT THE OPERATION: a call is loaded. -/
theorem wpw_load (hgd : op.guard = none) (x : Operand) (ho : op.op = .load tW x) {q : Addr} (hx : a.eval x = .pointer (some q)) {y : Wt} (hA : WtC w q y)
    (h : wpList Try.prog ops Q rest (a.put op.dst (wtV y)) w) : wpList Try.prog ops Q (op :: rest) a w :=
  wpList_plain hgd fun K hK => by
    unfold Oper.wp execOp
    simp only [ho, hx, Instr.loadAt, Instr.sureAddr, Sem.run_bind, Sem.run_pure, Result.andThen_ok, hA.run]
    exact hK _ _ h
/-- AT THE OPERATION: a call is stored into a box. -/
theorem wpw_store (hgd : op.guard = none) (x z : Operand) (ho : op.op = .store tW x z) {b : Nat} (hx : a.eval x = .pointer (some ⟨b, 0, none⟩)) (y : Wt) (hz : a.eval z = wtV y) {old : List Value} (hA : At w b tW old) (hl : old.length = 5)
    (h : ∀ w', At w' b tW (wtC y) → w.grownBy w' (some b) → w'.heap.size = w.heap.size → wpList Try.prog ops Q rest (a.put op.dst undef) w') : wpList Try.prog ops Q (op :: rest) a w :=
  wpList_store_mid hgd tW x z ho b 0 (wtC y).toArray hx hz (hA.there (by rw [hl]; rfl)) tW_size (all_oneCell_toArray (wtC_one y)) (h _ (hA.all_ _ (by rw [hl]; rfl)) (grown_sets _ _ _ _) (size_sets _ _ _ _))
/-- AT THE OPERATION: a slice of one call. -/
theorem wpw_one (hgd : op.guard = none) (x : Operand) (ho : op.op = .buildSlice 26 1 #[(0, x)]) (y : Wt) (hx : a.eval x = wtV y)
    (h : ∀ w', w' = w.alloc (.cells (wtC y).toArray tW) → wpList Try.prog ops Q rest (a.put op.dst (.slice (some ⟨w.heap.size, 0, none⟩) 1 1)) w') : wpList Try.prog ops Q (op :: rest) a w := by
  obtain ⟨i, hi, hz0, hz1, hz2⟩ := info_parts infoWt
  refine wpList_buildSlice hgd 26 tW 1 #[(0, x)] ho (wtC y).toArray i (wtV wt0) Try.underlying26 hi hz0 (by rw [hz1]; omega) (by rw [hz1]; omega) ?_ (h _ rfl)
  rw [hz1]
  simp only [List.map_toArray, List.map_cons, List.map_nil, hx]
  have hr : Array.range 5 = #[0, 1, 2, 3, 4] := by decide
  simp [Instr.fill, wtV, wtC, Value.cells, hr]
end
/-- the result's box is read. -/
theorem wt_out {w : World} {b : Nat} {x : Wt} (h : At w b tW (wtC x)) : (loadVar tW ⟨b, 0, none⟩).run Try.prog w = .ok (wtV x) w := (wtc_at h).run
end Go.Proofs.Ytamcpdhehipcfaa

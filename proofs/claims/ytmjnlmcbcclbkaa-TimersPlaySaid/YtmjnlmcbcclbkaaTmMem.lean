/- Plain lemmas on slices of keys and times in memory. No condition beyond those that each lemma names. -/
import Derived.Test.YtmjnlmcbcclbkaaTmBase
import Derived.Test.YtmjnlmcbcclbkaaVecMem
import Derived.Maps.AppendAt
import Derived.Laws.AppendOwnNone
import Derived.Laws.EntriesVeiled
import Derived.Laws.StructEq
namespace Go.Proofs.Ytmjnlmcbcclbkaa
open Go.ChangeShapes Go.WideShapes Go.ChangeAt Go.RowKit

/-- a due one's value. -/
abbrev tmV (x : Tm) : Value := .agg #[.int .i64 x.1.1, .int .u32 x.1.2, .int .i64 x.2]
/-- The slice value with address A and length n holds the times l, in memory that is there. -/
def Ts (w : World) (A : Option Addr) (n : Nat) (l : List Tm) : Prop :=
  l.length = n ∧ (0 < n → ∃ ad, A = some ad ∧ ad.block < w.heap.size ∧ ∀ j, j < n → w.cell? (ad.add (j * 3)) = some (.int .i64 (tm_ l j).1.1) ∧ w.cell? ⟨(ad.add (j * 3)).block, (ad.add (j * 3)).off + 1, none⟩ = some (.int .u32 (tm_ l j).1.2) ∧ w.cell? ⟨(ad.add (j * 3)).block, (ad.add (j * 3)).off + 2, none⟩ = some (.int .i64 (tm_ l j).2))
theorem Ts.nil (w : World) (A : Option Addr) : Ts w A 0 [] := ⟨rfl, fun h => absurd h (by omega)⟩
theorem Ts.len {w : World} {A : Option Addr} {n : Nat} {l : List Tm} (h : Ts w A n l) : l.length = n := h.1
theorem Ts.at_ {w : World} {A : Option Addr} {n : Nat} {l : List Tm} (h : Ts w A n l) {k : Nat} (hk : k < n) :
    ∃ ad, A = some ad ∧ ad.block < w.heap.size ∧ w.cell? (ad.add (k * 3)) = some (.int .i64 (tm_ l k).1.1) ∧ w.cell? ⟨(ad.add (k * 3)).block, (ad.add (k * 3)).off + 1, none⟩ = some (.int .u32 (tm_ l k).1.2) ∧ w.cell? ⟨(ad.add (k * 3)).block, (ad.add (k * 3)).off + 2, none⟩ = some (.int .i64 (tm_ l k).2) := by
  obtain ⟨ad, e, hb, hc⟩ := h.2 (by omega)
  exact ⟨ad, e, hb, hc k hk⟩
theorem Ts.move {w w' : World} {A : Option Addr} {n : Nat} {l : List Tm} (h : Ts w A n l) (hs : w.heap.size ≤ w'.heap.size) (hb : ∀ ad v, A = some ad → (∃ c, w.cell? c = some v ∧ c.block = ad.block) → w'.heap[ad.block]? = w.heap[ad.block]?) : Ts w' A n l := by
  refine ⟨h.1, fun hn => ?_⟩
  obtain ⟨ad, e, hlt, hc⟩ := h.2 hn
  have h0 := (hc 0 hn).1
  have hk := hb ad _ e ⟨_, h0, by rw [add_block]⟩
  have hk' : ∀ o, w'.cell? ⟨ad.block, o, none⟩ = w.cell? ⟨ad.block, o, none⟩ := fun o => World.cell?_of_block hk
  have hk2 : ∀ j, w'.cell? (ad.add j) = w.cell? (ad.add j) := fun j => World.cell?_of_block (by rw [add_block]; exact hk)
  refine ⟨ad, e, Nat.lt_of_lt_of_le hlt hs, fun j hj => ?_⟩
  have hj := hc j hj
  rw [hk2, add_block, hk', hk']
  rw [add_block] at hj
  exact hj
theorem Ts.below {w w' : World} {A : Option Addr} {n : Nat} {l : List Tm} (h : Ts w A n l) (hb : Below w.heap.size w w') : Ts w' A n l :=
  h.move hb.size fun ad _ _ ⟨c, hc, e⟩ => hb.block _ (by rw [← e]; exact World.block_lt_of_cell? w c hc)
theorem Ts.turned {w w' : World} {A : Option Addr} {n m : Nat} {l r : List Tm} (h : Ts w A n l) (k : w.grownBy w' (some m)) (hm : Mp w m r) : Ts w' A n l :=
  h.move k.size fun ad _ _ ⟨c, hc, e⟩ => k.block _ (by rw [← e]; exact World.block_lt_of_cell? w c hc) fun q => by
    injection q with q
    rw [hm.cell (a := c) (by rw [e, q])] at hc
    cases hc
theorem Ts.grown2 {w w' : World} {A : Option Addr} {n B : Nat} {l : List Tm} {row : Option Nat} (h : Ts w A n l) (k : w.grownBy w' row) (hr : ∀ q, row = some q → B ≤ q) (hA : ∀ ad, A = some ad → 0 < n → ad.block < B) : Ts w' A n l := by
  rcases Nat.eq_zero_or_pos n with h0 | h0
  · subst h0
    exact ⟨h.1, fun q => absurd q (by omega)⟩
  · exact h.move k.size fun ad _ e ⟨c, hc, ec⟩ => k.block _ (by rw [← ec]; exact World.block_lt_of_cell? w c hc) fun q => by
      have := hr _ q.symm
      have := hA ad e h0
      omega
theorem Ts.lt {w : World} {A : Option Addr} {n : Nat} {l : List Tm} (h : Ts w A n l) : ∀ ad, A = some ad → 0 < n → ad.block < w.heap.size := by
  intro ad e h0
  obtain ⟨ad', e', hlt, _⟩ := h.2 h0
  rw [e] at e'
  injection e' with e'
  rw [e']; exact hlt
theorem Ts.cut {w : World} {A : Option Addr} {n : Nat} {l : List Tm} (h : Ts w A n l) {k : Nat} (hk : k ≤ n) : Ts w A k (l.take k) := by
  refine ⟨by rw [List.length_take, h.1]; omega, fun h0 => ?_⟩
  obtain ⟨ad, e, hlt, hc⟩ := h.2 (by omega)
  exact ⟨ad, e, hlt, fun j hj => by rw [tm_take hj]; exact hc j (by omega)⟩
/-- the rest of a slice, from place o on. -/
def tmA (A : Option Addr) (c o : Nat) : Option Addr := if c = o then A else A.map (·.add (o * 3))
theorem add_more (a : Addr) (n m : Nat) : (a.add n).add m = a.add (n + m) := by
  obtain ⟨b, o, s⟩ := a
  unfold Addr.add
  by_cases h : n = 0
  · subst h; simp
  · by_cases g : m = 0
    · subst g; simp [h]
    · simp [h, g]; omega
theorem Ts.rest {w : World} {A : Option Addr} {n c : Nat} {l : List Tm} (h : Ts w A n l) (hc : n ≤ c) {k : Nat} (hk : k ≤ n) : Ts w (tmA A c k) (n - k) (l.drop k) := by
  refine ⟨by rw [List.length_drop, h.1], fun h0 => ?_⟩
  obtain ⟨ad, e, hlt, hd⟩ := h.2 (by omega)
  refine ⟨ad.add (k * 3), ?_, by rw [add_block]; exact hlt, fun j hj => ?_⟩
  · unfold tmA
    rw [if_neg (by omega), e]; rfl
  · rw [add_more, ← Nat.add_mul, tm_drop]
    exact hd (k + j) (by omega)

/-! ### slices of them, as run equations -/
theorem infoTm : (Try.prog.info? 41).map (fun i => (i.zero, i.size, i.bytes)) = some (some (.agg #[.int .i64 0, .int .u32 0, .int .i64 0]), 3, 24) := by kernel_rfl
theorem tm_head_run (A : Option Addr) (n c k : Nat) (h : k ≤ c) (W : World) :
    (Instr.slice 27 (.slice A n c) none (some (.int .i64 (k : Nat))) none).run Try.prog W = .ok (.slice A k c) W := by
  have hu : Try.prog.underlying 27 = some (.slice (Try.prog.elem 27)) := by kernel_rfl
  have he : Try.prog.elem 27 = 41 := by kernel_rfl
  obtain ⟨i, hi, hz0, hz1, hz2⟩ := info_parts infoTm
  rw [run_slice_h W 27 A n c hu .i64 (k : Int) (by omega) (by omega), he]
  have e0 : ∀ a : Addr, a.add 0 = a := fun a => rfl
  have e1 : A.map (fun a => a) = A := by cases A <;> rfl
  simp [sizeOf, typeInfo, hi, hz1, sliced, e0, e1]
theorem tm_rest_run (A : Option Addr) (n c k : Nat) (h : k ≤ n) (W : World) :
    (Instr.slice 27 (.slice A n c) (some (.int .i64 (k : Nat))) none none).run Try.prog W = .ok (.slice (tmA A c k) (n - k) (c - k)) W := by
  have hu : Try.prog.underlying 27 = some (.slice (Try.prog.elem 27)) := by kernel_rfl
  have he : Try.prog.elem 27 = 41 := by kernel_rfl
  obtain ⟨i, hi, hz0, hz1, hz2⟩ := info_parts infoTm
  rw [run_slice_l W 27 A n c hu .i64 (k : Int) (by omega) (by omega), he]
  simp [sizeOf, typeInfo, hi, hz1, sliced, tmA]

/-! ### what is gathered -/
def tcells : List Tm → List Value
  | [] => []
  | x :: r => .int .i64 x.1.1 :: .int .u32 x.1.2 :: .int .i64 x.2 :: tcells r
theorem tcells_len (l : List Tm) : (tcells l).length = l.length * 3 := by
  induction l with
  | nil => rfl
  | cons x r ih => show (tcells r).length + 1 + 1 + 1 = _; rw [ih, List.length_cons]; omega
theorem tcells_app (l r : List Tm) : tcells (l ++ r) = tcells l ++ tcells r := by
  induction l with
  | nil => rfl
  | cons x l ih => show _ :: _ :: _ :: tcells (l ++ r) = _; rw [ih]; rfl
theorem tcells_one (l : List Tm) : ∀ u ∈ tcells l, u.oneCell' = true := by
  induction l with
  | nil => intro u hu; simp [tcells] at hu
  | cons x r ih =>
    intro u hu
    simp only [tcells, List.mem_cons] at hu
    rcases hu with rfl | rfl | rfl | hu
    · rfl
    · rfl
    · rfl
    · exact ih u hu
theorem tcells_at (l : List Tm) (j : Nat) (hj : j < l.length) : (tcells l)[j * 3]? = some (.int .i64 (tm_ l j).1.1) ∧ (tcells l)[j * 3 + 1]? = some (.int .u32 (tm_ l j).1.2) ∧ (tcells l)[j * 3 + 2]? = some (.int .i64 (tm_ l j).2) := by
  induction l generalizing j with
  | nil => exact absurd hj (by simp)
  | cons x r ih =>
    rcases j with _ | j
    · exact ⟨rfl, rfl, rfl⟩
    · have := ih j (by simpa using hj)
      rw [Nat.succ_mul]
      exact this
/-- What was gathered, as a slice that reads as times. -/
theorem ts_of {w : World} {base n : Nat} {v : Value} {l : List Tm} (h : w.ownsRow base 41 3 v n (tcells l)) : ∃ A c, v = .slice A n c ∧ n ≤ c ∧ (A = none → c = 0) ∧ Ts w A n l := by
  obtain ⟨hl, hv⟩ := h
  rw [tcells_len] at hl
  have hl : l.length = n := by omega
  rcases hv with ⟨rfl, h0⟩ | ⟨g, cap, cur, rfl, hg, hc, h1, h2, h3, h4⟩
  · have h0' : n = 0 := by simpa using h0
    subst h0'
    exact ⟨_, _, rfl, Nat.le_refl _, fun _ => rfl, ⟨hl, fun h => absurd h (by omega)⟩⟩
  · refine ⟨_, _, rfl, h1, (fun e => nomatch e), hl, fun _ => ⟨_, rfl, (Array.getElem?_eq_some_iff.1 hc).1, fun j hj => ?_⟩⟩
    have e : ∀ i, (⟨g, 0, none⟩ : Addr).add i = ⟨g, i, none⟩ := fun i => by unfold Addr.add; split <;> simp_all
    have h5 := tcells_at l j (by omega)
    rw [← h4, List.getElem?_take, if_pos (by omega), List.getElem?_take, if_pos (by omega), List.getElem?_take, if_pos (by omega)] at h5
    rw [e, cell_of_row w g _ cur _ (0, 0) hc, cell_of_row w g _ cur _ (0, 0) hc, cell_of_row w g _ cur _ (0, 0) hc]
    simpa using h5
/-- What an append asks of its source. -/
theorem Ts.source {w : World} {ad : Addr} {n : Nat} {l : List Tm} (h : Ts w (some ad) n l) : ∀ j u, (tcells l)[j]? = some u → w.cell? (ad.add j) = some u := by
  intro j u hu
  have hj := (List.getElem?_eq_some_iff.1 hu).1
  rw [tcells_len, h.1] at hj
  obtain ⟨ad', e, _, hc⟩ := h.2 (by omega)
  injection e with e
  subst e
  have hq : j / 3 < n := by omega
  obtain ⟨c0, c1, c2⟩ := hc (j / 3) hq
  obtain ⟨t0, t1, t2⟩ := tcells_at l (j / 3) (by rw [h.1]; exact hq)
  have hm : j % 3 = 0 ∨ j % 3 = 1 ∨ j % 3 = 2 := by omega
  have ea : ∀ o, 0 < o → (⟨(ad.add (j / 3 * 3)).block, (ad.add (j / 3 * 3)).off + o, none⟩ : Addr) = ad.add (j / 3 * 3 + o) := fun o ho => by
    rw [← add_more]
    unfold Addr.add
    rw [if_neg (show ¬ o = 0 by omega)]
  rw [ea 1 (by omega)] at c1
  rw [ea 2 (by omega)] at c2
  rcases hm with h0 | h0 | h0
  · rw [show j = j / 3 * 3 by omega] at hu ⊢
    rw [t0] at hu; rw [← hu]; exact c0
  · have e : j = j / 3 * 3 + 1 := by omega
    rw [e] at hu ⊢
    rw [t1] at hu; rw [← hu]; exact c1
  · have e : j = j / 3 * 3 + 2 := by omega
    rw [e] at hu ⊢
    rw [t2] at hu; rw [← hu]; exact c2
/-- AT THE OPERATION: times are appended to what is gathered. -/
theorem tm_append {w : World} {ops : Array Oper} {rest : List Oper} {o : Oper} {a : Act} {Q : Exit → Act → World → Prop} (hgd : o.guard = none) (s x : Operand) (t : TypeId)
    (ho : o.op = .call { callee := .builtin .append, args := #[s, x], argTypes := #[t, t] }) (ht : Try.prog.underlying t = some (.slice 41))
    (base : Nat) (v : Value) (n : Nat) (p : List Tm) (hs : a.eval s = v) (hown : w.ownsRow base 41 3 v n (tcells p))
    (A : Option Addr) (m c : Nat) (q : List Tm) (hx : a.eval x = .slice A m c) (hq : Ts w A m q) (hc : A = none → c = 0)
    (h63 : n + m ≤ 1000) (hbase : base ≤ w.heap.size)
    (h : ∀ v' w', w'.ownsRow base 41 3 v' (n + m) (tcells (p ++ q)) → w.grownBy w' v.ownBlock → wpList Try.prog ops Q rest (a.put o.dst v') w') :
    wpList Try.prog ops Q (o :: rest) a w := by
  obtain ⟨i, hi, hz0, hz1, hz2⟩ := info_parts infoTm
  cases A with
  | none =>
    obtain rfl := hc rfl
    have hm : m = 0 := by
      rcases Nat.eq_zero_or_pos m with e | e
      · exact e
      · obtain ⟨ad, e, _⟩ := hq.2 e
        cases e
    subst hm
    have hq0 : q = [] := List.eq_nil_of_length_eq_zero hq.1
    subst hq0
    refine wpList_append_own_none hgd s x t ho base _ i 3 ht hi v n _ hs hown hx (h _ _ ?_ (grown_refl _ _))
    rw [List.append_nil]
    exact hown
  | some ad =>
    refine wpList_append_own_at w hgd s x t ho base _ i _ 3 24 ht hi hz0 hz1 hz2 rfl (by omega) v n _ hs hown ad m c (tcells q) hx (by rw [tcells_len, hq.1]) hq.source (tcells_one q) (by unfold maxLen; omega) (by omega) hbase ?_
    intro v' w' ho' hg _ _
    exact h v' w' (by rw [tcells_app]; exact ho') hg
end Go.Proofs.Ytmjnlmcbcclbkaa

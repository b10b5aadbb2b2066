/- Plain lemmas on bytes that go round in a row of bytes: what copies leave in it, and what a ring in memory holds. No condition beyond those that each lemma names. -/
import Derived.Test.YtkmnlpohbemlgaaTxt
import Derived.Test.YtkmnlpohbemlgaaObj
import Derived.Test.YtkmnlpohbemlgaaOwn
import Derived.Laws.CopyRow
import Derived.Laws.IdiomCopy
namespace Go.Proofs.Ytkmnlpohbemlgaa
open Go.ChangeShapes Go.WideShapes Go.ChangeAt Go.RowKit

/-! ### lists -/
/-- l, in which from place o on the first c of ls are laid. -/
def lay (l : List Nat) (o c : Nat) (ls : List Nat) : List Nat := l.take o ++ ls.take c ++ l.drop (o + c)
theorem lay_len {l ls : List Nat} {o c : Nat} (h : o + c ≤ l.length) (hc : c ≤ ls.length) : (lay l o c ls).length = l.length := by
  unfold lay
  rw [List.length_append, List.length_append, List.length_take, List.length_take, List.length_drop]
  omega
theorem lay_at {l ls : List Nat} {o c : Nat} (h : o + c ≤ l.length) (hc : c ≤ ls.length) (j : Nat) :
    (lay l o c ls).getD j 0 = if j < o then l.getD j 0 else if j < o + c then ls.getD (j - o) 0 else l.getD j 0 := by
  have h1 : (l.take o).length = o := by rw [List.length_take]; omega
  have h2 : (ls.take c).length = c := by rw [List.length_take]; omega
  unfold lay
  rw [List.getD_eq_getElem?_getD, List.append_assoc]
  by_cases a : j < o
  · rw [if_pos a, List.getElem?_append_left (by omega), List.getElem?_take, if_pos a, List.getD_eq_getElem?_getD]
  · rw [if_neg a, List.getElem?_append_right (by omega), h1]
    by_cases b : j < o + c
    · rw [if_pos b, List.getElem?_append_left (by omega), List.getElem?_take, if_pos (by omega), List.getD_eq_getElem?_getD]
    · rw [if_neg b, List.getElem?_append_right (by omega), h2, List.getElem?_drop, List.getD_eq_getElem?_getD]
      congr 2
      omega
theorem lay_none (l ls : List Nat) (o : Nat) : lay l o 0 ls = l := by
  unfold lay
  rw [List.take_zero, List.append_nil, Nat.add_zero, List.take_append_drop]
theorem lay_lt {l ls : List Nat} {o c : Nat} (hl : ∀ j, l.getD j 0 < 256) (hs : ∀ j, ls.getD j 0 < 256) : ∀ j, (lay l o c ls).getD j 0 < 256 := by
  refine getD_lt fun x hx => ?_
  unfold lay at hx
  rcases List.mem_append.1 hx with hx | hx
  · rcases List.mem_append.1 hx with hx | hx
    · exact mem_lt hl x (List.mem_of_mem_take hx)
    · exact mem_lt hs x (List.mem_of_mem_take hx)
  · exact mem_lt hl x (List.mem_of_mem_drop hx)
theorem rg_bts_cut (s : ByteArray) (a b : Nat) : bts (s.extract a b) = ((bts s).take b).drop a := by
  unfold bts
  rw [ByteArray.data_extract, Array.toList_extract, List.extract_eq_take_drop, List.map_take, List.map_drop, ← List.drop_take]
theorem rg_bts_append (s t : ByteArray) : bts (s ++ t) = bts s ++ bts t := by
  unfold bts
  rw [ByteArray.data_append, Array.toList_append, List.map_append]
theorem rg_cut_size (s : ByteArray) (a b : Nat) : (s.extract a b).size = min b s.size - a := ByteArray.size_extract
theorem rg_cut_at (s : ByteArray) (k j : Nat) (h : j < k) : (bts (s.extract 0 k)).getD j 0 = (bts s).getD j 0 := by
  rw [rg_bts_cut, List.drop_zero, List.getD_eq_getElem?_getD, List.getElem?_take, if_pos h, List.getD_eq_getElem?_getD]
theorem rg_rest_at (s : ByteArray) (k j : Nat) : (bts (s.extract k s.size)).getD j 0 = (bts s).getD (k + j) 0 := by
  rw [rg_bts_cut, List.take_of_length_le (by rw [bts_len]; exact Nat.le_refl _), List.getD_eq_getElem?_getD, List.getElem?_drop, List.getD_eq_getElem?_getD]
theorem rg_append_at (s t : ByteArray) (j : Nat) : (bts (s ++ t)).getD j 0 = if j < s.size then (bts s).getD j 0 else (bts t).getD (j - s.size) 0 := by
  rw [rg_bts_append, List.getD_eq_getElem?_getD]
  by_cases h : j < s.size
  · rw [if_pos h, List.getElem?_append_left (by rw [bts_len]; exact h), List.getD_eq_getElem?_getD]
  · rw [if_neg h, List.getElem?_append_right (by rw [bts_len]; omega), bts_len, List.getD_eq_getElem?_getD]
theorem rg_append_size (s t : ByteArray) : (s ++ t).size = s.size + t.size := by
  rw [← bts_len, rg_bts_append, List.length_append, bts_len, bts_len]
theorem rg_ext {s t : ByteArray} {n : Nat} (hs : s.size = n) (ht : t.size = n) (h : ∀ j, j < n → (bts s).getD j 0 = (bts t).getD j 0) : s = t :=
  bts_inj (ext_at ((bts_len s).trans hs) ((bts_len t).trans ht) h)

/-- the place of byte j, of those that go round n places from place f on. -/
def pl (n f j : Nat) : Nat := if n ≤ f + j then f + j - n else f + j
/-- the bytes s go round in l. -/
def Rnd (n f : Nat) (l : List Nat) (s : ByteArray) : Prop := ∀ j, j < s.size → l.getD (pl n f j) 0 = (bts s).getD j 0
theorem pl_lt {n f j : Nat} (hf : f < n) (hj : j ≤ n) : pl n f j < n := by unfold pl; split <;> omega
/-- what comes in behind. -/
theorem Rnd.put {n f : Nat} {l : List Nat} {s t : ByteArray} (h : Rnd n f l s) (hl : l.length = n) (hf : f < n) (hm : s.size + t.size ≤ n) :
    Rnd n f (lay (lay l (pl n f s.size) (min t.size (n - pl n f s.size)) (bts t)) 0 (min (t.size - min t.size (n - pl n f s.size)) n) (bts (t.extract (min t.size (n - pl n f s.size)) t.size))) (s ++ t) := by
  have hp := pl_lt (j := s.size) hf (by omega)
  intro j hj
  rw [rg_append_size] at hj
  have hL1 : pl n f s.size + min t.size (n - pl n f s.size) ≤ l.length := by rw [hl]; omega
  have hT1 : min t.size (n - pl n f s.size) ≤ (bts t).length := by rw [bts_len]; omega
  have hL2 := lay_len hL1 hT1
  have hT2 : (bts (t.extract (min t.size (n - pl n f s.size)) t.size)).length = t.size - min t.size (n - pl n f s.size) := by rw [bts_len, rg_cut_size]; omega
  rw [lay_at (by rw [hL2, hl]; omega) (by rw [hT2]; omega), lay_at hL1 hT1, if_neg (Nat.not_lt_zero _), rg_append_at]
  by_cases a : j < s.size
  · rw [if_pos a, ← h j a]
    have e : pl n f j = if n ≤ f + j then f + j - n else f + j := rfl
    have e2 : pl n f s.size = if n ≤ f + s.size then f + s.size - n else f + s.size := rfl
    rw [if_neg (by rw [e, e2]; split <;> split <;> omega)]
    by_cases b : pl n f j < pl n f s.size
    · rw [if_pos b]
    · rw [if_neg b, if_neg (by rw [e, e2]; rw [e, e2] at b; revert b; split <;> split <;> omega)]
  · rw [if_neg a]
    have e : pl n f j = if n ≤ f + j then f + j - n else f + j := rfl
    have e2 : pl n f s.size = if n ≤ f + s.size then f + s.size - n else f + s.size := rfl
    by_cases b : pl n f j < pl n f s.size
    · rw [if_pos (by rw [e, e2]; rw [e, e2] at b; revert b; split <;> split <;> omega), rg_rest_at]
      congr 1
      rw [e, e2]; rw [e, e2] at b; revert b; split <;> split <;> omega
    · rw [if_neg (by rw [e, e2]; rw [e, e2] at b; revert b; split <;> split <;> omega), if_neg b, if_pos (by rw [e, e2]; rw [e, e2] at b; revert b; split <;> split <;> omega)]
      congr 1
      rw [e, e2]; rw [e, e2] at b; revert b; split <;> split <;> omega
/-- what is taken in front. -/
theorem Rnd.take {n f k : Nat} {l : List Nat} {s : ByteArray} (h : Rnd n f l s) (hf : f < n) (hm : s.size ≤ n) : Rnd n (pl n f k) l (s.extract k s.size) := by
  intro j hj
  rw [rg_cut_size] at hj
  rw [rg_rest_at, ← h (k + j) (by omega)]
  congr 1
  unfold pl
  split <;> split <;> split <;> omega
/-- what is looked at, in two copies. -/
theorem Rnd.peek {n f k : Nat} {l z : List Nat} {s : ByteArray} (h : Rnd n f l s) (hl : l.length = n) (hz : z.length = k) (hf : f ≤ n) (hm : s.size ≤ n) (hk : k ≤ s.size) :
    tx (lay (lay z 0 (min (n - f) k) (l.drop f)) (min (n - f) k) (min n (k - min (n - f) k)) l) = s.extract 0 k := by
  have hd : (l.drop f).length = n - f := by rw [List.length_drop, hl]
  have h1 : 0 + min (n - f) k ≤ z.length := by omega
  have h2 : min (n - f) k ≤ (l.drop f).length := by omega
  have h3 := lay_len h1 h2
  have h4 : min (n - f) k + min n (k - min (n - f) k) ≤ (lay z 0 (min (n - f) k) (l.drop f)).length := by omega
  have h5 : min n (k - min (n - f) k) ≤ l.length := by omega
  have h6 := lay_len h4 h5
  have hlt := bts_lt s
  have key : lay (lay z 0 (min (n - f) k) (l.drop f)) (min (n - f) k) (min n (k - min (n - f) k)) l = bts (s.extract 0 k) := by
    refine ext_at (n := k) (by omega) (by rw [bts_len, rg_cut_size]; omega) fun j hj => ?_
    rw [rg_cut_at _ _ _ hj, ← h j (by omega), lay_at h4 h5, lay_at h1 h2, if_neg (Nat.not_lt_zero _)]
    by_cases a : j < min (n - f) k
    · rw [if_pos a, if_pos (by omega), List.getD_eq_getElem?_getD, List.getElem?_drop, ← List.getD_eq_getElem?_getD]
      congr 1
      unfold pl
      rw [if_neg (by omega)]; rfl
    · rw [if_neg a, if_pos (by omega)]
      congr 1
      unfold pl
      rw [if_pos (by omega)]
      omega
  rw [key, tx_bts]

/-! ### what turns -/
/-- Of what was there nothing has turned but block b and block g. -/
structure Turns (w w' : World) (b : Nat) (g : Option Nat) : Prop where
  os : w'.os = w.os
  tape : w'.tape = w.tape
  output : w'.output = w.output
  size : w.heap.size ≤ w'.heap.size
  block : ∀ i, i < w.heap.size → i ≠ b → some i ≠ g → w'.heap[i]? = w.heap[i]?
/-- a block that is new, or the one there was. -/
def Grows (w : World) (g g' : Option Nat) : Prop := ∀ x, g' = some x → g = some x ∨ w.heap.size ≤ x
theorem Grows.refl (w : World) (g : Option Nat) : Grows w g g := fun _ h => Or.inl h
theorem Grows.none (w : World) (g : Option Nat) : Grows w g none := fun _ h => by cases h
theorem Grows.trans {w w1 : World} {g g1 g2 : Option Nat} (h : Grows w g g1) (hs : w.heap.size ≤ w1.heap.size) (k : Grows w1 g1 g2) : Grows w g g2 := fun x hx => by
  rcases k x hx with q | q
  · exact h x q
  · exact Or.inr (Nat.le_trans hs q)
theorem Turns.refl (w : World) (b : Nat) (g : Option Nat) : Turns w w b g := ⟨rfl, rfl, rfl, Nat.le_refl _, fun _ _ _ _ => rfl⟩
theorem Turns.trans {w w1 w2 : World} {b : Nat} {g g1 : Option Nat} (h : Turns w w1 b g) (hg : Grows w g g1) (k : Turns w1 w2 b g1) : Turns w w2 b g :=
  ⟨k.os.trans h.os, k.tape.trans h.tape, k.output.trans h.output, Nat.le_trans h.size k.size, fun i hi hb hn => (k.block i (Nat.lt_of_lt_of_le hi h.size) hb (fun e => by
    rcases hg i e.symm with q | q
    · exact hn q.symm
    · omega)).trans (h.block i hi hb hn)⟩
theorem turns_below {w w' : World} (h : Below w.heap.size w w') (b : Nat) (g : Option Nat) : Turns w w' b g := ⟨h.os, h.tape, h.output, h.size, fun i hi _ _ => h.block i hi⟩
theorem turns_grown {w w' : World} {g : Option Nat} (h : w.grownBy w' g) (b : Nat) : Turns w w' b g := ⟨h.os, h.tape, h.output, h.size, fun i hi _ hn => h.block i hi hn⟩
theorem turns_set (w : World) (b j : Nat) (v : Value) (g : Option Nat) : Turns w (w.setCell ⟨b, j, none⟩ v) b g := ⟨rfl, rfl, rfl, by simp [World.setCell], fun i _ hb _ => Below.heap_setCell w ⟨b, j, none⟩ v i hb⟩
theorem turns_drawn {w w' : World} (h : ∃ q, w' = w.drewN q) (b : Nat) (g : Option Nat) : Turns w w' b g := turns_below (two_drawn h) b g
theorem Turns.below {w w' : World} {B b : Nat} {g : Option Nat} (h : Turns w w' b g) (hB : B ≤ w.heap.size) (hb : B ≤ b) (hg : ∀ x, g = some x → B ≤ x) : Below B w w' :=
  ⟨h.os, h.tape, h.output, h.size, fun i hi => h.block i (by omega) (by omega) (fun e => by have := hg i e.symm; omega)⟩
theorem At.turns {w w' : World} {x b : Nat} {g : Option Nat} {t : TypeId} {xs : List Value} (h : At w x t xs) (k : Turns w w' b g) (hb : x ≠ b) (hg : g ≠ some x) : At w' x t xs :=
  At.block h (k.block x h.lt hb (fun e => hg e.symm))

/-! ### copies -/
theorem Own.below2 {w w' : World} {B x n : Nat} {l : List Nat} (h : Own w x n l) (k : Below B w w') (hx : x < B) : Own w' x n l := by
  obtain ⟨h1, h2, cur, hc, hr⟩ := h
  exact ⟨h1, h2, cur, (k.block x hx).trans hc, hr⟩
theorem Own.far2 {w : World} {x n : Nat} {l : List Nat} (h : Own w x n l) {p : Addr} (hp : x ≠ p.block) (v : Value) : Own (w.setCell p v) x n l := by
  obtain ⟨h1, h2, cur, hc, hr⟩ := h
  exact ⟨h1, h2, cur, (Below.heap_setCell w p v x hp).trans hc, hr⟩
theorem Own.kept2 {w w' : World} {x n : Nat} {l : List Nat} {row : Option Nat} (h : Own w x n l) (hg : w.grownBy w' row) (hr : row ≠ some x) : Own w' x n l := by
  have hlt := h.block_lt
  obtain ⟨h1, h2, cur, hc, h3⟩ := h
  exact ⟨h1, h2, cur, (hg.block x hlt (fun e => hr e.symm)).trans hc, h3⟩
theorem Bs.kept2 {w w' : World} {A : Option Addr} {n : Nat} {l : List Nat} {row : Option Nat} (h : Bs w A n l) (hg : w.grownBy w' row) (hr : ∀ ad, A = some ad → row ≠ some ad.block) : Bs w' A n l := by
  refine ⟨h.1, h.2.1, fun hn => ?_⟩
  obtain ⟨ad, e, hlt, hc⟩ := h.2.2 hn
  refine ⟨ad, e, Nat.lt_of_lt_of_le hlt hg.size, fun j hj => ?_⟩
  refine (World.cell?_of_block (w := w) (a := ad.add j) ?_).trans (hc j hj)
  rw [add_block]
  exact hg.block ad.block hlt (fun q => hr ad e q.symm)
theorem infoByte_size : (Try.prog.info? 5).map (·.size) = some 1 := by kernel_rfl
/-- cells stored into a row of the call's own. -/
theorem own_row {w : World} {x n o : Nat} {l ls : List Nat} {cur : Array Value} (hl : l.length = n) (hb : ∀ j, l.getD j 0 < 256) (hc : w.heap[x]? = some (.cells cur 5 (0, 0)))
    (hr : ∀ j, j < n → cur[j]? = some (.int .u8 (l.getD j 0 : Nat))) (c : Nat) (ho : o + c ≤ n) (hcl : c ≤ ls.length) (hs : ∀ j, ls.getD j 0 < 256) :
    Own (w.setRow x (cur.toList.take o ++ cells (ls.take c) ++ cur.toList.drop (o + c)).toArray) x n (lay l o c ls) ∧ w.grownBy (w.setRow x (cur.toList.take o ++ cells (ls.take c) ++ cur.toList.drop (o + c)).toArray) (some x) := by
  refine ⟨⟨by rw [lay_len (by omega) hcl, hl], lay_lt hb hs, _, setRow_heap w x cur _ _ _ hc, fun j hj => ?_⟩, rfl, rfl, rfl, by simp, fun k _ hk => setRow_other w x k _ (fun e => hk (by rw [e]))⟩
  have hsz : ∀ i, i < n → i < cur.size := fun i hi => (Array.getElem?_eq_some_iff.1 (hr i hi)).1
  have hn : o ≤ cur.size := by
    rcases Nat.eq_zero_or_pos o with h | h
    · omega
    · have := hsz (o - 1) (by omega); omega
  have h1 : (cur.toList.take o).length = o := by rw [List.length_take, Array.length_toList]; omega
  have h2 : (cells (ls.take c)).length = c := by rw [cells_len, List.length_take]; omega
  rw [lay_at (by omega) hcl, List.getElem?_toArray, List.append_assoc]
  by_cases a : j < o
  · rw [if_pos a, List.getElem?_append_left (by omega), List.getElem?_take, if_pos a, Array.getElem?_toList]
    exact hr j hj
  · rw [if_neg a, List.getElem?_append_right (by omega), h1]
    by_cases b : j < o + c
    · rw [if_pos b, List.getElem?_append_left (by omega), cells_at _ _ (by rw [List.length_take]; omega), List.getD_eq_getElem?_getD, List.getElem?_take, if_pos (by omega), ← List.getD_eq_getElem?_getD]
    · rw [if_neg b, List.getElem?_append_right (by omega), h2, List.getElem?_drop, Array.getElem?_toList, show o + c + (j - o - c) = j by omega]
      exact hr j hj
theorem cells_take (l : List Nat) (c : Nat) : (cells l).take c = cells (l.take c) := by unfold cells; rw [List.map_take]
/-- a copy of bytes into a row of the call's own, from place o on. -/
theorem copy_rows (W : World) (x n o d dc : Nat) (A : Option Addr) (l : List Nat) (hown : Own W x n l) (hA : 0 < d → A = some ⟨x, o, none⟩) (hd : o + d ≤ n) (A' : Option Addr) (m cp : Nat) (ls : List Nat) (hs : Bs W A' m ls) :
    ∃ W2, (∀ ty, (Builtin.copy_ #[48, 48] ty #[.slice A d dc, .slice A' m cp]).run Try.prog W = .ok (.int .i64 ((min m d : Nat) : Int)) W2) ∧ Own W2 x n (lay l o (min m d) ls) ∧ W.grownBy W2 (some x) := by
  by_cases h0 : min m d = 0
  · rw [h0, lay_none]
    exact ⟨W, fun ty => run_copy_none (P := Try.prog) W _ _ ty 5 A A' d dc m cp Try.underlying48 infoByte_size h0, hown, grown_refl _ _⟩
  · have hA' := hA (by omega)
    subst hA'
    obtain ⟨ad, rfl, _⟩ := hs.at_ (k := 0) (by omega)
    obtain ⟨hl, hb, cur, hc, hr⟩ := hown
    have hll := hs.len
    have hcl : (cells (ls.take (min m d))).length = min m d := by rw [cells_len, List.length_take]; omega
    obtain ⟨ho, hg⟩ := own_row hl hb hc hr (o := o) (min m d) (by omega) (by omega) hs.lt
    have hcs : o + d ≤ cur.size := by
      have := (Array.getElem?_eq_some_iff.1 (hr (o + d - 1) (by omega))).1
      omega
    refine ⟨_, fun ty => ?_, ho, hg⟩
    have := run_copy_row Try.prog W 48 48 ty 5 x o d dc ad m cp cur 5 (cells (ls.take (min m d))) Try.underlying48 infoByte_size hc hcl
      (fun j v hv => by
        have hj : j < (cells (ls.take (min m d))).length := (List.getElem?_eq_some_iff.1 hv).1
        rw [← cells_take, List.getElem?_take, if_pos (by omega)] at hv
        exact hs.source j v hv) (by rw [hcl]; omega) (cells_one _)
    rw [hcl] at this
    exact this
/-- a copy of a text likewise. -/
theorem copy_text (W : World) (x n o d dc : Nat) (A : Option Addr) (l : List Nat) (hown : Own W x n l) (hA : 0 < d → A = some ⟨x, o, none⟩) (hd : o + d ≤ n) (s : ByteArray) :
    ∃ W2, (∀ ty, (Builtin.copy_ #[48, 9] ty #[.slice A d dc, .string s]).run Try.prog W = .ok (.int .i64 ((min s.size d : Nat) : Int)) W2) ∧ Own W2 x n (lay l o (min s.size d) (bts s)) ∧ W.grownBy W2 (some x) := by
  obtain ⟨i, hi, hz0, hz1, hz2⟩ := info_parts Try.infoByte
  have he : List.take (s.size.min d) (List.map (fun b : UInt8 => Value.int IntKind.u8 (b.toNat : Int)) s.data.toList) = cells ((bts s).take (min s.size d)) := by
    unfold cells bts
    rw [List.map_take, List.map_map]; rfl
  by_cases h0 : min s.size d = 0
  · rw [h0, lay_none]
    refine ⟨W, fun ty => ?_, hown, grown_refl _ _⟩
    rw [h0] at he
    have h0' : s.size.min d = 0 := h0
    cases A <;> simp [Builtin.copy_, run_underlying Try.underlying48, Builtin.lenOf, Builtin.firstCells, sizeOf, typeInfo, hi, h0', storeCells] <;> rfl
  · have hA' := hA (by omega)
    subst hA'
    obtain ⟨hl, hb, cur, hc, hr⟩ := hown
    have hcl : (cells ((bts s).take (min s.size d))).length = min s.size d := by rw [cells_len, List.length_take, bts_len]; omega
    obtain ⟨ho, hg⟩ := own_row hl hb hc hr (o := o) (min s.size d) (by omega) (by rw [bts_len]; omega) (bts_lt s)
    have hcs : o + d ≤ cur.size := by
      have := (Array.getElem?_eq_some_iff.1 (hr (o + d - 1) (by omega))).1
      omega
    refine ⟨_, fun ty => ?_, ho, hg⟩
    have hst := run_storeCells_at Try.prog x o 5 (cells ((bts s).take (min s.size d))) 0 cur W hc (by rw [hcl]; omega) (cells_one _)
    rw [hcl, Nat.add_zero, List.append_assoc] at hst
    simp [Builtin.copy_, run_underlying Try.underlying48, Builtin.lenOf, Builtin.firstCells, sizeOf, typeInfo, hi]
    rw [he, hst]
    rfl
theorem copy_text_none (W : World) (A : Option Addr) (dc : Nat) (s : ByteArray) : ∀ ty, (Builtin.copy_ #[48, 9] ty #[.slice A 0 dc, .string s]).run Try.prog W = .ok (.int .i64 0) W := fun ty => by
  obtain ⟨i, hi, hz0, hz1, hz2⟩ := info_parts Try.infoByte
  cases A <;> simp [Builtin.copy_, run_underlying Try.underlying48, Builtin.lenOf, Builtin.firstCells, sizeOf, typeInfo, hi, storeCells] <;> rfl
end Go.Proofs.Ytkmnlpohbemlgaa

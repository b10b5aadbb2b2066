/- Proved: lemmas of one statement's proof, merged by program: what each part proves stands ahead of it. Conditions: those that the lemmas name. -/
import Derived.Test.YtedecminaopgaaaM1
import Derived.Test.YtedecminaopgaaaM2
import Derived.Laws.CopyRow
import Derived.Laws.IdiomCopy
import Derived.Deep.QuietTactic
import Derived.BigQuiet
import Derived.WalkSpells
import Derived.Lib.MinMax

/- Plain lemmas on bytes that go round in a row of bytes: what copies leave in it, and what a ring in memory holds. No condition beyond those that each lemma names. -/
namespace Go.Proofs.Ytedecminaopgaaa
open Go.ChangeShapes Go.WideShapes Go.ChangeAt Go.RowKit

/-! ### lists -/
/-- l, in which from place o on the first c of ls are laid. -/
def lay (l : List Nat) (o c : Nat) (ls : List Nat) : List Nat := l.take o ++ ls.take c ++ l.drop (o + c)
theorem lay_len {l ls : List Nat} {o c : Nat} (h : o + c ≤ l.length) (hc : c ≤ ls.length) : (lay l o c ls).length = l.length := by
  unfold lay
  rw [List.length_append, List.length_append, List.length_take, List.length_take, List.length_drop]
  omega
theorem lay_at {l ls : List Nat} {o c : Nat} (h : o + c ≤ l.length) (hc : c ≤ ls.length) (j : Nat) :
    (lay l o c ls).getD j 0 = if j < o then l.getD j 0 else if j < o + c then ls.getD (j - o) 0 else l.getD j 0 := by
  have h1 : (l.take o).length = o := by rw [List.length_take]; omega
  have h2 : (ls.take c).length = c := by rw [List.length_take]; omega
  unfold lay
  rw [List.getD_eq_getElem?_getD, List.append_assoc]
  by_cases a : j < o
  · rw [if_pos a, List.getElem?_append_left (by omega), List.getElem?_take, if_pos a, List.getD_eq_getElem?_getD]
  · rw [if_neg a, List.getElem?_append_right (by omega), h1]
    by_cases b : j < o + c
    · rw [if_pos b, List.getElem?_append_left (by omega), List.getElem?_take, if_pos (by omega), List.getD_eq_getElem?_getD]
    · rw [if_neg b, List.getElem?_append_right (by omega), h2, List.getElem?_drop, List.getD_eq_getElem?_getD]
      congr 2
      omega
theorem lay_none (l ls : List Nat) (o : Nat) : lay l o 0 ls = l := by
  unfold lay
  rw [List.take_zero, List.append_nil, Nat.add_zero, List.take_append_drop]
theorem lay_lt {l ls : List Nat} {o c : Nat} (hl : ∀ j, l.getD j 0 < 256) (hs : ∀ j, ls.getD j 0 < 256) : ∀ j, (lay l o c ls).getD j 0 < 256 := by
  refine getD_lt fun x hx => ?_
  unfold lay at hx
  rcases List.mem_append.1 hx with hx | hx
  · rcases List.mem_append.1 hx with hx | hx
    · exact mem_lt hl x (List.mem_of_mem_take hx)
    · exact mem_lt hs x (List.mem_of_mem_take hx)
  · exact mem_lt hl x (List.mem_of_mem_drop hx)
theorem rg_bts_cut (s : ByteArray) (a b : Nat) : bts (s.extract a b) = ((bts s).take b).drop a := by
  unfold bts
  rw [ByteArray.data_extract, Array.toList_extract, List.extract_eq_take_drop, List.map_take, List.map_drop, ← List.drop_take]
theorem rg_bts_append (s t : ByteArray) : bts (s ++ t) = bts s ++ bts t := by
  unfold bts
  rw [ByteArray.data_append, Array.toList_append, List.map_append]
theorem rg_cut_size (s : ByteArray) (a b : Nat) : (s.extract a b).size = min b s.size - a := ByteArray.size_extract
theorem rg_cut_at (s : ByteArray) (k j : Nat) (h : j < k) : (bts (s.extract 0 k)).getD j 0 = (bts s).getD j 0 := by
  rw [rg_bts_cut, List.drop_zero, List.getD_eq_getElem?_getD, List.getElem?_take, if_pos h, List.getD_eq_getElem?_getD]
theorem rg_rest_at (s : ByteArray) (k j : Nat) : (bts (s.extract k s.size)).getD j 0 = (bts s).getD (k + j) 0 := by
  rw [rg_bts_cut, List.take_of_length_le (by rw [bts_len]; exact Nat.le_refl _), List.getD_eq_getElem?_getD, List.getElem?_drop, List.getD_eq_getElem?_getD]
theorem rg_append_at (s t : ByteArray) (j : Nat) : (bts (s ++ t)).getD j 0 = if j < s.size then (bts s).getD j 0 else (bts t).getD (j - s.size) 0 := by
  rw [rg_bts_append, List.getD_eq_getElem?_getD]
  by_cases h : j < s.size
  · rw [if_pos h, List.getElem?_append_left (by rw [bts_len]; exact h), List.getD_eq_getElem?_getD]
  · rw [if_neg h, List.getElem?_append_right (by rw [bts_len]; omega), bts_len, List.getD_eq_getElem?_getD]
theorem rg_append_size (s t : ByteArray) : (s ++ t).size = s.size + t.size := by
  rw [← bts_len, rg_bts_append, List.length_append, bts_len, bts_len]
theorem rg_ext {s t : ByteArray} {n : Nat} (hs : s.size = n) (ht : t.size = n) (h : ∀ j, j < n → (bts s).getD j 0 = (bts t).getD j 0) : s = t :=
  bts_inj (ext_at ((bts_len s).trans hs) ((bts_len t).trans ht) h)

/-- the place of byte j, of those that go round n places from place f on. -/
def pl (n f j : Nat) : Nat := if n ≤ f + j then f + j - n else f + j
/-- the bytes s go round in l. -/
def Rnd (n f : Nat) (l : List Nat) (s : ByteArray) : Prop := ∀ j, j < s.size → l.getD (pl n f j) 0 = (bts s).getD j 0
theorem pl_lt {n f j : Nat} (hf : f < n) (hj : j ≤ n) : pl n f j < n := by unfold pl; split <;> omega
/-- what comes in behind. -/
theorem Rnd.put {n f : Nat} {l : List Nat} {s t : ByteArray} (h : Rnd n f l s) (hl : l.length = n) (hf : f < n) (hm : s.size + t.size ≤ n) :
    Rnd n f (lay (lay l (pl n f s.size) (min t.size (n - pl n f s.size)) (bts t)) 0 (min (t.size - min t.size (n - pl n f s.size)) n) (bts (t.extract (min t.size (n - pl n f s.size)) t.size))) (s ++ t) := by
  have hp := pl_lt (j := s.size) hf (by omega)
  intro j hj
  rw [rg_append_size] at hj
  have hL1 : pl n f s.size + min t.size (n - pl n f s.size) ≤ l.length := by rw [hl]; omega
  have hT1 : min t.size (n - pl n f s.size) ≤ (bts t).length := by rw [bts_len]; omega
  have hL2 := lay_len hL1 hT1
  have hT2 : (bts (t.extract (min t.size (n - pl n f s.size)) t.size)).length = t.size - min t.size (n - pl n f s.size) := by rw [bts_len, rg_cut_size]; omega
  rw [lay_at (by rw [hL2, hl]; omega) (by rw [hT2]; omega), lay_at hL1 hT1, if_neg (Nat.not_lt_zero _), rg_append_at]
  by_cases a : j < s.size
  · rw [if_pos a, ← h j a]
    have e : pl n f j = if n ≤ f + j then f + j - n else f + j := rfl
    have e2 : pl n f s.size = if n ≤ f + s.size then f + s.size - n else f + s.size := rfl
    rw [if_neg (by rw [e, e2]; split <;> split <;> omega)]
    by_cases b : pl n f j < pl n f s.size
    · rw [if_pos b]
    · rw [if_neg b, if_neg (by rw [e, e2]; rw [e, e2] at b; revert b; split <;> split <;> omega)]
  · rw [if_neg a]
    have e : pl n f j = if n ≤ f + j then f + j - n else f + j := rfl
    have e2 : pl n f s.size = if n ≤ f + s.size then f + s.size - n else f + s.size := rfl
    by_cases b : pl n f j < pl n f s.size
    · rw [if_pos (by rw [e, e2]; rw [e, e2] at b; revert b; split <;> split <;> omega), rg_rest_at]
      congr 1
      rw [e, e2]; rw [e, e2] at b; revert b; split <;> split <;> omega
    · rw [if_neg (by rw [e, e2]; rw [e, e2] at b; revert b; split <;> split <;> omega), if_neg b, if_pos (by rw [e, e2]; rw [e, e2] at b; revert b; split <;> split <;> omega)]
      congr 1
      rw [e, e2]; rw [e, e2] at b; revert b; split <;> split <;> omega
/-- what is taken in front. -/
theorem Rnd.take {n f k : Nat} {l : List Nat} {s : ByteArray} (h : Rnd n f l s) (hf : f < n) (hm : s.size ≤ n) : Rnd n (pl n f k) l (s.extract k s.size) := by
  intro j hj
  rw [rg_cut_size] at hj
  rw [rg_rest_at, ← h (k + j) (by omega)]
  congr 1
  unfold pl
  split <;> split <;> split <;> omega
/-- what is looked at, in two copies. -/
theorem Rnd.peek {n f k : Nat} {l z : List Nat} {s : ByteArray} (h : Rnd n f l s) (hl : l.length = n) (hz : z.length = k) (hf : f ≤ n) (hm : s.size ≤ n) (hk : k ≤ s.size) :
    tx (lay (lay z 0 (min (n - f) k) (l.drop f)) (min (n - f) k) (min n (k - min (n - f) k)) l) = s.extract 0 k := by
  have hd : (l.drop f).length = n - f := by rw [List.length_drop, hl]
  have h1 : 0 + min (n - f) k ≤ z.length := by omega
  have h2 : min (n - f) k ≤ (l.drop f).length := by omega
  have h3 := lay_len h1 h2
  have h4 : min (n - f) k + min n (k - min (n - f) k) ≤ (lay z 0 (min (n - f) k) (l.drop f)).length := by omega
  have h5 : min n (k - min (n - f) k) ≤ l.length := by omega
  have h6 := lay_len h4 h5
  have hlt := bts_lt s
  have key : lay (lay z 0 (min (n - f) k) (l.drop f)) (min (n - f) k) (min n (k - min (n - f) k)) l = bts (s.extract 0 k) := by
    refine ext_at (n := k) (by omega) (by rw [bts_len, rg_cut_size]; omega) fun j hj => ?_
    rw [rg_cut_at _ _ _ hj, ← h j (by omega), lay_at h4 h5, lay_at h1 h2, if_neg (Nat.not_lt_zero _)]
    by_cases a : j < min (n - f) k
    · rw [if_pos a, if_pos (by omega), List.getD_eq_getElem?_getD, List.getElem?_drop, ← List.getD_eq_getElem?_getD]
      congr 1
      unfold pl
      rw [if_neg (by omega)]; rfl
    · rw [if_neg a, if_pos (by omega)]
      congr 1
      unfold pl
      rw [if_pos (by omega)]
      omega
  rw [key, tx_bts]

/-! ### what turns -/
/-- Of what was there nothing has turned but block b and block g. -/
structure Turns (w w' : World) (b : Nat) (g : Option Nat) : Prop where
  os : w'.os = w.os
  tape : w'.tape = w.tape
  output : w'.output = w.output
  size : w.heap.size ≤ w'.heap.size
  block : ∀ i, i < w.heap.size → i ≠ b → some i ≠ g → w'.heap[i]? = w.heap[i]?
/-- a block that is new, or the one there was. -/
def Grows (w : World) (g g' : Option Nat) : Prop := ∀ x, g' = some x → g = some x ∨ w.heap.size ≤ x
theorem Grows.refl (w : World) (g : Option Nat) : Grows w g g := fun _ h => Or.inl h
theorem Grows.trans {w w1 : World} {g g1 g2 : Option Nat} (h : Grows w g g1) (hs : w.heap.size ≤ w1.heap.size) (k : Grows w1 g1 g2) : Grows w g g2 := fun x hx => by
  rcases k x hx with q | q
  · exact h x q
  · exact Or.inr (Nat.le_trans hs q)
theorem Turns.refl (w : World) (b : Nat) (g : Option Nat) : Turns w w b g := ⟨rfl, rfl, rfl, Nat.le_refl _, fun _ _ _ _ => rfl⟩
theorem Turns.trans {w w1 w2 : World} {b : Nat} {g g1 : Option Nat} (h : Turns w w1 b g) (hg : Grows w g g1) (k : Turns w1 w2 b g1) : Turns w w2 b g :=
  ⟨k.os.trans h.os, k.tape.trans h.tape, k.output.trans h.output, Nat.le_trans h.size k.size, fun i hi hb hn => (k.block i (Nat.lt_of_lt_of_le hi h.size) hb (fun e => by
    rcases hg i e.symm with q | q
    · exact hn q.symm
    · omega)).trans (h.block i hi hb hn)⟩
theorem turns_below {w w' : World} (h : Below w.heap.size w w') (b : Nat) (g : Option Nat) : Turns w w' b g := ⟨h.os, h.tape, h.output, h.size, fun i hi _ _ => h.block i hi⟩
theorem turns_grown {w w' : World} {g : Option Nat} (h : w.grownBy w' g) (b : Nat) : Turns w w' b g := ⟨h.os, h.tape, h.output, h.size, fun i hi _ hn => h.block i hi hn⟩
theorem turns_set (w : World) (b j : Nat) (v : Value) (g : Option Nat) : Turns w (w.setCell ⟨b, j, none⟩ v) b g := ⟨rfl, rfl, rfl, by simp [World.setCell], fun i _ hb _ => Below.heap_setCell w ⟨b, j, none⟩ v i hb⟩
theorem turns_drawn {w w' : World} (h : ∃ q, w' = w.drewN q) (b : Nat) (g : Option Nat) : Turns w w' b g := turns_below (two_drawn h) b g
/-! ### copies -/
theorem Own.below2 {w w' : World} {B x n : Nat} {l : List Nat} (h : Own w x n l) (k : Below B w w') (hx : x < B) : Own w' x n l := by
  obtain ⟨h1, h2, cur, hc, hr⟩ := h
  exact ⟨h1, h2, cur, (k.block x hx).trans hc, hr⟩
theorem Own.far2 {w : World} {x n : Nat} {l : List Nat} (h : Own w x n l) {p : Addr} (hp : x ≠ p.block) (v : Value) : Own (w.setCell p v) x n l := by
  obtain ⟨h1, h2, cur, hc, hr⟩ := h
  exact ⟨h1, h2, cur, (Below.heap_setCell w p v x hp).trans hc, hr⟩
theorem infoByte_size : (Try.prog.info? 5).map (·.size) = some 1 := by kernel_rfl
/-- cells stored into a row of the call's own. -/
theorem own_row {w : World} {x n o : Nat} {l ls : List Nat} {cur : Array Value} (hl : l.length = n) (hb : ∀ j, l.getD j 0 < 256) (hc : w.heap[x]? = some (.cells cur 5 (0, 0)))
    (hr : ∀ j, j < n → cur[j]? = some (.int .u8 (l.getD j 0 : Nat))) (c : Nat) (ho : o + c ≤ n) (hcl : c ≤ ls.length) (hs : ∀ j, ls.getD j 0 < 256) :
    Own (w.setRow x (cur.toList.take o ++ cells (ls.take c) ++ cur.toList.drop (o + c)).toArray) x n (lay l o c ls) ∧ w.grownBy (w.setRow x (cur.toList.take o ++ cells (ls.take c) ++ cur.toList.drop (o + c)).toArray) (some x) := by
  refine ⟨⟨by rw [lay_len (by omega) hcl, hl], lay_lt hb hs, _, setRow_heap w x cur _ _ _ hc, fun j hj => ?_⟩, rfl, rfl, rfl, by simp, fun k _ hk => setRow_other w x k _ (fun e => hk (by rw [e]))⟩
  have hsz : ∀ i, i < n → i < cur.size := fun i hi => (Array.getElem?_eq_some_iff.1 (hr i hi)).1
  have hn : o ≤ cur.size := by
    rcases Nat.eq_zero_or_pos o with h | h
    · omega
    · have := hsz (o - 1) (by omega); omega
  have h1 : (cur.toList.take o).length = o := by rw [List.length_take, Array.length_toList]; omega
  have h2 : (cells (ls.take c)).length = c := by rw [cells_len, List.length_take]; omega
  rw [lay_at (by omega) hcl, List.getElem?_toArray, List.append_assoc]
  by_cases a : j < o
  · rw [if_pos a, List.getElem?_append_left (by omega), List.getElem?_take, if_pos a, Array.getElem?_toList]
    exact hr j hj
  · rw [if_neg a, List.getElem?_append_right (by omega), h1]
    by_cases b : j < o + c
    · rw [if_pos b, List.getElem?_append_left (by omega), cells_at _ _ (by rw [List.length_take]; omega), List.getD_eq_getElem?_getD, List.getElem?_take, if_pos (by omega), ← List.getD_eq_getElem?_getD]
    · rw [if_neg b, List.getElem?_append_right (by omega), h2, List.getElem?_drop, Array.getElem?_toList, show o + c + (j - o - c) = j by omega]
      exact hr j hj
theorem cells_take (l : List Nat) (c : Nat) : (cells l).take c = cells (l.take c) := by unfold cells; rw [List.map_take]
/-- a copy of bytes into a row of the call's own, from place o on. -/
theorem copy_rows (W : World) (x n o d dc : Nat) (A : Option Addr) (l : List Nat) (hown : Own W x n l) (hA : 0 < d → A = some ⟨x, o, none⟩) (hd : o + d ≤ n) (A' : Option Addr) (m cp : Nat) (ls : List Nat) (hs : Bs W A' m ls) :
    ∃ W2, (∀ ty, (Builtin.copy_ #[94, 94] ty #[.slice A d dc, .slice A' m cp]).run Try.prog W = .ok (.int .i64 ((min m d : Nat) : Int)) W2) ∧ Own W2 x n (lay l o (min m d) ls) ∧ W.grownBy W2 (some x) := by
  by_cases h0 : min m d = 0
  · rw [h0, lay_none]
    exact ⟨W, fun ty => run_copy_none (P := Try.prog) W _ _ ty 5 A A' d dc m cp Try.underlying94 infoByte_size h0, hown, grown_refl _ _⟩
  · have hA' := hA (by omega)
    subst hA'
    obtain ⟨ad, rfl, _⟩ := hs.at_ (k := 0) (by omega)
    obtain ⟨hl, hb, cur, hc, hr⟩ := hown
    have hll := hs.len
    have hcl : (cells (ls.take (min m d))).length = min m d := by rw [cells_len, List.length_take]; omega
    obtain ⟨ho, hg⟩ := own_row hl hb hc hr (o := o) (min m d) (by omega) (by omega) hs.lt
    have hcs : o + d ≤ cur.size := by
      have := (Array.getElem?_eq_some_iff.1 (hr (o + d - 1) (by omega))).1
      omega
    refine ⟨_, fun ty => ?_, ho, hg⟩
    have := run_copy_row Try.prog W 94 94 ty 5 x o d dc ad m cp cur 5 (cells (ls.take (min m d))) Try.underlying94 infoByte_size hc hcl
      (fun j v hv => by
        have hj : j < (cells (ls.take (min m d))).length := (List.getElem?_eq_some_iff.1 hv).1
        rw [← cells_take, List.getElem?_take, if_pos (by omega)] at hv
        exact hs.source j v hv) (by rw [hcl]; omega) (cells_one _)
    rw [hcl] at this
    exact this
/-- a copy of a text likewise. -/
theorem copy_text (W : World) (x n o d dc : Nat) (A : Option Addr) (l : List Nat) (hown : Own W x n l) (hA : 0 < d → A = some ⟨x, o, none⟩) (hd : o + d ≤ n) (s : ByteArray) :
    ∃ W2, (∀ ty, (Builtin.copy_ #[94, 9] ty #[.slice A d dc, .string s]).run Try.prog W = .ok (.int .i64 ((min s.size d : Nat) : Int)) W2) ∧ Own W2 x n (lay l o (min s.size d) (bts s)) ∧ W.grownBy W2 (some x) := by
  obtain ⟨i, hi, hz0, hz1, hz2⟩ := info_parts Try.infoByte
  have he : List.take (s.size.min d) (List.map (fun b : UInt8 => Value.int IntKind.u8 (b.toNat : Int)) s.data.toList) = cells ((bts s).take (min s.size d)) := by
    unfold cells bts
    rw [List.map_take, List.map_map]; rfl
  by_cases h0 : min s.size d = 0
  · rw [h0, lay_none]
    refine ⟨W, fun ty => ?_, hown, grown_refl _ _⟩
    rw [h0] at he
    have h0' : s.size.min d = 0 := h0
    cases A <;> simp [Builtin.copy_, run_underlying Try.underlying94, Builtin.lenOf, Builtin.firstCells, sizeOf, typeInfo, hi, h0', storeCells] <;> rfl
  · have hA' := hA (by omega)
    subst hA'
    obtain ⟨hl, hb, cur, hc, hr⟩ := hown
    have hcl : (cells ((bts s).take (min s.size d))).length = min s.size d := by rw [cells_len, List.length_take, bts_len]; omega
    obtain ⟨ho, hg⟩ := own_row hl hb hc hr (o := o) (min s.size d) (by omega) (by rw [bts_len]; omega) (bts_lt s)
    have hcs : o + d ≤ cur.size := by
      have := (Array.getElem?_eq_some_iff.1 (hr (o + d - 1) (by omega))).1
      omega
    refine ⟨_, fun ty => ?_, ho, hg⟩
    have hst := run_storeCells_at Try.prog x o 5 (cells ((bts s).take (min s.size d))) 0 cur W hc (by rw [hcl]; omega) (cells_one _)
    rw [hcl, Nat.add_zero, List.append_assoc] at hst
    simp [Builtin.copy_, run_underlying Try.underlying94, Builtin.lenOf, Builtin.firstCells, sizeOf, typeInfo, hi]
    rw [he, hst]
    rfl
theorem copy_text_none (W : World) (A : Option Addr) (dc : Nat) (s : ByteArray) : ∀ ty, (Builtin.copy_ #[94, 9] ty #[.slice A 0 dc, .string s]).run Try.prog W = .ok (.int .i64 0) W := fun ty => by
  obtain ⟨i, hi, hz0, hz1, hz2⟩ := info_parts Try.infoByte
  cases A <;> simp [Builtin.copy_, run_underlying Try.underlying94, Builtin.lenOf, Builtin.firstCells, sizeOf, typeInfo, hi, storeCells] <;> rfl
end Go.Proofs.Ytedecminaopgaaa

/- Proved: what New, Len, Room, Clear and place of package ring answer, and what a ring that is none answers. Conditions: those that the theorems name. -/
namespace Go.Proofs.Ytedecminaopgaaa
open Go.ChangeShapes Go.WideShapes Go.ChangeAt Go.RowKit

/-! ### a ring in memory -/
def adr (g : Option Nat) : Option Addr := g.map fun x => ⟨x, 0, none⟩
/-- the cells of a ring. -/
def rgCells (r n f : Nat) (g : Option Nat) (m : Nat) : List Value := [.int .i64 (r : Nat), .slice (adr g) n n, .int .i64 (f : Nat), .int .i64 (m : Nat)]
/-- the row of a ring: none yet, or a block of its own. -/
def Rw (w : World) (b n : Nat) (g : Option Nat) (l : List Nat) : Prop := (g = none ∧ n = 0) ∨ ∃ x, g = some x ∧ x ≠ b ∧ 0 < n ∧ Own w x n l
/-- Block b is a ring of room r, whose row g has n places; from place f on the bytes s go round in it. -/
def Kp (w : World) (b r n f : Nat) (g : Option Nat) (s : ByteArray) : Prop :=
  At w b 96 (rgCells r n f g s.size) ∧ s.size ≤ n ∧ n ≤ r ∧ r ≤ 1048576 ∧ (f < n ∨ f = 0 ∧ n = 0) ∧ ∃ l, l.length = n ∧ Rw w b n g l ∧ Rnd n f l s
def Rg (w : World) (b r : Nat) (g : Option Nat) (s : ByteArray) : Prop := ∃ n f, Kp w b r n f g s

theorem Rw.block {w w' : World} {b n : Nat} {g : Option Nat} {l : List Nat} (h : Rw w b n g l) (k : ∀ x, g = some x → x ≠ b → x < w.heap.size → w'.heap[x]? = w.heap[x]?) : Rw w' b n g l := by
  rcases h with h | ⟨x, hx, hb, hn, ho⟩
  · exact Or.inl h
  · have hlt := ho.block_lt
    obtain ⟨h1, h2, cur, hc, hr⟩ := ho
    exact Or.inr ⟨x, hx, hb, hn, h1, h2, cur, (k x hx hb hlt).trans hc, hr⟩
theorem Kp.below {w w' : World} {b r n f : Nat} {g : Option Nat} {s : ByteArray} (h : Kp w b r n f g s) (k : Below w.heap.size w w') : Kp w' b r n f g s := by
  obtain ⟨ha, h1, h2, h3, h4, l, hl, hr, hs⟩ := h
  exact ⟨ha.below k ha.lt, h1, h2, h3, h4, l, hl, hr.block (fun x _ _ hx => k.block x hx), hs⟩
theorem Rg.below {w w' : World} {b r : Nat} {g : Option Nat} {s : ByteArray} (h : Rg w b r g s) (k : Below w.heap.size w w') : Rg w' b r g s := by
  obtain ⟨n, f, h⟩ := h
  exact ⟨n, f, h.below k⟩
theorem Rg.size {w : World} {b r : Nat} {g : Option Nat} {s : ByteArray} (h : Rg w b r g s) : s.size ≤ r := by
  obtain ⟨n, f, h⟩ := h
  exact Nat.le_trans h.2.1 h.2.2.1
theorem Rg.room {w : World} {b r : Nat} {g : Option Nat} {s : ByteArray} (h : Rg w b r g s) : r ≤ 1048576 := by
  obtain ⟨n, f, h⟩ := h
  exact h.2.2.2.1
/-- A value comes back; block b is a ring of s' then; nothing else that was there has turned. -/
def GivesRg (W : World) (b r : Nat) (g : Option Nat) (v : Value) (s' : ByteArray) (e : Ending) (w' : World) : Prop :=
  e = .returned v ∧ ∃ g', Rg w' b r g' s' ∧ Turns W w' b g ∧ Grows W g g'

/-! ### New -/
theorem rg_new_any (r : Nat) (w : World) (h0 : 1 ≤ r) (h1 : r ≤ 1048576) :
    Calls Try.prog 28 #[.int .i64 (r : Nat)] w fun e w' => e = .returned (.tuple #[.pointer (some ⟨w.heap.size, 0, none⟩), .int .i64 0]) ∧ w' = w.alloc (.cells (rgCells r 0 0 none 0).toArray 96) := by
  have h0' : ¬ (r : Int) < 1 := by omega
  have h1' : ¬ 1048576 < (r : Int) := by omega
  go_enter Try.func28, Try.ntmps28
  go_wp2_with fail
  go_ret2
  exact ⟨rfl, rfl⟩
theorem rg_of_new (r : Nat) (w : World) (h1 : r ≤ 1048576) : Rg (w.alloc (.cells (rgCells r 0 0 none 0).toArray 96)) w.heap.size r none S0 :=
  ⟨0, 0, At.new w _ _, Nat.le_refl _, Nat.zero_le _, h1, Or.inr ⟨rfl, rfl⟩, [], rfl, Or.inl ⟨rfl, rfl⟩, fun _ h => absurd h (Nat.not_lt_zero _)⟩

/-! ### Len, Room -/
theorem rg_len_any (b r : Nat) (g : Option Nat) (s : ByteArray) (w : World) (h : Rg w b r g s) :
    Calls Try.prog 41 #[.pointer (some ⟨b, 0, none⟩)] w fun e w' => e = .returned (.int .i64 (s.size : Nat)) ∧ w = w' := by
  obtain ⟨n, f, ha, _⟩ := h
  have hc := ha.cell 3 rfl
  clear ha
  go_enter Try.func41, Try.ntmps41
  go_wp2_with fail
  go_ret
  exact ⟨rfl, rfl⟩
theorem rg_room_any (b r : Nat) (g : Option Nat) (s : ByteArray) (w : World) (h : Rg w b r g s) :
    Calls Try.prog 50 #[.pointer (some ⟨b, 0, none⟩)] w fun e w' => e = .returned (.int .i64 ((r : Int) - (s.size : Int))) ∧ ∃ q, w' = w.drewN q := by
  have hs := h.size
  have hr := h.room
  obtain ⟨n, f, ha, _⟩ := h
  have hc0 : ∀ q, (w.drewN q).cell? ⟨b, 0, none⟩ = some (.int .i64 (r : Nat)) := fun q => ha.cell 0 rfl
  have hc3 : ∀ q, (w.drewN q).cell? ⟨b, 3, none⟩ = some (.int .i64 (s.size : Nat)) := fun q => ha.cell 3 rfl
  have hd0 : w.cell? ⟨b, 0, none⟩ = some (.int .i64 (r : Nat)) := hc0 0
  have hd3 : w.cell? ⟨b, 3, none⟩ = some (.int .i64 (s.size : Nat)) := hc3 0
  clear ha
  generalize s.size = m at *
  go_enter Try.func50, Try.ntmps50
  go_wp2_with fail
  go_quiet (fail)
  go_wp2_with fail
  go_ret
  exact ⟨rfl, _, rfl⟩
/-! ### place -/
theorem rg_place_any (b r n f m j : Nat) (g : Option Nat) (w : World) (h : At w b 96 (rgCells r n f g m)) (hf : f ≤ 1048576) (hj : j ≤ 1048576) :
    Calls Try.prog 62 #[.pointer (some ⟨b, 0, none⟩), .int .i64 (j : Nat)] w fun e w' => e = .returned (.int .i64 (pl n f j : Nat)) ∧ w = w' := by
  have hc1 := h.cell 1 rfl
  have hc2 := h.cell 2 rfl
  clear h
  by_cases q : n ≤ f + j
  · have e : ((pl n f j : Nat) : Int) = (f : Int) + (j : Int) - (n : Int) := by unfold pl; rw [if_pos q]; omega
    rw [e]
    have q' : (n : Int) ≤ (f : Int) + (j : Int) := by omega
    clear e
    go_enter Try.func62, Try.ntmps62
    go_wp2_with fail
    go_ret
    exact ⟨rfl, rfl⟩
  · have e : ((pl n f j : Nat) : Int) = (f : Int) + (j : Int) := by unfold pl; rw [if_neg q]; omega
    rw [e]
    have q' : ¬ (n : Int) ≤ (f : Int) + (j : Int) := by omega
    clear e
    go_enter Try.func62, Try.ntmps62
    go_wp2_with fail
    go_ret
    exact ⟨rfl, rfl⟩

/-! ### Clear -/
end Go.Proofs.Ytedecminaopgaaa

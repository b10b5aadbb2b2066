/- Proved: what the program's Join answers, for all texts within the given bounds and every number. Conditions: those that the theorems name. -/
import Derived.Test.YtddgnheahphikaaDoorCutJoin
namespace Go.Proofs.YtddgnheahphikaaDoor
open Go.ChangeShapes Go.WideShapes Go.ChangeAt Go.RowKit

/-! ### the library's Builder, of bytes as numbers -/
/-- block H is a Builder of the call's own that holds the bytes l. -/
def Built (H : Nat) (l : List Nat) (w : World) : Prop := Lib.IsBuilder 45 5 H H (cells l) w ∧ H ≤ w.heap.size
theorem strCells_bts (s : ByteArray) : Lib.strCells s = cells (bts s) := by
  unfold Lib.strCells cells bts
  rw [List.map_map]; rfl
theorem byteCells_of {l : List Nat} (h : ∀ j, l.getD j 0 < 256) : cells l = Lib.byteCells (l.map UInt8.ofNat) := by
  unfold cells Lib.byteCells
  rw [List.map_map]
  refine List.map_congr_left fun x hx => ?_
  have := mem_lt h x hx
  simp; omega
theorem grow_any (H n : Nat) (w : World) (hb : w.heap[H]? = some (.cells #[.pointer none, .slice none 0 0] 45 (0, 0))) (hn : n ≤ 44000) :
    Calls Tryd.prog 16 #[.pointer (some ⟨H, 0, none⟩), .int .i64 (n : Nat)] w fun e w' => e = .returned (.tuple #[]) ∧ Built H [] w' ∧ Below H w w' := by
  have hlt : H < w.heap.size := (Array.getElem?_eq_some_iff.1 hb).1
  refine (Tryd.Builder_Grow_fresh H H n w (Nat.le_refl _) hb (by omega) (by omega)).mono ?_
  rintro e w' ⟨rfl, h1, h2⟩
  exact ⟨rfl, ⟨.inr h1, Nat.le_trans (Nat.le_of_lt hlt) h2.size⟩, h2⟩
theorem len_any (H n : Nat) (l : List Nat) (w : World) (h : Built H l w) (hn : l.length = n) :
    Calls Tryd.prog 17 #[.pointer (some ⟨H, 0, none⟩)] w fun e w' => e = .returned (.int .i64 (n : Nat)) ∧ w = w' := by
  refine (Tryd.Builder_Len H H (cells l) w h.1).mono ?_
  rintro e w' ⟨rfl, rfl⟩
  rw [cells_len, hn]
  exact ⟨rfl, rfl⟩
theorem write_any (H : Nat) (l : List Nat) (s : ByteArray) (w : World) (h : Built H l w) (hn : l.length + s.size ≤ 100000) :
    Calls Tryd.prog 18 #[.pointer (some ⟨H, 0, none⟩), .string s] w fun e w' => e = .returned (.tuple #[.int .i64 s.size, .nilIface]) ∧ Built H (l ++ bts s) w' ∧ Below H w w' := by
  refine (Tryd.Builder_WriteString H H (cells l) s w h.1 (by rw [cells_len]; omega) h.2).mono ?_
  rintro e w' ⟨rfl, h1, h2⟩
  rw [strCells_bts] at h1
  refine ⟨rfl, ⟨.inr ?_, Nat.le_trans h.2 h2.size⟩, h2⟩
  unfold cells at h1 ⊢
  rw [List.map_append]; exact h1
theorem string_any (H : Nat) (l : List Nat) (w : World) (h : Built H l w) (hl : ∀ j, l.getD j 0 < 256) :
    Calls Tryd.prog 20 #[.pointer (some ⟨H, 0, none⟩)] w fun e w' => e = .returned (.string (tx l)) ∧ Below H w w' := by
  have h1 := h.1
  rw [byteCells_of hl] at h1
  exact Tryd.Builder_String_any H H (l.map UInt8.ofNat) w h1 h.2
theorem Built.drawn {H : Nat} {l : List Nat} {w : World} (h : Built H l w) (q : Nat) : Built H l (w.drewN q) := by
  obtain ⟨h1, h2⟩ := h
  refine ⟨?_, h2⟩
  have hg : w.grownBy (w.drewN q) none := ⟨rfl, rfl, rfl, Nat.le_refl _, fun _ _ _ => rfl⟩
  rcases h1 with ⟨hB, v, hb, ho, hn⟩ | ⟨hB, v, hb, ho, hn⟩
  · exact .inl ⟨hB, v, hb, ho.kept hg (by cases v.ownBlock <;> simp), hn⟩
  · exact .inr ⟨hB, v, hb, ho.kept hg (by cases v.ownBlock <;> simp), hn⟩

/-! ### one text more -/
theorem catB_split (l : List ByteArray) (r : Nat) : catB l = catB (l.take r) ++ catB (l.drop r) := by
  unfold catB
  rw [← List.flatten_append, ← List.map_append, List.take_append_drop]
theorem getD_append (a b : List Nat) (j : Nat) : (a ++ b).getD j 0 = if j < a.length then a.getD j 0 else b.getD (j - a.length) 0 := by
  rw [List.getD_eq_getElem?_getD, List.getElem?_append]
  split <;> rw [← List.getD_eq_getElem?_getD]
/-- what is kept of the next text. -/
theorem join_next {C T : List Nat} {n k : Nat} (hk : k = min T.length (n - (C.take n).length)) : C.take n ++ T.take k = (C ++ T).take n := by
  rw [List.take_append]
  congr 1
  rw [List.length_take] at hk
  rcases Nat.le_total C.length n with h | h
  · rw [Nat.min_eq_right h] at hk
    rcases Nat.le_total T.length (n - C.length) with h2 | h2
    · rw [Nat.min_eq_left h2] at hk
      rw [hk, List.take_of_length_le h2, List.take_length]
    · rw [Nat.min_eq_right h2] at hk
      rw [hk]
  · rw [Nat.min_eq_left h, Nat.sub_self, Nat.min_zero] at hk
    rw [hk, show n - C.length = 0 by omega]
theorem join_zeros {C T : List Nat} {n k : Nat} (hk : k = min T.length (n - (C.take n).length)) (h : zerosFrom n C) (z : zerosB (T.drop k) = true) : zerosFrom n (C ++ T) := by
  intro j hj
  rw [getD_append]
  split
  · exact h j hj
  · have h1 := (zerosB_iff _).1 z (j - C.length - k)
    rw [drop_at] at h1
    rw [List.length_take] at hk
    rw [show j - C.length = k + (j - C.length - k) by omega]
    exact h1
theorem join_form {C T D : List Nat} {n k : Nat} (hk : k = min T.length (n - (C.take n).length)) (z : zerosB (T.drop k) = false) : zerosB (((C ++ T) ++ D).drop n) = false := by
  rw [Bool.eq_false_iff]
  intro e
  have e := (zerosB_iff _).1 e
  refine absurd z ?_
  rw [Bool.not_eq_false, zerosB_iff]
  intro j
  rw [drop_at]
  rcases Nat.lt_or_ge (k + j) T.length with h | h
  · rw [List.length_take] at hk
    have := e (C.length + (k + j) - n)
    rw [drop_at, show n + (C.length + (k + j) - n) = C.length + (k + j) by omega, getD_append, if_pos (by rw [List.length_append]; omega), getD_append, if_neg (by omega)] at this
    rwa [show C.length + (k + j) - C.length = k + j by omega] at this
  · exact getD_past _ _ h
theorem join_done {C : List Nat} {n : Nat} (h : zerosFrom n C) : zerosB (C.drop n) = true := (zerosB_iff _).2 fun j => by
  rw [drop_at]; exact h _ (by omega)
end Go.Proofs.YtddgnheahphikaaDoor

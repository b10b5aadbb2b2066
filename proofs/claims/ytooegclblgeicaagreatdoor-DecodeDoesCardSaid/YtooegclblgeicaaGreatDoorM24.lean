/- Proved: lemmas of one statement's proof, merged by program: what each part proves stands ahead of it. Conditions: those that the lemmas name. -/
import Derived.Test.YtooegclblgeicaaGreatDoorM22
import Derived.Test.YtooegclblgeicaaGreatDoorM23
import Derived.Lib.Builder

/- Proved: what the program's Join answers, for all texts within the given bounds and every number. Conditions: those that the theorems name. -/
namespace Go.Proofs.YtooegclblgeicaaGreatDoor
open Go.ChangeShapes Go.WideShapes Go.ChangeAt Go.RowKit

/-! ### are the texts equally long? -/
set_option maxRecDepth 100000 in
set_option maxHeartbeats 800000 in
theorem alike_any (A : Option Addr) (m c : Nat) (l : List ByteArray) (w : World) (hl : Ss w A m l) (h0 : 0 < m) (hm : m ≤ 40) :
    Calls Tryz.prog 35 #[.slice A m c] w fun e w' => e = .returned (.bool (decide (alike l))) ∧ w = w' := by
  have HL := Lib.hid hl
  have HN := Lib.hid hl.len
  have h0' : (0 : Int) < (m : Int) := by omega
  have hmi : (m : Int) ≤ 40 := by omega
  clear hl
  obtain ⟨ad, rfl, had, hc0⟩ := HL.out.at_ h0
  rw [Addr.add_zero' ad] at hc0
  go_enter Tryz.func35, Tryz.ntmps35
  go_wp2_with fail
  go_loop [7] (fun i => ∃ r : Nat, r ≤ m ∧ i = .int .i64 r ∧ AlikeTo l r) (fun i => m - (intOf i).toNat)
  case atStart => exact ⟨0, by omega, rfl, fun j hj => absurd hj (by omega)⟩
  case round =>
    obtain ⟨r, hr, rfl, hal⟩ := hrel
    have HA := Lib.hid hal
    clear hal
    by_cases hlt : r < m
    · obtain ⟨ad', e', _, hc⟩ := HL.out.at_ hlt
      cases e'
      have HAn := Lib.hid (fun g => HA.out.next g)
      have HAb := Lib.hid (fun (g : (st_ l r).size ≠ (st_ l 0).size) (a : alike l) => g (a r (by rw [HN.out]; exact hlt)))
      generalize st_ l r = t at *
      generalize st_ l 0 = t0 at *
      have hlt' : (r : Int) < (m : Int) := by omega
      have hr0 : (0 : Int) ≤ (r : Int) := Int.natCast_nonneg _
      by_cases hne : t.size = t0.size
      · have hne' : ((t.size : Int) != (t0.size : Int)) = false := by simp [hne]
        have hne2 : ((t.size : Int) == (t0.size : Int)) = true := by simp [hne]
        have HE := Lib.hid hne
        clear hne
        go_wp2_with fail
        go_round
        case rel => exact ⟨r + 1, by omega, by go_num, HAn.out HE.out⟩
        case measure => simp [intOf]; omega
      · have hne' : ((t.size : Int) != (t0.size : Int)) = true := by simp; omega
        have hne2 : ((t.size : Int) == (t0.size : Int)) = false := by simp; omega
        have HE := Lib.hid (HAb.out hne)
        clear hne
        go_wp2_with fail
        go_ret
        exact ⟨by rw [decide_eq_false HE.out]; rfl, rfl⟩
    · obtain rfl : r = m := by omega
      have HE : Hid (alike l) := Lib.hid fun j hj => HA.out j (by rw [← HN.out]; exact hj)
      go_wp2_with fail
      go_ret
      exact ⟨by rw [decide_eq_true HE.out]; rfl, rfl⟩

/-! ### has a text none but bytes 0? -/
theorem dropWhile_zeros (l : List UInt8) : (l.dropWhile (· == 0)) = [] ↔ ∀ x ∈ l, x = 0 := by
  induction l with
  | nil => simp
  | cons a l ih =>
    by_cases h : a = 0
    · subst h; simp [ih]
    · simp [h]
theorem mem_dropWhile {l : List UInt8} {x : UInt8} (h : x ∈ l.dropWhile (· == 0)) : x ∈ l := (List.dropWhile_sublist _).subset h
theorem dropWhile_ne {l : List UInt8} {x : UInt8} (h : x ∈ l) (h0 : x ≠ 0) : x ∈ l.dropWhile (· == 0) := by
  induction l with
  | nil => exact h
  | cons a l ih =>
    by_cases e : a = 0
    · subst e
      have : x ∈ l := by
        rcases List.mem_cons.1 h with h | h
        · exact absurd h h0
        · exact h
      simpa using ih this
    · rw [List.dropWhile_cons_of_neg (by simpa using e)]; exact h
theorem trim_zeros (l : List UInt8) : Lib.trimB l 0 = [] ↔ ∀ x ∈ l, x = 0 := by
  unfold Lib.trimB Lib.trimLeftB Lib.trimRightB
  rw [dropWhile_zeros]
  constructor
  · intro h x hx
    rcases Classical.em (x = 0) with h0 | h0
    · exact h0
    · exact h x (List.mem_reverse.2 (dropWhile_ne (List.mem_reverse.2 hx) h0))
  · intro h x hx
    exact h x (List.mem_reverse.1 (mem_dropWhile (List.mem_reverse.1 hx)))
theorem zeros_bytes (s : ByteArray) : zerosB (bts s) = true ↔ ∀ x ∈ s.data.toList, x = 0 := by
  unfold zerosB bts
  rw [List.all_eq_true]
  constructor
  · intro h x hx
    have := h x.toNat (List.mem_map.2 ⟨x, hx, rfl⟩)
    have : x.toNat = 0 := by simpa using this
    exact UInt8.toNat_inj.1 this
  · intro h n hn
    obtain ⟨x, hx, rfl⟩ := List.mem_map.1 hn
    rw [h x hx]; rfl
theorem trim_empty (s : ByteArray) : (ByteArray.mk (Lib.trimB s.data.toList 0).toArray).toList.isEmpty = zerosB (bts s) := by
  rw [ByteArray.toList_eq, Bool.eq_iff_iff, zeros_bytes, ← trim_zeros, List.isEmpty_iff]
set_option maxHeartbeats 400000 in
theorem zeros_any (s : ByteArray) (w : World) (hs : s.size ≤ 44000) :
    Calls Tryz.prog 39 #[.string s] w fun e w' => e = .returned (.bool (zerosB (bts s))) ∧ ∃ q, w' = w.drewN q := by
  have HT := Lib.hid (Tryz.strings_Trim_one s 0 (by decide) w (by omega))
  have HE := Lib.hid (trim_empty s)
  generalize (ByteArray.mk (Lib.trimB s.data.toList 0).toArray) = T at *
  go_enter Tryz.func39, Tryz.ntmps39
  go_wp2_with fail
  refine HT.out.mono ?_
  rintro e w' ⟨rfl, h⟩
  have hq : ∃ q, w' = w.drewN q := by
    rcases h with rfl | rfl
    · exact ⟨0, rfl⟩
    · exact ⟨1, rfl⟩
  clear h
  go_wp2_with fail
  go_ret
  exact ⟨by rw [← HE.out]; rfl, hq⟩
end Go.Proofs.YtooegclblgeicaaGreatDoor

/- Proved: what the program's Join answers, for all texts within the given bounds and every number. Conditions: those that the theorems name. -/
namespace Go.Proofs.YtooegclblgeicaaGreatDoor
open Go.ChangeShapes Go.WideShapes Go.ChangeAt Go.RowKit

/-! ### the library's Builder, of bytes as numbers -/
/-- block H is a Builder of the call's own that holds the bytes l. -/
def Built (H : Nat) (l : List Nat) (w : World) : Prop := Lib.IsBuilder 85 5 H H (cells l) w ∧ H ≤ w.heap.size
theorem strCells_bts (s : ByteArray) : Lib.strCells s = cells (bts s) := by
  unfold Lib.strCells cells bts
  rw [List.map_map]; rfl
theorem byteCells_of {l : List Nat} (h : ∀ j, l.getD j 0 < 256) : cells l = Lib.byteCells (l.map UInt8.ofNat) := by
  unfold cells Lib.byteCells
  rw [List.map_map]
  refine List.map_congr_left fun x hx => ?_
  have := mem_lt h x hx
  simp; omega
theorem grow_any (H n : Nat) (w : World) (hb : w.heap[H]? = some (.cells #[.pointer none, .slice none 0 0] 85 (0, 0))) (hn : n ≤ 44000) :
    Calls Tryz.prog 36 #[.pointer (some ⟨H, 0, none⟩), .int .i64 (n : Nat)] w fun e w' => e = .returned (.tuple #[]) ∧ Built H [] w' ∧ Below H w w' := by
  have hlt : H < w.heap.size := (Array.getElem?_eq_some_iff.1 hb).1
  refine (Tryz.Builder_Grow_fresh H H n w (Nat.le_refl _) hb (by omega) (by omega)).mono ?_
  rintro e w' ⟨rfl, h1, h2⟩
  exact ⟨rfl, ⟨.inr h1, Nat.le_trans (Nat.le_of_lt hlt) h2.size⟩, h2⟩
theorem len_any (H n : Nat) (l : List Nat) (w : World) (h : Built H l w) (hn : l.length = n) :
    Calls Tryz.prog 37 #[.pointer (some ⟨H, 0, none⟩)] w fun e w' => e = .returned (.int .i64 (n : Nat)) ∧ w = w' := by
  refine (Tryz.Builder_Len H H (cells l) w h.1).mono ?_
  rintro e w' ⟨rfl, rfl⟩
  rw [cells_len, hn]
  exact ⟨rfl, rfl⟩
theorem write_any (H : Nat) (l : List Nat) (s : ByteArray) (w : World) (h : Built H l w) (hn : l.length + s.size ≤ 100000) :
    Calls Tryz.prog 38 #[.pointer (some ⟨H, 0, none⟩), .string s] w fun e w' => e = .returned (.tuple #[.int .i64 s.size, .nilIface]) ∧ Built H (l ++ bts s) w' ∧ Below H w w' := by
  refine (Tryz.Builder_WriteString H H (cells l) s w h.1 (by rw [cells_len]; omega) h.2).mono ?_
  rintro e w' ⟨rfl, h1, h2⟩
  rw [strCells_bts] at h1
  refine ⟨rfl, ⟨.inr ?_, Nat.le_trans h.2 h2.size⟩, h2⟩
  unfold cells at h1 ⊢
  rw [List.map_append]; exact h1
theorem string_any (H : Nat) (l : List Nat) (w : World) (h : Built H l w) (hl : ∀ j, l.getD j 0 < 256) :
    Calls Tryz.prog 40 #[.pointer (some ⟨H, 0, none⟩)] w fun e w' => e = .returned (.string (tx l)) ∧ Below H w w' := by
  have h1 := h.1
  rw [byteCells_of hl] at h1
  exact Tryz.Builder_String_any H H (l.map UInt8.ofNat) w h1 h.2
theorem Built.drawn {H : Nat} {l : List Nat} {w : World} (h : Built H l w) (q : Nat) : Built H l (w.drewN q) := by
  obtain ⟨h1, h2⟩ := h
  refine ⟨?_, h2⟩
  have hg : w.grownBy (w.drewN q) none := ⟨rfl, rfl, rfl, Nat.le_refl _, fun _ _ _ => rfl⟩
  rcases h1 with ⟨hB, v, hb, ho, hn⟩ | ⟨hB, v, hb, ho, hn⟩
  · exact .inl ⟨hB, v, hb, ho.kept hg (by cases v.ownBlock <;> simp), hn⟩
  · exact .inr ⟨hB, v, hb, ho.kept hg (by cases v.ownBlock <;> simp), hn⟩

/-! ### one text more -/
theorem catB_split (l : List ByteArray) (r : Nat) : catB l = catB (l.take r) ++ catB (l.drop r) := by
  unfold catB
  rw [← List.flatten_append, ← List.map_append, List.take_append_drop]
theorem getD_append (a b : List Nat) (j : Nat) : (a ++ b).getD j 0 = if j < a.length then a.getD j 0 else b.getD (j - a.length) 0 := by
  rw [List.getD_eq_getElem?_getD, List.getElem?_append]
  split <;> rw [← List.getD_eq_getElem?_getD]
/-- what is kept of the next text. -/
theorem join_next {C T : List Nat} {n k : Nat} (hk : k = min T.length (n - (C.take n).length)) : C.take n ++ T.take k = (C ++ T).take n := by
  rw [List.take_append]
  congr 1
  rw [List.length_take] at hk
  rcases Nat.le_total C.length n with h | h
  · rw [Nat.min_eq_right h] at hk
    rcases Nat.le_total T.length (n - C.length) with h2 | h2
    · rw [Nat.min_eq_left h2] at hk
      rw [hk, List.take_of_length_le h2, List.take_length]
    · rw [Nat.min_eq_right h2] at hk
      rw [hk]
  · rw [Nat.min_eq_left h, Nat.sub_self, Nat.min_zero] at hk
    rw [hk, show n - C.length = 0 by omega]
theorem join_zeros {C T : List Nat} {n k : Nat} (hk : k = min T.length (n - (C.take n).length)) (h : zerosFrom n C) (z : zerosB (T.drop k) = true) : zerosFrom n (C ++ T) := by
  intro j hj
  rw [getD_append]
  split
  · exact h j hj
  · have h1 := (zerosB_iff _).1 z (j - C.length - k)
    rw [drop_atC] at h1
    rw [List.length_take] at hk
    rw [show j - C.length = k + (j - C.length - k) by omega]
    exact h1
theorem join_form {C T D : List Nat} {n k : Nat} (hk : k = min T.length (n - (C.take n).length)) (z : zerosB (T.drop k) = false) : zerosB (((C ++ T) ++ D).drop n) = false := by
  rw [Bool.eq_false_iff]
  intro e
  have e := (zerosB_iff _).1 e
  refine absurd z ?_
  rw [Bool.not_eq_false, zerosB_iff]
  intro j
  rw [drop_atC]
  rcases Nat.lt_or_ge (k + j) T.length with h | h
  · rw [List.length_take] at hk
    have := e (C.length + (k + j) - n)
    rw [drop_atC, show n + (C.length + (k + j) - n) = C.length + (k + j) by omega, getD_append, if_pos (by rw [List.length_append]; omega), getD_append, if_neg (by omega)] at this
    rwa [show C.length + (k + j) - C.length = k + j by omega] at this
  · exact getD_past _ _ h
theorem join_done {C : List Nat} {n : Nat} (h : zerosFrom n C) : zerosB (C.drop n) = true := (zerosB_iff _).2 fun j => by
  rw [drop_atC]; exact h _ (by omega)
end Go.Proofs.YtooegclblgeicaaGreatDoor

/- Proved: what the program's Join answers, for all texts within the given bounds and every number. Conditions: those that the theorems name. -/
namespace Go.Proofs.YtooegclblgeicaaGreatDoor
open Go.ChangeShapes Go.WideShapes Go.ChangeAt Go.RowKit

set_option maxHeartbeats 400000 in
theorem join_none (A : Option Addr) (c : Nat) (n : Int) (w : World) :
    Calls Tryz.prog 23 #[.slice A 0 c, .int .i64 n] w (GivesTZ w S0 1) := by
  go_enter Tryz.func23, Tryz.ntmps23
  go_wp2_with fail
  go_ret2
  exact ⟨rfl, Below.refl _ _⟩
set_option maxHeartbeats 800000 in
theorem join_bad (A : Option Addr) (m c : Nat) (l : List ByteArray) (n : Int) (w : World) (hl : Ss w A m l) (h0 : 0 < m) (hm : m ≤ 40) (hs : ∀ j, j < m → (st_ l j).size ≤ 1100) (h : ¬ alike l ∨ n < 0 ∨ ((catB l).length : Int) < n) :
    Calls Tryz.prog 23 #[.slice A m c, .int .i64 n] w (GivesTZ w S0 (jErr l n)) := by
  have HC := Lib.hid (alike_any A m c l w hl h0 hm)
  have HN := Lib.hid hl.len
  have hP : 0 < l.length := by rw [HN.out]; exact h0
  obtain ⟨ad, rfl, had, hc0⟩ := hl.at_ h0
  rw [Addr.add_zero' ad] at hc0
  have hs0 := hs 0 h0
  have h0' : (0 : Int) < (m : Int) := by omega
  have hmi : (m : Int) ≤ 40 := by omega
  have hm0 : ((m : Int) == 0) = false := by simp; omega
  by_cases ha : alike l
  · have hz : (m : Int) * ((st_ l 0).size : Int) = ((catB l).length : Int) := by rw [catB_size ha, HN.out]; simp
    have h' : n < 0 ∨ ((catB l).length : Int) < n := h.resolve_left (fun x => x ha)
    have HE := Lib.hid (jErr_range hP ha h')
    rw [decide_eq_true ha] at HC
    have hzb : ((catB l).length : Int) ≤ 44000 := by
      have := catB_bound l m hs
      rw [List.take_of_length_le (by rw [HN.out]; exact Nat.le_refl _)] at this
      omega
    generalize st_ l 0 = t0 at *
    generalize (catB l).length = z at *
    clear hl hs h ha
    by_cases hn : n < 0
    · clear h'
      go_enter Tryz.func23, Tryz.ntmps23
      go_wp2_with fail
      refine HC.out.mono ?_; rintro e w' ⟨rfl, rfl⟩
      go_wp2_with fail
      go_ret2
      rw [HE.out]
      exact ⟨rfl, Below.refl _ _⟩
    · have hn' : 0 ≤ n := by omega
      have hn2 : (z : Int) < n := h'.resolve_left hn
      clear h' hn
      go_enter Tryz.func23, Tryz.ntmps23
      go_wp2_with fail
      refine HC.out.mono ?_; rintro e w' ⟨rfl, rfl⟩
      go_wp2_with fail
      go_ret2
      rw [HE.out]
      exact ⟨rfl, Below.refl _ _⟩
  · have HE := Lib.hid (jErr_unlike (n := n) hP ha)
    rw [decide_eq_false ha] at HC
    clear hl hs h ha hc0
    go_enter Tryz.func23, Tryz.ntmps23
    go_wp2_with fail
    refine HC.out.mono ?_; rintro e w' ⟨rfl, rfl⟩
    go_wp2_with fail
    go_ret2
    rw [HE.out]
    exact ⟨rfl, Below.refl _ _⟩

set_option maxRecDepth 100000 in
set_option maxHeartbeats 1600000 in
theorem join_good (A : Option Addr) (m c : Nat) (l : List ByteArray) (n : Nat) (w : World) (hl : Ss w A m l) (h0 : 0 < m) (hm : m ≤ 40) (hs : ∀ j, j < m → (st_ l j).size ≤ 1100) (ha : alike l) (hn : n ≤ (catB l).length) :
    Calls Tryz.prog 23 #[.slice A m c, .int .i64 (n : Nat)] w (GivesTZ w (jOut l n) (jErr l n)) := by
  have HC := Lib.hid (alike_any A m c l w hl h0 hm)
  rw [decide_eq_true ha] at HC
  have HN := Lib.hid hl.len
  have hP : 0 < l.length := by rw [HN.out]; exact h0
  have HL := Lib.hid hl
  have HS := Lib.hid hs
  obtain ⟨ad, rfl, had, hc0⟩ := hl.at_ h0
  rw [Addr.add_zero' ad] at hc0
  have hs0 := hs 0 h0
  have hz : (m : Int) * ((st_ l 0).size : Int) = ((catB l).length : Int) := by rw [catB_size ha, HN.out]; simp
  have HE5 := Lib.hid (fun z => jErr_form (n := n) hP ha hn z)
  have HE0 := Lib.hid (fun z => jErr_ok (n := n) hP ha hn z)
  have HO := Lib.hid (fun h => jOut_ok (l := l) (n := n) h)
  have HO5 := Lib.hid (fun h => jOut_err (l := l) (n := (n : Int)) h)
  have hzb := catB_bound l m hs
  rw [List.take_of_length_le (by rw [HN.out]; exact Nat.le_refl _)] at hzb
  have h0' : (0 : Int) < (m : Int) := by omega
  have hmi : (m : Int) ≤ 40 := by omega
  have hm0 : ((m : Int) == 0) = false := by simp; omega
  have hni : (n : Int) ≤ ((catB l).length : Int) := by omega
  have hn0 : (0 : Int) ≤ (n : Int) := Int.natCast_nonneg _
  have hnb : (n : Int) ≤ 44000 := by omega
  have HNB := Lib.hid (show n ≤ 44000 by omega)
  have hzi : ((catB l).length : Int) ≤ 44000 := by omega
  generalize hcl : (catB l).length = z at *
  clear hl hs ha hn hzb hcl
  go_enter Tryz.func23, Tryz.ntmps23
  go_wp2_with fail
  refine HC.out.mono ?_; rintro e w' ⟨rfl, rfl⟩
  go_wp2_with fail
  have HG := Lib.hid (grow_any w.heap.size n (w.alloc (.cells #[.pointer none, .slice none 0 0] 85)) (heap_alloc_new w _) HNB.out)
  have HB0 := Lib.hid ((Below.refl w.heap.size w).alloc (Nat.le_refl _) (.cells #[.pointer none, .slice none 0 0] 85))
  generalize w.alloc (.cells #[.pointer none, .slice none 0 0] 85) = W0 at *
  refine HG.out.mono ?_; rintro e w1 ⟨rfl, hb1, hw1⟩
  have HB1 := Lib.hid hb1
  have HW1 := Lib.hid (HB0.out.trans hw1)
  clear hb1 hw1 HG HB0 hc0
  go_wp2_with fail
  clear hz hzi hni hs0
  generalize st_ l 0 = t0 at *
  go_loopw [33] (fun i wr => ∃ r : Nat, r ≤ m ∧ i = .int .i64 r ∧ Built w.heap.size ((catB (l.take r)).take n) wr ∧ zerosFrom n (catB (l.take r)) ∧ Below w.heap.size w wr) (fun i _ => m - (intOf i).toNat)
  case atStart => exact ⟨0, by omega, rfl, by simpa [catB] using HB1.out, fun j _ => by simp [catB], HW1.out⟩
  case round =>
    obtain ⟨r, hr, rfl, hb, hzf, hw⟩ := hrel
    have HB := Lib.hid hb
    have HW := Lib.hid hw
    have HZf := Lib.hid hzf
    clear hb hw hzf HB1 HW1
    by_cases hlt : r < m
    · have hlt' : (r : Int) < (m : Int) := by omega
      have hr0 : (0 : Int) ≤ (r : Int) := Int.natCast_nonneg _
      obtain ⟨ad', e', _, hc⟩ := HL.out.at_ hlt
      cases e'
      have hc1 : wr.cell? (ad.add r) = some (.string (st_ l r)) := (HW.out.cell (by rw [add_block]; exact had)).trans hc
      have hrl : r < l.length := by rw [HN.out]; exact hlt
      have HCt := Lib.hid (catB_take hrl)
      have HSp := Lib.hid (catB_split l (r + 1))
      have htz := HS.out r hlt
      have htl := bts_len (st_ l r)
      clear hc
      generalize st_ l r = t at *
      generalize hC : catB (l.take r) = C at *
      generalize hLn : (C.take n).length = q at *
      have hqn : q ≤ n := by rw [← hLn, List.length_take]; omega
      obtain ⟨kp, hkp⟩ : ∃ kp, kp = min (bts t).length (n - q) := ⟨_, rfl⟩
      have hkp' : kp = min (bts t).length (n - (C.take n).length) := by rw [hLn]; exact hkp
      have HNx := Lib.hid (join_next hkp')
      have HZn := Lib.hid (fun z => join_zeros hkp' HZf.out z)
      have HFm := Lib.hid (fun z => join_form (D := catB (l.drop (r + 1))) hkp' z)
      rw [← HCt.out] at HNx HZn HFm
      rw [← HSp.out] at HFm
      have HLen := Lib.hid (len_any w.heap.size q (C.take n) wr HB.out hLn)
      have hk1 : kp ≤ t.size := by rw [hkp, htl]; omega
      have hk2 : kp ≤ n - q := by rw [hkp]; omega
      have hsl1 : ∀ W, (Instr.slice 9 (Value.string t) none (some (Value.int .i64 (kp : Int))) none).run Tryz.prog W = .ok (Value.string (t.extract 0 kp)) W := fun W => by
        rw [run_slice_string_to_if W 9 t _ _ Tryz.underlying9, if_pos ⟨by omega, by omega⟩]; rfl
      have hsl2 : ∀ W, (Instr.slice 9 (Value.string t) (some (Value.int .i64 (kp : Int))) none none).run Tryz.prog W = .ok (Value.string (t.extract kp t.size)) W := fun W => by
        rw [run_slice_string_from_if W 9 t _ _ Tryz.underlying9, if_pos ⟨by omega, by omega⟩]; rfl
      have ht1 : bts (t.extract 0 kp) = (bts t).take kp := by rw [bts_extract, List.drop_zero]
      have ht2 : bts (t.extract kp t.size) = (bts t).drop kp := by rw [bts_extract, List.take_of_length_le (by rw [htl]; exact Nat.le_refl _)]
      have hz1 : (t.extract 0 kp).size = kp := by rw [← bts_len, ht1, List.length_take, htl]; omega
      have hz2 : (t.extract kp t.size).size ≤ 44000 := by rw [← bts_len, ht2, List.length_drop, htl]; omega
      have HWr := Lib.hid (write_any w.heap.size (C.take n) (t.extract 0 kp) wr HB.out (by rw [hLn, hz1]; have := HNB.out; omega))
      rw [ht1, HNx.out] at HWr
      have HZr := Lib.hid (fun w => zeros_any (t.extract kp t.size) w hz2)
      rw [ht2] at HZr
      generalize t.extract 0 kp = t1 at *
      generalize t.extract kp t.size = t2 at *
      have hmin : min (t.size : Int) ((n : Int) - (q : Int)) = (kp : Int) := by rw [hkp, htl]; omega
      have hkpb : (kp : Int) ≤ 1100 := by omega
      have hqb : (q : Int) ≤ (n : Int) := by omega
      have hq0 : (0 : Int) ≤ (q : Int) := Int.natCast_nonneg _
      have hkp0 : (0 : Int) ≤ (kp : Int) := Int.natCast_nonneg _
      have htb : (t.size : Int) ≤ 1100 := by omega
      clear hkp hkp' hC hLn ht1 ht2 hz1 hz2 htl hk1 hk2 hqn htz HNx
      generalize zerosB ((bts t).drop kp) = b at *
      have hkt : (kp : Int) ≤ (t.size : Int) := by omega
      go_wp2_with fail
      refine HLen.out.mono ?_; rintro e w' ⟨rfl, rfl⟩
      go_wp2_with fail
      refine HWr.out.mono ?_; rintro e w2 ⟨rfl, hb2, hw2⟩
      have HB2 := Lib.hid hb2
      have HW2 := Lib.hid (HW.out.trans hw2)
      clear hb2 hw2
      go_wp2_with fail
      refine (HZr.out _).mono ?_; rintro e w3 ⟨rfl, u, rfl⟩
      cases b
      · have HE := Lib.hid (HE5.out (HFm.out rfl))
        clear hc1
        go_wp2_with fail
        go_ret2
        rw [HE.out, HO5.out (by rw [HE.out]; decide)]
        exact ⟨rfl, below_drawn_of HW2.out _⟩
      · clear hc1
        go_wp2_with fail
        go_roundw
        case rel => exact ⟨r + 1, by omega, by go_num, HB2.out.drawn _, HZn.out (by first | exact rfl | trivial), below_drawn_of HW2.out _⟩
        case measure => simp [intOf]; omega
    · obtain rfl : r = m := by omega
      have e : l.take r = l := List.take_of_length_le (by rw [HN.out]; exact Nat.le_refl _)
      rw [e] at HB HZf
      have HE := Lib.hid (HE0.out (join_done HZf.out))
      have HSt := Lib.hid (string_any w.heap.size _ wr HB.out (fun j => by
        rw [List.getD_eq_getElem?_getD, List.getElem?_take]
        split
        · rw [← List.getD_eq_getElem?_getD]; exact catB_lt l j
        · exact (by decide : 0 < 256)))
      have HOk := Lib.hid (HO.out HE.out)
      clear e
      go_wp2_with fail
      refine HSt.out.mono ?_; rintro e w2 ⟨rfl, hw2⟩
      have HW2 := Lib.hid (HW.out.trans hw2)
      clear hw2
      go_wp2_with fail
      go_ret2
      rw [HE.out, HOk.out]
      exact ⟨rfl, HW2.out⟩
theorem join_any (A : Option Addr) (m c : Nat) (l : List ByteArray) (n : Int) (w : World) (hl : Ss w A m l) (hm : m ≤ 40) (hs : ∀ j, j < m → (st_ l j).size ≤ 1100) :
    Calls Tryz.prog 23 #[.slice A m c, .int .i64 n] w (GivesTZ w (jOut l n) (jErr l n)) := by
  rcases Nat.eq_zero_or_pos m with rfl | h0
  · obtain rfl : l = [] := List.eq_nil_of_length_eq_zero hl.len
    exact join_none A c n w
  · by_cases h : ¬ alike l ∨ n < 0 ∨ ((catB l).length : Int) < n
    · have hz : jErr l n ≠ 0 := by
        have hP : 0 < l.length := by rw [hl.len]; exact h0
        by_cases ha : alike l
        · rw [jErr_range hP ha (h.resolve_left (fun x => x ha))]; decide
        · rw [jErr_unlike hP ha]; decide
      rw [jOut_err hz]
      exact join_bad A m c l n w hl h0 hm hs h
    · have ha : alike l := Classical.not_not.1 fun x => h (.inl x)
      obtain ⟨k, rfl⟩ := Int.eq_ofNat_of_zero_le (show 0 ≤ n from Int.not_lt.1 fun x => h (.inr (.inl x)))
      exact join_good A m c l k w hl h0 hm hs ha (by
        have := Int.not_lt.1 fun x => h (.inr (.inr x))
        omega)
end Go.Proofs.YtooegclblgeicaaGreatDoor

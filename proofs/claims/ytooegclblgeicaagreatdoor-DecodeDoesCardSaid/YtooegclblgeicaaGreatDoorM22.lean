/- Proved: lemmas of one statement's proof, merged by program: what each part proves stands ahead of it. Conditions: those that the lemmas name. -/
import Derived.Test.YtooegclblgeicaaGreatDoorM21
import Derived.IntWalk
import Derived.Deep.AppendLies
import Derived.Deep.QuietTactic
import Derived.BigQuiet

/- Proved: what Size answers, the program's and the document's, for every two numbers. Conditions: those that each lemma names. -/
namespace Go.Proofs.YtooegclblgeicaaGreatDoor
open Go.ChangeShapes Go.WideShapes Go.ChangeAt Go.RowKit

theorem i64_hi {a : Int} (h : (Lit.int .i64 a).wf = true) : -9223372036854775808 ≤ a ∧ a ≤ 9223372036854775807 := by
  simpa [Lit.wf, IntKind.min, IntKind.max, IntKind.signed, IntKind.bits] using h
theorem size_fits {a b : Int} (h : (Lit.int .i64 a).wf = true) (ha : 0 ≤ a) (hb : 1 ≤ b) (g : a % b ≠ 0) : wrap64 (a / b + 1) = a / b + 1 := by
  have h1 := (i64_hi h).2
  have h2 : 2 ≤ b := by
    rcases Int.lt_or_le b 2 with h3 | h3
    · have : b = 1 := by omega
      subst this; omega
    · exact h3
  have h5 : 2 * (a / b) ≤ b * (a / b) := Int.mul_le_mul_of_nonneg_right h2 (Int.ediv_nonneg ha (by omega))
  have h6 := Int.mul_ediv_add_emod a b
  have h7 := Int.emod_nonneg a (show b ≠ 0 by omega)
  have h4 : 0 ≤ a / b := Int.ediv_nonneg ha (by omega)
  exact IntWalk.wrap64_in _ ⟨by omega, by omega⟩
theorem quo_fits {a b : Int} (h : (Lit.int .i64 a).wf = true) (ha : 0 ≤ a) (hb : 1 ≤ b) : wrap64 (a.tdiv b) = a / b := by
  have h1 := (i64_hi h).2
  have h4 : 0 ≤ a / b := Int.ediv_nonneg ha (by omega)
  have h5 : 1 * (a / b) ≤ b * (a / b) := Int.mul_le_mul_of_nonneg_right hb h4
  have h6 := Int.mul_ediv_add_emod a b
  have h7 := Int.emod_nonneg a (show b ≠ 0 by omega)
  rw [Int.tdiv_eq_ediv_of_nonneg ha]
  exact IntWalk.wrap64_in _ ⟨by omega, by omega⟩
set_option maxHeartbeats 400000 in
theorem size_any (a b : Int) (w : World) (wa : (Lit.int .i64 a).wf = true) :
    Calls Tryz.prog 42 #[.int .i64 a, .int .i64 b] w fun e w' => e = .returned (.int .i64 (sizeZ a b)) ∧ w = w' := by
  have W := Lib.hid wa
  clear wa
  by_cases ha : a < 0
  · go_enter Tryz.func42, Tryz.ntmps42
    go_wp2
    go_ret
    exact ⟨ret_int (sizeZ_none (Or.inl ha)).symm, rfl⟩
  · have ha' : 0 ≤ a := by omega
    by_cases hb : b < 1
    · go_enter Tryz.func42, Tryz.ntmps42
      go_wp2
      go_ret
      exact ⟨ret_int (sizeZ_none (Or.inr hb)).symm, rfl⟩
    · have hb' : 1 ≤ b := by omega
      clear hb ha
      by_cases hr : a % b = 0
      · have he := sizeZ_even ha' hb' hr
        have HE := Lib.hid he
        clear he
        have hr2 : (a % b == 0) = true := by simpa using hr
        go_enter Tryz.func42, Tryz.ntmps42
        go_wp2
        go_ret
        exact ⟨ret_int (by rw [quo_fits W.out ha' hb', HE.out]), rfl⟩
      · have HE := Lib.hid (sizeZ_odd ha' hb' hr)
        have HF := Lib.hid (size_fits W.out ha' hb' hr)
        have hr2 : (a % b == 0) = false := by simpa using hr
        go_enter Tryz.func42, Tryz.ntmps42
        go_wp2
        go_ret
        exact ⟨ret_int (by rw [quo_fits W.out ha' hb', HF.out, HE.out]), rfl⟩
end Go.Proofs.YtooegclblgeicaaGreatDoor

/- Proved: what the document's Cut answers, for every text and every number. Conditions: those that the theorems name. -/
namespace Go.Proofs.YtooegclblgeicaaGreatDoor
open Go.ChangeShapes Go.WideShapes Go.ChangeAt Go.RowKit

/-- Texts and an error come back; nothing that was there has turned. -/
def GivesSZ (W : World) (l : List ByteArray) (z : Int) (e : Ending) (w' : World) : Prop :=
  ∃ A n c, e = .returned (.tuple #[.slice A n c, .int .i64 z]) ∧ Ss w' A n l ∧ Below W.heap.size W w'
/-- a text with p bytes 0 behind. -/
def pad (s : ByteArray) (p : Nat) : ByteArray := tx (bts s ++ List.replicate p 0)
theorem pad_zero (s : ByteArray) : pad s 0 = s := by unfold pad; simp [tx_bts]
theorem pad_size (s : ByteArray) (p : Nat) : (pad s p).size = s.size + p := by unfold pad; rw [tx_size, List.length_append, bts_len, List.length_replicate]
theorem getD_append_zeros (l : List Nat) (p j : Nat) : (l ++ List.replicate p 0).getD j 0 = l.getD j 0 := by
  rw [List.getD_eq_getElem?_getD, List.getD_eq_getElem?_getD]
  rcases Nat.lt_or_ge j l.length with h | h
  · rw [List.getElem?_append_left h]
  · rw [List.getElem?_append_right h, List.getElem?_replicate, List.getElem?_eq_none h]
    split <;> rfl
theorem bts_pad (s : ByteArray) (p : Nat) : bts (pad s p) = bts s ++ List.replicate p 0 := by
  unfold pad
  exact bts_tx fun j => by rw [getD_append_zeros]; exact bts_lt s j
theorem bts_append (s t : ByteArray) : bts (s ++ t) = bts s ++ bts t := by
  unfold bts
  rw [ByteArray.data_append]
  simp
theorem pad_succ (s : ByteArray) (p : Nat) : pad s p ++ ⟨#[0]⟩ = pad s (p + 1) := by
  apply bts_inj
  rw [bts_append, bts_pad, bts_pad, List.append_assoc]
  congr 1
  show List.replicate p 0 ++ [0] = _
  rw [List.replicate_succ']
theorem bts_extract (s : ByteArray) (a b : Nat) : bts (s.extract a b) = ((bts s).take b).drop a := by
  unfold bts
  rw [ByteArray.data_extract]
  simp [List.map_drop, List.map_take, List.extract_eq_take_drop, List.drop_take]
theorem piece_of {s : ByteArray} {m p i : Nat} (h : i * m + m ≤ s.size + p) : (pad s p).extract (i * m) (i * m + m) = piece m s i := by
  apply bts_inj
  rw [bts_extract, bts_piece, bts_pad]
  refine eq_mk ?_ fun j hj => ?_
  · rw [List.length_drop, List.length_take, List.length_append, bts_len, List.length_replicate]; omega
  · rw [← getD_append_zeros (bts s) p (i * m + j)]
    rw [List.getD_eq_getElem?_getD, List.getD_eq_getElem?_getD, List.getElem?_drop, List.getElem?_take, if_pos (by omega)]

end Go.Proofs.YtooegclblgeicaaGreatDoor

/- Proved: what the document's Join answers, for all texts within the given bounds and every number. Conditions: those that the theorems name. -/
namespace Go.Proofs.YtooegclblgeicaaGreatDoor
open Go.ChangeShapes Go.WideShapes Go.ChangeAt Go.RowKit

/-- A text and an error come back; nothing that was there has turned. -/
def GivesTZ (W : World) (t : ByteArray) (z : Int) (e : Ending) (w' : World) : Prop :=
  e = .returned (.tuple #[.string t, .int .i64 z]) ∧ Below W.heap.size W w'
theorem tx_append {l : List Nat} (h : ∀ j, l.getD j 0 < 256) (t : ByteArray) : tx l ++ t = tx (l ++ bts t) := by
  apply bts_inj
  rw [bts_append, bts_tx h, bts_tx]
  intro j
  rw [List.getD_eq_getElem?_getD]
  rcases Nat.lt_or_ge j l.length with hj | hj
  · rw [List.getElem?_append_left hj, ← List.getD_eq_getElem?_getD]; exact h j
  · rw [List.getElem?_append_right hj, ← List.getD_eq_getElem?_getD]; exact bts_lt t _
theorem index_at (s : ByteArray) (j : Nat) (h : j < s.size) (W : World) : (Instr.index 9 (Value.string s) (Value.int .i64 (j : Int))).run Tryz.prog W = .ok (Value.int .u8 ((bts s).getD j 0 : Nat)) W := by
  rw [run_index_string W 9 s .i64 (j : Int) Tryz.underlying9, dif_pos ⟨by omega, by omega⟩]
  have : (bts s).getD j 0 = s[j].toNat := by
    unfold bts
    rw [List.getD_eq_getElem?_getD, List.getElem?_map, Array.getElem?_toList, Array.getElem?_eq_getElem h]; rfl
  rw [this]; rfl
theorem tx_take {l : List Nat} (h : ∀ j, l.getD j 0 < 256) (n : Nat) : (tx l).extract 0 n = tx (l.take n) := by
  apply bts_inj
  rw [bts_extract, bts_tx h, bts_tx, List.drop_zero]
  intro j
  rw [List.getD_eq_getElem?_getD, List.getElem?_take]
  split
  · rw [← List.getD_eq_getElem?_getD]; exact h j
  · exact (by decide : 0 < 256)
set_option maxRecDepth 100000 in
theorem catB_bound (l : List ByteArray) (r : Nat) (h : ∀ j, j < r → (st_ l j).size ≤ 1100) : (catB (l.take r)).length ≤ r * 1100 := by
  induction r with
  | zero => simp [catB]
  | succ r ih =>
    have := ih fun j hj => h j (by omega)
    rcases Nat.lt_or_ge r l.length with h1 | h1
    · rw [catB_take h1, List.length_append, bts_len]
      have := h r (by omega)
      omega
    · rw [List.take_of_length_le (by omega)]
      rw [List.take_of_length_le (by omega)] at this
      omega
/-- the first r texts are as long as the first one. -/
def AlikeTo (l : List ByteArray) (r : Nat) : Prop := ∀ j, j < r → (st_ l j).size = (st_ l 0).size
theorem AlikeTo.next {l : List ByteArray} {r : Nat} (h : AlikeTo l r) (g : (st_ l r).size = (st_ l 0).size) : AlikeTo l (r + 1) := fun j hj => by
  rcases Nat.lt_or_ge j r with h1 | h1
  · exact h j h1
  · rw [show j = r by omega]; exact g
/-- the bytes from place n up to place j are 0. -/
def ZerosTo (b : List Nat) (n j : Nat) : Prop := ∀ i, n ≤ i → i < j → b.getD i 0 = 0
theorem ZerosTo.next {b : List Nat} {n j : Nat} (h : ZerosTo b n j) (g : b.getD j 0 = 0) : ZerosTo b n (j + 1) := fun i h1 h2 => by
  rcases Nat.lt_or_ge i j with h3 | h3
  · exact h i h1 h3
  · rw [show i = j by omega]; exact g
theorem drop_atC (b : List Nat) (n j : Nat) : (b.drop n).getD j 0 = b.getD (n + j) 0 := by
  rw [List.getD_eq_getElem?_getD, List.getD_eq_getElem?_getD, List.getElem?_drop]
theorem ZerosTo.done {b : List Nat} {n : Nat} (h : ZerosTo b n b.length) : zerosB (b.drop n) = true := (zerosB_iff _).2 fun j => by
  rw [drop_atC]
  rcases Nat.lt_or_ge (n + j) b.length with h1 | h1
  · exact h _ (by omega) h1
  · exact getD_past _ _ h1
theorem zeros_not {b : List Nat} {n j : Nat} (h : n ≤ j) (g : b.getD j 0 ≠ 0) : zerosB (b.drop n) = false := by
  rw [Bool.eq_false_iff]
  intro e
  refine g ?_
  have := (zerosB_iff _).1 e (j - n)
  rwa [drop_atC, show n + (j - n) = j by omega] at this

set_option maxHeartbeats 400000 in
theorem rjoin_none (A : Option Addr) (c : Nat) (n : Int) (w : World) :
    Calls Tryz.prog 11 #[.slice A 0 c, .int .i64 n] w (GivesTZ w S0 1) := by
  go_enter Tryz.func11, Tryz.ntmps11
  go_wp2_with fail
  go_ret2
  exact ⟨rfl, Below.refl _ _⟩
set_option maxRecDepth 100000 in
set_option maxHeartbeats 1600000 in
theorem rjoin_some (A : Option Addr) (m c : Nat) (l : List ByteArray) (n : Int) (w : World) (hl : Ss w A m l) (h0 : 0 < m) (hm : m ≤ 40) (hs : ∀ j, j < m → (st_ l j).size ≤ 1100) :
    Calls Tryz.prog 11 #[.slice A m c, .int .i64 n] w (GivesTZ w (jOut l n) (jErr l n)) := by
  have HL := Lib.hid hl
  have HS := Lib.hid hs
  have HN := Lib.hid hl.len
  have h0' : (0 : Int) < (m : Int) := by omega
  have hmi : (m : Int) ≤ 40 := by omega
  have hm0 : ((m : Int) == 0) = false := by simp; omega
  clear hl hs
  obtain ⟨ad, rfl, had, hc0⟩ := HL.out.at_ h0
  rw [Addr.add_zero' ad] at hc0
  go_enter Tryz.func11, Tryz.ntmps11
  go_wp2_with fail
  go_loopw [6, 7] (fun v i wr => ∃ r : Nat, r ≤ m ∧ i = .int .i64 r ∧ v = .string (tx (catB (l.take r))) ∧ AlikeTo l r ∧ ∃ q, wr = w.drewN q) (fun _ i _ => m - (intOf i).toNat)
  case atStart => exact ⟨0, by omega, rfl, by simp [catB]; rfl, fun j hj => absurd hj (by omega), 0, rfl⟩
  case round =>
    obtain ⟨r, hr, rfl, rfl, hal, q, rfl⟩ := hrel
    have HA := Lib.hid hal
    clear hal
    by_cases hlt : r < m
    · obtain ⟨ad', e', _, hc⟩ := HL.out.at_ hlt
      cases e'
      have hsz0 := HS.out 0 h0
      have hszr := HS.out r hlt
      have HNx := Lib.hid (tx_append (catB_lt (l.take r)) (st_ l r))
      rw [← catB_take (by rw [HN.out]; exact hlt)] at HNx
      have hov : (tx (catB (l.take r))).size + (st_ l r).size ≤ 45100 := by
        have h1 := catB_bound l r (fun j hj => HS.out j (by omega))
        rw [tx_size]
        omega
      have HAn := Lib.hid (fun g => HA.out.next g)
      have HAb := Lib.hid (fun (g : (st_ l r).size ≠ (st_ l 0).size) => jErr_unlike (l := l) (n := n) (by rw [HN.out]; exact h0) (fun a => g (a r (by rw [HN.out]; exact hlt))))
      generalize st_ l r = t at *
      generalize st_ l 0 = t0 at *
      have hlt' : (r : Int) < (m : Int) := by omega
      have hr0 : (0 : Int) ≤ (r : Int) := Int.natCast_nonneg _
      by_cases hne : t.size = t0.size
      · have hne' : ((t.size : Int) != (t0.size : Int)) = false := by simp [hne]
        have hne2 : ((t.size : Int) == (t0.size : Int)) = true := by simp [hne]
        have HE := Lib.hid hne
        clear hne
        go_wp2_with fail
        go_quiet (fail)
        go_wp2_with fail
        go_roundw
        case rel => exact ⟨r + 1, by omega, by go_num, by rw [HNx.out], HAn.out HE.out, _, rfl⟩
        case measure => simp [intOf]; omega
      · have hne' : ((t.size : Int) != (t0.size : Int)) = true := by simp; omega
        have hne2 : ((t.size : Int) == (t0.size : Int)) = false := by simp; omega
        have HE := Lib.hid (HAb.out hne)
        clear hne
        go_wp2_with fail
        go_quiet (fail)
        go_wp2_with fail
        go_ret2
        rw [HE.out, jOut_err (by rw [HE.out]; decide)]
        exact ⟨rfl, below_drawn_of (below_drawn_of (Below.refl _ _) _) _⟩
    · obtain rfl : r = m := by omega
      clear hc0
      have HAl : Hid (alike l) := Lib.hid (fun j hj => HA.out j (by rw [← HN.out]; exact hj))
      have e : l.take r = l := List.take_of_length_le (by rw [HN.out]; exact Nat.le_refl _)
      rw [e]
      have hb := catB_bound l r HS.out
      rw [e] at hb
      have HP := Lib.hid (show 0 < l.length by rw [HN.out]; exact h0)
      have hsz := tx_size (catB l)
      have hbi : ((tx (catB l)).size : Int) ≤ 44000 := by rw [hsz]; omega
      clear e hb
      by_cases hn : n < 0
      · have HE := Lib.hid (jErr_range HP.out HAl.out (Or.inl hn))
        clear hsz
        go_wp2_with fail
        go_ret2
        rw [HE.out, jOut_err (by rw [HE.out]; decide)]
        exact ⟨rfl, below_drawn_of (Below.refl _ _) _⟩
      · by_cases hn2 : ((tx (catB l)).size : Int) < n
        · have HE := Lib.hid (jErr_range (n := n) HP.out HAl.out (Or.inr (by rw [← hsz]; exact hn2)))
          have hn' : 0 ≤ n := by omega
          clear hsz hn
          go_wp2_with fail
          go_ret2
          rw [HE.out, jOut_err (by rw [HE.out]; decide)]
          exact ⟨rfl, below_drawn_of (Below.refl _ _) _⟩
        · obtain ⟨k, rfl⟩ := Int.eq_ofNat_of_zero_le (show 0 ≤ n by omega)
          have hk : k ≤ (catB l).length := by rw [← hsz]; omega
          have hn' : (0 : Int) ≤ (k : Int) := by omega
          have hn3 : (k : Int) ≤ ((tx (catB l)).size : Int) := by omega
          have HB := Lib.hid (bts_tx (catB_lt l))
          have HSz := Lib.hid hsz
          have HTk := Lib.hid (tx_take (catB_lt l) k)
          have HLt := Lib.hid (catB_lt l)
          have HE5 := Lib.hid (fun z => jErr_form (n := k) HP.out HAl.out hk z)
          have HE0 := Lib.hid (fun z => jErr_ok (n := k) HP.out HAl.out hk z)
          have HO := Lib.hid (fun h => jOut_ok (l := l) (n := k) h)
          have HO5 := Lib.hid (fun h => jOut_err (l := l) (n := (k : Int)) h)
          clear hn hn2 hsz
          generalize catB l = b at *
          generalize tx b = T at *
          generalize jErr l (k : Int) = z at *
          generalize jOut l (k : Int) = o at *
          have HK := Lib.hid hk
          clear hk
          go_wp2_with fail
          go_loop [8] (fun i => ∃ j : Nat, k ≤ j ∧ j ≤ b.length ∧ i = .int .i64 j ∧ ZerosTo b k j) (fun i => b.length - (intOf i).toNat)
          case atStart => exact ⟨k, Nat.le_refl _, HK.out, rfl, fun i h1 h2 => absurd h1 (by omega)⟩
          case round =>
            obtain ⟨j, hj1, hj2, rfl, hz⟩ := hrel
            have HZ := Lib.hid hz
            clear hz
            by_cases hlt2 : j < b.length
            · have hjT : (j : Int) < (T.size : Int) := by rw [HSz.out]; omega
              have hj0 : (0 : Int) ≤ (j : Int) := Int.natCast_nonneg _
              have hix := index_at T j (by omega)
              rw [HB.out] at hix
              have HZn := Lib.hid (fun g => HZ.out.next g)
              have HZx := Lib.hid (fun g => zeros_not (b := b) hj1 g)
              generalize b.getD j 0 = y at *
              by_cases hy : y = 0
              · subst hy
                go_wp2_with fail
                go_round
                case rel => exact ⟨j + 1, by omega, by omega, by go_num, HZn.out rfl⟩
                case measure => simp [intOf]; omega
              · have hy' : ((y : Int) != 0) = true := by simp; omega
                have hy2 : ((y : Int) == 0) = false := by simp; omega
                have HE := Lib.hid (HE5.out (HZx.out hy))
                clear hy
                go_wp2_with fail
                go_ret2
                rw [HE.out, HO5.out (by rw [HE.out]; decide)]
                exact ⟨rfl, below_drawn_of (Below.refl _ _) _⟩
            · obtain rfl : j = b.length := by omega
              have HE := Lib.hid (HE0.out HZ.out.done)
              have hjT : ¬ (b.length : Int) < (T.size : Int) := by rw [HSz.out]; omega
              have hsl : ∀ W, (Instr.slice 9 (Value.string T) none (some (Value.int .i64 (k : Int))) none).run Tryz.prog W = .ok (Value.string (tx (b.take k))) W := fun W => by
                rw [run_slice_string_to_if W 9 T _ _ Tryz.underlying9, if_pos ⟨hn', hn3⟩]
                show Result.ok (Value.string (T.extract 0 k)) W = _
                rw [HTk.out]
              go_wp2_with fail
              go_ret2
              rw [HE.out, HO.out HE.out]
              exact ⟨rfl, below_drawn_of (Below.refl _ _) _⟩
theorem rjoin_any (A : Option Addr) (m c : Nat) (l : List ByteArray) (n : Int) (w : World) (hl : Ss w A m l) (hm : m ≤ 40) (hs : ∀ j, j < m → (st_ l j).size ≤ 1100) :
    Calls Tryz.prog 11 #[.slice A m c, .int .i64 n] w (GivesTZ w (jOut l n) (jErr l n)) := by
  rcases Nat.eq_zero_or_pos m with rfl | h0
  · obtain rfl : l = [] := List.eq_nil_of_length_eq_zero hl.len
    exact rjoin_none A c n w
  · exact rjoin_some A m c l n w hl h0 hm hs
end Go.Proofs.YtooegclblgeicaaGreatDoor

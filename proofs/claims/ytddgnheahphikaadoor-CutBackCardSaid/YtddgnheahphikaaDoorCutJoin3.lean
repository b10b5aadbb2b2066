/- Proved: what the program's Join answers, for all texts within the given bounds and every number. Conditions: those that the theorems name. -/
import Derived.Test.YtddgnheahphikaaDoorCutJoin2
namespace Go.Proofs.YtddgnheahphikaaDoor
open Go.ChangeShapes Go.WideShapes Go.ChangeAt Go.RowKit

set_option maxHeartbeats 400000 in
theorem join_none (A : Option Addr) (c : Nat) (n : Int) (w : World) :
    Calls Tryd.prog 12 #[.slice A 0 c, .int .i64 n] w (GivesTZ w S0 1) := by
  go_enter Tryd.func12, Tryd.ntmps12
  go_wp2_with fail
  go_ret2
  exact ⟨rfl, Below.refl _ _⟩
set_option maxHeartbeats 800000 in
theorem join_bad (A : Option Addr) (m c : Nat) (l : List ByteArray) (n : Int) (w : World) (hl : Ss w A m l) (h0 : 0 < m) (hm : m ≤ 40) (hs : ∀ j, j < m → (st_ l j).size ≤ 1100) (h : ¬ alike l ∨ n < 0 ∨ ((catB l).length : Int) < n) :
    Calls Tryd.prog 12 #[.slice A m c, .int .i64 n] w (GivesTZ w S0 (jErr l n)) := by
  have HC := Lib.hid (alike_any A m c l w hl h0 hm)
  have HN := Lib.hid hl.len
  have hP : 0 < l.length := by rw [HN.out]; exact h0
  obtain ⟨ad, rfl, had, hc0⟩ := hl.at_ h0
  rw [Addr.add_zero' ad] at hc0
  have hs0 := hs 0 h0
  have h0' : (0 : Int) < (m : Int) := by omega
  have hmi : (m : Int) ≤ 40 := by omega
  have hm0 : ((m : Int) == 0) = false := by simp; omega
  by_cases ha : alike l
  · have hz : (m : Int) * ((st_ l 0).size : Int) = ((catB l).length : Int) := by rw [catB_size ha, HN.out]; simp
    have h' : n < 0 ∨ ((catB l).length : Int) < n := h.resolve_left (fun x => x ha)
    have HE := Lib.hid (jErr_range hP ha h')
    rw [decide_eq_true ha] at HC
    have hzb : ((catB l).length : Int) ≤ 44000 := by
      have := catB_bound l m hs
      rw [List.take_of_length_le (by rw [HN.out]; exact Nat.le_refl _)] at this
      omega
    generalize st_ l 0 = t0 at *
    generalize (catB l).length = z at *
    clear hl hs h ha
    by_cases hn : n < 0
    · clear h'
      go_enter Tryd.func12, Tryd.ntmps12
      go_wp2_with fail
      refine HC.out.mono ?_; rintro e w' ⟨rfl, rfl⟩
      go_wp2_with fail
      go_ret2
      rw [HE.out]
      exact ⟨rfl, Below.refl _ _⟩
    · have hn' : 0 ≤ n := by omega
      have hn2 : (z : Int) < n := h'.resolve_left hn
      clear h' hn
      go_enter Tryd.func12, Tryd.ntmps12
      go_wp2_with fail
      refine HC.out.mono ?_; rintro e w' ⟨rfl, rfl⟩
      go_wp2_with fail
      go_ret2
      rw [HE.out]
      exact ⟨rfl, Below.refl _ _⟩
  · have HE := Lib.hid (jErr_unlike (n := n) hP ha)
    rw [decide_eq_false ha] at HC
    clear hl hs h ha hc0
    go_enter Tryd.func12, Tryd.ntmps12
    go_wp2_with fail
    refine HC.out.mono ?_; rintro e w' ⟨rfl, rfl⟩
    go_wp2_with fail
    go_ret2
    rw [HE.out]
    exact ⟨rfl, Below.refl _ _⟩

set_option maxRecDepth 100000 in
set_option maxHeartbeats 1600000 in
theorem join_good (A : Option Addr) (m c : Nat) (l : List ByteArray) (n : Nat) (w : World) (hl : Ss w A m l) (h0 : 0 < m) (hm : m ≤ 40) (hs : ∀ j, j < m → (st_ l j).size ≤ 1100) (ha : alike l) (hn : n ≤ (catB l).length) :
    Calls Tryd.prog 12 #[.slice A m c, .int .i64 (n : Nat)] w (GivesTZ w (jOut l n) (jErr l n)) := by
  have HC := Lib.hid (alike_any A m c l w hl h0 hm)
  rw [decide_eq_true ha] at HC
  have HN := Lib.hid hl.len
  have hP : 0 < l.length := by rw [HN.out]; exact h0
  have HL := Lib.hid hl
  have HS := Lib.hid hs
  obtain ⟨ad, rfl, had, hc0⟩ := hl.at_ h0
  rw [Addr.add_zero' ad] at hc0
  have hs0 := hs 0 h0
  have hz : (m : Int) * ((st_ l 0).size : Int) = ((catB l).length : Int) := by rw [catB_size ha, HN.out]; simp
  have HE5 := Lib.hid (fun z => jErr_form (n := n) hP ha hn z)
  have HE0 := Lib.hid (fun z => jErr_ok (n := n) hP ha hn z)
  have HO := Lib.hid (fun h => jOut_ok (l := l) (n := n) h)
  have HO5 := Lib.hid (fun h => jOut_err (l := l) (n := (n : Int)) h)
  have hzb := catB_bound l m hs
  rw [List.take_of_length_le (by rw [HN.out]; exact Nat.le_refl _)] at hzb
  have h0' : (0 : Int) < (m : Int) := by omega
  have hmi : (m : Int) ≤ 40 := by omega
  have hm0 : ((m : Int) == 0) = false := by simp; omega
  have hni : (n : Int) ≤ ((catB l).length : Int) := by omega
  have hn0 : (0 : Int) ≤ (n : Int) := Int.natCast_nonneg _
  have hnb : (n : Int) ≤ 44000 := by omega
  have HNB := Lib.hid (show n ≤ 44000 by omega)
  have hzi : ((catB l).length : Int) ≤ 44000 := by omega
  generalize hcl : (catB l).length = z at *
  clear hl hs ha hn hzb hcl
  go_enter Tryd.func12, Tryd.ntmps12
  go_wp2_with fail
  refine HC.out.mono ?_; rintro e w' ⟨rfl, rfl⟩
  go_wp2_with fail
  have HG := Lib.hid (grow_any w.heap.size n (w.alloc (.cells #[.pointer none, .slice none 0 0] 45)) (heap_alloc_new w _) HNB.out)
  have HB0 := Lib.hid ((Below.refl w.heap.size w).alloc (Nat.le_refl _) (.cells #[.pointer none, .slice none 0 0] 45))
  generalize w.alloc (.cells #[.pointer none, .slice none 0 0] 45) = W0 at *
  refine HG.out.mono ?_; rintro e w1 ⟨rfl, hb1, hw1⟩
  have HB1 := Lib.hid hb1
  have HW1 := Lib.hid (HB0.out.trans hw1)
  clear hb1 hw1 HG HB0 hc0
  go_wp2_with fail
  clear hz hzi hni hs0
  generalize st_ l 0 = t0 at *
  go_loopw [33] (fun i wr => ∃ r : Nat, r ≤ m ∧ i = .int .i64 r ∧ Built w.heap.size ((catB (l.take r)).take n) wr ∧ zerosFrom n (catB (l.take r)) ∧ Below w.heap.size w wr) (fun i _ => m - (intOf i).toNat)
  case atStart => exact ⟨0, by omega, rfl, by simpa [catB] using HB1.out, fun j _ => by simp [catB], HW1.out⟩
  case round =>
    obtain ⟨r, hr, rfl, hb, hzf, hw⟩ := hrel
    have HB := Lib.hid hb
    have HW := Lib.hid hw
    have HZf := Lib.hid hzf
    clear hb hw hzf HB1 HW1
    by_cases hlt : r < m
    · have hlt' : (r : Int) < (m : Int) := by omega
      have hr0 : (0 : Int) ≤ (r : Int) := Int.natCast_nonneg _
      obtain ⟨ad', e', _, hc⟩ := HL.out.at_ hlt
      cases e'
      have hc1 : wr.cell? (ad.add r) = some (.string (st_ l r)) := (HW.out.cell (by rw [add_block]; exact had)).trans hc
      have hrl : r < l.length := by rw [HN.out]; exact hlt
      have HCt := Lib.hid (catB_take hrl)
      have HSp := Lib.hid (catB_split l (r + 1))
      have htz := HS.out r hlt
      have htl := bts_len (st_ l r)
      clear hc
      generalize st_ l r = t at *
      generalize hC : catB (l.take r) = C at *
      generalize hLn : (C.take n).length = q at *
      have hqn : q ≤ n := by rw [← hLn, List.length_take]; omega
      obtain ⟨kp, hkp⟩ : ∃ kp, kp = min (bts t).length (n - q) := ⟨_, rfl⟩
      have hkp' : kp = min (bts t).length (n - (C.take n).length) := by rw [hLn]; exact hkp
      have HNx := Lib.hid (join_next hkp')
      have HZn := Lib.hid (fun z => join_zeros hkp' HZf.out z)
      have HFm := Lib.hid (fun z => join_form (D := catB (l.drop (r + 1))) hkp' z)
      rw [← HCt.out] at HNx HZn HFm
      rw [← HSp.out] at HFm
      have HLen := Lib.hid (len_any w.heap.size q (C.take n) wr HB.out hLn)
      have hk1 : kp ≤ t.size := by rw [hkp, htl]; omega
      have hk2 : kp ≤ n - q := by rw [hkp]; omega
      have hsl1 : ∀ W, (Instr.slice 9 (Value.string t) none (some (Value.int .i64 (kp : Int))) none).run Tryd.prog W = .ok (Value.string (t.extract 0 kp)) W := fun W => by
        rw [run_slice_string_to_if W 9 t _ _ Tryd.underlying9, if_pos ⟨by omega, by omega⟩]; rfl
      have hsl2 : ∀ W, (Instr.slice 9 (Value.string t) (some (Value.int .i64 (kp : Int))) none none).run Tryd.prog W = .ok (Value.string (t.extract kp t.size)) W := fun W => by
        rw [run_slice_string_from_if W 9 t _ _ Tryd.underlying9, if_pos ⟨by omega, by omega⟩]; rfl
      have ht1 : bts (t.extract 0 kp) = (bts t).take kp := by rw [bts_extract, List.drop_zero]
      have ht2 : bts (t.extract kp t.size) = (bts t).drop kp := by rw [bts_extract, List.take_of_length_le (by rw [htl]; exact Nat.le_refl _)]
      have hz1 : (t.extract 0 kp).size = kp := by rw [← bts_len, ht1, List.length_take, htl]; omega
      have hz2 : (t.extract kp t.size).size ≤ 44000 := by rw [← bts_len, ht2, List.length_drop, htl]; omega
      have HWr := Lib.hid (write_any w.heap.size (C.take n) (t.extract 0 kp) wr HB.out (by rw [hLn, hz1]; have := HNB.out; omega))
      rw [ht1, HNx.out] at HWr
      have HZr := Lib.hid (fun w => zeros_any (t.extract kp t.size) w hz2)
      rw [ht2] at HZr
      generalize t.extract 0 kp = t1 at *
      generalize t.extract kp t.size = t2 at *
      have hmin : min (t.size : Int) ((n : Int) - (q : Int)) = (kp : Int) := by rw [hkp, htl]; omega
      have hkpb : (kp : Int) ≤ 1100 := by omega
      have hqb : (q : Int) ≤ (n : Int) := by omega
      have hq0 : (0 : Int) ≤ (q : Int) := Int.natCast_nonneg _
      have hkp0 : (0 : Int) ≤ (kp : Int) := Int.natCast_nonneg _
      have htb : (t.size : Int) ≤ 1100 := by omega
      clear hkp hkp' hC hLn ht1 ht2 hz1 hz2 htl hk1 hk2 hqn htz HNx
      generalize zerosB ((bts t).drop kp) = b at *
      have hkt : (kp : Int) ≤ (t.size : Int) := by omega
      go_wp2_with fail
      refine HLen.out.mono ?_; rintro e w' ⟨rfl, rfl⟩
      go_wp2_with fail
      refine HWr.out.mono ?_; rintro e w2 ⟨rfl, hb2, hw2⟩
      have HB2 := Lib.hid hb2
      have HW2 := Lib.hid (HW.out.trans hw2)
      clear hb2 hw2
      go_wp2_with fail
      refine (HZr.out _).mono ?_; rintro e w3 ⟨rfl, u, rfl⟩
      cases b
      · have HE := Lib.hid (HE5.out (HFm.out rfl))
        clear hc1
        go_wp2_with fail
        go_ret2
        rw [HE.out, HO5.out (by rw [HE.out]; decide)]
        exact ⟨rfl, below_drawn_of HW2.out _⟩
      · clear hc1
        go_wp2_with fail
        go_roundw
        case rel => exact ⟨r + 1, by omega, by go_num, HB2.out.drawn _, HZn.out (by first | exact rfl | trivial), below_drawn_of HW2.out _⟩
        case measure => simp [intOf]; omega
    · obtain rfl : r = m := by omega
      have e : l.take r = l := List.take_of_length_le (by rw [HN.out]; exact Nat.le_refl _)
      rw [e] at HB HZf
      have HE := Lib.hid (HE0.out (join_done HZf.out))
      have HSt := Lib.hid (string_any w.heap.size _ wr HB.out (fun j => by
        rw [List.getD_eq_getElem?_getD, List.getElem?_take]
        split
        · rw [← List.getD_eq_getElem?_getD]; exact catB_lt l j
        · exact (by decide : 0 < 256)))
      have HOk := Lib.hid (HO.out HE.out)
      clear e
      go_wp2_with fail
      refine HSt.out.mono ?_; rintro e w2 ⟨rfl, hw2⟩
      have HW2 := Lib.hid (HW.out.trans hw2)
      clear hw2
      go_wp2_with fail
      go_ret2
      rw [HE.out, HOk.out]
      exact ⟨rfl, HW2.out⟩
theorem join_any (A : Option Addr) (m c : Nat) (l : List ByteArray) (n : Int) (w : World) (hl : Ss w A m l) (hm : m ≤ 40) (hs : ∀ j, j < m → (st_ l j).size ≤ 1100) :
    Calls Tryd.prog 12 #[.slice A m c, .int .i64 n] w (GivesTZ w (jOut l n) (jErr l n)) := by
  rcases Nat.eq_zero_or_pos m with rfl | h0
  · obtain rfl : l = [] := List.eq_nil_of_length_eq_zero hl.len
    exact join_none A c n w
  · by_cases h : ¬ alike l ∨ n < 0 ∨ ((catB l).length : Int) < n
    · have hz : jErr l n ≠ 0 := by
        have hP : 0 < l.length := by rw [hl.len]; exact h0
        by_cases ha : alike l
        · rw [jErr_range hP ha (h.resolve_left (fun x => x ha))]; decide
        · rw [jErr_unlike hP ha]; decide
      rw [jOut_err hz]
      exact join_bad A m c l n w hl h0 hm hs h
    · have ha : alike l := Classical.not_not.1 fun x => h (.inl x)
      obtain ⟨k, rfl⟩ := Int.eq_ofNat_of_zero_le (show 0 ≤ n from Int.not_lt.1 fun x => h (.inr (.inl x)))
      exact join_good A m c l k w hl h0 hm hs ha (by
        have := Int.not_lt.1 fun x => h (.inr (.inr x))
        omega)
end Go.Proofs.YtddgnheahphikaaDoor

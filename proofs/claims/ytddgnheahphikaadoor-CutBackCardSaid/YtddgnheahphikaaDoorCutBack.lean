/- Proved: the walk of the law that a text comes back from its shards. Conditions: those that the theorems name. -/
import Derived.Test.YtddgnheahphikaaDoorCutLaw
namespace Go.Proofs.YtddgnheahphikaaDoor
open Go.ChangeShapes Go.WideShapes Go.ChangeAt Go.RowKit

/-! ### shards in one are the text, with bytes 0 behind -/
theorem mk_append (a b : Nat) (f : Nat → Nat) : mk a f ++ mk b (fun j => f (a + j)) = mk (a + b) f := by
  unfold mk
  rw [List.range_add, List.map_append, List.map_map]; rfl
theorem mkS_all {k : Nat} {f : Nat → ByteArray} {j : Nat} (h : j < k) : st_ (mkS k f) j = f j := mkS_at k f j h
theorem cat_pieces (m : Nat) (s : ByteArray) (q : Nat) : catB (mkS q (piece m s)) = mk (q * m) fun j => (bts s).getD j 0 := by
  induction q with
  | zero => simp [catB, mkS, mk]
  | succ q ih =>
    rw [← mkS_succ, catB_snoc, ih, bts_piece, mk_append (q * m) m (fun j => (bts s).getD j 0), Nat.succ_mul]
theorem pieces_alike (m k : Nat) (s : ByteArray) (hk : 1 ≤ k) : alike (mkS k (piece m s)) := by
  intro j hj
  rw [mkS_len] at hj
  rw [mkS_all hj, mkS_all (by omega), piece_size, piece_size]
theorem back_err (m k : Nat) (s : ByteArray) (hk : 1 ≤ k) (h : s.size ≤ k * m) : jErr (mkS k (piece m s)) (s.size : Nat) = 0 := by
  refine jErr_ok (by rw [mkS_len]; exact hk) (pieces_alike m k s hk) (by rw [cat_pieces, mk_len]; exact h) ?_
  rw [zerosB_iff]
  intro j
  rw [drop_at, cat_pieces]
  rcases Nat.lt_or_ge (s.size + j) (k * m) with h1 | h1
  · rw [mk_at _ _ _ h1]
    exact getD_past _ _ (by rw [bts_len]; omega)
  · exact getD_past _ _ (by rw [mk_len]; exact h1)
theorem back_out (m k : Nat) (s : ByteArray) (hk : 1 ≤ k) (h : s.size ≤ k * m) : jOut (mkS k (piece m s)) (s.size : Nat) = s := by
  rw [jOut_ok (back_err m k s hk h), cat_pieces]
  have : (mk (k * m) fun j => (bts s).getD j 0).take s.size = bts s := by
    refine ext_at (n := s.size) (by rw [List.length_take, mk_len]; omega) (bts_len s) fun j hj => ?_
    rw [List.getD_eq_getElem?_getD, List.getElem?_take, if_pos hj, ← List.getD_eq_getElem?_getD, mk_at _ _ _ (by omega)]
  rw [this, tx_bts]

set_option maxRecDepth 100000 in
set_option maxHeartbeats 1600000 in
theorem back_walk (s : ByteArray) (a : Int) (w : World) (hs : s.size ≤ maxLen) (wa : (Lit.int .u8 a).wf = true) :
    Calls Tryd.prog 5 #[.string s, .int .u8 a] w fun e w' => e = .returned (.bool true) ∧ Below w.heap.size w w' := by
  have ha : 0 ≤ a ∧ a ≤ 255 := by simpa [Lit.wf, IntKind.min, IntKind.max, IntKind.signed, IntKind.bits] using wa
  obtain ⟨ha0, ha1⟩ := ha
  by_cases h : (s.size : Int) > 2000
  · go_enter Tryd.func5, Tryd.ntmps5
    go_wp2_with fail
    refine (wawake_any _).mono ?_; rintro e w1 ⟨rfl, g1⟩
    go_wp2_with fail
    go_ret
    exact ⟨rfl, g1⟩
  · have h' : (s.size : Int) ≤ 2000 := by omega
    have HS := Lib.hid hs
    obtain ⟨b, rfl⟩ := Int.eq_ofNat_of_zero_le ha0
    obtain ⟨p, hp⟩ : ∃ p, p = b % 32 := ⟨_, rfl⟩
    have hr : ((b : Int) % 32) = (p : Int) := by omega
    have hrb : (p : Int) ≤ 31 := by omega
    have hr0 : (0 : Int) ≤ (p : Int) := Int.natCast_nonneg _
    have HC := Lib.hid (fun w => cut_any s ((p : Int) + 1) w HS.out)
    clear hs h wa hp
    by_cases hz : cErrZ s.size ((p : Int) + 1) = 0
    · have hb : 1 ≤ s.size ∧ s.size ≤ (p + 1) * 1024 := by
        unfold cErrZ at hz
        split at hz
        · omega
        · split at hz
          · omega
          · omega
      have hk1 : (1 : Nat) ≤ p + 1 := by omega
      have ho : cOut s ((p : Int) + 1) = mkS (p + 1) (piece (szN s.size (p + 1)) s) := cOut_ok (k := p + 1) hk1 (by omega) hb.1 hb.2
      have hm := szN_le (n := s.size) (k := p + 1) (m := 1024) hk1 hb.2
      have hm2 := szN_holds (n := s.size) (k := p + 1) hk1
      rw [ho, hz] at HC
      generalize szN s.size (p + 1) = m at *
      have HE := Lib.hid (back_err m (p + 1) s hk1 hm2)
      have HO := Lib.hid (back_out m (p + 1) s hk1 hm2)
      have HSz : Hid (∀ j, j < p + 1 → (st_ (mkS (p + 1) (piece m s)) j).size ≤ 1100) := Lib.hid fun j hj => by rw [mkS_all hj, piece_size]; omega
      have HLn := Lib.hid (mkS_len (p + 1) (piece m s))
      generalize mkS (p + 1) (piece m s) = o at *
      have HP := Lib.hid (show p + 1 ≤ 40 by omega)
      clear hb hk1 ho hm hm2 hz
      go_enter Tryd.func5, Tryd.ntmps5
      go_wp2_with fail
      refine (HC.out _).mono ?_; rintro e w1 ⟨A1, n1, c1, rfl, h1, g1⟩
      obtain rfl : p + 1 = n1 := HLn.out.symm.trans h1.len
      have H1 := Lib.hid h1; have G1 := Lib.hid g1
      clear h1 g1
      go_wp2_with fail
      refine (join_as A1 (p + 1) c1 o (s.size : Nat) s 0 _ H1.out HP.out HSz.out HO.out HE.out).mono ?_; rintro e w2 ⟨rfl, g2⟩
      have G2 := Lib.hid (G1.out.trans (g2.mono G1.out.size))
      clear g2 H1 G1
      go_wp2_with fail
      refine (wawake_any _).mono ?_; rintro e w3 ⟨rfl, g3⟩
      have G3 := Lib.hid (G2.out.trans (g3.mono G2.out.size))
      clear g3 G2
      go_wp2_with fail
      go_ret
      exact ⟨rfl, G3.out⟩
    · have hz3 : cErrZ s.size ((p : Int) + 1) = 3 := by
        unfold cErrZ at hz ⊢
        rw [if_neg (by omega)] at hz ⊢
        split
        · rfl
        · rename_i h; rw [if_neg h] at hz; exact absurd rfl hz
      have hb : s.size < 1 ∨ 1024 * ((p : Int) + 1) < (s.size : Int) := by
        rcases Nat.lt_or_ge s.size 1 with h1 | h1
        · exact .inl h1
        · refine .inr ?_
          rcases Int.lt_or_le (1024 * ((p : Int) + 1)) (s.size : Int) with h2 | h2
          · exact h2
          · exact absurd (cErrZ_ok (by omega) (by omega) h1 (by omega)) hz
      rw [hz3, cOut_err hz] at HC
      clear hz hz3
      rcases hb with hb | hb
      · obtain rfl : s = S0 := size_zero (by omega)
        go_enter Tryd.func5, Tryd.ntmps5
        go_wp2_with fail
        refine (HC.out _).mono ?_; rintro e w1 ⟨A1, n1, c1, rfl, h1, g1⟩
        have G1 := Lib.hid g1
        clear h1 g1
        go_wp2_with fail
        refine (wawake_any _).mono ?_; rintro e w3 ⟨rfl, g3⟩
        have G3 := Lib.hid (G1.out.trans (g3.mono G1.out.size))
        clear g3 G1
        go_wp2_with fail
        go_ret
        exact ⟨rfl, G3.out⟩
      · have hne : s.toList.isEmpty = false := by
          rw [ByteArray.toList_eq, Bool.eq_false_iff]
          intro e
          have h1 := List.isEmpty_iff.1 e
          have h2 : s.size = 0 := by
            show s.data.toList.length = 0
            rw [h1]; rfl
          omega
        have hne2 : ¬ s.toList = [] := fun e => by rw [e] at hne; exact Bool.noConfusion hne
        go_enter Tryd.func5, Tryd.ntmps5
        go_wp2_with fail
        refine (HC.out _).mono ?_; rintro e w1 ⟨A1, n1, c1, rfl, h1, g1⟩
        have G1 := Lib.hid g1
        clear h1 g1
        go_wp2_with fail
        refine (wawake_any _).mono ?_; rintro e w3 ⟨rfl, g3⟩
        have G3 := Lib.hid (G1.out.trans (g3.mono G1.out.size))
        clear g3 G1
        go_wp2_with fail
        go_ret
        exact ⟨rfl, G3.out⟩
end Go.Proofs.YtddgnheahphikaaDoor

/- Proved: what the document's Set of timers answers. Conditions: those that the theorems name. -/
import Derived.Test.YtmjnlmcbcclbkaaTmRef
namespace Go.Proofs.Ytmjnlmcbcclbkaa
open Go.ChangeShapes Go.WideShapes Go.ChangeAt Go.RowKit

/-- Times come back, and a number; nothing that was there has turned. -/
def Gives13 (w : World) (l : List Tm) (z : Int) (e : Ending) (w' : World) : Prop := ∃ A n c, e = .returned (.tuple #[.slice A n c, .int .i64 z]) ∧ Ts w' A n l ∧ n ≤ c ∧ Below w.heap.size w w'
set_option maxRecDepth 100000 in
set_option maxHeartbeats 1600000 in
theorem rset_bad (A : Option Addr) (n c : Nat) (l : List Tm) (k : Ky) (z : Int) (w : World) (hl : Ts w A n l) (hc : n ≤ c) (hz : BadAt z) :
    Calls Try.prog 16 #[.slice A n c, kyV k, .int .i64 z] w (Gives13 w (setT l k z) (setTE z)) := by
  have e1 : setTE z = 2 := if_pos hz
  have e2 : setT l k z = l := if_pos hz
  rw [e1, e2]
  have B1 := (Below.refl w.heap.size w).alloc (Nat.le_refl _) (.cells [.int .i64 k.1, .int .u32 k.2].toArray 32)
  have HT := Lib.hid (hl.below B1)
  have HB := Lib.hid B1
  clear B1 e1 e2 hl
  obtain ⟨k0, k1⟩ := k
  rcases hz with h1 | h1
  · go_enter Try.func16, Try.ntmps16
    go_wp2_with fail
    go_ret2
    exact ⟨_, _, _, rfl, HT.out, hc, HB.out⟩
  · have h2 : ¬ z < 0 := by omega
    go_enter Try.func16, Try.ntmps16
    go_wp2_with fail
    go_ret2
    exact ⟨_, _, _, rfl, HT.out, hc, HB.out⟩
/-- a row's cells, given anew. -/
theorem At.three {w : World} {t : TypeId} {a b c : Value} (B : Nat) (hB : w.heap.size = B) (x y z : Value) : At ((((w.alloc (.cells #[a, b, c] t)).setCell ⟨B, 0, none⟩ x).setCell ⟨B, 1, none⟩ y).setCell ⟨B, 2, none⟩ z) B t [x, y, z] := by
  subst hB
  exact (((At.new w t [a, b, c]).set_ 0 x).set_ 1 y).set_ 2 z
set_option maxRecDepth 100000 in
set_option maxHeartbeats 1600000 in
theorem rset_good (A : Option Addr) (n c : Nat) (l : List Tm) (k : Ky) (z : Int) (w : World) (hl : Ts w A n l) (hn : n ≤ 99) (hz : ¬ BadAt z) :
    Calls Try.prog 16 #[.slice A n c, kyV k, .int .i64 z] w (Gives13 w (setT l k z) (setTE z)) := by
  have e1 : setTE z = 0 := if_neg hz
  have e2 : setT l k z = putT (dropT l k) (k, z) := if_neg hz
  rw [e1, e2]
  have B1 := (Below.refl w.heap.size w).alloc (Nat.le_refl _) (.cells [.int .i64 k.1, .int .u32 k.2].toArray 32)
  have X1 := At.new w 32 [.int .i64 k.1, .int .u32 k.2]
  have HD := Lib.hid (rdrop_any A n c l k _ (hl.below B1) (by omega))
  have HX := Lib.hid X1
  have x0 := X1.cell 0 rfl
  have x1 := X1.cell 1 rfl
  have HB := Lib.hid B1
  have HP : Hid ((dropT l k).length ≤ 99) := Lib.hid (by have := drop_le l k; have := hl.len; omega)
  clear B1 X1 e1 e2 hl
  unfold BadAt at hz
  have h1 : ¬ z < 0 := by omega
  have h2 : ¬ 1099511627776 < z := by omega
  clear hz
  generalize dropT l k = p at *
  generalize wasT l k = s at *
  obtain ⟨k0, k1⟩ := k
  go_enter Try.func16, Try.ntmps16
  go_wp2_with fail
  generalize w.alloc (.cells #[.int .i64 k0, .int .u32 k1] 32) = w1 at *
  refine HD.out.mono ?_; rintro e w2 ⟨v, rfl, hown, hb2, hs2⟩
  have HX2 := Lib.hid (HX.out.below hb2 HX.out.lt)
  have HB2 := Lib.hid (HB.out.trans (hb2.mono HB.out.size))
  have y0 := HX2.out.cell 0 rfl
  have y1 := HX2.out.cell 1 rfl
  obtain ⟨A2, c2, rfl, hc2, hn2, ht2⟩ := ts_of hown
  have HT2 := Lib.hid ht2
  have HN2 := Lib.hid hn2
  have HC2 := Lib.hid hc2
  clear hown hb2 hs2 ht2 hn2 hc2 x0 x1 HX HB HD
  go_wp2_with fail
  have HY : Hid (At (w2.alloc (.cells #[.int .i64 k0, .int .u32 k1, .int .i64 z] 41)) w2.heap.size 41 [.int .i64 k0, .int .u32 k1, .int .i64 z]) := Lib.hid (At.new w2 41 [.int .i64 k0, .int .u32 k1, .int .i64 z])
  have hb3 := (Below.refl w2.heap.size w2).alloc (Nat.le_refl _) (.cells #[.int .i64 k0, .int .u32 k1, .int .i64 z] 41)
  have HT3 := Lib.hid (HT2.out.below hb3)
  have HB3 := Lib.hid (HB2.out.trans (hb3.mono HB2.out.size))
  clear hb3 HT2 HB2 HX2 y0 y1
  generalize hBx : w2.heap.size = bx at *
  generalize w2.alloc (.cells #[.int .i64 k0, .int .u32 k1, .int .i64 z] 41) = w3 at *
  clear hBx
  have hp := HP.out
  go_loopw [9] (fun i wr => ∃ j : Nat, j ≤ p.length ∧ i = .int .i64 j ∧ (∀ q, q < j → lessT (tm_ p q) ((k0, k1), z) = true) ∧ At wr bx 41 [.int .i64 k0, .int .u32 k1, .int .i64 z] ∧ Ts wr A2 p.length p ∧ Below w.heap.size w wr) (fun i _ => p.length - (intOf i).toNat)
  case atStart => exact ⟨0, by omega, rfl, fun q hq => absurd hq (by omega), HY.out, HT3.out, HB3.out⟩
  case round =>
    obtain ⟨j, hj, rfl, hls, hat, hts, hbel⟩ := hrel
    have HA := Lib.hid hat
    have HT := Lib.hid hts
    have HB := Lib.hid hbel
    have HS := Lib.hid hls
    have y0 := hat.cell 0 rfl
    have y1 := hat.cell 1 rfl
    have y2 := hat.cell 2 rfl
    clear hat hts hbel hls HY HT3 HB3
    have hj0 : (0 : Int) ≤ (j : Int) := Int.natCast_nonneg _
    by_cases hlt : j < p.length
    · obtain ⟨ad, rfl, had, c0, c1, c3⟩ := HT.out.at_ hlt
      have hlt' : (j : Int) < (p.length : Int) := by omega
      have hd : decide ((j : Int) < (p.length : Int)) = true := decide_eq_true hlt'
      have HLS := Lib.hid (fun W => rless_any13 (tm_ p j) ((k0, k1), z) W)
      have HX := Lib.hid (show tm_ p j = tm_ p j from rfl)
      generalize hx : tm_ p j = x at c0 c1 c3 HLS HX
      have HXX := Lib.hid hx
      clear hx HX
      cases hls : lessT x ((k0, k1), z)
      · rw [hls] at HLS
        have HDn : Hid (p.takeWhile (fun y => lessT y ((k0, k1), z)) = p.take j ∧ p.dropWhile (fun y => lessT y ((k0, k1), z)) = p.drop j) := Lib.hid (take_is hj HS.out fun _ => by rw [HXX.out]; exact hls)
        obtain ⟨⟨x0, x1⟩, x2⟩ := x
        dsimp only at c0 c1 c3
        clear hls
        go_wp2_with fail
        refine wp_region_still_tail 10 (by kernel_rfl) (by kernel_rfl) ?_
        simp only [List.take_succ_cons, List.take_zero, List.drop_succ_cons, List.drop_zero]
        repeat still_step
        refine wpStill_nil ?_
        change wpList _ _ _ _ _ wr.drew
        have HT4 := Lib.hid (HT.out.below (Below.refl _ wr).drew)
        have HA4 := Lib.hid (HA.out.kept (grown_drew wr none) (by simp))
        have HB4 := Lib.hid (HB.out.grown (grown_drew wr none) HB.out.size (by simp))
        clear HT HA HB y0 y1 y2 c0 c1 c3 had
        generalize wr.drew = w5 at *
        go_wp2_with fail
        refine (HLS.out _).mono ?_; rintro e w4 ⟨rfl, g4⟩
        have HTx := Lib.hid (HT4.out.below g4)
        have HAx := Lib.hid (HA4.out.below g4 HA4.out.lt)
        have HBx := Lib.hid (HB4.out.trans (g4.mono HB4.out.size))
        clear g4 HT4 HA4 HB4 HLS
        have hj' : j ≤ c2 := Nat.le_trans hj HC2.out
        have hh := tm_head_run (some ad) p.length c2 j hj'
        have hr := tm_rest_run (some ad) p.length c2 j hj
        have HRT : Hid (tmA (some ad) c2 j = none → c2 - j = 0) := Lib.hid (by
          intro e
          unfold tmA at e
          split at e
          · omega
          · cases e)
        have hbb : w4.heap.size ≤ w4.heap.size := Nat.le_refl _
        have HWB0 := Lib.hid HBx.out.size
        obtain ⟨bb, hbbe⟩ : ∃ bb, w4.heap.size = bb := ⟨_, rfl⟩
        have HWB : Hid (w.heap.size ≤ bb) := Lib.hid (by rw [← hbbe]; exact HWB0.out)
        have hbs : bb ≤ w4.heap.size := by omega
        have HTB : Hid (∀ ad', (some ad) = some ad' → 0 < p.length → ad'.block < bb) := Lib.hid (by rw [← hbbe]; exact HTx.out.lt)
        clear hbb HWB0 hbbe
        go_wp2_with (first
          | (at_builtin; refine tm_append rfl _ _ _ rfl Try.underlying27 bb (.slice none 0 0) 0 [] rfl (World.ownsRow_nil _ _ _ _) (some ad) j c2 (p.take j) rfl (HTx.out.cut hj) HN2.out (by omega) hbs ?_; intro v5 w5 hown5 hg5; have HO5 := Lib.hid hown5; have hg5' : w4.grownBy w5 none := hg5; have HT5 := Lib.hid (HTx.out.below (below_grown hg5' (Nat.le_refl _) (by simp))); have HA5 := Lib.hid (HAx.out.kept hg5' (by simp)); have HB5 := Lib.hid (HBx.out.grown hg5' HBx.out.size (by simp)); have hbs5 : bb ≤ w5.heap.size := Nat.le_trans hbs hg5'.size; have z0 := HA5.out.cell 0 rfl; have z1 := HA5.out.cell 1 rfl; have z2 := HA5.out.cell 2 rfl; clear hown5 hg5 hg5' HTx HAx HBx; have HBE2 : Hid (w.heap.size ≤ bb) := Lib.hid HWB.out; have HO5' := Lib.hid (HO5.out.alloc (.cells #[.int .i64 k0, .int .u32 k1, .int .i64 z] 41)); have hb5' := (Below.refl w5.heap.size w5).alloc (Nat.le_refl _) (.cells #[.int .i64 k0, .int .u32 k1, .int .i64 z] 41); have HT5' := Lib.hid (HT5.out.below hb5'); have HB5' := Lib.hid (HB5.out.trans (hb5'.mono HB5.out.size)); have hbs5' := Nat.le_trans hbs5 hb5'.size; clear hb5' HT5 HB5 HO5)
          | (at_builtin; refine tm_append rfl _ _ _ rfl Try.underlying27 bb v5 (0 + j) ([] ++ p.take j) rfl HO5'.out _ 1 1 [((k0, k1), z)] rfl (ts_lit w5 ((k0, k1), z)) (fun e => nomatch e) (by omega) hbs5' ?_; intro v6 w6 hown6 hg6; have HO6 := Lib.hid hown6; have HR6 : Hid (∀ q, v5.ownBlock = some q → bb ≤ q) := Lib.hid (fun q e => (HO5'.out.lt q e).1); have HT6 := Lib.hid (HT5'.out.grown2 hg6 HR6.out HTB.out); have HB6 := Lib.hid (HB5'.out.grown hg6 HB5'.out.size (fun q e => Nat.le_trans HBE2.out (HR6.out q e))); have hbs6 : bb ≤ w6.heap.size := Nat.le_trans hbs5' hg6.size; clear hown6 hg6 HT5' HB5' HO5' z0 z1 z2)
          | (at_builtin; refine tm_append rfl _ _ _ rfl Try.underlying27 bb v6 (0 + j + 1) ([] ++ p.take j ++ [((k0, k1), z)]) rfl HO6.out _ (p.length - j) (c2 - j) (p.drop j) rfl (HT6.out.rest HC2.out hj) HRT.out (by omega) hbs6 ?_; intro v7 w7 hown7 hg7; have HO7 := Lib.hid hown7; have HB7 := Lib.hid (HB6.out.grown hg7 HB6.out.size (fun q e => Nat.le_trans HBE2.out (HO6.out.lt q e).1)); clear hown7 hg7))
        obtain ⟨A8, c8, rfl, hc8, _, ht8⟩ := ts_of HO7.out
        have HT8 := Lib.hid ht8
        clear ht8
        go_wp2_with fail
        go_ret2
        refine ⟨_, _, _, rfl, ?_, hc8, HB7.out⟩
        have e : ([] ++ p.take j ++ [((k0, k1), z)] ++ p.drop j : List Tm) = putT p ((k0, k1), z) := by
          unfold putT
          rw [HDn.out.1, HDn.out.2]
          simp
        rw [e] at HT8
        exact HT8.out
      · rw [hls] at HLS
        have HLL := Lib.hid hls
        obtain ⟨⟨x0, x1⟩, x2⟩ := x
        dsimp only at c0 c1 c3
        clear hls
        go_wp2_with fail
        refine wp_region_still_tail 10 (by kernel_rfl) (by kernel_rfl) ?_
        simp only [List.take_succ_cons, List.take_zero, List.drop_succ_cons, List.drop_zero]
        repeat still_step
        refine wpStill_nil ?_
        change wpList _ _ _ _ _ wr.drew
        have HT4 := Lib.hid (HT.out.below (Below.refl _ wr).drew)
        have HA4 := Lib.hid (HA.out.kept (grown_drew wr none) (by simp))
        have HB4 := Lib.hid (HB.out.grown (grown_drew wr none) HB.out.size (by simp))
        clear HT HA HB y0 y1 y2 c0 c1 c3 had
        generalize wr.drew = w5 at *
        go_wp2_with fail
        refine (HLS.out _).mono ?_; rintro e w4 ⟨rfl, g4⟩
        have HTx := Lib.hid (HT4.out.below g4)
        have HAx := Lib.hid (HA4.out.below g4 HA4.out.lt)
        have HBx := Lib.hid (HB4.out.trans (g4.mono HB4.out.size))
        clear g4 HT4 HA4 HB4 HLS
        go_wp2_with fail
        go_roundw
        case rel =>
          refine ⟨j + 1, by omega, by go_num, fun q hq => ?_, HAx.out, HTx.out, HBx.out⟩
          rcases Nat.lt_or_ge q j with h | h
          · exact HS.out q h
          · obtain rfl : q = j := by omega
            rw [HXX.out]; exact HLL.out
        case measure => simp [intOf]; omega
    · have hlt' : ¬ (j : Int) < (p.length : Int) := by omega
      have HDn : Hid (p.takeWhile (fun y => lessT y ((k0, k1), z)) = p.take j ∧ p.dropWhile (fun y => lessT y ((k0, k1), z)) = p.drop j) := Lib.hid (take_is hj HS.out fun h => absurd h hlt)
      have hd : decide ((j : Int) < (p.length : Int)) = false := decide_eq_false hlt'
      go_wp2_with fail
      go_quiet (fail)
      have HTx := Lib.hid (HT.out.below (below_grown (grown_drewN wr nq none) (Nat.le_refl _) (by simp)))
      have HAx := Lib.hid (HA.out.kept (grown_drewN wr nq none) (by simp))
      have HBx := Lib.hid (HB.out.grown (grown_drewN wr nq none) HB.out.size (by simp))
      clear HT HA HB y0 y1 y2 hd
      generalize wr.drewN nq = w4 at *
      have hj' : j ≤ c2 := Nat.le_trans hj HC2.out
      have hh := tm_head_run A2 p.length c2 j hj'
      have hr := tm_rest_run A2 p.length c2 j hj
      have HRT : Hid (tmA A2 c2 j = none → c2 - j = 0) := Lib.hid (by
        intro e
        unfold tmA at e
        split at e
        · omega
        · cases A2 with
          | none => have := HN2.out rfl; omega
          | some _ => cases e)
      have hbb : w4.heap.size ≤ w4.heap.size := Nat.le_refl _
      have HWB0 := Lib.hid HBx.out.size
      obtain ⟨bb, hbbe⟩ : ∃ bb, w4.heap.size = bb := ⟨_, rfl⟩
      have HWB : Hid (w.heap.size ≤ bb) := Lib.hid (by rw [← hbbe]; exact HWB0.out)
      have hbs : bb ≤ w4.heap.size := by omega
      have HTB : Hid (∀ ad', A2 = some ad' → 0 < p.length → ad'.block < bb) := Lib.hid (by rw [← hbbe]; exact HTx.out.lt)
      clear hbb HWB0 hbbe
      go_wp2_with (first
        | (at_builtin; refine tm_append rfl _ _ _ rfl Try.underlying27 bb (.slice none 0 0) 0 [] rfl (World.ownsRow_nil _ _ _ _) A2 j c2 (p.take j) rfl (HTx.out.cut hj) HN2.out (by omega) hbs ?_; intro v5 w5 hown5 hg5; have HO5 := Lib.hid hown5; have hg5' : w4.grownBy w5 none := hg5; have HT5 := Lib.hid (HTx.out.below (below_grown hg5' (Nat.le_refl _) (by simp))); have HA5 := Lib.hid (HAx.out.kept hg5' (by simp)); have HB5 := Lib.hid (HBx.out.grown hg5' HBx.out.size (by simp)); have hbs5 : bb ≤ w5.heap.size := Nat.le_trans hbs hg5'.size; have z0 := HA5.out.cell 0 rfl; have z1 := HA5.out.cell 1 rfl; have z2 := HA5.out.cell 2 rfl; clear hown5 hg5 hg5' HTx HAx HBx; have HBE2 : Hid (w.heap.size ≤ bb) := Lib.hid HWB.out; have HO5' := Lib.hid (HO5.out.alloc (.cells #[.int .i64 k0, .int .u32 k1, .int .i64 z] 41)); have hb5' := (Below.refl w5.heap.size w5).alloc (Nat.le_refl _) (.cells #[.int .i64 k0, .int .u32 k1, .int .i64 z] 41); have HT5' := Lib.hid (HT5.out.below hb5'); have HB5' := Lib.hid (HB5.out.trans (hb5'.mono HB5.out.size)); have hbs5' := Nat.le_trans hbs5 hb5'.size; clear hb5' HT5 HB5 HO5)
        | (at_builtin; refine tm_append rfl _ _ _ rfl Try.underlying27 bb v5 (0 + j) ([] ++ p.take j) rfl HO5'.out _ 1 1 [((k0, k1), z)] rfl (ts_lit w5 ((k0, k1), z)) (fun e => nomatch e) (by omega) hbs5' ?_; intro v6 w6 hown6 hg6; have HO6 := Lib.hid hown6; have HR6 : Hid (∀ q, v5.ownBlock = some q → bb ≤ q) := Lib.hid (fun q e => (HO5'.out.lt q e).1); have HT6 := Lib.hid (HT5'.out.grown2 hg6 HR6.out HTB.out); have HB6 := Lib.hid (HB5'.out.grown hg6 HB5'.out.size (fun q e => Nat.le_trans HBE2.out (HR6.out q e))); have hbs6 : bb ≤ w6.heap.size := Nat.le_trans hbs5' hg6.size; clear hown6 hg6 HT5' HB5' HO5' z0 z1 z2)
        | (at_builtin; refine tm_append rfl _ _ _ rfl Try.underlying27 bb v6 (0 + j + 1) ([] ++ p.take j ++ [((k0, k1), z)]) rfl HO6.out _ (p.length - j) (c2 - j) (p.drop j) rfl (HT6.out.rest HC2.out hj) HRT.out (by omega) hbs6 ?_; intro v7 w7 hown7 hg7; have HO7 := Lib.hid hown7; have HB7 := Lib.hid (HB6.out.grown hg7 HB6.out.size (fun q e => Nat.le_trans HBE2.out (HO6.out.lt q e).1)); clear hown7 hg7))
      obtain ⟨A8, c8, rfl, hc8, _, ht8⟩ := ts_of HO7.out
      have HT8 := Lib.hid ht8
      clear ht8
      go_wp2_with fail
      go_ret2
      refine ⟨_, _, _, rfl, ?_, hc8, HB7.out⟩
      have e : ([] ++ p.take j ++ [((k0, k1), z)] ++ p.drop j : List Tm) = putT p ((k0, k1), z) := by
        unfold putT
        rw [HDn.out.1, HDn.out.2]
        simp
      rw [e] at HT8
      exact HT8.out
end Go.Proofs.Ytmjnlmcbcclbkaa

/- Proved: the walk of the law that each number is fresh once. Conditions: those that the theorems name. -/
import Derived.Test.YtenegeajkldfbaaWinLaw
import Derived.Deep.DeepCutAuto
namespace Go.Proofs.Ytenegeajkldfbaa
open Go.ChangeShapes Go.WideShapes Go.ChangeAt Go.RowKit

/-- The window stands at B0 + a; those that were seen are marked, or lie behind. -/
structure OnceOk (B0 : Int) (a : Nat) (L seen : List Int) : Prop where
  low : a ≤ 48
  mark : ∀ x ∈ L, ∃ d, d < 48 ∧ x = wpl B0 d ∧ a ≤ d
  old : ∀ x ∈ seen, ∃ d, d < 48 ∧ x = wpl B0 d ∧ (x ∈ L ∨ d < a)
theorem OnceOk.new (B0 : Int) : OnceOk B0 0 [] [] := ⟨by omega, fun _ h => absurd h (by simp), fun _ h => absurd h (by simp)⟩
theorem OnceOk.fresh {B0 : Int} {a n d : Nat} {L seen : List Int} (h : OnceOk B0 a L seen) (hd : d < 48) (e : mkE (wpl B0 a) n L (wpl B0 d) = 3) : wpl B0 d ∉ seen ∧ OnceOk B0 a (mkL (wpl B0 a) n L (wpl B0 d)) (seen ++ [wpl B0 d]) := by
  have e2 : mkL (wpl B0 a) n L (wpl B0 d) = L ++ [wpl B0 d] := if_pos e
  obtain ⟨h1, _, h3⟩ := mkE_3.1 e
  have h0 := h.low
  rw [ah_wpl (by omega) (by omega)] at h1
  refine ⟨fun hs => ?_, ?_⟩
  · obtain ⟨d', hd', e', h5⟩ := h.old _ hs
    have := wpl_inj (by omega) (by omega) e'
    subst this
    rcases h5 with h5 | h5
    · exact h3 h5
    · omega
  · rw [e2]
    refine ⟨h0, fun x hx => ?_, fun x hx => ?_⟩
    · rcases List.mem_append.1 hx with hx | hx
      · exact h.mark x hx
      · have hx : x = wpl B0 d := by simpa using hx
        exact ⟨d, hd, hx, by omega⟩
    · rcases List.mem_append.1 hx with hx | hx
      · obtain ⟨d', h5, h6, h7⟩ := h.old x hx
        exact ⟨d', h5, h6, h7.imp (fun q => List.mem_append.2 (Or.inl q)) id⟩
      · have hx : x = wpl B0 d := by simpa using hx
        exact ⟨d, hd, hx, Or.inl (List.mem_append.2 (Or.inr (by simp [hx])))⟩
theorem OnceOk.same {B0 : Int} {a n d : Nat} {L seen : List Int} (h : OnceOk B0 a L seen) (e : mkE (wpl B0 a) n L (wpl B0 d) ≠ 3) : OnceOk B0 a (mkL (wpl B0 a) n L (wpl B0 d)) seen := by
  have e2 : mkL (wpl B0 a) n L (wpl B0 d) = L := if_neg e
  rw [e2]; exact h
theorem OnceOk.slide {B0 : Int} {a k : Nat} {L seen : List Int} (h : OnceOk B0 a L seen) (hk : ∀ i, i < k → wpl (wpl B0 a) i ∈ L) : OnceOk B0 (a + k) (keepL (wpl B0 a) L k) seen := by
  have h0 := h.low
  have hk48 : a + k ≤ 48 := by
    rcases Nat.eq_zero_or_pos k with e | e
    · omega
    · rcases Nat.lt_or_ge 48 (a + k) with q | q
      · exfalso
        obtain ⟨d, h1, h2, h3⟩ := h.mark _ (hk (48 - a) (by omega))
        rw [wpl_wpl] at h2
        have := wpl_inj (by omega) (by omega) h2
        omega
      · exact q
  have ho : ∀ d, d < 48 → a ≤ d → off (wpl B0 a) (wpl B0 d) = (d - a : Nat) := fun d hd had => by
    have : wpl B0 d = wpl (wpl B0 a) (d - a) := by rw [wpl_wpl]; congr 1; omega
    rw [this, off_wpl (by omega)]
  refine ⟨hk48, fun x hx => ?_, fun x hx => ?_⟩
  · obtain ⟨h1, h2⟩ := List.mem_filter.1 hx
    obtain ⟨d, h3, h4, h5⟩ := h.mark x h1
    have h2 := of_decide_eq_true h2
    rw [h4, ho d h3 h5] at h2
    exact ⟨d, h3, h4, by omega⟩
  · obtain ⟨d, h3, h4, h5⟩ := h.old x hx
    refine ⟨d, h3, h4, ?_⟩
    rcases h5 with h5 | h5
    · obtain ⟨d', h6, h7, h8⟩ := h.mark x h5
      have := wpl_inj (B := B0) (by omega) (by omega) (h4.symm.trans h7)
      subst this
      rcases Nat.lt_or_ge d (a + k) with q | q
      · exact Or.inr q
      · exact Or.inl (List.mem_filter.2 ⟨h5, decide_eq_true (by rw [h4, ho d h3 h8]; omega)⟩)
    · exact Or.inr (by omega)
set_option maxRecDepth 100000 in
set_option maxHeartbeats 3200000 in
theorem wn_once_main (B0 : Int) (A : Option Addr) (m c : Nat) (ds : List Nat) (w : World) (hm : (m : Int) ≤ 200) (hd : Bs w A m ds) (hB : U32 B0) :
    Calls Try.prog 4 #[.int .u32 B0, .slice A m c] w fun e w' => e = .returned (.bool true) ∧ Below w.heap.size w w' := by
  have HN := Lib.hid (wb_new w w (Below.refl _ _) B0 16 hB (by decide) (by decide))
  have HL := Lib.hid hd
  have HZ := Lib.hid (wpl_zero hB)
  clear hd hB
  go_enter Try.func4, Try.ntmps4
  go_wp2_with fail
  refine HN.out.mono ?_; rintro e w1 ⟨rfl, r1⟩
  have R0 : Hid (WB w w1 (w.heap.size + 1) (wpl B0 0) 16 []) := Lib.hid (by rw [HZ.out]; exact r1)
  have HB0 : Hid (w.heap.size ≤ w1.heap.size) := Lib.hid r1.bel.size
  clear r1 HN HZ
  generalize hbb : w.heap.size + 1 = b at R0 ⊢
  clear hbb
  go_wp2_with fail
  go_loopw [7, 8] (fun v i wr => ∃ k : Nat, k ≤ m ∧ i = .int .i64 k ∧ ∃ a L seen, wr.ownsRow w.heap.size 22 1 v seen.length (ucells seen) ∧ WB w wr b (wpl B0 a) 16 L ∧ OnceOk B0 a L seen ∧ L.length ≤ k ∧ seen.length ≤ k) (fun _ i _ => m - (intOf i).toNat)
  case atStart => exact ⟨0, by omega, rfl, 0, [], [], World.ownsRow_nil _ _ _ _, R0.out, OnceOk.new B0, Nat.le_refl _, Nat.le_refl _⟩
  case round =>
    obtain ⟨k, hk, rfl, a, L, seen, hown, hwb, hok, hLk, hSk⟩ := hrel
    have HO := Lib.hid hown
    have HW := Lib.hid hwb
    have HK := Lib.hid hok
    have HLK := Lib.hid (And.intro hLk hSk)
    clear hown hwb hok hLk hSk R0
    by_cases hlt : k < m
    · obtain ⟨ad, e, had, c0⟩ := HL.out.at_ hlt
      subst e
      have hlt' : (k : Int) < (m : Int) := by omega
      have hk0 : (0 : Int) ≤ (k : Int) := Int.natCast_nonneg _
      have HC : Hid (∀ W, Below w.heap.size w W → W.cell? (ad.add k) = some (.int .u8 (ds.getD k 0 : Nat))) := Lib.hid fun W g => (g.cell (p := ad.add k) (by rw [add_block]; exact had)).trans c0
      have hy := HL.out.lt k
      clear c0 had
      generalize ds.getD k 0 = y at HC hy
      have d0 := HC.out _ HW.out.bel
      have hx : (B0 + (y : Int) % 48) % 4294967296 = wpl B0 (y % 48) := by unfold wpl; omega
      have hy48 : y % 48 < 48 := Nat.mod_lt _ (by decide)
      have HM := Lib.hid (wb_mark HW.out (by have := HLK.out; omega) (wpl_u32 B0 (y % 48)))
      have HML := Lib.hid (mkL_len (wpl B0 a) 16 L (wpl B0 (y % 48)))
      obtain ⟨SA, sc, es, hsc, hsA, hsu⟩ := uw_of HO.out
      subst es
      have HSU := Lib.hid hsu
      clear hsc hsA hsu
      by_cases h3 : mkE (wpl B0 a) 16 L (wpl B0 (y % 48)) = 3
      · obtain ⟨hnew, hok2⟩ := HK.out.fresh hy48 h3
        have HNW := Lib.hid hnew
        have HK2 := Lib.hid hok2
        rw [h3] at HM
        clear hnew hok2 h3
        generalize mkL (wpl B0 a) 16 L (wpl B0 (y % 48)) = L2 at *
        generalize wpl B0 (y % 48) = x at *
        have HLEN : Hid (L2.length ≤ k + 1 ∧ (seen ++ [x]).length ≤ k + 1) := Lib.hid ⟨by have := HML.out; have := HLK.out; omega, by have := HLK.out; rw [List.length_append, List.length_singleton]; omega⟩
        have hsl : seen.length ≤ 200 := by have := HLK.out; omega
        go_wp2_with fail
        rw [hx]
        refine HM.out.mono ?_; rintro e w2 ⟨rfl, r2, k2⟩
        have HW2 := Lib.hid r2
        have HU2 := Lib.hid (k2.1 _ _ _ HSU.out)
        have HO2 := Lib.hid (k2.2.2 _ _ _ _ HO.out)
        clear r2 k2 HM HW HO HSU d0
        go_wp2_with fail
        refine (rin_any SA seen.length sc seen x w2 HU2.out (by omega)).mono ?_; rintro e w3 ⟨rfl, rfl⟩
        rw [decide_eq_false HNW.out]
        have HO3 := Lib.hid (HO2.out.alloc (.cells #[.int .u32 x] 22))
        have hb3 := (Below.refl w2.heap.size w2).alloc (Nat.le_refl _) (.cells #[.int .u32 x] 22)
        have HW3 := Lib.hid (HW2.out.below hb3)
        have hz3 : w.heap.size ≤ (w2.alloc (.cells #[.int .u32 x] 22)).heap.size := HW3.out.bel.size
        have HC3 := Lib.hid (uw_one w2 x)
        clear HO2 HW2 HU2 hb3
        go_upto_region 15 with (at_builtin; refine uw_append rfl _ _ rfl w.heap.size _ _ seen rfl HO3.out _ 1 1 [x] rfl HC3.out (fun e => nomatch e) (by omega) hz3 ?_; intro v4 w4 hown4 hg4; have HO4 := Lib.hid hown4; have HW4 := Lib.hid (HW3.out.row HO3.out hg4); clear hown4 hg4)
        have HO5 : Hid (w4.ownsRow w.heap.size 22 1 v4 (seen ++ [x]).length (ucells (seen ++ [x]))) := Lib.hid (by rw [List.length_append]; exact HO4.out)
        clear HO3 HW3 HC3 HO4 hz3 hsl
        have d1 := HC.out _ HW4.out.bel
        by_cases h128 : 128 ≤ y
        · have h128' : (128 : Int) ≤ (y : Int) := by omega
          have HSL := Lib.hid (wb_slide HW4.out ((y : Int) % 4))
          have HSO := Lib.hid (HK2.out.slide (fun i hi => ((HW4.out.ok.sl ((y : Int) % 4)).1 i hi).2))
          have HSN := Lib.hid (keep_len (wpl B0 a) L2 (slK (wpl B0 a) L2 ((y : Int) % 4)))
          generalize slK (wpl B0 a) L2 ((y : Int) % 4) = kk at *
          rw [wpl_wpl] at HSL
          generalize keepL (wpl B0 a) L2 kk = L3 at *
          go_wp2_with fail
          refine HSL.out.mono ?_; rintro e w7 ⟨rfl, r7, k7⟩
          have R7 := Lib.hid r7
          have K7 := Lib.hid k7
          clear r7 k7
          go_wp2_with fail
          go_roundw
          case rel => exact ⟨k + 1, by omega, by go_num, a + kk, L3, (seen ++ [x]), K7.out.2.2 _ _ _ _ HO5.out, R7.out, HSO.out, Nat.le_trans HSN.out HLEN.out.1, HLEN.out.2⟩
          case measure => simp [intOf]; omega
        · have h128' : ¬ (128 : Int) ≤ (y : Int) := by omega
          go_wp2_with fail
          go_roundw
          case rel => exact ⟨k + 1, by omega, by go_num, a, L2, (seen ++ [x]), HO5.out, HW4.out, HK2.out, HLEN.out.1, HLEN.out.2⟩
          case measure => simp [intOf]; omega
      · have HK2 := Lib.hid (HK.out.same h3)
        have h3' : (mkE (wpl B0 a) 16 L (wpl B0 (y % 48)) == 3) = false := by simpa using h3
        generalize mkE (wpl B0 a) 16 L (wpl B0 (y % 48)) = z at *
        generalize mkL (wpl B0 a) 16 L (wpl B0 (y % 48)) = L2 at *
        generalize wpl B0 (y % 48) = x at *
        have HLEN : Hid (L2.length ≤ k + 1 ∧ seen.length ≤ k + 1) := Lib.hid ⟨by have := HML.out; have := HLK.out; omega, by have := HLK.out; omega⟩
        clear h3
        go_wp2_with fail
        rw [hx]
        refine HM.out.mono ?_; rintro e w2 ⟨rfl, r2, k2⟩
        have HW2 := Lib.hid r2
        have HO2 := Lib.hid (k2.2.2 _ _ _ _ HO.out)
        clear r2 k2 HM HW HO HSU d0
        go_upto_region 15 with fail
        have d1 := HC.out _ HW2.out.bel
        by_cases h128 : 128 ≤ y
        · have h128' : (128 : Int) ≤ (y : Int) := by omega
          have HSL := Lib.hid (wb_slide HW2.out ((y : Int) % 4))
          have HSO := Lib.hid (HK2.out.slide (fun i hi => ((HW2.out.ok.sl ((y : Int) % 4)).1 i hi).2))
          have HSN := Lib.hid (keep_len (wpl B0 a) L2 (slK (wpl B0 a) L2 ((y : Int) % 4)))
          generalize slK (wpl B0 a) L2 ((y : Int) % 4) = kk at *
          rw [wpl_wpl] at HSL
          generalize keepL (wpl B0 a) L2 kk = L3 at *
          go_wp2_with fail
          refine HSL.out.mono ?_; rintro e w7 ⟨rfl, r7, k7⟩
          have R7 := Lib.hid r7
          have K7 := Lib.hid k7
          clear r7 k7
          go_wp2_with fail
          go_roundw
          case rel => exact ⟨k + 1, by omega, by go_num, a + kk, L3, seen, K7.out.2.2 _ _ _ _ HO2.out, R7.out, HSO.out, Nat.le_trans HSN.out HLEN.out.1, HLEN.out.2⟩
          case measure => simp [intOf]; omega
        · have h128' : ¬ (128 : Int) ≤ (y : Int) := by omega
          go_wp2_with fail
          go_roundw
          case rel => exact ⟨k + 1, by omega, by go_num, a, L2, seen, HO2.out, HW2.out, HK2.out, HLEN.out.1, HLEN.out.2⟩
          case measure => simp [intOf]; omega
    · obtain rfl : k = m := by omega
      go_wp2_with fail
      refine (wn_awake_any _).mono ?_; rintro e w2 ⟨rfl, g2⟩
      have R4 := Lib.hid (HW.out.below g2)
      clear g2
      go_wp2_with fail
      go_ret
      exact ⟨rfl, R4.out.bel⟩
set_option maxRecDepth 100000 in
set_option maxHeartbeats 1600000 in
theorem wn_once_walk (B0 : Int) (A : Option Addr) (m c : Nat) (ds : List Nat) (w : World) (hd : Bs w A m ds) (hB : (Lit.int .u32 B0).wf = true) :
    Calls Try.prog 4 #[.int .u32 B0, .slice A m c] w fun e w' => e = .returned (.bool true) ∧ Below w.heap.size w w' := by
  by_cases hm : (m : Int) ≤ 200
  · exact wn_once_main B0 A m c ds w hm hd (u32_of hB)
  · have h' : (200 : Int) < (m : Int) := by omega
    clear hd hm hB
    go_enter Try.func4, Try.ntmps4
    go_wp2_with fail
    refine (wn_awake_any _).mono ?_; rintro e w2 ⟨rfl, g2⟩
    have G2 := Lib.hid g2
    clear g2
    go_wp2_with fail
    go_ret
    exact ⟨rfl, G2.out⟩
end Go.Proofs.Ytenegeajkldfbaa

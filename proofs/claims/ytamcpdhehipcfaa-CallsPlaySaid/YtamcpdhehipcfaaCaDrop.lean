/- Proved: what Drop of package calls answers. Conditions: those that the theorems name. -/
import Derived.Test.YtamcpdhehipcfaaCaTake
namespace Go.Proofs.Ytamcpdhehipcfaa
open Go.ChangeShapes Go.WideShapes Go.ChangeAt Go.RowKit

/-- What Drop's loop holds. -/
def DropAt (w : World) (b m : Nat) (l : List Wt) (s : Int) (k : Nat) (v : Value) (wr : World) : Prop :=
  wr.ownsRow w.heap.size tW 5 v (belowW l s k).length (wcells (belowW l s k)) ∧ Cb wr b m (aboveW l s k) ∧ w.grownBy wr (some m)
set_option maxRecDepth 100000 in
set_option maxHeartbeats 3200000 in
theorem ca_drop {b m : Nat} {l : List Wt} {w : World} (h : Cb w b m l) (hn : l.length ≤ 900) (s : Int) (hs0 : -9223372036854775808 ≤ s) (hs1 : s ≤ 9223372036854775807) :
    Calls Try.prog 14 #[.pointer (some ⟨b, 0, none⟩), .int .i64 s] w fun e w' => ∃ A n c, e = .returned (.slice A n c) ∧ Ws w' A n (goneW l s 0) ∧ Mw w' m (leftW l s 0) ∧ w.grownBy w' (some m) := by
  have HG := Lib.hid h.good
  have HM : Hid (m < w.heap.size) := Lib.hid h.2.lt
  have HBL : Hid (b < w.heap.size) := Lib.hid h.1.lt
  have HS : Hid (DropAt w b m l s 2 (.slice none 0 0) w) := Lib.hid ⟨by rw [show ((2 : Nat) : Int) = 2 from rfl, belowW_start h.good]; exact World.ownsRow_nil _ _ _ _, by rw [show ((2 : Nat) : Int) = 2 from rfl, aboveW_start h.good]; exact h, grown_refl _ _⟩
  have HT := Lib.hid (fun (k : Nat) (hk : k < 5) W (g : Cb W b m (aboveW l s k)) => ca_take g (k := (s, (k : Int))) ⟨hs0, hs1, by show _ ≤ (k : Int); omega, by show (k : Int) ≤ _; omega⟩)
  clear h hs0 hs1
  go_enter Try.func14, Try.ntmps14
  go_wp2_with fail
  go_loopw [5, 6] (fun v i wr => ∃ k : Nat, 2 ≤ k ∧ k ≤ 5 ∧ i = .int .i64 k ∧ DropAt w b m l s k v wr) (fun _ i _ => 5 - (intOf i).toNat)
  case atStart => exact ⟨2, by omega, by omega, rfl, HS.out⟩
  case round =>
    obtain ⟨k, hk2, hk5, rfl, hown, hcb, hgr⟩ := hrel
    have HO := Lib.hid hown
    have HC := Lib.hid hcb
    have HW := Lib.hid hgr
    clear hown hcb hgr HS
    have hk0 : (0 : Int) ≤ (k : Int) := Int.natCast_nonneg _
    by_cases hlt : k < 5
    · have hlt' : (k : Int) ≤ 4 := by omega
      have hcall := HT.out k hlt wr HC.out
      rw [aboveW_next, aboveW_was] at hcall
      have HCL := Lib.hid hcall
      have HB : Hid ((belowW l s k).length ≤ 900) := Lib.hid (Nat.le_trans (belowW_le _ _ _) hn)
      have HY : Hid (wasW l (s, (k : Int)) = true → belowW l s ((k : Int) + 1) = belowW l s k ++ [atW (aboveW l s k) (s, (k : Int))]) := Lib.hid fun e => belowW_hit HG.out e
      have HN : Hid (wasW l (s, (k : Int)) = false → belowW l s ((k : Int) + 1) = belowW l s k) := Lib.hid fun e => belowW_miss e
      have e1 : ((k + 1 : Nat) : Int) = (k : Int) + 1 := by omega
      have HE1 := Lib.hid e1
      clear hcall e1 HT
      generalize atW (aboveW l s k) (s, (k : Int)) = y at *
      generalize wasW l (s, (k : Int)) = was at *
      have HCW := Lib.hid hlt
      go_wp2_with fail
      refine HCL.out.mono ?_; rintro e W2 ⟨rfl, hm2, hg2⟩
      have hC2 : Cb W2 b m (aboveW l s ((k : Int) + 1)) := HC.out.turned hg2 hm2
      have hW2 : w.grownBy W2 (some m) := grown_trans2 HW.out hg2
      have hO2 := HO.out.kept hg2 (Or.inr fun e => by have := (HO.out.lt _ e).1; have := HM.out; omega)
      have HX := Lib.hid (At.new W2 tW (wtC wt0))
      have HCx := Lib.hid (hC2.below ((Below.refl W2.heap.size W2).alloc (Nat.le_refl _) (.cells (wtC wt0).toArray tW)))
      have HWx : Hid (w.grownBy (W2.alloc (.cells (wtC wt0).toArray tW)) (some m)) := Lib.hid (hW2.andThen (World.grownBy_alloc W2 _ none) (by simp))
      have HOx := Lib.hid (hO2.alloc (.cells (wtC wt0).toArray tW))
      have HL2 : Hid (w.heap.size ≤ W2.heap.size ∧ b < W2.heap.size ∧ m < W2.heap.size) := Lib.hid ⟨hW2.size, hC2.1.lt, hC2.2.lt⟩
      have HOL : Hid (∀ q, u5.ownBlock = some q → q < W2.heap.size ∧ w.heap.size ≤ q) := Lib.hid fun q e => ⟨(hO2.lt q e).2, (hO2.lt q e).1⟩
      clear hC2 hW2 hO2 hg2 hm2 HCL HC HW HO
      go_upto_region 6 with (refine wpw_store rfl _ _ rfl rfl y rfl HX.out rfl ?_; intro W3 ha3 hg3 _; have HA3 := Lib.hid ha3; have HC3 := Lib.hid (HCx.out.kept hg3 (fun e => by injection e with e; have := HL2.out; omega) (fun e => by injection e with e; have := HL2.out; omega)); have HW3 := Lib.hid (HWx.out.andThen hg3 (fun q e => Or.inl (by injection e with e; have := HL2.out; omega))); have HO3 := Lib.hid (HOx.out.kept hg3 (Or.inr fun e => by have := (HOL.out _ e).1; omega)); have HZ3 : Hid (w.heap.size ≤ W3.heap.size) := Lib.hid HW3.out.size; clear ha3 hg3)
      clear HX HCx HWx HOx
      cases was
      · have hbelow := HN.out rfl
        clear HN HY
        go_wp2_with fail
        go_roundw
        case rel => exact ⟨k + 1, by omega, by omega, by go_num, by rw [HE1.out, hbelow]; exact HO3.out, by rw [HE1.out]; exact HC3.out, HW3.out⟩
        case measure => simp [intOf]; omega
      · have HYY := Lib.hid (HY.out rfl)
        clear HN HY
        have hb := HB.out
        go_wp2_with (first
          | (refine wpw_load rfl _ rfl rfl (wtc_at HA3.out) ?_)
          | (refine wpw_one rfl _ rfl y rfl ?_; intro W4 hw4; have hO4 := HO3.out.alloc (.cells (wtC y).toArray tW); have HC4 := Lib.hid (HC3.out.below ((Below.refl W3.heap.size W3).alloc (Nat.le_refl _) (.cells (wtC y).toArray tW))); have HW4 : Hid (w.grownBy (W3.alloc (.cells (wtC y).toArray tW)) (some m)) := Lib.hid (HW3.out.andThen (World.grownBy_alloc W3 _ none) (by simp)); have hT4 := ws_lit W3 y; have hZ4 : w.heap.size ≤ (W3.alloc (.cells (wtC y).toArray tW)).heap.size := HW4.out.size; rw [← hw4] at hO4 HC4 HW4 hT4 hZ4; have HO4 := Lib.hid hO4; have HT4 := Lib.hid hT4; have HZ4 := Lib.hid hZ4; clear hw4 hO4 hT4 hZ4)
          | (at_builtin; refine wt_append rfl _ _ _ rfl Try.underlying26 _ _ _ (belowW l s k) rfl HO4.out _ 1 1 [y] rfl HT4.out (fun e => nomatch e) (by omega) HZ4.out ?_; intro v5 W5 hown5 hg5; have HO5 := Lib.hid hown5; have HC5 := Lib.hid (HC4.out.kept hg5 (fun e => by have := (HOL.out _ e).2; have := HBL.out; omega) (fun e => by have := (HOL.out _ e).2; have := HM.out; omega)); have HW5 := Lib.hid (HW4.out.andThen hg5 (fun q e => Or.inl (HOL.out q e).2)); clear hown5 hg5))
        go_roundw
        case rel =>
          refine ⟨k + 1, by omega, by omega, by go_num, ?_, by rw [HE1.out]; exact HC5.out, HW5.out⟩
          rw [HE1.out, HYY.out, List.length_append]
          exact HO5.out
        case measure => simp [intOf]; omega
    · obtain rfl : k = 5 := by omega
      have HGo : Hid (belowW l s 5 = goneW l s 0) := Lib.hid (belowW_end HG.out s)
      have HLe : Hid (aboveW l s 5 = leftW l s 0) := Lib.hid (aboveW_end HG.out s)
      have hO := HO.out
      have hC := HC.out
      rw [show ((5 : Nat) : Int) = 5 from rfl] at hO hC
      rw [HGo.out] at hO
      rw [HLe.out] at hC
      obtain ⟨A, c, hv, _, _, hws⟩ := ws_of hO
      have HWS := Lib.hid hws
      have HCC := Lib.hid hC.2
      clear hws hO hC HGo HLe HO HC
      subst hv
      go_wp2_with fail
      go_ret
      exact ⟨_, _, _, rfl, HWS.out, HCC.out, HW.out⟩
theorem ca_drop_nil (s : Int) (w : World) :
    Calls Try.prog 14 #[.pointer none, .int .i64 s] w fun e w' => e = .returned (.slice none 0 0) ∧ Below w.heap.size w w' := by
  have HT := Lib.hid (fun (k : Nat) W => ca_take_nil (s, (k : Int)) W)
  go_enter Try.func14, Try.ntmps14
  go_wp2_with fail
  go_loopw [5, 6] (fun v i wr => ∃ k : Nat, 2 ≤ k ∧ k ≤ 5 ∧ i = .int .i64 k ∧ v = .slice none 0 0 ∧ Below w.heap.size w wr) (fun _ i _ => 5 - (intOf i).toNat)
  case atStart => exact ⟨2, by omega, by omega, rfl, rfl, Below.refl _ _⟩
  case round =>
    obtain ⟨k, hk2, hk5, rfl, rfl, hbel⟩ := hrel
    have HB := Lib.hid hbel
    clear hbel
    by_cases hlt : k < 5
    · have hlt' : (k : Int) ≤ 4 := by omega
      have HCL := Lib.hid (HT.out k wr)
      clear HT
      go_wp2_with fail
      refine HCL.out.mono ?_; rintro e W2 ⟨rfl, g2⟩
      have hB2 := HB.out.trans (g2.mono HB.out.size)
      have HX := Lib.hid (At.new W2 tW (wtC wt0))
      have HBx := Lib.hid (hB2.alloc hB2.size (.cells (wtC wt0).toArray tW))
      have HL2 : Hid (w.heap.size ≤ W2.heap.size) := Lib.hid hB2.size
      clear g2 hB2 HCL HB
      go_wp2_with (refine wpw_store rfl _ _ rfl rfl wt0 rfl HX.out rfl ?_; intro W3 ha3 hg3 _; have HB3 := Lib.hid (HBx.out.grown hg3 HBx.out.size (fun q e => by injection e with e; have := HL2.out; omega)); clear ha3 hg3)
      go_roundw
      case rel => exact ⟨k + 1, by omega, by omega, by go_num, rfl, HB3.out⟩
      case measure => simp [intOf]; omega
    · obtain rfl : k = 5 := by omega
      go_wp2_with fail
      go_ret
      exact ⟨rfl, HB.out⟩
end Go.Proofs.Ytamcpdhehipcfaa

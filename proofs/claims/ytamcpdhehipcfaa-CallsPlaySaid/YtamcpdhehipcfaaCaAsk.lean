/- Proved: what Ask of package calls answers. Conditions: those that the theorems name. -/
import Derived.Test.YtamcpdhehipcfaaCaTake
namespace Go.Proofs.Ytamcpdhehipcfaa
open Go.ChangeShapes Go.WideShapes Go.ChangeAt Go.RowKit

/-- what Ask leaves of the calls. -/
def GivesAsk (w : World) (m : Nat) (l : List Wt) (x : Wt) (e : Ending) (w' : World) : Prop := e = .returned (.int .i64 (askE l x)) ∧ Mw w' m (askM l x) ∧ w.grownBy w' (some m)
set_option maxRecDepth 100000 in
set_option maxHeartbeats 1600000 in
theorem ca_ask_nil (x : Wt) (w : World) :
    Calls Try.prog 10 #[.pointer none, wtV x] w fun e w' => e = .returned (.int .i64 17) ∧ Below w.heap.size w w' := by
  obtain ⟨W1, HW, A1, B1, hz⟩ := wbox x w
  have HB1 := Lib.hid B1
  clear A1 B1 hz
  go_enter Try.func10, Try.ntmps10
  go_upto_region 1 with fail
  change Code.wp _ _ _ _ (w.alloc (.cells (wtC x).toArray tW))
  rw [← HW]; clear HW
  go_wp2_with fail
  go_ret
  exact ⟨rfl, HB1.out⟩
set_option maxRecDepth 100000 in
set_option maxHeartbeats 1600000 in
theorem ca_ask {b m : Nat} {l : List Wt} {w : World} (h : Cb w b m l) (hn : l.length < maxLen) (x : Wt) (hk : PkOk x.key) :
    Calls Try.prog 10 #[.pointer (some ⟨b, 0, none⟩), wtV x] w (GivesAsk w m l x) := by
  obtain ⟨W1, HW, A1, B1, hz⟩ := wbox x w
  have HC1 := Lib.hid (h.below B1)
  have HA1 := Lib.hid A1
  have HB1 := Lib.hid B1
  have HY := Lib.hid (fun W => ca_may x W)
  have HM : Hid (m < w.heap.size) := Lib.hid h.2.lt
  have HG : Hid (∀ W, Cb W b m l → Calls Try.prog 7 #[.pointer (some ⟨b, 0, none⟩), .int .i64 x.str, .int .i64 x.kind] W fun e w' => e = .returned (.tuple #[wtV (atW l x.key), .bool (wasW l x.key)]) ∧ Below W.heap.size W w') := Lib.hid fun W g => ca_get g hk
  have x0 := A1.cell 0 rfl
  have x1 := A1.cell 1 rfl
  have x2 := A1.cell 2 rfl
  have x3 := A1.cell 3 rfl
  have x4 := A1.cell 4 rfl
  clear A1 B1 h hz hk
  unfold GivesAsk askE askM
  by_cases hm : x.May
  · rw [decide_eq_true hm] at HY
    rw [if_neg (not_not_intro hm), if_neg (not_not_intro hm)]
    cases hw : wasW l x.key
    · rw [hw] at HG
      have HP := Lib.hid (fun W (g : Mw W m l) => mw_put g hn hm hw)
      simp only [Bool.false_eq_true, if_false]
      generalize putW l x = l' at *
      generalize atW l x.key = y at *
      clear hm hn hw
      go_enter Try.func10, Try.ntmps10
      go_upto_region 1 with fail
      change Code.wp _ _ _ _ (w.alloc (.cells (wtC x).toArray tW))
      rw [← HW]; clear HW
      go_wp2_with fail
      refine (HY.out _).mono ?_; rintro e W2 ⟨rfl, g2⟩
      have HA2 := Lib.hid (HA1.out.below g2 HA1.out.lt)
      have HC2 := Lib.hid (HC1.out.below g2)
      have HB2 := Lib.hid (HB1.out.trans (g2.mono HB1.out.size))
      have y1 := HA2.out.cell 1 rfl
      have y2 := HA2.out.cell 2 rfl
      clear x0 x1 x2 x3 x4 g2 HA1 HC1 HB1 HY
      go_wp2_with fail
      refine (HG.out _ HC2.out).mono ?_; rintro e W3 ⟨rfl, g3⟩
      have hA3 := HA2.out.below g3 HA2.out.lt
      have hC3 := HC2.out.below g3
      have hB3 := HB2.out.trans (g3.mono HB2.out.size)
      have HX := Lib.hid (At.new W3 tW (wtC wt0))
      have HA3 := Lib.hid (hA3.alloc (.cells (wtC wt0).toArray tW))
      have HL3 : Hid (w.heap.size < W3.heap.size ∧ b < W3.heap.size ∧ m < W3.heap.size) := Lib.hid ⟨hA3.lt, hC3.1.lt, hC3.2.lt⟩
      have HC3 := Lib.hid (hC3.below ((Below.refl W3.heap.size W3).alloc (Nat.le_refl _) (.cells (wtC wt0).toArray tW)))
      have HB3 := Lib.hid (hB3.alloc hB3.size (.cells (wtC wt0).toArray tW))
      clear g3 y1 y2 hA3 hC3 hB3 HA2 HC2 HB2 HG
      go_upto_region 8 with (refine wpw_store rfl _ _ rfl rfl y rfl HX.out rfl ?_; intro W4 ha4 hg4 _; have HA4 := Lib.hid (HA3.out.kept hg4 (fun e => by injection e with e; have := HL3.out; omega)); have HC4 := Lib.hid (HC3.out.kept hg4 (fun e => by injection e with e; have := HL3.out; omega) (fun e => by injection e with e; have := HL3.out; omega)); have HB4 := Lib.hid (HB3.out.grown hg4 HB3.out.size (fun q e => by injection e with e; have := HL3.out; omega)); clear ha4 hg4)
      have c0 := HC4.out.1.cell 0 rfl
      have y0 := HA4.out.cell 0 rfl
      have y1 := HA4.out.cell 1 rfl
      have y2 := HA4.out.cell 2 rfl
      have y3 := HA4.out.cell 3 rfl
      have y4 := HA4.out.cell 4 rfl
      clear HX HA3 HC3 HB3 HL3
      refine wp_region_still_tail 12 (by kernel_rfl) (by kernel_rfl) ?_
      simp only [List.take_succ_cons, List.take_zero, List.drop_succ_cons, List.drop_zero]
      repeat still_step
      refine wpStill_nil ?_
      change wpList _ _ _ _ _ W4.drew
      obtain ⟨W5, hrun, hm5, hg5⟩ := HP.out W4.drew (HC4.out.2.kept (grown_drew _ none) (by simp))
      have HM5 := Lib.hid hm5
      have HG5 : Hid (W4.grownBy W5 (some m)) := Lib.hid (grown_trans2 (grown_drew W4 _) hg5)
      clear hm5 hg5 HP c0 y0 y1 y2 y3 y4
      unfold wtV at hrun
      generalize W4.drew = W6 at *
      go_wp2_with fail
      go_ret
      exact ⟨rfl, HM5.out, grown_trans2 (grown_below HB4.out _) HG5.out⟩
    · rw [hw] at HG
      simp only [if_true]
      generalize atW l x.key = y at *
      clear hm hn hw
      go_enter Try.func10, Try.ntmps10
      go_upto_region 1 with fail
      change Code.wp _ _ _ _ (w.alloc (.cells (wtC x).toArray tW))
      rw [← HW]; clear HW
      go_wp2_with fail
      refine (HY.out _).mono ?_; rintro e W2 ⟨rfl, g2⟩
      have HA2 := Lib.hid (HA1.out.below g2 HA1.out.lt)
      have HC2 := Lib.hid (HC1.out.below g2)
      have HB2 := Lib.hid (HB1.out.trans (g2.mono HB1.out.size))
      have y1 := HA2.out.cell 1 rfl
      have y2 := HA2.out.cell 2 rfl
      clear x0 x1 x2 x3 x4 g2 HA1 HC1 HB1 HY
      go_wp2_with fail
      refine (HG.out _ HC2.out).mono ?_; rintro e W3 ⟨rfl, g3⟩
      have hC3 := HC2.out.below g3
      have hB3 := HB2.out.trans (g3.mono HB2.out.size)
      have HX := Lib.hid (At.new W3 tW (wtC wt0))
      have HL3 : Hid (w.heap.size ≤ W3.heap.size ∧ m < W3.heap.size) := Lib.hid ⟨hB3.size, hC3.2.lt⟩
      have HC3 := Lib.hid (hC3.below ((Below.refl W3.heap.size W3).alloc (Nat.le_refl _) (.cells (wtC wt0).toArray tW)))
      have HB3 := Lib.hid (hB3.alloc hB3.size (.cells (wtC wt0).toArray tW))
      clear g3 y1 y2 hC3 hB3 HA2 HC2 HB2 HG
      go_wp2_with (refine wpw_store rfl _ _ rfl rfl y rfl HX.out rfl ?_; intro W4 ha4 hg4 _; have HM4 := Lib.hid (HC3.out.2.kept hg4 (fun e => by injection e with e; have := HL3.out; omega)); have HB4 := Lib.hid (HB3.out.grown hg4 HB3.out.size (fun q e => by injection e with e; have := HL3.out; omega)); clear ha4 hg4)
      go_ret
      exact ⟨rfl, HM4.out, grown_below HB4.out _⟩
  · rw [decide_eq_false hm] at HY
    rw [if_pos hm, if_pos hm]
    clear HG hn hm
    go_enter Try.func10, Try.ntmps10
    go_upto_region 1 with fail
    change Code.wp _ _ _ _ (w.alloc (.cells (wtC x).toArray tW))
    rw [← HW]; clear HW
    go_wp2_with fail
    refine (HY.out _).mono ?_; rintro e W2 ⟨rfl, g2⟩
    have HC2 := Lib.hid (HC1.out.below g2)
    have HB2 := Lib.hid (HB1.out.trans (g2.mono HB1.out.size))
    clear x0 x1 x2 x3 x4 g2 HA1 HC1 HB1 HY
    go_wp2_with fail
    go_ret
    exact ⟨rfl, HC2.out.2, grown_below HB2.out _⟩
end Go.Proofs.Ytamcpdhehipcfaa

/- Proved: what Take and Ask of package calls answer, and what calls that are none answer. Conditions: those that the theorems name. -/
import Derived.Test.YtamcpdhehipcfaaCaBase
namespace Go.Proofs.Ytamcpdhehipcfaa
open Go.ChangeShapes Go.WideShapes Go.ChangeAt Go.RowKit

/-! ### Take -/
theorem res_ctake {T : Array Value} {W : World} {b : Nat} {x : Wt} {z : Bool} (h6 : T.getD 6 undef = .pointer (some ⟨b, 0, none⟩)) (h7 : T.getD 7 undef = .bool z) (h : At W b tW (wtC x)) : (results Try.f11 T).run Try.prog W = .ok (.tuple #[wtV x, .bool z]) W := by
  have hl := wt_out h
  rw [results_cell_tmp rfl, h6, h7]
  simp only [asAddr, Sem.run_pure, Result.andThen_ok, hl]
set_option maxRecDepth 100000 in
set_option maxHeartbeats 1600000 in
theorem ca_take {b m : Nat} {l : List Wt} {w : World} (h : Cb w b m l) {k : Pk} (hk : PkOk k) :
    Calls Try.prog 11 #[.pointer (some ⟨b, 0, none⟩), .int .i64 k.1, .int .i64 k.2] w fun e w' => e = .returned (.tuple #[wtV (atW l k), .bool (wasW l k)]) ∧ Mw w' m (dropW l k) ∧ w.grownBy w' (some m) := by
  obtain ⟨W1, HW, A1, B1, hz⟩ := wbox wt0 w
  have HC1 := Lib.hid (h.below B1)
  have HG := Lib.hid (fun W (g : Cb W b m l) => ca_get g hk)
  have HP := Lib.hid (fun W (g : Mw W m l) ty => mw_del g hk ty)
  have HN : Hid (wasW l k = false → dropW l k = l) := Lib.hid dropW_none
  have HA1 := Lib.hid A1
  have HB1 := Lib.hid B1
  have HM : Hid (m < w.heap.size) := Lib.hid h.2.lt
  have HZ := Lib.hid hz
  clear A1 B1 h hk hz
  generalize atW l k = y at *
  generalize wasW l k = s at *
  generalize dropW l k = l' at *
  go_enter Try.func11, Try.ntmps11
  go_upto_region 1 with fail
  change Code.wp _ _ _ _ (w.alloc (.cells (wtC wt0).toArray tW))
  rw [← HW]; clear HW
  go_wp2_with fail
  refine (HG.out _ HC1.out).mono ?_; rintro e W2 ⟨rfl, g2⟩
  have HX := Lib.hid (At.new W2 tW (wtC wt0))
  have hA2 := (HA1.out.below g2 HA1.out.lt)
  have HC2 := Lib.hid (HC1.out.below g2)
  have HB2 := Lib.hid (HB1.out.trans (g2.mono HB1.out.size))
  have HA2 := Lib.hid (hA2.alloc (.cells (wtC wt0).toArray tW))
  have HL2 : Hid (w.heap.size < W2.heap.size) := Lib.hid hA2.lt
  have HC2x := Lib.hid (HC2.out.below ((Below.refl W2.heap.size W2).alloc (Nat.le_refl _) (.cells (wtC wt0).toArray tW)))
  have HB2x := Lib.hid (HB2.out.alloc HB2.out.size (.cells (wtC wt0).toArray tW))
  clear g2 hA2 HC1 HB1 HA1 HG
  go_upto_region 2 with (refine wpw_store rfl _ _ rfl rfl y rfl HX.out rfl ?_; intro W3 ha3 hg3 _; have HA3 := Lib.hid ha3; have HR3 := Lib.hid (HA2.out.kept hg3 (fun e => by injection e with e; have := HL2.out; omega)); have HC3 := Lib.hid (HC2x.out.kept hg3 (fun e => by injection e with e; have := HC2.out.1.lt; omega) (fun e => by injection e with e; have := HC2.out.2.lt; omega)); have HB3 := Lib.hid (HB2x.out.grown hg3 HB2x.out.size (fun q e => by injection e with e; have := HL2.out; omega)); clear ha3 hg3)
  clear HX HA2 HC2x HB2x HB2
  cases s
  · have e := HN.out rfl
    clear HN HP
    subst e
    have HMM := Lib.hid HC3.out.2
    clear HC2 HC3
    go_wp2_with (first
      | (refine wpw_load rfl _ rfl rfl (wtc_at HA3.out) ?_)
      | (refine wpw_store rfl _ _ rfl rfl y rfl HR3.out rfl ?_; intro W4 ha4 hg4 _; have HA4 := Lib.hid ha4; have HM4 := Lib.hid (HMM.out.kept hg4 (fun e => by injection e with e; have := HM.out; omega)); have HB4 := Lib.hid (HB3.out.grown hg4 HB3.out.size (fun q e => by injection e with e; omega)); clear ha4 hg4))
    exact bodyPost_ret (v := .tuple #[wtV y, .bool false]) (res_ctake rfl rfl HA4.out) rfl ⟨rfl, HM4.out, grown_below HB4.out _⟩
  · clear HN
    obtain ⟨W4, hrun, hm4, hg4⟩ := HP.out _ HC3.out.2 0
    have hc := HC3.out.1.cell 0 rfl
    have HM4 := Lib.hid hm4
    have HA4 := Lib.hid (HA3.out.kept hg4 (fun e => by injection e with e; have := HC2.out.2.lt; omega))
    have HR4 := Lib.hid (HR3.out.kept hg4 (fun e => by injection e with e; have := HM.out; omega))
    have HB4 : Hid (w.grownBy W4 (some m)) := Lib.hid (grown_trans2 (grown_below HB3.out _) hg4)
    clear hm4 hg4 HP HC3 HC2 HA3 HR3 HB3
    go_wp2_with (first
      | (refine wpw_load rfl _ rfl rfl (wtc_at HA4.out) ?_)
      | (refine wpw_store rfl _ _ rfl rfl y rfl HR4.out rfl ?_; intro W5 ha5 hg5 _; have HA5 := Lib.hid ha5; have HM5 := Lib.hid (HM4.out.kept hg5 (fun e => by injection e with e; have := HM.out; omega)); have HB5 := Lib.hid (HB4.out.andThen hg5 (fun q e => Or.inl (by injection e with e; omega))); clear ha5 hg5))
    exact bodyPost_ret (v := .tuple #[wtV y, .bool true]) (res_ctake rfl rfl HA5.out) rfl ⟨rfl, HM5.out, HB5.out⟩
set_option maxRecDepth 100000 in
set_option maxHeartbeats 1600000 in
theorem ca_take_nil (k : Pk) (w : World) :
    Calls Try.prog 11 #[.pointer none, .int .i64 k.1, .int .i64 k.2] w fun e w' => e = .returned (.tuple #[wtV wt0, .bool false]) ∧ Below w.heap.size w w' := by
  obtain ⟨W1, HW, A1, B1, hz⟩ := wbox wt0 w
  have HG := Lib.hid (fun W => ca_get_nil k W)
  have HA1 := Lib.hid A1
  have HB1 := Lib.hid B1
  clear A1 B1 hz
  go_enter Try.func11, Try.ntmps11
  go_upto_region 1 with fail
  change Code.wp _ _ _ _ (w.alloc (.cells (wtC wt0).toArray tW))
  rw [← HW]; clear HW
  go_wp2_with fail
  refine (HG.out _).mono ?_; rintro e W2 ⟨rfl, g2⟩
  have HX := Lib.hid (At.new W2 tW (wtC wt0))
  have hA2 := (HA1.out.below g2 HA1.out.lt)
  have HB2 := Lib.hid (HB1.out.trans (g2.mono HB1.out.size))
  have HA2 := Lib.hid (hA2.alloc (.cells (wtC wt0).toArray tW))
  have HL2 : Hid (w.heap.size < W2.heap.size) := Lib.hid hA2.lt
  have HB2x := Lib.hid (HB2.out.alloc HB2.out.size (.cells (wtC wt0).toArray tW))
  clear g2 hA2 HB1 HA1 HG
  go_wp2_with (first
    | (refine wpw_store rfl _ _ rfl rfl wt0 rfl HX.out rfl ?_; intro W3 ha3 hg3 _; have HA3 := Lib.hid ha3; have HR3 := Lib.hid (HA2.out.kept hg3 (fun e => by injection e with e; have := HL2.out; omega)); have HB3 := Lib.hid (HB2x.out.grown hg3 HB2x.out.size (fun q e => by injection e with e; have := HL2.out; omega)); clear ha3 hg3)
    | (refine wpw_load rfl _ rfl rfl (wtc_at HA3.out) ?_)
    | (refine wpw_store rfl _ _ rfl rfl wt0 rfl HR3.out rfl ?_; intro W4 ha4 hg4 _; have HA4 := Lib.hid ha4; have HB4 := Lib.hid (HB3.out.grown hg4 HB3.out.size (fun q e => by injection e with e; omega)); clear ha4 hg4))
  exact bodyPost_ret (v := .tuple #[wtV wt0, .bool false]) (res_ctake rfl rfl HA4.out) rfl ⟨rfl, HB4.out⟩
end Go.Proofs.Ytamcpdhehipcfaa

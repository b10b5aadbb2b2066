/- Proved: what All of package calls answers: all calls in their order. Conditions: those that the theorems name. -/
import Derived.Test.YtamcpdhehipcfaaCaIter
import Derived.Test.YtamcpdhehipcfaaCaCmp
namespace Go.Proofs.Ytamcpdhehipcfaa
open Go.ChangeShapes Go.WideShapes Go.ChangeAt Go.RowKit Go.Sort
attribute [local go_sem] Oper.semAt_some

/-! ### calls that a loop over the iterator gathers; its variable is the first block that it makes -/
/-- what the loop holds between two rounds. -/
def CGathers (w : World) (pre : List Wt) (W : World) : Prop :=
  (∃ v, Boxed W w.heap.size 26 v ∧ W.ownsRow w.heap.size tW 5 v pre.length (wcells pre) ∧ True) ∧ Below w.heap.size w W
theorem cgathers_own (w : World) (B : Nat) (hB : w.heap.size ≤ B) : OwnFrom B (CGathers w) :=
  OwnFrom.and (Own.from (holdsRow_own w.heap.size w.heap.size 26 tW 5 List.length wcells (fun _ _ => True)) _) (ownFrom_below (Nat.le_refl _) hB)
/-- the round's variable lies in a box of its own. -/
def CElem (w : World) (sv : Value) (x : Wt) (a : Act) (W : World) : Prop :=
  ∃ bx, a = { tmps := #[.slice none 0 0, sv, .pointer (some ⟨w.heap.size, 0, none⟩), undef, .slice none 0 0, .pointer (some ⟨bx, 0, none⟩), sv, wtV x, undef, undef, undef, undef, undef], defers := [] } ∧ At W bx tW (wtC x)
theorem celem_own (w : World) (sv : Value) (x : Wt) (a : Act) (B : Nat) : OwnFrom B (fun (_ : Unit) W => CElem w sv x a W) := by
  rintro _ X Y row ⟨bx, e, hat⟩ hg hrow
  refine ⟨bx, e, hat.kept hg fun e' => ?_⟩
  obtain ⟨_, o, ho, hc⟩ := hrow _ e'
  rw [show X.heap[bx]? = _ from hat] at ho
  cases ho; cases hc
theorem tws_ne : 26 ≠ tW := by decide
set_option maxRecDepth 100000 in
set_option maxHeartbeats 3200000 in
theorem ca_append (Bm m : Nat) (q : List Wt) (w : World) (hBl : Bm < w.heap.size) (hB : w.cell? ⟨Bm, 0, none⟩ = some (.map (some m))) (hM : Mw w m q) (hq : q.length ≤ 1000) :
    Calls Try.prog 27 #[.slice none 0 0, .func (.func 24) #[] #[.pointer (some ⟨Bm, 0, none⟩)]] w fun e w' => ∃ v acc, e = .returned v ∧ acc.Perm q ∧ w'.ownsRow w.heap.size tW 5 v acc.length (wcells acc) ∧ Below w.heap.size w w' := by
  obtain ⟨i, hi, hz0, hz1, hz2⟩ := info_parts infoWt
  have hb0 : Below w.heap.size w (w.alloc (.cells #[.slice none 0 0] 26)) := (Below.refl _ w).alloc (Nat.le_refl _) _
  have HST := Lib.hid (cvals_stops (3 - 1) (by decide) Bm m q (w.alloc (.cells #[.slice none 0 0] 26)) (by simp; omega) ((hb0.cell (p := ⟨Bm, 0, none⟩) hBl).trans hB) (hM.below hb0 hM.lt))
  have HI0 : Hid (CGathers w [] (w.alloc (.cells #[.slice none 0 0] 26))) := Lib.hid ⟨⟨_, Boxed.new w _ _, World.ownsRow_nil _ _ _ _, trivial⟩, hb0⟩
  have HZ : Hid (w.heap.size ≤ (w.alloc (.cells #[.slice none 0 0] 26)).heap.size) := Lib.hid (by simp)
  clear hb0 hBl hB hM
  refine (callsIn_wide (n := 3)).1 ?_
  refine callsIn_of_wp_marks Try.func27 rfl trivial ?_ rfl
  simp only [Try.ntmps27, List.size_toArray, List.length_cons, List.length_nil, Nat.reduceAdd, Nat.reduceSub, Array.replicate_succ, Array.replicate_zero, List.push_toArray, List.append_toArray, List.nil_append, List.cons_append]
  gi_wp2
  generalize w.alloc (.cells #[.slice none 0 0] 26) = W0 at *
  refine wpIn_rangeFunc_ownH (F := Fence.wide) rfl (by decide) (gf := 24) (lb := #[.pointer (some ⟨Bm, 0, none⟩)]) rfl trivial (enters_of Try.func24 (by kernel_rfl) rfl)
    HST.out walksK_t (fun W l o o' hl h hc hw => walksK_b (w := W0) W l o o' hl h hc hw) (Below.refl _ _) (fun _ => rfl)
    (CGathers w) (fun _ _ _ => False) (cgathers_own w _ HZ.out) (fun _ _ _ _ _ hs _ _ => hs) HI0.out
    (CElem w (.func (.func 24) #[] #[.pointer (some ⟨Bm, 0, none⟩)])) (fun x a' => celem_own w _ x a' _) ?assign ?body ?done ?stop
  case assign =>
    intro l pre x W K hI hK
    have HI := Lib.hid hI
    have HK := Lib.hid hK
    have HN := Lib.hid (At.new W tW (wtC wt0))
    clear hI hK HI0 HST
    gi_wp2_with (first
      | (refine wpwi_store rfl _ _ rfl rfl x rfl HN.out rfl ?_; intro W3 ha3 hg3 hs3; have HA3 := Lib.hid ha3; have HG3 := Lib.hid hg3; clear ha3 hg3 hs3)
      | gi_in)
    have hko : KeepsOthers W W3 := (KeepsOthers.alloc W (.cells (wtC wt0).toArray tW)).trans (KeepsOthers.of_grownBy HG3.out fun j o ej hj => by
      injection ej with ej
      subst ej
      rw [show (W.alloc (.cells (wtC wt0).toArray tW)).heap[W.heap.size]? = _ from HN.out] at hj
      cases hj; rfl)
    have hg : W.grownBy W3 none := (World.grownBy_alloc W (.cells (wtC wt0).toArray tW) none).andThen HG3.out (fun q e => Or.inl (by injection e with e; omega))
    exact HK.out _ _ (hko.from _) hko.walks (cgathers_own w _ (Nat.le_refl _) pre W W3 none HI.out hg (fun r e => by cases e)) ⟨_, rfl, HA3.out⟩
  case body =>
    rintro l pre x a' W hl hr ⟨⟨v, hv, hrow, _⟩, hB⟩ ⟨bx, rfl, hat⟩ hlt
    have hc := hv.cell
    have HV := Lib.hid hv
    have HR := Lib.hid hrow
    have HB := Lib.hid hB
    have HA := Lib.hid hat
    have hws := hB.size
    have HX := Lib.hid (At.new W tW (wtC x))
    clear hv hrow hB hat hl hr HI0 HST
    gi_wp2_with (first
      | (refine wpwi_load rfl _ rfl rfl (wtc_at HA.out) ?_)
      | (refine wpwi_one rfl _ rfl x rfl ?_; intro w' hw'; subst hw')
      | (gi_at_builtin; refine wpListIn_append_own _ rfl _ _ 26 rfl w.heap.size tW i (wtV wt0) 5 48 Try.underlying26 hi hz0 hz1 hz2 rfl (by decide) v pre.length (wcells pre) rfl (HR.out.alloc _) ⟨W.heap.size, 0, none⟩ 1 1 (wtC x) rfl rfl (fun j u hj => by rw [Addr.add_mid, Nat.zero_add]; exact HX.out.cell j hj) (wtC_one x) (by unfold maxLen; omega) (by omega) (by simp; omega) ?_; intro v1 w1 hown1 hgrow _; obtain ⟨g, cap, rfl⟩ := ownsRow_succ hown1; obtain ⟨hv1, hv2, hr2, hk2, hb2⟩ := HV.out.appended tws_ne HR.out hws (Nat.le_refl _) hown1 hgrow; have hc1 := hv1.cell; have hf1 := hv1.frozen; have HV2 := Lib.hid hv2; have HR2 := Lib.hid hr2; have HK2 := Lib.hid hk2; have HB2 := Lib.hid hb2; clear hown1 hgrow hv1 hv2 hr2 hk2 hb2)
      | gi_in)
    refine ⟨HK2.out.from _, HK2.out.walks, ⟨⟨_, HV2.out, ?_, trivial⟩, HB.out.trans HB2.out⟩⟩
    rw [List.length_append, wcells_app]
    exact HR2.out
  case done =>
    rintro D ys W hD hperm ⟨⟨v, hv, hrow, _⟩, hB⟩ hK
    have hc := hv.cell
    have HR := Lib.hid hrow
    have HB := Lib.hid hB
    have HP := Lib.hid hperm
    clear hv hrow hB hperm HI0 HST
    gi_wp2
    refine ⟨by simp, .inl ⟨_, _, rfl, run_takeDeferred hK, ?_⟩⟩
    have h3 := ownsRow_putObj HR.out (.deferred none) hK rfl
    exact ⟨_, results_tmp rfl _ _ _, v, ys, rfl, HP.out, h3, HB.out.trans (belowK_b (w := w) (Nat.le_refl _) W D _ _ (Nat.le_trans HZ.out hD) hK rfl rfl)⟩
  case stop =>
    rintro D c pre W _ _ h _
    exact h.elim
theorem ca_collect (Bm m : Nat) (q : List Wt) (w : World) (hBl : Bm < w.heap.size) (hB : w.cell? ⟨Bm, 0, none⟩ = some (.map (some m))) (hM : Mw w m q) (hq : q.length ≤ 1000) :
    Calls Try.prog 22 #[.func (.func 24) #[] #[.pointer (some ⟨Bm, 0, none⟩)]] w fun e w' => ∃ v acc, e = .returned v ∧ acc.Perm q ∧ w'.ownsRow w.heap.size tW 5 v acc.length (wcells acc) ∧ Below w.heap.size w w' := by
  have H := Lib.hid (ca_append Bm m q w hBl hB hM hq)
  clear hBl hB hM hq
  go_enter Try.func22, Try.ntmps22
  go_wp2_with fail
  refine H.out.mono ?_; rintro e w' ⟨v, acc, rfl, hp, hr, hb⟩
  have HP := Lib.hid hp
  have HR := Lib.hid hr
  have HB := Lib.hid hb
  clear hp hr hb H
  go_wp2_with fail
  go_ret
  exact ⟨_, _, rfl, HP.out, HR.out, HB.out⟩

/-! ### the sort of what was gathered -/
theorem ca_sort_none (w : World) : Calls Try.prog 23 #[.slice none 0 0, .func (.func 21) #[] #[]] w fun e w' => e = .returned (.tuple #[]) ∧ w' = w :=
  AnyF.slices_SortFunc_none { Try.sortCa with } none 0 _ w
theorem ca_sort_own {w : World} {base : Nat} {v : Value} {acc q : List Wt} (h : w.ownsRow base tW 5 v acc.length (wcells acc)) (hq : GoodW q) (hp : acc.Perm q) (hl : acc.length ≤ 1000) :
    ∃ A c, v = .slice A acc.length c ∧ acc.length ≤ c ∧ (A = none → c = 0) ∧ Calls Try.prog 23 #[.slice A acc.length c, .func (.func 21) #[] #[]] w fun e w' => e = .returned (.tuple #[]) ∧ Ws w' A acc.length q ∧ w.grownBy w' v.ownBlock := by
  obtain ⟨hl', hv⟩ := h
  rcases hv with ⟨rfl, h0⟩ | ⟨g, cap, cur, rfl, hg, hc, h1, h2, h3, h4⟩
  · have h0' : acc.length = 0 := h0
    refine ⟨none, 0, by rw [h0'], by omega, fun _ => rfl, ?_⟩
    obtain rfl : acc = [] := List.eq_nil_of_length_eq_zero h0'
    refine (ca_sort_none w).mono ?_
    rintro e w' ⟨rfl, rfl⟩
    obtain rfl : q = [] := List.eq_nil_of_length_eq_zero (by rw [← hp.length_eq]; rfl)
    exact ⟨rfl, Ws.nil _ _, grown_refl _ _⟩
  · exact ⟨some ⟨g, 0, none⟩, cap, rfl, h1, (fun e => nomatch e), ca_sort_any g cap acc q cur w hc (by simpa using h4) hq hp hl⟩
set_option maxRecDepth 100000 in
set_option maxHeartbeats 1600000 in
theorem ca_sorted (Bm m : Nat) (q : List Wt) (w : World) (hBl : Bm < w.heap.size) (hB : w.cell? ⟨Bm, 0, none⟩ = some (.map (some m))) (hM : Mw w m q) (hq : q.length ≤ 1000) :
    Calls Try.prog 19 #[.func (.func 24) #[] #[.pointer (some ⟨Bm, 0, none⟩)], .func (.func 21) #[] #[]] w fun e w' => ∃ A n c, e = .returned (.slice A n c) ∧ Ws w' A n q ∧ Below w.heap.size w w' := by
  have H := Lib.hid (ca_collect Bm m q w hBl hB hM hq)
  have HG := Lib.hid hM.good
  have HQ := Lib.hid hq
  clear hBl hB hM hq
  go_enter Try.func19, Try.ntmps19
  go_wp2_with fail
  refine H.out.mono ?_; rintro e w1 ⟨v, acc, rfl, hp, hr, hb⟩
  have HL : Hid (acc.length ≤ 1000) := Lib.hid (by rw [hp.length_eq]; exact HQ.out)
  obtain ⟨A, c, rfl, _, _, hcall⟩ := ca_sort_own hr HG.out hp HL.out
  have HC := Lib.hid hcall
  have HO : Hid (∀ q, (Value.slice A acc.length c).ownBlock = some q → w.heap.size ≤ q) := Lib.hid fun q e => (hr.lt q e).1
  have HB := Lib.hid hb
  clear hp hr hb hcall H
  go_wp2_with fail
  refine HC.out.mono ?_; rintro e w2 ⟨rfl, hw, hg⟩
  have HW := Lib.hid hw
  have HB2 := Lib.hid (HB.out.grown hg HB.out.size (fun q e => HO.out q e))
  clear hw hg HC
  go_wp2_with fail
  go_ret
  exact ⟨_, _, _, rfl, HW.out, HB2.out⟩

/-! ### All -/
set_option maxRecDepth 100000 in
set_option maxHeartbeats 1600000 in
theorem ca_all {b m : Nat} {l : List Wt} {w : World} (h : Cb w b m l) (hn : l.length ≤ 1000) :
    Calls Try.prog 15 #[.pointer (some ⟨b, 0, none⟩)] w fun e w' => ∃ A n c, e = .returned (.slice A n c) ∧ Ws w' A n l ∧ Below w.heap.size w w' := by
  have hc := h.1.cell 0 rfl
  have HV := Lib.hid (ca_values (some m) w)
  have hb1 := (Below.refl w.heap.size w).alloc (Nat.le_refl _) (.cells #[.map (some m)] 48)
  have HB1 := Lib.hid hb1
  have HS := Lib.hid (ca_sorted w.heap.size m l (w.alloc (.cells #[.map (some m)] 48)) (by simp) ((At.new w 48 [.map (some m)]).cell 0 rfl) (h.2.below hb1 h.2.lt) hn)
  clear h hn hb1
  go_enter Try.func15, Try.ntmps15
  go_wp2_with fail
  refine HV.out.mono ?_; rintro e w1 ⟨rfl, rfl⟩
  clear HV
  go_wp2_with fail
  refine HS.out.mono ?_; rintro e w2 ⟨A, n, c, rfl, hw, hb⟩
  have HW := Lib.hid hw
  have HB2 := Lib.hid (HB1.out.trans (hb.mono HB1.out.size))
  clear hw hb HS
  go_wp2_with fail
  go_ret
  exact ⟨_, _, _, rfl, HW.out, HB2.out⟩
theorem ca_all_nil (w : World) :
    Calls Try.prog 15 #[.pointer none] w fun e w' => e = .returned (.slice none 0 0) ∧ w = w' := by
  go_enter Try.func15, Try.ntmps15
  go_wp2_with fail
  go_ret
  exact ⟨rfl, rfl⟩
end Go.Proofs.Ytamcpdhehipcfaa

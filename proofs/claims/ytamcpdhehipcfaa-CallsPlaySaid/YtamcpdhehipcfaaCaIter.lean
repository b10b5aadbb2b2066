/- Proved: what the iterator over the calls' map hands to whatever loop goes over it: all calls, each once, in some order. Conditions: those that the theorems name. -/
import Derived.Test.YtamcpdhehipcfaaCaBase
import Derived.RangeFuncNested
import Derived.RangeFuncBound
import Derived.RangeFuncCalls
import Derived.RangeFuncLeaves
import Derived.RangeFuncBox
import Derived.Shelf.Abstract
import Derived.OwnWalkIn
import Derived.TacticsInMore
import Derived.LoopNIn
import Derived.LoopIn
import Derived.Sort.MapsRangeIn
namespace Go.Proofs.Ytamcpdhehipcfaa
open Go.ChangeShapes Go.WideShapes Go.ChangeAt Go.RowKit
attribute [local go_sem] Oper.semAt_some

/-! ### a call by value, inside a fence -/
section
variable {F : Fence} {n : Nat} {ops : Array Oper} {rest : List Oper} {op : Oper} {a : Act} {w : World} {Q : Exit → Act → World → Prop}
theorem wpwi_load (hgd : op.guard = none) (x : Operand) (ho : op.op = .load tW x) {q : Addr} (hx : a.eval x = .pointer (some q)) {y : Wt} (hA : WtC w q y)
    (h : wpListIn F n Try.prog ops Q rest (a.put op.dst (wtV y)) w) : wpListIn F n Try.prog ops Q (op :: rest) a w :=
  wpListIn_plain hgd fun K hK => by
    unfold Oper.wpIn
    refine ⟨by simp [Oper.about, ho], ?_⟩
    rw [Oper.semAt_plain F _ _ (by rw [ho]; intro c hc; cases hc)]
    unfold execOp
    simp only [ho, hx, Instr.loadAt, Instr.sureAddr, Sem.run_bind, Sem.run_pure, Result.andThen_ok, hA.run]
    exact hK _ _ h
theorem wpwi_store (hgd : op.guard = none) (x z : Operand) (ho : op.op = .store tW x z) {b : Nat} (hx : a.eval x = .pointer (some ⟨b, 0, none⟩)) (y : Wt) (hz : a.eval z = wtV y) {old : List Value} (hA : At w b tW old) (hl : old.length = 5)
    (h : ∀ w', At w' b tW (wtC y) → w.grownBy w' (some b) → w'.heap.size = w.heap.size → wpListIn F n Try.prog ops Q rest (a.put op.dst undef) w') : wpListIn F n Try.prog ops Q (op :: rest) a w := by
  have hrun : (Instr.storeAt tW (.pointer (some ⟨b, 0, none⟩)) (wtV y)).run Try.prog w = .ok () (w.setCells b 0 (wtC y)) :=
    run_storeAt_mid w b 0 tW (wtC y).toArray (hA.there (by rw [hl]; rfl)) tW_size (all_oneCell_toArray (wtC_one y))
  have h' := h _ (hA.all_ (wtC y) (by rw [hl]; rfl)) (grown_sets _ _ _ _) (size_sets _ _ _ _)
  refine wpListIn_plain hgd fun K hK => ?_
  unfold Oper.wpIn
  refine ⟨by simp [Oper.about, ho], ?_⟩
  rw [Oper.semAt_plain F _ _ (by rw [ho]; intro c hc; cases hc)]
  unfold execOp
  simp only [ho, hx, hz, Sem.run_bind, hrun, Sem.run_pure, Result.andThen_ok]
  exact hK _ _ h'
theorem wpwi_one (hgd : op.guard = none) (x : Operand) (ho : op.op = .buildSlice 26 1 #[(0, x)]) (y : Wt) (hx : a.eval x = wtV y)
    (h : ∀ w', w' = w.alloc (.cells (wtC y).toArray tW) → wpListIn F n Try.prog ops Q rest (a.put op.dst (.slice (some ⟨w.heap.size, 0, none⟩) 1 1)) w') : wpListIn F n Try.prog ops Q (op :: rest) a w := by
  obtain ⟨i, hi, hz0, hz1, hz2⟩ := info_parts infoWt
  have hr : Array.range 5 = #[0, 1, 2, 3, 4] := by decide
  have hrun : (Instr.buildSlice 26 1 #[(0, wtV y)]).run Try.prog w = .ok (.slice (some ⟨w.heap.size, 0, none⟩) 1 1) (w.alloc (.cells (wtC y).toArray tW)) :=
    run_buildSlice w 26 tW 1 #[(0, wtV y)] (wtC y).toArray i (wtV wt0) Try.underlying26 hi hz0 (by rw [hz1]; omega) (by rw [hz1]; omega) (by
      rw [hz1]
      simp [Instr.fill, wtV, wtC, Value.cells, hr])
  have h' := h _ rfl
  refine wpListIn_plain hgd fun K hK => ?_
  unfold Oper.wpIn
  refine ⟨by simp [Oper.about, ho], ?_⟩
  rw [Oper.semAt_plain F _ _ (by rw [ho]; intro c hc; cases hc)]
  unfold execOp
  simp only [ho, List.map_toArray, List.map_cons, List.map_nil, hx, Sem.run_bind, hrun, Sem.run_pure, Result.andThen_ok]
  exact hK _ _ h'
end

/-! ### ranging over the map -/
/-- Block b is a map of the calls l; block r goes through it; p: those that are still to come; so many are. -/
def CRng (w : World) (b r : Nat) (l : List Wt) (p : Wt → Bool) (cnt : Nat) : Prop :=
  GoodW l ∧ ∃ (D : WtD) (left : Lit → Bool) (n : Nat), MapW D l ∧ w.ranges Try.prog 52 wtR b r n D left cnt ∧ ∀ x ∈ l, left (pkL x.key) = p x
theorem CRng.kept {w w' : World} {b r : Nat} {l : List Wt} {p : Wt → Bool} {cnt : Nat} {row : Option Nat} (h : CRng w b r l p cnt) (hg : w.grownBy w' row) (hb : row ≠ some b) (hr : row ≠ some r) : CRng w' b r l p cnt := by
  obtain ⟨hl, D, left, n, hD, h, hp⟩ := h
  exact ⟨hl, D, left, n, hD, h.kept hg (fun e => hb e.symm) (fun e => hr e.symm), hp⟩
theorem CRng.walks {w w' : World} {b r : Nat} {l : List Wt} {p : Wt → Bool} {cnt : Nat} (h : CRng w b r l p cnt) (hk : KeepsWalks w w') : CRng w' b r l p cnt := by
  obtain ⟨hl, D, left, n, hD, h, hp⟩ := h
  exact ⟨hl, D, left, n, hD, h.of_walks hk, hp⟩
theorem CRng.left_eq {w : World} {b r : Nat} {l : List Wt} {p : Wt → Bool} {cnt : Nat} (h : CRng w b r l p cnt) : w.rangeLeft b r = cnt := by
  obtain ⟨hl, D, left, n, hD, h, hp⟩ := h
  exact h.left_eq
theorem CRng.lt {w : World} {b r : Nat} {l : List Wt} {p : Wt → Bool} {cnt : Nat} (h : CRng w b r l p cnt) : r < w.heap.size := by
  obtain ⟨hl, D, left, n, hD, h, hp⟩ := h
  exact h.lt
theorem CRng.mlt {w : World} {b r : Nat} {l : List Wt} {p : Wt → Bool} {cnt : Nat} (h : CRng w b r l p cnt) : b < w.heap.size := by
  obtain ⟨hl, D, left, n, hD, h, hp⟩ := h
  exact h.owns.lt
theorem CRng.iter {w : World} {b r : Nat} {l : List Wt} {p : Wt → Bool} {cnt : Nat} (h : CRng w b r l p cnt) : ∃ o : Obj, w.heap[r]? = some o ∧ o.isWalk = true := by
  obtain ⟨hl, D, left, n, hD, h, hp⟩ := h
  exact h.iter_walk
section
variable (w : World) {F : Fence} {n : Nat} {ops : Array Oper} {rest : List Oper} {o : Oper} {a : Act} {Q : Exit → Act → World → Prop}
/-- 'range m'. -/
theorem crng_start (hg : o.guard = none) (m : Operand) (hop : o.op = Op.range 48 m) (b : Nat) (l : List Wt) (hm : a.eval m = .map (some b)) (hown : Mw w b l)
    (hK : ∀ w', CRng w' b w.heap.size l (fun _ => true) l.length → w.grownBy w' none → w'.heap.size = w.heap.size + 1 → wpListIn F n Try.prog ops Q rest (a.put o.dst (.pointer (some ⟨w.heap.size, 0, none⟩))) w') :
    wpListIn F n Try.prog ops Q (o :: rest) a w := by
  obtain ⟨hl, D, ho, hD⟩ := hown
  refine wpListIn_range_own w hg m _ hop _ _ pk_law Try.underlying48 _ b _ D hm ho ?_
  intro w' hr hgr hs
  rw [hD.num] at hr
  exact hK w' ⟨hl, D, _, _, hD, hr, fun x hx => by rw [hD.has _ (hl.ok x hx).ok, wasW_mem hx]⟩ hgr hs
/-- The step. -/
theorem crng_next (hg : o.guard = none) (it : Operand) (hop : o.op = Op.next it false) (b r : Nat) (l : List Wt) (p : Wt → Bool) (cnt : Nat) (hit : a.eval it = .pointer (some ⟨r, 0, none⟩)) (h : CRng w b r l p cnt)
    (hDone : (∀ x ∈ l, p x = false) → wpListIn F n Try.prog ops Q rest (a.put o.dst (.tuple #[.bool false])) w)
    (hMore : ∀ (x : Wt) (w' : World) (cnt' : Nat), x ∈ l → p x = true → CRng w' b r l (fun y => p y && !decide (y = x)) cnt' → cnt' < cnt → w.grownBy w' (some r) → w'.heap.size = w.heap.size →
      (Instr.entry (.pointer (some ⟨r, 0, none⟩))).run Try.prog w' = .ok (.tuple #[pkV x.key, wtV x]) w' → wpListIn F n Try.prog ops Q rest (a.put o.dst (.tuple #[.bool true, pkV x.key, wtV x])) w') :
    wpListIn F n Try.prog ops Q (o :: rest) a w := by
  obtain ⟨hl, D, left, nn, hD, hr, hp⟩ := h
  refine wpListIn_next_ranges w hg it hop 52 pk_law wtR pkV wtV (fun key kl hk => by obtain ⟨k, e, _, _⟩ := pk_inv hk; exact ⟨k, e⟩) (fun v y hv => by obtain ⟨c, e, _⟩ := wtR_inv hv; exact ⟨c, e⟩) b r nn D left cnt hit hr ?_ ?_
  · intro _ hd
    exact hDone fun x hx => by rw [← hp x hx]; exact hd _
  · intro k c kl y w' cnt' hkey hlk hv hat hrg hlt hgr hsz hen
    obtain ⟨k', e, rfl, hk⟩ := pk_inv hkey
    have e' : k = k' := by
      simp at e
      exact Prod.ext e.1 e.2
    subst e'
    obtain ⟨c', ec, rfl⟩ := wtR_inv hv
    obtain rfl := wtV_inj ec
    have hh := hD.has k hk
    rw [Maps.has_true_of_atKey hat] at hh
    obtain ⟨x, hx, rfl⟩ := wasW_iff.1 hh.symm
    have hv := hD.val x.key hk
    rw [hat, atW_mem hl hx] at hv
    have hv' : c = x := by simpa using hv
    subst hv'
    refine hMore c w' cnt' hx (by rw [← hp c hx]; exact hlk) ⟨hl, D, _, nn, hD, hrg, fun z hz => ?_⟩ hlt hgr hsz hen
    show (left (pkL z.key) && !(pkL z.key).sameKey (pkL c.key)) = _
    rw [hp z hz, pkL_same (hl.ok z hz).ok hk]
    congr 2
    rw [Bool.eq_iff_iff, decide_eq_true_eq, decide_eq_true_eq]
    exact ⟨fun e => hl.one hz hx e, fun e => by rw [e]⟩
end

/-! ### maps.Values -/
theorem ca_values (mb : Option Nat) (w : World) :
    Calls Try.prog 20 #[.map mb] w fun e w' => e = .returned (.func (.func 24) #[] #[.pointer (some ⟨w.heap.size, 0, none⟩)]) ∧ w' = w.alloc (.cells #[.map mb] 48) := by
  have hmf : ∀ (fn : Fn) (first cap : Array Value) (w : World), (Instr.makeFunc fn first cap).run Try.prog w = .ok (.func fn first cap) w := fun _ _ _ _ => rfl
  go_enter Try.func20, Try.ntmps20
  go_wp2
  go_ret
  exact ⟨rfl, rfl⟩
set_option maxRecDepth 100000 in
set_option maxHeartbeats 1600000 in
/-- the iterator, for every loop body: the calls come, each once, in some order. -/
theorem cvals_in (n : Nat) (hn : 1 ≤ n) (l Bm m : Nat) (q : List Wt) (J Jx : List Wt → World → Prop) (W : World) (hJ : AbidesFrom W.heap.size J)
    (hY : ∀ pre x W1, J pre W1 → pre.length < q.length → YieldAt Fence.wide (n - 1) Try.prog l #[wtV x] W1 fun e W' =>
      (e = .returned (.bool true) ∧ J (pre ++ [x]) W' ∧ KeepsWalks W1 W') ∨ (e = .returned (.bool false) ∧ Jx (pre ++ [x]) W'))
    (hB : W.cell? ⟨Bm, 0, none⟩ = some (.map (some m))) (hM : Mw W m q) (h0 : J [] W) :
    CallsIn Fence.wide n Try.prog 24 #[.func (.yield l) #[] #[], .pointer (some ⟨Bm, 0, none⟩)] W fun e W' => (∃ v, e = .returned v) ∧
      ((∃ xs, xs.Perm q ∧ J xs W') ∨ (∃ pre : List Wt, True ∧ Jx pre W')) := by
  have HJ := Lib.hid hJ
  have HY := Lib.hid hY
  have HM := Lib.hid hM
  have HG := Lib.hid hM.good
  clear hJ hY hM
  refine callsIn_of_wp Try.func24 rfl trivial ?_ rfl
  simp only [Try.ntmps24, List.size_toArray, List.length_cons, List.length_nil, Nat.reduceAdd, Nat.reduceSub, Array.replicate_succ, Array.replicate_zero, List.push_toArray, List.append_toArray, List.nil_append, List.cons_append]
  gi_wp2_with (first
    | (gi_at_range; refine crng_start _ rfl _ rfl m q rfl HM.out ?_; intro w0 hr0 hg0 hs0)
    | gi_in)
  go_frame
  have HR0 := Lib.hid hr0
  have HJ0 := Lib.hid (HJ.out [] W w0 none h0 hg0 (fun r e => by cases e))
  have HML : Hid (m < W.heap.size) := Lib.hid HM.out.lt
  clear hr0 hg0 hs0 h0
  gi_loopw [4] (fun _ wr => ∃ (p : Wt → Bool) (cnt : Nat) (ss : List Wt), CRng wr m W.heap.size q p cnt ∧ ss.Perm (q.filter fun x => !p x) ∧ J ss wr)
    (fun _ wr => wr.rangeLeft m W.heap.size)
  case atStart => exact ⟨_, _, [], HR0.out, by simp, HJ0.out⟩
  case round =>
    obtain ⟨p, cnt, ss, hrg, hperm, hJs⟩ := hrel
    have HR := Lib.hid hrg
    have HP := Lib.hid hperm
    have HS := Lib.hid hJs
    clear hrg hperm hJs HR0 HJ0
    gi_wp2_with (first
      | (gi_at_next; refine crng_next _ rfl _ rfl m W.heap.size q p cnt rfl HR.out ?_ ?_)
      | gi_in)
    · intro hd
      have HD : Hid (ss.Perm q) := Lib.hid (by
        have e : (q.filter fun x => !p x) = q := List.filter_eq_self.2 fun x hx => by rw [hd x hx]; rfl
        have := HP.out
        rw [e] at this
        exact this)
      clear hd
      gi_wp2
      go_end0
      exact ⟨⟨_, rfl⟩, .inl ⟨ss, HD.out, HS.out⟩⟩
    · intro x w2 cnt2 hx hp hr2 hlt hg2 hs2 hen
      have HX := Lib.hid hx
      have hP2 : (ss ++ [x]).Perm (q.filter fun y => !(p y && !decide (y = x))) := by
        have := filterW_more HG.out hx (p := fun y => !p y) (q := fun y => !(p y && !decide (y = x))) (by simp [hp]) (fun y _ => by
          by_cases e : y = x
          · subst e; simp
          · simp [e])
        exact (List.perm_append_comm).trans ((HP.out.cons x).trans this.symm)
      have HP2 := Lib.hid hP2
      have HN : Hid (ss.length < q.length) := Lib.hid (by
        have h1 := hP2.length_eq
        have h2 := List.length_filter_le (fun y => !(p y && !decide (y = x))) q
        rw [List.length_append, List.length_singleton] at h1
        omega)
      have HJ2 : Hid (J ss w2) := Lib.hid (HJ.out ss wr w2 (some W.heap.size) HS.out hg2 (fun r e => by cases e; exact ⟨Nat.le_refl _, HR.out.iter⟩))
      have HR2 := Lib.hid hr2
      have HLT := Lib.hid hlt
      have HLE := Lib.hid HR.out.left_eq
      have HNew := Lib.hid (At.new w2 tW (wtC wt0))
      clear hP2 hx hp hr2 hlt hg2 hs2 HS HP HR
      gi_wp2_with (first
        | (refine wpwi_store rfl _ _ rfl rfl x rfl HNew.out rfl ?_; intro W3 ha3 hg3 hs3; have hg : w2.grownBy W3 none := (World.grownBy_alloc w2 (.cells (wtC wt0).toArray tW) none).andThen hg3 (fun q e => Or.inl (by injection e with e; omega)); have HA3 := Lib.hid ha3; have HR3 := Lib.hid (HR2.out.kept hg (by simp) (by simp)); have HJ3 := Lib.hid (HJ.out ss w2 W3 none HJ2.out hg (fun r e => by cases e)); clear ha3 hg3 hs3 hg; obtain ⟨fn, tmps, assign, body, hy, hR⟩ := HY.out ss x W3 HJ3.out HN.out; have HRR := Lib.hid hR; clear hR hen)
        | (refine wpwi_load rfl _ rfl rfl (wtc_at HA3.out) ?_)
        | gi_in)
      refine HRR.out.mono ?_
      rintro e W4 (⟨rfl, hJ4, hk4⟩ | ⟨rfl, hx4⟩)
      · have HJ4 := Lib.hid hJ4
        have HR4 := Lib.hid (HR3.out.walks hk4)
        clear hJ4 hk4 hy
        gi_wp2
        go_roundw
        case rel => exact ⟨_, cnt2, ss ++ [x], HR4.out, HP2.out, HJ4.out⟩
        case measure => rw [HR4.out.left_eq, HLE.out]; exact HLT.out
      · have HX4 := Lib.hid hx4
        clear hx4 hy
        gi_wp2
        refine bodyPost_ret (results_none rfl _ _ _) rfl ?_
        exact ⟨⟨_, rfl⟩, .inr ⟨_, trivial, HX4.out⟩⟩
/-- the value that maps.Values answers hands the calls to whatever loop goes over it. -/
theorem cvals_stops (n : Nat) (hn : 1 ≤ n) (Bm m : Nat) (q : List Wt) (w : World) (hBl : Bm < w.heap.size) (hB : w.cell? ⟨Bm, 0, none⟩ = some (.map (some m))) (hM : Mw w m q) :
    SeqStopsK Fence.wide n Try.prog 24 #[.pointer (some ⟨Bm, 0, none⟩)] (fun x : Wt => #[wtV x]) KeepsWalks (fun xs => xs.Perm q) (fun _ => True) q.length w :=
  fun l J Jx W hW hJ _ hY h0 => cvals_in n hn l Bm m q J Jx W hJ hY ((hW.cell (p := ⟨Bm, 0, none⟩) hBl).trans hB) (hM.below hW hM.lt) h0
end Go.Proofs.Ytamcpdhehipcfaa

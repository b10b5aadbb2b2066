/- Proved: what Push answers and leaves. Conditions: those that the theorems name. -/
import Derived.Test.YtplbdeaoeocgkaaDrAdd
import Derived.Deep.RegionLaw
import Derived.Lib.AppendZeros
namespace Go.Proofs.Ytplbdeaoeocgkaa
open Go.ChangeShapes Go.WideShapes Go.ChangeAt Go.RowKit

theorem step_append_run {P : Program} {w : World} {ops : Array Oper} {o : Oper} {a : Act} {K : Act → World → Prop} {Q : Exit → Act → World → Prop} {E : Prop} (hgd : o.guard = none) (s x : Operand) (t tn : TypeId)
    (ho : o.op = .call { callee := .builtin .append, args := #[s, x], argTypes := #[t, tn] }) (vs vx : Value) (hs : a.eval s = vs) (hx : a.eval x = vx)
    (v' : Value) (w' : World) (hr : (Builtin.append_ #[t, tn] o.type #[vs, vx]).run P w = .ok v' w') (h : K (a.put o.dst v') w') :
    if Region.wanted o (yielded ops a.tmps) = true then Oper.wp P o a w K Q else E := by
  have hw : Region.wanted o (yielded ops a.tmps) = true := by simp [Region.wanted, hgd]
  rw [if_pos hw]
  exact Lib.wp_append_run w s x t tn ho vs vx hs hx v' w' hr h
/-- one queue of the round gets a new row of items. -/
theorem Sr.turn2 {w w' : World} {L : Ly} {Q : Int} {W : List (Int × Int)} {A B : List Qd} {q q' : Qd} {c : Nat → Prop} {g : Nat} {v : Value} (h : Sr w L Q W (A ++ q :: B)) (o : Rok W (A ++ q :: B)) (hid : q'.id = q.id) (k : Tn c w w')
    (hc : ∀ i, i < w.heap.size → c i → L.col i = q.id ∨ L.col i = 1000 + q.id) (hg : L.col g = 1000 + q.id ∨ w.heap.size ≤ g) (hgl : g < w'.heap.size)
    (ha : At w' (L.ptr q.id) 66 [.int .i64 q'.w, .int .i64 q'.d, .bool q'.s, v]) (hir : Ir w' (fun i => i = g) v q'.l) :
    Sr w' (L.paint g (1000 + q.id)) Q W (A ++ q' :: B) ∧ Lx w L (L.paint g (1000 + q.id)) := by
  obtain ⟨rv, h1, h2⟩ := h.sched
  have hqm : q ∈ A ++ q :: B := by simp
  have hqi := o.id hqm
  have hqr := h.busy q hqm
  have hgf : L.col g = 1000 + q.id ∨ L.col g = -1 := hg.imp id fun e => h.ahead g e
  have hcol : ∀ i, i < w.heap.size → (L.paint g (1000 + q.id)).col i = L.col i := fun i hi => by
    by_cases e : i = g
    · subst e
      rw [paint_at]
      rcases hg with hg | hg
      · exact hg.symm
      · omega
    · exact paint_far L _ e
  have hids : (A ++ q' :: B).map Qd.id = (A ++ q :: B).map Qd.id := by rw [List.map_append, List.map_append, List.map_cons, List.map_cons, hid]
  have hps : ((A ++ q' :: B).map fun q => L.ptr q.id) = (A ++ q :: B).map fun q => L.ptr q.id := by rw [List.map_append, List.map_append, List.map_cons, List.map_cons, hid]
  have far : ∀ x : Qd, x.id ≠ q.id → (0 ≤ x.id ∧ x.id ≤ 255) → Qr w L x → Qr w' (L.paint g (1000 + q.id)) x := fun x hne hrg hx => (hx.tn k fun i hi f => by
    have := hc i hi f
    omega).paint _ (by omega)
  have hnd := o.rn
  rw [List.map_append, List.map_cons, List.nodup_append] at hnd
  refine ⟨⟨⟨rv, h1.tn k (fun e => by have := hc _ h1.lt e; rw [h.cb] at this; omega), ?_⟩, (hcol _ h1.lt).trans h.cb, (hcol _ h.map.lt).trans h.cm, h.map.tn k (fun e => by have := hc _ h.map.lt e; rw [h.cm] at this; omega), fun x hx => ?_, fun x hx hn => ?_, fun i hi => ?_⟩, rfl, rfl, hcol⟩
  · show Rr w' (fun i => (L.paint g (1000 + q.id)).col i = 258) rv ((A ++ q' :: B).map fun q => L.ptr q.id)
    rw [hps]
    refine (h2.tn k fun i hi e f => by have := hc i hi f; omega).mono fun i _ e => ?_
    have e : L.col i = 258 := e
    rw [paint_far L _ (fun f => by rw [f] at e; omega)]; exact e
  · rcases List.mem_append.1 hx with hx | hx
    · have hx' : x ∈ A ++ q :: B := List.mem_append_left _ hx
      exact far x (fun e => hnd.2.2 x.id (List.mem_map.2 ⟨x, hx, rfl⟩) q.id (List.mem_cons_self ..) e) (o.id hx') (h.busy x hx')
    · rcases List.mem_cons.1 hx with rfl | hx
      · refine ⟨?_, v, ?_, hir.mono fun i _ e => ?_⟩
        · show (L.paint g (1000 + q.id)).col (L.ptr x.id) = x.id
          rw [hid, hcol _ hqr.lt]; exact hqr.1
        · show At w' (L.ptr x.id) _ _
          rw [hid]; exact ha
        · have e : i = g := e
          rw [e, hid]; exact paint_at L g _
      · have hx' : x ∈ A ++ q :: B := List.mem_append_right _ (List.mem_cons_of_mem _ hx)
        exact far x (fun e => (List.nodup_cons.1 hnd.2.1).1 (List.mem_map.2 ⟨x, hx, e⟩)) (o.id hx') (h.busy x hx')
  · rw [isR_same hids] at hn
    exact far ⟨x.1, x.2, 0, false, []⟩ (fun e => isR_not.1 hn q hqm e.symm) (o.w x hx) (h.idle x hx hn)
  · rw [paint_far L _ (by omega)]
    exact h.ahead i (Nat.le_trans k.size hi)
/-- an empty queue is the last one of the round. -/
theorem Sr.join {w w' : World} {L : Ly} {Q : Int} {W : List (Int × Int)} {R : List Qd} {q : Qd} {rv : Value} {g : Nat} {c : Nat → Prop} (hs : Sr w L Q W R) (o : Rok W R) (k : Tn c w w')
    (hc : ∀ i, i < w.heap.size → c i → L.col i = 256 ∨ L.col i = 258 ∨ L.col i = -1)
    (hg : L.col g = 258 ∨ w.heap.size ≤ g) (hb : At w' L.b 56 [.int .i64 Q, .map (some L.m), rv]) (hr : Rr w' (fun i => i = g) rv ((R ++ [q]).map fun q => L.ptr q.id)) (hgl : g < w'.heap.size)
    (hq : (q.id, q.w) ∈ W) (hn : isR R q.id = false) (he : q = ⟨q.id, q.w, 0, false, []⟩) :
    Sr w' (L.paint g 258) Q W (R ++ [q]) ∧ Lx w L (L.paint g 258) := by
  have hcol : ∀ i, i < w.heap.size → (L.paint g 258).col i = L.col i := fun i hi => by
    by_cases e : i = g
    · subst e
      rw [paint_at]
      rcases hg with hg | hg
      · exact hg.symm
      · omega
    · exact paint_far L 258 e
  have hgf : L.col g = 258 ∨ L.col g = -1 := hg.imp id fun h => hs.ahead g h
  have hgo : ∀ x : Qd, (0 ≤ x.id ∧ x.id ≤ 255) → Qr w L x → Qr w' (L.paint g 258) x := fun x hrg hx => (hx.tn k fun i hi f => by
    have := hc i hi f
    omega).paint _ (by omega)
  obtain ⟨_, h1, _⟩ := hs.sched
  refine ⟨⟨⟨rv, hb, hr.mono fun i _ e => by have e : i = g := e; rw [e]; exact paint_at L g 258⟩, (hcol _ h1.lt).trans hs.cb, (hcol _ hs.map.lt).trans hs.cm, hs.map.tn k (fun e => by have := hc _ hs.map.lt e; rw [hs.cm] at this; omega), fun x hx => ?_, fun x hx hn' => ?_, fun i hi => ?_⟩, rfl, rfl, hcol⟩
  · rcases List.mem_append.1 hx with hx | hx
    · exact hgo x (o.id hx) (hs.busy x hx)
    · rw [List.mem_singleton] at hx
      rw [hx]
      refine hgo q (o.w _ hq) ?_
      rw [he]
      exact hs.idle _ hq hn
  · exact hgo ⟨x.1, x.2, 0, false, []⟩ (o.w x hx) (hs.idle x hx (isR_not.2 fun y hy => isR_not.1 hn' y (List.mem_append_left _ hy)))
  · rw [paint_far L 258 (by omega)]
    exact hs.ahead i (Nat.le_trans k.size hi)
theorem dr_push_nil (x : It) (w : World) : Calls Try.prog 14 #[.pointer none, .agg #[.int .i64 x.1, .int .i64 x.2]] w fun e w' => e = .returned (.int .i64 17) ∧ Below w.heap.size w w' := by
  go_enter Try.func14, Try.ntmps14
  go_wp2_with fail
  go_ret
  exact ⟨rfl, (Below.refl _ _).alloc (Nat.le_refl _) _⟩
set_option maxRecDepth 100000 in
set_option maxHeartbeats 3200000 in
theorem dr_push {w : World} {L : Ly} {Q M : Int} {W : List (Int × Int)} {R : List Qd} (hs : Sr w L Q W R) (o : Ok Q M W R) {x : It} (hi : I64 x.1) :
    Calls Try.prog 14 #[ptv L.b, .agg #[.int .i64 x.1, .int .i64 x.2]] w fun e w' => e = .returned (.int .i64 (pushE W R x)) ∧ (∃ L', Lx w L L' ∧ Sr w' L' Q W (push W R x)) ∧ Tn (fun i => L.col i ≠ -1) w w' := by
  have hT1 : Tn (fun _ => False) w (w.alloc (.cells #[.int .i64 x.1, .int .i64 x.2] 35)) := (Tn.refl _ w).alloc _
  have hX1 := At.new w 35 [.int .i64 x.1, .int .i64 x.2]
  have hs1 := hs.free o.rok hT1
  obtain ⟨rv, hb, hr⟩ := hs1.sched
  have k1 := hb.cell 1 rfl
  have x0 := hX1.cell 0 rfl
  have x1 := hX1.cell 1 rfl
  have hl : ∀ n, (Instr.lookup 53 (.map (some L.m)) (.int .i64 x.1) false).run Try.prog ((w.alloc (.cells #[.int .i64 x.1, .int .i64 x.2] 35)).drewN n) = .ok (ptO (fOf W L x.1)) ((w.alloc (.cells #[.int .i64 x.1, .int .i64 x.2] 35)).drewN n) := fun n => (hs1.free o.rok ((Tn.refl _ _).drewN n)).look hi
  have HT1 := Lib.hid hT1
  have HX1 := Lib.hid hX1
  have HS1 := Lib.hid hs1
  have HO := Lib.hid o
  have HC1 : Hid (L.col w.heap.size = -1) := Lib.hid (hs.ahead _ (Nat.le_refl _))
  have same : pushE W R x ≠ 0 → push W R x = R := fun e => if_neg e
  cases hw : inW W x.1 with
  | false =>
    have e1 : pushE W R x = 7 := if_pos hw
    rw [same (by rw [e1]; decide), e1]
    rw [fOf_no hw] at hl
    have hl' : ∀ n, (Instr.lookup 53 (.map (some L.m)) (.int .i64 x.1) false).run Try.prog ((w.alloc (.cells #[.int .i64 x.1, .int .i64 x.2] 35)).drewN n) = .ok (.pointer none) ((w.alloc (.cells #[.int .i64 x.1, .int .i64 x.2] 35)).drewN n) := hl
    clear hs o hi hT1 hX1 hs1 hb hr hl same hw e1
    go_enter Try.func14, Try.ntmps14
    go_wp2_with fail
    generalize w.alloc (.cells #[.int .i64 x.1, .int .i64 x.2] 35) = W1 at *
    go_quiet (fail)
    go_wp2_with fail
    go_ret
    exact ⟨rfl, ⟨L, Lx.refl _ _, HS1.out.free HO.out.rok ((Tn.refl _ _).drewN _)⟩, (HT1.out.mono (fun _ _ e => e.elim)).drewN _⟩
  | true =>
    have hnw : ¬ inW W x.1 = false := by rw [hw]; decide
    rw [fOf_yes hw] at hl
    have hl' : ∀ n, (Instr.lookup 53 (.map (some L.m)) (.int .i64 x.1) false).run Try.prog ((w.alloc (.cells #[.int .i64 x.1, .int .i64 x.2] 35)).drewN n) = .ok (ptv (L.ptr x.1)) ((w.alloc (.cells #[.int .i64 x.1, .int .i64 x.2] 35)).drewN n) := hl
    have HL := Lib.hid hl'
    have HB1 := Lib.hid hb
    have HR1 := Lib.hid hr
    by_cases h1 : x.2 < 1 ∨ 65536 < x.2
    · have e1 : pushE W R x = 2 := by unfold pushE; rw [if_neg hnw, if_pos h1]
      rw [same (by rw [e1]; decide), e1]
      have hfin : ∀ n, (∃ L', Lx w L L' ∧ Sr ((w.alloc (.cells #[.int .i64 x.1, .int .i64 x.2] 35)).drewN n) L' Q W R) ∧ Tn (fun i => L.col i ≠ -1) w ((w.alloc (.cells #[.int .i64 x.1, .int .i64 x.2] 35)).drewN n) := fun n => ⟨⟨L, Lx.refl _ _, HS1.out.free HO.out.rok ((Tn.refl _ _).drewN _)⟩, (HT1.out.mono (fun _ _ e => e.elim)).drewN _⟩
      have HF := Lib.hid hfin
      clear hs o hi hT1 hX1 hs1 hb hr hl same hw e1 hnw hfin
      by_cases h2 : x.2 < 1
      · clear h1
        go_enter Try.func14, Try.ntmps14
        go_wp2_with fail
        generalize w.alloc (.cells #[.int .i64 x.1, .int .i64 x.2] 35) = W1 at *
        go_quiet (fail)
        go_wp2_with fail
        go_ret
        exact ⟨rfl, HF.out _⟩
      · have h3 : 65536 < x.2 := by omega
        clear h1
        go_enter Try.func14, Try.ntmps14
        go_wp2_with fail
        generalize w.alloc (.cells #[.int .i64 x.1, .int .i64 x.2] 35) = W1 at *
        go_quiet (fail)
        go_wp2_with fail
        go_ret
        exact ⟨rfl, HF.out _⟩
    · have h2 : ¬ x.2 < 1 := by omega
      have h3 : ¬ 65536 < x.2 := by omega
      obtain ⟨q, hqid, hqw, ⟨hcq, v, ha, hir⟩, hlen, hcase⟩ := hs1.one o hw
      rw [hqid] at ha hcq hir
      obtain ⟨A0, cap0, rfl⟩ := hir.form
      have p3 := ha.cell 3 rfl
      rw [hlen] at p3
      by_cases h4 : lenR R x.1 = 65536
      · have e1 : pushE W R x = 9 := by unfold pushE; rw [if_neg hnw, if_neg h1, if_pos h4]
        rw [same (by rw [e1]; decide), e1]
        have hfin : ∀ n, (∃ L', Lx w L L' ∧ Sr ((w.alloc (.cells #[.int .i64 x.1, .int .i64 x.2] 35)).drewN n) L' Q W R) ∧ Tn (fun i => L.col i ≠ -1) w ((w.alloc (.cells #[.int .i64 x.1, .int .i64 x.2] 35)).drewN n) := fun n => ⟨⟨L, Lx.refl _ _, HS1.out.free HO.out.rok ((Tn.refl _ _).drewN _)⟩, (HT1.out.mono (fun _ _ e => e.elim)).drewN _⟩
        have HF := Lib.hid hfin
        rw [h4] at p3
        clear hs o hi hT1 hX1 hs1 hb hr hl same hw e1 hnw hfin h4 hqid hqw hcq ha hir hlen hcase h1
        go_enter Try.func14, Try.ntmps14
        go_wp2_with fail
        generalize w.alloc (.cells #[.int .i64 x.1, .int .i64 x.2] 35) = W1 at *
        go_quiet (fail)
        go_wp2_with fail
        go_ret
        exact ⟨rfl, HF.out _⟩
      · have e1 : pushE W R x = 0 := by unfold pushE; rw [if_neg hnw, if_neg h1, if_neg h4]
        have e2 : push W R x = pushR W R x := if_pos e1
        rw [e1, e2]
        have hll : q.l.length ≤ 65535 := by
          rw [hlen]
          rcases hcase with ⟨hq, _⟩ | ⟨hq, _⟩
          · have := (o.r q hq).len
            have := hlen
            omega
          · rw [lenR_not hq]; omega
        rcases hcase with ⟨hq, hisr⟩ | ⟨hisr, hqe⟩
        · obtain ⟨A, B, hR⟩ := List.append_of_mem hq
          have hpush : pushR W R x = A ++ addQ q x :: B := by
            unfold pushR
            rw [if_pos hisr, hR, List.map_append, List.map_cons, if_pos hqid]
            have hnd := o.rn
            rw [hR, List.map_append, List.map_cons, List.nodup_append] at hnd
            congr 1
            · refine (List.map_congr_left fun y hy => ?_).trans (List.map_id _)
              rw [if_neg]; rfl
              exact fun e => hnd.2.2 y.id (List.mem_map.2 ⟨y, hy, rfl⟩) q.id (List.mem_cons_self ..) (by rw [e, hqid])
            · congr 1
              refine (List.map_congr_left fun y hy => ?_).trans (List.map_id _)
              rw [if_neg]; rfl
              exact fun e => (List.nodup_cons.1 hnd.2.1).1 (List.mem_map.2 ⟨y, hy, by rw [e, hqid]⟩)
          rw [hpush]
          have hne : 0 < lenR R x.1 := by rw [← hlen]; exact List.length_pos_iff.2 (o.r q hq).ne
          subst hR
          have HLEN := Lib.hid hlen
          have HQID := Lib.hid hqid
          have HLL := Lib.hid hll
          have hz : ((lenR (A ++ q :: B) x.1 : Nat) : Int) ≠ 65536 := by omega
          have hz1 : (((lenR (A ++ q :: B) x.1 : Nat) : Int) == 65536) = false := beq_eq_false_iff_ne.2 hz
          have hz0 : (((lenR (A ++ q :: B) x.1 : Nat) : Int) == 0) = false := beq_eq_false_iff_ne.2 (by omega)
          clear hs o hi hT1 hX1 hs1 hb hr hl same hw e1 e2 hnw h4 hqid hqw hcq ha hir hlen h1 hq hisr hpush hll
          generalize lenR (A ++ q :: B) x.1 = n at *
          go_enter Try.func14, Try.ntmps14
          go_wp2_with fail
          generalize w.alloc (.cells #[.int .i64 x.1, .int .i64 x.2] 35) = W1 at *
          go_quiet (fail)
          have hQ : Tn (fun _ => False) W1 (W1.drewN nq) := (Tn.refl _ W1).drewN nq
          have HX3 := Lib.hid (HX1.out.tn hQ (fun e => e))
          have HS3 := Lib.hid (HS1.out.free HO.out.rok hQ)
          have HLX := Lib.hid (Lx.refl w L)
          have HT3 : Hid (Tn (fun i => L.col i ≠ -1) w (W1.drewN nq)) := Lib.hid ((HT1.out.mono (fun _ _ e => e.elim)).trans' hQ (fun _ _ e => e.elim))
          have HL3 := HL.out nq
          have k1' := (HB1.out.tn hQ (fun e => e)).cell 1 rfl
          have x0' := HX3.out.cell 0 rfl
          have x1' := HX3.out.cell 1 rfl
          have HQR : Hid (q ∈ A ++ q :: B) := Lib.hid (by simp)
          obtain ⟨_, v9, ha9, hir9⟩ := HS3.out.busy q (by simp)
          obtain ⟨A9, cap9, rfl⟩ := hir9.form
          rw [HQID.out, HLEN.out] at ha9
          have p9 := ha9.cell 3 rfl
          clear hQ HX1 HS1 HT1 HL HB1 HR1 ha9 hir9 k1 x0 x1 p3
          generalize W1.drewN nq = w3 at *
          go_wp2_with fail
          clear p9 hz hz1 hz0 HL3 k1' x0' x1'
          have HRK : Hid (Rok W (A ++ q :: B)) := Lib.hid HO.out.rok
          -- the items' row, one longer
          obtain ⟨hcq3, v3, ha3, hir3⟩ := HS3.out.busy q (by simp)
          obtain ⟨A3, cap3, rfl⟩ := hir3.form
          rw [HQID.out] at ha3 hcq3 hir3
          have hT4 : Tn (fun _ => False) w3 (w3.alloc (.cells #[.int .i64 x.1, .int .i64 x.2] 35)).drew := ((Tn.refl _ w3).alloc _).drew
          have hN4 := At.new w3 35 [.int .i64 x.1, .int .i64 x.2]
          obtain ⟨v5, w5, g5, hr5, hir5, hg5, ht5⟩ := (hir3.tn hT4 (fun _ _ _ e => e)).append (by have := HLL.out; omega) x ⟨w3.heap.size, 0, none⟩ (by exact hN4.cell 0 rfl) (by exact hN4.cell 1 rfl) 1 64
          obtain ⟨A5, cap5, rfl⟩ := hir5.form
          have ha4 := ha3.tn hT4 (fun e => e)
          have hqr := HRK.out.id (q := q) (by simp)
          have ha5 := ha4.tn ht5 (fun e => by have e : L.col (L.ptr x.1) = 1000 + x.1 := e; have := HQID.out; rw [hcq3] at e; omega)
          have HA5 := Lib.hid ha5
          have HIR5 := Lib.hid hir5
          have HT35 : Hid (Tn (fun i => L.col i = 1000 + x.1) w3 w5) := Lib.hid ((hT4.mono (fun _ _ e => e.elim)).trans ht5)
          have HG5 : Hid (L.col g5 = 1000 + q.id ∨ w3.heap.size ≤ g5) := Lib.hid (by
            rcases hg5 with e | e
            · left
              have e : L.col g5 = 1000 + x.1 := e
              rw [e, HQID.out]
            · right
              exact Nat.le_trans hT4.size e)
          have HGL : Hid (g5 < w5.heap.size) := Lib.hid (by
            rcases hir5 with ⟨_, e⟩ | ⟨g, _, _, _, _, e, hg, _⟩
            · simp at e
            · rw [← show g = g5 from e]; exact (Array.getElem?_eq_some_iff.1 hg).1)
          have HCQ3 := Lib.hid hcq3
          have p3 := ha3.cell 3 rfl
          have r3 := ha4.cell 3 rfl
          have s3 := ha5.cell 3 rfl
          have f3 := ha5.free 3
          have b0 := HX3.out.cell 0 rfl
          have b1 := HX3.out.cell 1 rfl
          clear hcq3 ha3 hir3 hT4 hN4 hir5 hg5 ht5 ha4 ha5
          go_region_law (refine step_append_run rfl _ _ _ _ rfl _ _ rfl rfl _ _ hr5 ?_)
          all_goals
            go_wp2_with fail
            go_ret
            have hqr := HRK.out.id (q := q) (by simp)
            have hqi := HQID.out
            have hT6 : Tn (fun i => i = L.ptr x.1) w5 (w5.setCell ⟨L.ptr x.1, 3, none⟩ (.slice A5 (q.l.length + 1) cap5)) := (Tn.refl (fun i => i = L.ptr x.1) w5).set ⟨L.ptr x.1, 3, none⟩ _ (fun _ => rfl)
            have hT36 : Tn (fun i => L.col i = 1000 + x.1 ∨ i = L.ptr x.1) w3 (w5.setCell ⟨L.ptr x.1, 3, none⟩ (.slice A5 (q.l.length + 1) cap5)) := (HT35.out.mono (fun _ _ e => Or.inl e)).trans' hT6 (fun _ _ e => Or.inr e)
            have hpl : L.ptr x.1 < w3.heap.size := by
              have := (HS3.out.busy q (by simp)).lt
              rwa [hqi] at this
            have hgp : g5 ≠ L.ptr x.1 := fun e => by
              rcases HG5.out with f | f
              · rw [e, HCQ3.out] at f; omega
              · omega
            have hln : (.slice A5 (q.l ++ [x]).length cap5 : Value) = .slice A5 (q.l.length + 1) cap5 := by rw [List.length_append]; rfl
            have hir6 := HIR5.out
            rw [hln] at hir6
            have hfin := HS3.out.turn2 (q' := addQ q x) (g := g5) (v := .slice A5 (q.l.length + 1) cap5) HRK.out rfl hT36 (fun i _ e => by
              rcases e with e | e
              · exact Or.inr (by rw [e, hqi])
              · exact Or.inl (by rw [e, HCQ3.out, hqi])) HG5.out (Nat.lt_of_lt_of_le HGL.out hT6.size) (by rw [hqi]; exact HA5.out.set_ 3 _) (hir6.tn hT6 (fun j _ e f => by have e : j = g5 := e; have f : j = L.ptr x.1 := f; exact hgp (by rw [← e, f])))
            refine ⟨rfl, ⟨_, HLX.out.trans HT3.out.size hfin.2, hfin.1⟩, HT3.out.trans' hT36 (fun i hi e => ?_)⟩
            rw [← HLX.out.col i hi]
            rcases e with e | e
            · rw [e]; omega
            · rw [e, HCQ3.out]; omega
        · have hpush : pushR W R x = R ++ addQ q x :: [] := by
            unfold pushR
            rw [if_neg (by rw [hisr]; decide), hqe, show wOf W x.1 = q.w from o.wOf hqw]
            rfl
          rw [hpush]
          have hlen0 : lenR R x.1 = 0 := lenR_not hisr
          have HJ : Hid (Rok W (R ++ q :: [])) := Lib.hid (by
            have k := o.rok
            refine ⟨k.w, k.wn, ?_, fun y hy => ?_⟩
            · rw [List.map_append, List.nodup_append]
              refine ⟨k.rn, by simp, fun a ha b hb' e => ?_⟩
              obtain ⟨y, hy, rfl⟩ := List.mem_map.1 ha
              have : b = q.id := by simpa using hb'
              exact isR_not.1 hisr y hy (by rw [e, this, hqid])
            · rcases List.mem_append.1 hy with hy | hy
              · exact k.rw y hy
              · rw [List.mem_singleton] at hy; rw [hy, hqid]; exact hqw)
          have HQE := Lib.hid hqe
          have HQW := Lib.hid hqw
          have HIS := Lib.hid hisr
          have HQID := Lib.hid hqid
          have HLL := Lib.hid hll
          rw [hlen0] at p3
          have HLEN : Hid (q.l.length = 0) := Lib.hid (hlen.trans hlen0)
          have hfew := o.few
          clear hs o hi hT1 hX1 hs1 hb hr hl same hw e1 e2 hnw h4 hqid hqw hcq ha hir hlen h1 hisr hpush hll hlen0 hqe
          go_enter Try.func14, Try.ntmps14
          go_wp2_with fail
          generalize w.alloc (.cells #[.int .i64 x.1, .int .i64 x.2] 35) = W1 at *
          go_quiet (fail)
          have hQ : Tn (fun _ => False) W1 (W1.drewN nq) := (Tn.refl _ W1).drewN nq
          have HX2 := Lib.hid (HX1.out.tn hQ (fun e => e))
          have HS2 := Lib.hid (HS1.out.free HO.out.rok hQ)
          have HT2 : Hid (Tn (fun i => L.col i ≠ -1) w (W1.drewN nq)) := Lib.hid ((HT1.out.mono (fun _ _ e => e.elim)).trans' hQ (fun _ _ e => e.elim))
          have HL3 := HL.out nq
          obtain ⟨rv2, hb2, hr2⟩ := HS2.out.sched
          obtain ⟨A2, cap2, rfl⟩ := hr2.len
          have hpl2 : (R.map fun q => L.ptr q.id).length = R.length := List.length_map ..
          have hT2' : Tn (fun _ => False) (W1.drewN nq) ((W1.drewN nq).alloc (.cells #[ptv (L.ptr x.1)] 63)) := (Tn.refl _ _).alloc _
          have hN2 := At.new (W1.drewN nq) 63 [ptv (L.ptr x.1)]
          obtain ⟨v4, w4, g4, hr4, hrr4, hg4, ht4⟩ := (hr2.tn hT2' (fun _ _ _ e => e)).append (by rw [hpl2]; omega) (L.ptr x.1) ⟨(W1.drewN nq).heap.size, 0, none⟩ (by exact hN2.cell 0 rfl) 1 54
          obtain ⟨g4', cap4, rfl, hgg, hg4l, _, _⟩ := hrr4.form (by rw [List.length_append]; simp)
          have hgg : g4' = g4 := hgg
          subst hgg
          rw [List.length_append, List.length_singleton] at hrr4 hr4
          rw [hpl2] at hb2 hr4 hrr4
          have hT24 : Tn (fun i => L.col i = 258) (W1.drewN nq) w4 := (hT2'.mono (fun _ _ e => e.elim)).trans ht4
          have hb4 := hb2.tn hT24 (fun e => by have e : L.col L.b = 258 := e; rw [HS2.out.cb] at e; omega)
          have HB4 := Lib.hid hb4
          have HX4 := Lib.hid (HX2.out.tn hT24 (fun e => by have e : L.col w.heap.size = 258 := e; rw [HC1.out] at e; omega))
          have HRR4 := Lib.hid hrr4
          have HT24 := Lib.hid hT24
          have HG4 : Hid (L.col g4' = 258 ∨ (W1.drewN nq).heap.size ≤ g4') := Lib.hid (hg4.imp id fun e => Nat.le_trans hT2'.size e)
          have HGL4 := Lib.hid hg4l
          have k1' := (HB1.out.tn hQ (fun e => e)).cell 1 rfl
          have k2' := hb2.cell 2 rfl
          have k2f := hb4.cell 2 rfl
          have f2f := hb4.free 2
          have k2a := (hb2.tn hT2' (fun e => e)).cell 2 rfl
          have x0' := HX2.out.cell 0 rfl
          have x1' := HX2.out.cell 1 rfl
          obtain ⟨_, v9, ha9, hir9⟩ := HS2.out.idle _ HQW.out HIS.out
          obtain ⟨A9, cap9, rfl⟩ := hir9.form
          have p9 : (W1.drewN nq).cell? ⟨L.ptr x.1, 3, none⟩ = some (.slice A9 0 cap9) := ha9.cell 3 rfl
          clear hQ HX1 HS1 HT1 HL HB1 HR1 ha9 hir9 k1 x0 x1 p3 hb2 hr2 hT2' hN2 hrr4 hg4 ht4 hg4l hT24 hb4 hpl2
          generalize hR2 : R.length = rn at *
          have HR2 := Lib.hid hR2
          clear hR2
          generalize W1.drewN nq = w2 at *
          go_wp2_with (at_builtin; refine Lib.wpList_append_run _ rfl _ _ _ _ rfl _ _ rfl rfl _ _ hr4 ?_)
          have hT5 : Tn (fun i => i = L.b) w4 (w4.setCell ⟨L.b, 2, none⟩ (.slice (some ⟨g4', 0, none⟩) (rn + 1) cap4)) := (Tn.refl (fun i => i = L.b) w4).set ⟨L.b, 2, none⟩ _ (fun _ => rfl)
          have hT25 : Tn (fun i => L.col i = 258 ∨ i = L.b) w2 (w4.setCell ⟨L.b, 2, none⟩ (.slice (some ⟨g4', 0, none⟩) (rn + 1) cap4)) := (HT24.out.mono (fun _ _ e => Or.inl e)).trans' hT5 (fun _ _ e => Or.inr e)
          have hbl := (HS2.out.sched).choose_spec.1.lt
          have hgb : g4' ≠ L.b := fun e => by
            rcases HG4.out with f | f
            · rw [e, HS2.out.cb] at f; omega
            · omega
          have hcol25 : ∀ i, i < w2.heap.size → (L.col i = 258 ∨ i = L.b) → L.col i = 256 ∨ L.col i = 258 ∨ L.col i = -1 := fun i _ e => e.elim (fun e => Or.inr (Or.inl e)) (fun e => Or.inl (by rw [e]; exact HS2.out.cb))
          have hrr5 := HRR4.out.tn hT5 (fun j _ e f => by have e : j = g4' := e; have f : j = L.b := f; exact hgb (by rw [← e, f]))
          have hmap : ((R ++ [q]).map fun q => L.ptr q.id) = (R.map fun q => L.ptr q.id) ++ [L.ptr x.1] := by rw [List.map_append, List.map_cons, List.map_nil, HQID.out]
          rw [← hmap] at hrr5
          have hjoin := HS2.out.join HO.out.rok hT25 hcol25 HG4.out (HB4.out.set_ 2 _) hrr5 (Nat.lt_of_lt_of_le HGL4.out hT5.size) (by rw [HQID.out]; exact HQW.out) (by rw [HQID.out]; exact HIS.out) (by rw [HQID.out]; exact HQE.out)
          have HRK : Hid (Rok W (R ++ q :: [])) := HJ
          have HLX : Hid (Lx w L (L.paint g4' 258)) := Lib.hid ((Lx.refl w L).trans HT2.out.size hjoin.2)
          have HS3 := Lib.hid hjoin.1
          have HT3 : Hid (Tn (fun i => L.col i ≠ -1) w (w4.setCell ⟨L.b, 2, none⟩ (.slice (some ⟨g4', 0, none⟩) (rn + 1) cap4))) := Lib.hid (HT2.out.trans' hT25 (fun i hi e => by
            rcases e with e | e
            · rw [e]; omega
            · rw [e, HS2.out.cb]; omega))
          have HX3 := Lib.hid (HX4.out.tn hT5 (fun e => by have e : w.heap.size = L.b := e; have := HC1.out; rw [e, HS2.out.cb] at this; omega))
          have HPT0 : Hid ((L.paint g4' 258).ptr = L.ptr) := Lib.hid rfl
          clear hT5 hT25 hbl hgb hcol25 hrr5 hmap hjoin HT24 HB4 HX2 HX4 HS2 HRR4 HG4 HGL4 HL3 k1' k2' k2f f2f k2a x0' x1' p9 hr4 HJ
          obtain ⟨L1, HPT, hL1⟩ : ∃ L1, Hid (L1.ptr = L.ptr) ∧ Hid (L.paint g4' 258 = L1) := ⟨_, HPT0, Lib.hid rfl⟩
          rw [hL1.out] at HS3 HLX
          clear hL1 HPT0
          generalize w4.setCell ⟨L.b, 2, none⟩ (.slice (some ⟨g4', 0, none⟩) (rn + 1) cap4) = w3 at *
          -- the items' row, one longer
          obtain ⟨hcq3, v3, ha3, hir3⟩ := HS3.out.busy q (by simp)
          obtain ⟨A3, cap3, rfl⟩ := hir3.form
          rw [HQID.out] at ha3 hcq3 hir3
          rw [HPT.out] at ha3 hcq3
          have hT4 : Tn (fun _ => False) w3 (w3.alloc (.cells #[.int .i64 x.1, .int .i64 x.2] 35)).drew := ((Tn.refl _ w3).alloc _).drew
          have hN4 := At.new w3 35 [.int .i64 x.1, .int .i64 x.2]
          obtain ⟨v5, w5, g5, hr5, hir5, hg5, ht5⟩ := (hir3.tn hT4 (fun _ _ _ e => e)).append (by have := HLL.out; omega) x ⟨w3.heap.size, 0, none⟩ (by exact hN4.cell 0 rfl) (by exact hN4.cell 1 rfl) 1 64
          obtain ⟨A5, cap5, rfl⟩ := hir5.form
          have ha4 := ha3.tn hT4 (fun e => e)
          have hqr := HRK.out.id (q := q) (by simp)
          have ha5 := ha4.tn ht5 (fun e => by have e : L1.col (L.ptr x.1) = 1000 + x.1 := e; have := HQID.out; rw [hcq3] at e; omega)
          have HA5 := Lib.hid ha5
          have HIR5 := Lib.hid hir5
          have HT35 : Hid (Tn (fun i => L1.col i = 1000 + x.1) w3 w5) := Lib.hid ((hT4.mono (fun _ _ e => e.elim)).trans ht5)
          have HG5 : Hid (L1.col g5 = 1000 + q.id ∨ w3.heap.size ≤ g5) := Lib.hid (by
            rcases hg5 with e | e
            · left
              have e : L1.col g5 = 1000 + x.1 := e
              rw [e, HQID.out]
            · right
              exact Nat.le_trans hT4.size e)
          have HGL : Hid (g5 < w5.heap.size) := Lib.hid (by
            rcases hir5 with ⟨_, e⟩ | ⟨g, _, _, _, _, e, hg, _⟩
            · simp at e
            · rw [← show g = g5 from e]; exact (Array.getElem?_eq_some_iff.1 hg).1)
          have HCQ3 := Lib.hid hcq3
          have p3 := ha3.cell 3 rfl
          have r3 := ha4.cell 3 rfl
          have s3 := ha5.cell 3 rfl
          have f3 := ha5.free 3
          have b0 := HX3.out.cell 0 rfl
          have b1 := HX3.out.cell 1 rfl
          clear hcq3 ha3 hir3 hT4 hN4 hir5 hg5 ht5 ha4 ha5
          go_region_law (refine step_append_run rfl _ _ _ _ rfl _ _ rfl rfl _ _ hr5 ?_)
          all_goals
            go_wp2_with fail
            go_ret
            have hqr := HRK.out.id (q := q) (by simp)
            have hqi := HQID.out
            have hT6 : Tn (fun i => i = L.ptr x.1) w5 (w5.setCell ⟨L.ptr x.1, 3, none⟩ (.slice A5 (q.l.length + 1) cap5)) := (Tn.refl (fun i => i = L.ptr x.1) w5).set ⟨L.ptr x.1, 3, none⟩ _ (fun _ => rfl)
            have hT36 : Tn (fun i => L1.col i = 1000 + x.1 ∨ i = L.ptr x.1) w3 (w5.setCell ⟨L.ptr x.1, 3, none⟩ (.slice A5 (q.l.length + 1) cap5)) := (HT35.out.mono (fun _ _ e => Or.inl e)).trans' hT6 (fun _ _ e => Or.inr e)
            have hpl : L.ptr x.1 < w3.heap.size := by
              have := (HS3.out.busy q (by simp)).lt
              rwa [hqi, HPT.out] at this
            have hgp : g5 ≠ L.ptr x.1 := fun e => by
              rcases HG5.out with f | f
              · rw [e, HCQ3.out] at f; omega
              · omega
            have hln : (.slice A5 (q.l ++ [x]).length cap5 : Value) = .slice A5 (q.l.length + 1) cap5 := by rw [List.length_append]; rfl
            have hir6 := HIR5.out
            rw [hln] at hir6
            have hfin := HS3.out.turn2 (q' := addQ q x) (g := g5) (v := .slice A5 (q.l.length + 1) cap5) HRK.out rfl hT36 (fun i _ e => by
              rcases e with e | e
              · exact Or.inr (by rw [e, hqi])
              · exact Or.inl (by rw [e, HCQ3.out, hqi])) HG5.out (Nat.lt_of_lt_of_le HGL.out hT6.size) (by rw [hqi, HPT.out]; exact HA5.out.set_ 3 _) (hir6.tn hT6 (fun j _ e f => by have e : j = g5 := e; have f : j = L.ptr x.1 := f; exact hgp (by rw [← e, f])))
            refine ⟨rfl, ⟨_, HLX.out.trans HT3.out.size hfin.2, hfin.1⟩, HT3.out.trans' hT36 (fun i hi e => ?_)⟩
            rw [← HLX.out.col i hi]
            rcases e with e | e
            · rw [e]; omega
            · rw [e, HCQ3.out]; omega
end Go.Proofs.Ytplbdeaoeocgkaa

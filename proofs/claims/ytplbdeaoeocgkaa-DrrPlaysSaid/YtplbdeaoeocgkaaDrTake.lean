/- Proved: what take answers and leaves. Conditions: those that the theorems name. -/
import Derived.Test.YtplbdeaoeocgkaaDrLeave
namespace Go.Proofs.Ytplbdeaoeocgkaa
open Go.ChangeShapes Go.WideShapes Go.ChangeAt Go.RowKit

theorem isR_cons {h : Qd} {t : List Qd} {id : Int} (hne : h.id ≠ id) : isR (h :: t) id = isR t id := by
  unfold isR
  rw [List.any_cons, show (h.id == id) = false from beq_eq_false_iff_ne.2 hne, Bool.false_or]
theorem keepP_head {L : Ly} {h : Qd} {t : List Qd} (hd : ∀ x ∈ t, L.ptr x.id ≠ L.ptr h.id) : keepP (L.ptr h.id) ((h :: t).map fun q => L.ptr q.id) = t.map fun q => L.ptr q.id := by
  unfold keepP
  rw [List.map_cons, List.filter_cons_of_neg (by simp), List.filter_eq_self.2]
  intro a ha
  obtain ⟨x, hx, rfl⟩ := List.mem_map.1 ha
  simp [hd x hx]
/-- pointers to unlike queues are unlike. -/
theorem Qr.ne {w : World} {L : Ly} {q r : Qd} (h : Qr w L q) (k : Qr w L r) (hne : q.id ≠ r.id) : L.ptr q.id ≠ L.ptr r.id := fun e => hne (by rw [← h.1, ← k.1, e])
theorem Sr.len {w : World} {L : Ly} {Q : Int} {W : List (Int × Int)} {R : List Qd} (_ : Sr w L Q W R) : (R.map fun q => L.ptr q.id).length = R.length := List.length_map ..
/-- the round loses its first queue, which is empty. -/
theorem Sr.left {w w' : World} {L : Ly} {Q : Int} {W : List (Int × Int)} {h : Qd} {t : List Qd} {rv' : Value} (hs : Sr w L Q W (h :: t)) (o : Rok W (h :: t)) {c : Nat → Prop} (k : Tn c w w')
    (hc : ∀ g, g < w.heap.size → c g → L.col g = h.id ∨ L.col g = 256 ∨ L.col g = 258)
    (hb : At w' L.b 56 [.int .i64 Q, .map (some L.m), rv']) (hr : Rr w' (fun g => L.col g = 258) rv' (t.map fun q => L.ptr q.id))
    (hp : At w' (L.ptr h.id) 66 [.int .i64 h.w, .int .i64 0, .bool false, .slice none 0 0]) : Sr w' L Q W t := by
  have hi := o.id (List.mem_cons_self ..)
  have hnd := o.rn
  rw [List.map_cons, List.nodup_cons] at hnd
  refine ⟨⟨rv', hb, hr⟩, hs.cb, hs.cm, hs.map.tn k (fun e => by have := hc _ hs.map.lt e; rw [hs.cm] at this; omega), fun q hq => ?_, fun x hx hn => ?_, fun i hi => hs.ahead i (Nat.le_trans k.size hi)⟩
  · refine (hs.busy q (List.mem_cons_of_mem _ hq)).tn k fun g hg f => ?_
    have := hc g hg f
    have h2 := o.id (List.mem_cons_of_mem _ hq)
    have h3 : q.id ≠ h.id := fun e => hnd.1 (List.mem_map.2 ⟨q, hq, e⟩)
    omega
  · by_cases e : x.1 = h.id
    · have hw : x = (h.id, h.w) := same_of_nodup o.wn hx (o.rw h (List.mem_cons_self ..)) e
      subst hw
      exact ⟨(hs.busy h (List.mem_cons_self ..)).1, _, hp, Ir.nil _ _⟩
    · refine (hs.idle x hx (by rw [isR_cons (fun q => e q.symm)]; exact hn)).tn k fun g hg f => ?_
      have := hc g hg f
      have h2 := o.w x hx
      show L.col g ≠ x.1 ∧ L.col g ≠ 1000 + x.1
      omega

set_option maxRecDepth 100000 in
set_option maxHeartbeats 1600000 in
theorem dr_take {w : World} {L : Ly} {Q : Int} {W : List (Int × Int)} {h : Qd} {t : List Qd} (hs : Sr w L Q W (h :: t)) (o : Rok W (h :: t)) (hne : h.l ≠ []) (hz : 0 ≤ h.hd.2 ∧ h.hd.2 ≤ 65536 ∧ h.hd.2 ≤ h.d ∧ h.d ≤ 1099511627776) (hlen : h.l.length ≤ 65536) (hn : (h :: t).length ≤ 65536) :
    Calls Try.prog 24 #[ptv L.b] w fun e w' => e = .returned (.agg #[.int .i64 h.hd.1, .int .i64 h.hd.2]) ∧ Sr w' L Q W (tookR h t) ∧ Tn (fun i => L.col i ≠ -1) w w' := by
  have hmem : h ∈ h :: t := List.mem_cons_self ..
  have hq := hs.busy h hmem
  obtain ⟨rv, hb, hr⟩ := hs.sched
  have hcp := hq.1
  obtain ⟨_, v, hp, hir⟩ := hq
  obtain ⟨x, r, hl⟩ : ∃ x r, h.l = x :: r := by
    cases hl : h.l with
    | nil => exact absurd hl hne
    | cons x r => exact ⟨x, r, rfl⟩
  have hhd : h.hd = x := by unfold Qd.hd; rw [hl]; rfl
  have hi := o.id hmem
  rw [hl] at hir
  obtain ⟨g, og, cap, rfl, hcg, hgl, hle, i0, i1⟩ := hir.first
  obtain ⟨v', hsl, ⟨A', cap', rfl⟩, hrest⟩ := hir.rest
  obtain ⟨gr, capr, rfl, hcr, hgr, hler, hcell⟩ := hr.form (by rw [hs.len]; simp)
  have hr0 := hcell 0 (by rw [hs.len]; simp)
  have hr00 : w.cell? ⟨gr, 0, none⟩ = some (ptv (L.ptr h.id)) := hr0
  have hll : h.l.length = r.length + 1 := by rw [hl]; rfl
  rw [hs.len] at hler
  have hbp : L.b ≠ L.ptr h.id := fun e => by have := hs.cb; rw [e, hcp] at this; omega
  have HS := Lib.hid hs
  have HO := Lib.hid o
  have HHL := Lib.hid hl
  have HCP := Lib.hid hcp
  have HRest := Lib.hid hrest
  have HR := Lib.hid hr
  have HNe := Lib.hid hne
  rw [hhd] at hz
  have HHD := Lib.hid hhd
  rw [hhd]
  -- the two blocks that are made first
  have hT2 : Tn (fun _ => False) w ((w.alloc (.cells #[.int .i64 0, .int .i64 0] 35)).alloc (.cells #[.int .i64 x.1, .int .i64 x.2] 35)) := ((Tn.refl _ w).alloc _).alloc _
  have hT1 : Tn (fun _ => False) w (w.alloc (.cells #[.int .i64 0, .int .i64 0] 35)) := (Tn.refl _ w).alloc _
  have hb1 := hb.tn hT1 (fun e => e)
  have hp1 := hp.tn hT1 (fun e => e)
  have a2 := hb1.cell 2 rfl
  have a3 := hp1.cell 3 rfl
  have ar : (w.alloc (.cells #[.int .i64 0, .int .i64 0] 35)).cell? ⟨gr, 0, none⟩ = some (ptv (L.ptr h.id)) := (World.cell?_of_block (hT1.block gr hgr (fun e => e))).trans hr00
  have ai0 : (w.alloc (.cells #[.int .i64 0, .int .i64 0] 35)).cell? ⟨g, og, none⟩ = some (.int .i64 x.1) := (World.cell?_of_block (hT1.block g hgl (fun e => e))).trans i0
  have ai1 : (w.alloc (.cells #[.int .i64 0, .int .i64 0] 35)).cell? ⟨g, og + 1, none⟩ = some (.int .i64 x.2) := (World.cell?_of_block (hT1.block g hgl (fun e => e))).trans i1
  have HP2 := Lib.hid (hp.tn hT2 (fun e => e))
  have p3 := HP2.out.cell 3 rfl
  have p3f := HP2.out.free 3
  have HB2 := Lib.hid (hb.tn hT2 (fun e => e))
  have HX0 : Hid (At ((w.alloc (.cells #[.int .i64 0, .int .i64 0] 35)).alloc (.cells #[.int .i64 x.1, .int .i64 x.2] 35)) w.heap.size 35 [.int .i64 0, .int .i64 0]) := Lib.hid ((At.new w 35 [.int .i64 0, .int .i64 0]).alloc _)
  have HX1 : Hid (At ((w.alloc (.cells #[.int .i64 0, .int .i64 0] 35)).alloc (.cells #[.int .i64 x.1, .int .i64 x.2] 35)) (w.heap.size + 1) 35 [.int .i64 x.1, .int .i64 x.2]) := Lib.hid (by
    have := At.new (w.alloc (.cells #[.int .i64 0, .int .i64 0] 35)) 35 [.int .i64 x.1, .int .i64 x.2]
    rwa [show (w.alloc (.cells #[.int .i64 0, .int .i64 0] 35)).heap.size = w.heap.size + 1 by simp] at this)
  have HC0 : Hid (L.col w.heap.size = -1 ∧ L.col (w.heap.size + 1) = -1) := Lib.hid ⟨hs.ahead _ (Nat.le_refl _), hs.ahead _ (by omega)⟩
  have HN0 : Hid (w.heap.size ≠ L.b ∧ w.heap.size ≠ L.ptr h.id ∧ w.heap.size + 1 ≠ L.b ∧ w.heap.size + 1 ≠ L.ptr h.id) := Lib.hid (by have := hb.lt; have := hp.lt; omega)
  have HT2 := Lib.hid hT2
  have hrl : (0 : Int) < ((h :: t).length : Int) := by simp
  have hrk : (0 : Int) < ((r.length : Int) + 1) := by omega
  have HW : Hid (IntKind.i64.wrap (h.d - x.2) = h.d - x.2) := Lib.hid (IntWalk.i64_in _ (by omega))
  have HCB := Lib.hid hs.cb
  have HBP := Lib.hid hbp
  have hz1 := hz.1
  have hz2 := hz.2.1
  have hz3 := hz.2.2.1
  have hz4 := hz.2.2.2
  have hd0 : 0 ≤ h.d := by omega
  clear hs o hb hr hp hir hl hhd hbp hcp hT2 hT1 hb1 hp1 hrest hcell hr0 hr00 i0 i1 hmem hne hcg hgl hgr hcr hz
  go_enter Try.func24, Try.ntmps24
  go_wp2_with fail
  generalize hw2 : (w.alloc (.cells #[.int .i64 0, .int .i64 0] 35)).alloc (.cells #[.int .i64 x.1, .int .i64 x.2] 35) = w2 at *
  clear hw2 a2 a3 ar ai0 ai1
  have HT3 : Hid (Tn (fun i => i = L.ptr h.id) w2 (w2.setCell ⟨L.ptr h.id, 3, none⟩ (.slice A' r.length cap'))) := Lib.hid ((Tn.refl _ w2).set ⟨L.ptr h.id, 3, none⟩ _ (fun _ => rfl))
  have HP3 : Hid (At (w2.setCell ⟨L.ptr h.id, 3, none⟩ (.slice A' r.length cap')) (L.ptr h.id) 66 [.int .i64 h.w, .int .i64 h.d, .bool h.s, .slice A' r.length cap']) := Lib.hid (HP2.out.set_ 3 _)
  have HB3 := Lib.hid (HB2.out.tn HT3.out HBP.out)
  have HX03 := Lib.hid (HX0.out.tn HT3.out HN0.out.2.1)
  have HX13 := Lib.hid (HX1.out.tn HT3.out HN0.out.2.2.2)
  clear p3 p3f HP2 HB2 HX0 HX1
  generalize w2.setCell ⟨L.ptr h.id, 3, none⟩ (.slice A' r.length cap') = w3 at *
  have p1 := HP3.out.cell 1 rfl
  have x1 := HX13.out.cell 1 rfl
  refine wp_region_still_tail 9 (by kernel_rfl) (by kernel_rfl) ?_
  simp only [List.take_succ_cons, List.take_zero, List.drop_succ_cons, List.drop_zero]
  repeat still_step
  refine wpStill_nil ?_
  change wpList _ _ _ _ _ w3.drew
  rw [HW.out]
  have HT4 : Hid (Tn (fun _ => False) w3 w3.drew) := Lib.hid (Tn.refl _ w3).drew
  have HP4 := Lib.hid (HP3.out.tn HT4.out (fun e => e))
  have HB4 := Lib.hid (HB3.out.tn HT4.out (fun e => e))
  have HX04 := Lib.hid (HX03.out.tn HT4.out (fun e => e))
  have HX14 := Lib.hid (HX13.out.tn HT4.out (fun e => e))
  clear p1 x1 HP3 HB3 HX03 HX13
  generalize w3.drew = w4 at *
  have HT5 : Hid (Tn (fun i => i = L.ptr h.id) w4 (w4.setCell ⟨L.ptr h.id, 1, none⟩ (.int .i64 (h.d - x.2)))) := Lib.hid ((Tn.refl _ w4).set ⟨L.ptr h.id, 1, none⟩ _ (fun _ => rfl))
  have HP5 : Hid (At (w4.setCell ⟨L.ptr h.id, 1, none⟩ (.int .i64 (h.d - x.2))) (L.ptr h.id) 66 [.int .i64 h.w, .int .i64 (h.d - x.2), .bool h.s, .slice A' r.length cap']) := Lib.hid (HP4.out.set_ 1 _)
  have HB5 := Lib.hid (HB4.out.tn HT5.out HBP.out)
  have HX05 := Lib.hid (HX04.out.tn HT5.out HN0.out.2.1)
  have HX15 := Lib.hid (HX14.out.tn HT5.out HN0.out.2.2.2)
  have HTT : Hid (Tn (fun i => i = L.ptr h.id) w (w4.setCell ⟨L.ptr h.id, 1, none⟩ (.int .i64 (h.d - x.2)))) := Lib.hid ((((HT2.out.mono (fun _ _ e => e.elim)).trans HT3.out).trans' HT4.out (fun _ _ e => e.elim)).trans HT5.out)
  have p1f := HP4.out.free 1
  have p1 := HP4.out.cell 1 rfl
  have q3 := HP5.out.cell 3 rfl
  have x0 := HX15.out.cell 0 rfl
  have x1 := HX15.out.cell 1 rfl
  have y0 := HX05.out.cell 0 rfl
  have y1 := HX05.out.cell 1 rfl
  have f0 := HX05.out.free 0
  have f1 := HX05.out.free 1
  have HH := Lib.hid hlen
  rcases Nat.eq_zero_or_pos r.length with h0 | h0
  · have HL0 := Lib.hid (dr_leave HB5.out ((HR.out.tn HTT.out (fun g _ e f => by have f : g = L.ptr h.id := f; have e : L.col g = 258 := e; rw [f, HCP.out] at e; omega))) HP5.out (c := fun g => L.col g = 258) (by rw [HCB.out]; omega) (by rw [HCP.out]; omega) HBP.out (fun i hi => by rw [HS.out.ahead i (Nat.le_trans HTT.out.size hi)]; omega) (by rw [HS.out.len]; exact hn) (fun y hy => by
      obtain ⟨z, hz, rfl⟩ := List.mem_map.1 hy
      rcases List.mem_cons.1 hz with e | hz'
      · rw [e]; exact ⟨_, HP5.out⟩
      · obtain ⟨_, vv, hat, _⟩ := HS.out.busy z (List.mem_cons_of_mem _ hz')
        refine ⟨_, hat.tn HTT.out fun e => ?_⟩
        have h1 := (HS.out.busy z (List.mem_cons_of_mem _ hz')).1
        have e : L.ptr z.id = L.ptr h.id := e
        rw [e, HCP.out] at h1
        have hnd := HO.out.rn
        rw [List.map_cons, List.nodup_cons] at hnd
        exact hnd.1 (List.mem_map.2 ⟨z, hz', h1.symm⟩)))
    rw [h0] at q3
    rw [h0]
    go_wp2_with fail
    generalize w4.setCell ⟨L.ptr h.id, 1, none⟩ (.int .i64 (h.d - x.2)) = w5 at *
    refine HL0.out.mono ?_; rintro e w6 ⟨rfl, ⟨rv', hb6, hr6⟩, hp6, ht6⟩
    have HB6 := Lib.hid hb6
    have HR6 := Lib.hid hr6
    have HP6 := Lib.hid hp6
    have HT6 := Lib.hid ht6
    have HX16 := Lib.hid (HX15.out.tn ht6 (fun e => e.elim HN0.out.2.2.1 (fun e => e.elim HN0.out.2.2.2 (fun e => by have e : L.col (w.heap.size + 1) = 258 := e; rw [HC0.out.2] at e; omega))))
    have HX06 := Lib.hid (HX05.out.tn ht6 (fun e => e.elim HN0.out.1 (fun e => e.elim HN0.out.2.1 (fun e => by have e : L.col w.heap.size = 258 := e; rw [HC0.out.1] at e; omega))))
    clear hb6 hr6 hp6 ht6 x0 x1 y0 y1 f0 f1 p1f p1 q3 HL0
    have x0 := HX16.out.cell 0 rfl
    have x1 := HX16.out.cell 1 rfl
    have y0 := HX06.out.cell 0 rfl
    have y1 := HX06.out.cell 1 rfl
    have f0 := HX06.out.free 0
    have f1 := HX06.out.free 1
    generalize hB0 : w.heap.size = bx at *
    go_wp2_with fail
    have HX7 : At ((w6.setCell ⟨bx, 0, none⟩ (.int .i64 x.1)).setCell ⟨bx, 1, none⟩ (.int .i64 x.2)) bx 35 [.int .i64 x.1, .int .i64 x.2] := (HX06.out.set_ 0 _).set_ 1 _
    have r0 := HX7.cell 0 rfl
    have r1 := HX7.cell 1 rfl
    refine bodyPost_ret (v := .agg #[.int .i64 x.1, .int .i64 x.2]) (by simp [results, Try.results24, go_sem, r0, r1]) rfl ⟨rfl, ?_⟩
    have hTE : Tn (fun i => i = bx) w6 ((w6.setCell ⟨bx, 0, none⟩ (.int .i64 x.1)).setCell ⟨bx, 1, none⟩ (.int .i64 x.2)) := ((Tn.refl (fun i => i = bx) w6).set ⟨bx, 0, none⟩ _ (fun _ => rfl)).set ⟨bx, 1, none⟩ _ (fun _ => rfl)
    have hTA : Tn (fun i => i = L.ptr h.id ∨ i = L.b ∨ L.col i = 258) w w6 := (HTT.out.mono (fun _ _ e => Or.inl e)).trans' HT6.out (fun i _ e => e.elim (fun e => Or.inr (Or.inl e)) (fun e => e.elim Or.inl (fun e => Or.inr (Or.inr e))))
    have hr0 : r = [] := List.eq_nil_of_length_eq_zero h0
    have htk : tookR h t = t := by unfold tookR; rw [HHL.out, List.tail_cons, if_pos hr0]
    rw [htk]
    have hkp : keepP (L.ptr h.id) ((h :: t).map fun q => L.ptr q.id) = t.map fun q => L.ptr q.id := keepP_head fun z hz' e => by
      have h1 := (HS.out.busy z (List.mem_cons_of_mem _ hz')).1
      rw [e, HCP.out] at h1
      have hnd := HO.out.rn
      rw [List.map_cons, List.nodup_cons] at hnd
      exact hnd.1 (List.mem_map.2 ⟨z, hz', h1.symm⟩)
    rw [hkp] at HR6
    have hs6 := HS.out.left HO.out hTA (fun g _ e => e.elim (fun e => Or.inl (by rw [e, HCP.out])) (fun e => e.elim (fun e => Or.inr (Or.inl (by rw [e, HCB.out]))) (fun e => Or.inr (Or.inr e)))) HB6.out HR6.out HP6.out
    have ho' : Rok W t := by
      have o := HO.out
      have hnd := o.rn
      rw [List.map_cons, List.nodup_cons] at hnd
      exact ⟨o.w, o.wn, hnd.2, fun z hz' => o.rw z (List.mem_cons_of_mem _ hz')⟩
    refine ⟨hs6.tn ho' hTE (fun g _ e => by have e : g = bx := e; rw [e]; exact HC0.out.1), ?_⟩
    refine (hTA.mono (fun i _ e => ?_)).trans' hTE (fun i hi e => ?_)
    · rcases e with e | e | e
      · rw [e, HCP.out]; omega
      · rw [e, HCB.out]; omega
      · omega
    · have e : i = bx := e
      omega
  · have hk0 : (r.length : Int) ≠ 0 := by omega
    have hk1 : ((r.length : Int) == 0) = false := beq_eq_false_iff_ne.2 hk0
    go_wp2_with fail
    generalize hw5 : w4.setCell ⟨L.ptr h.id, 1, none⟩ (.int .i64 (h.d - x.2)) = w5 at *
    clear hw5
    generalize hB0 : w.heap.size = bx at *
    have HX7 : At ((w5.setCell ⟨bx, 0, none⟩ (.int .i64 x.1)).setCell ⟨bx, 1, none⟩ (.int .i64 x.2)) bx 35 [.int .i64 x.1, .int .i64 x.2] := (HX05.out.set_ 0 _).set_ 1 _
    have r0 := HX7.cell 0 rfl
    have r1 := HX7.cell 1 rfl
    refine bodyPost_ret (v := .agg #[.int .i64 x.1, .int .i64 x.2]) (by simp [results, Try.results24, go_sem, r0, r1]) rfl ⟨rfl, ?_⟩
    have hTE : Tn (fun i => i = bx) w5 ((w5.setCell ⟨bx, 0, none⟩ (.int .i64 x.1)).setCell ⟨bx, 1, none⟩ (.int .i64 x.2)) := ((Tn.refl (fun i => i = bx) w5).set ⟨bx, 0, none⟩ _ (fun _ => rfl)).set ⟨bx, 1, none⟩ _ (fun _ => rfl)
    have hrne : r ≠ [] := List.length_pos_iff.1 h0
    have htk : tookR h t = h.took :: t := by unfold tookR; rw [HHL.out, List.tail_cons, if_neg hrne]
    rw [htk]
    have hq : Qr w5 L h.took := by
      refine ⟨HCP.out, .slice A' r.length cap', ?_, ?_⟩
      · have := HP5.out
        have e : h.took.d = h.d - x.2 := by show h.d - h.hd.2 = _; rw [HHD.out]
        rw [e]; exact this
      · have e : h.took.l = r := by show h.l.tail = r; rw [HHL.out]; rfl
        rw [e]
        exact (HRest.out hrne).tn HTT.out (fun g _ e f => by have f : g = L.ptr h.id := f; have e : L.col g = 1000 + h.id := e; rw [f, HCP.out] at e; omega)
    have hs5 : Sr w5 L Q W (h.took :: t) := Sr.turn (A := []) HS.out HO.out rfl HTT.out (fun g _ e => by have e : g = L.ptr h.id := e; rw [e, HCP.out]; exact Or.inl rfl) hq
    have ho' : Rok W (h.took :: t) := HO.out.same rfl
    refine ⟨hs5.tn ho' hTE (fun g _ e => by have e : g = bx := e; rw [e]; exact HC0.out.1), ?_⟩
    refine (HTT.out.mono (fun i _ e => ?_)).trans' hTE (fun i hi e => ?_)
    · have e : i = L.ptr h.id := e
      rw [e, HCP.out]; omega
    · have e : i = bx := e
      omega
end Go.Proofs.Ytplbdeaoeocgkaa

/- Proved: lemmas of one statement's proof, merged by program: what each part proves stands ahead of it. Conditions: those that the lemmas name. -/
import Derived.Test.YtgclgmfmcgacdaaProg
import Derived.Conc.MuLib
import Derived.KernelRfl
import Derived.Test.YtgclgmfmcgacdaaM8
import Derived.Conc.MuLone
import Derived.LaidEqlPtr

/- Proved: that this program holds the library's text of sync.Mutex, under these numbers. No condition. -/
namespace Go.Proofs
abbrev Try.muLink : Go.Conc.Locks.MuLink := { lock := 25, unlock := 26, ilock := 37, iunlock := 38, lockSlow := 51, unlockSlow := 54, disable := 47, enable := 49, acquire := 50, relMerge := 52, cas32 := 48, add32 := 53, tMutex := 59, tIMutex := 57, tPMutex := 101, tPIMutex := 109, tPI32 := 111, tUP := 113, tNoCopy := 55, tU32 := 33 }
theorem Try.muLib : Go.Conc.Locks.MuLib Try.prog Try.muLink :=
  ⟨Try.func25, Try.func26, Try.func37, Try.func38, Try.func47, Try.func49, Try.func50, Try.func52, Try.func48, Try.func53,
   Try.underlying57, Try.runUnderlying57, Try.sizeOf57, Try.isAgg57, Try.zeroValue57, Try.underlying59, Try.runUnderlying59, Try.sizeOf59, Try.isAgg59, Try.zeroValue59, Try.underlying101, Try.runUnderlying101, Try.sizeOf101, Try.isAgg101, Try.zeroValue101, Try.underlying109, Try.runUnderlying109, Try.sizeOf109, Try.isAgg109, Try.zeroValue109, Try.underlying111, Try.runUnderlying111, Try.sizeOf111, Try.isAgg111, Try.zeroValue111, Try.underlying113, Try.runUnderlying113, Try.sizeOf113, Try.isAgg113, Try.zeroValue113, Try.underlying55, Try.runUnderlying55, Try.sizeOf55, Try.isAgg55, Try.zeroValue55, Try.underlying21, Try.runUnderlying21, Try.sizeOf21, Try.isAgg21, Try.zeroValue21, (by kernel_rfl)⟩
end Go.Proofs

/- Proved: what the locks, oldest and count of package table leave. Conditions: those that the theorems name. -/
namespace Go.Proofs.Ytgclgmfmcgacdaa
open Go.ChangeShapes Go.WideShapes Go.ChangeAt Go.RowKit Go.MuLone

/-- what is asked behind a region that comes to its end. -/
def OnlyN (Q : Exit → Act → World → Prop) : Exit → Act → World → Prop
  | .normal, a, w => Q .normal a w
  | _, _, _ => False
theorem only_wp {P : Program} {c : Code} {Q : Exit → Act → World → Prop} {a : Act} {w : World} (h : c.wp P (OnlyN Q) a w) : c.wp P Q a w :=
  Code.wp_mono (fun e a w g => by
    cases e with
    | normal => exact g
    | _ => exact g.elim) h

theorem only_of {Q : Exit → Act → World → Prop} {a : Act} {w : World} (h : Q .normal a w) : OnlyN Q .normal a w := h

/-! ### the locks -/
section
variable {w : World} {L : Ly} {n room : Nat} {many : Int} {XM XN : List En} {U : List Nat} {ls : Int} {sp : Nat → Int}
/-- the table's own blocks. -/
abbrev Mine (L : Ly) : Nat → Prop := fun i => L.col i ≠ -1
theorem tb_lock (h : St w L n room many XM XN U 0 sp) :
    Calls Try.prog 25 #[.pointer (some ⟨L.b, 1, none⟩)] w fun e w' => e = .returned (.tuple #[]) ∧ St w' L n room many XM XN U 1 sp ∧ Tn (fun i => i = L.b) w w' := by
  refine (lock_free Try.muLib ⟨L.b, 1, none⟩ _ (h.tab.cell 1 rfl) (h.tab.free 1)).mono ?_
  rintro e w' ⟨rfl, rfl⟩
  exact ⟨rfl, h.lock 1, (Tn.refl _ w).set _ _ (fun _ => rfl)⟩
theorem tb_unlock (h : St w L n room many XM XN U 1 sp) (u : FrameMode) :
    CallsD Try.prog 26 #[.pointer (some ⟨L.b, 1, none⟩)] u w fun e u' w' => u' = u ∧ (e = .returned (.tuple #[]) ∧ St w' L n room many XM XN U 0 sp ∧ Tn (fun i => i = L.b) w w') := by
  refine (unlock_deferred Try.muLib ⟨L.b, 1, none⟩ u _ (h.tab.cell 1 rfl) (h.tab.free 1)).mono ?_
  rintro e u' w' ⟨rfl, rfl, rfl⟩
  exact ⟨rfl, rfl, h.lock 0, (Tn.refl _ w).set _ _ (fun _ => rfl)⟩
theorem St.pcell (h : St w L n room many XM XN U ls sp) {j : Nat} (hj : j < n) : w.cell? ⟨L.gp, j * 3, none⟩ = some (.int .i32 (sp j)) ∧ w.cell? ⟨L.gp, j * 3 + 2, none⟩ = some (.map (some (L.mp j))) :=
  ⟨h.par.cell _ (pcells_at L.mp sp hj).1, h.par.cell _ (pcells_at L.mp sp hj).2.2⟩
theorem tb_plock (h : St w L n room many XM XN U ls sp) {j : Nat} (hj : j < n) (h0 : sp j = 0) :
    Calls Try.prog 25 #[.pointer (some ⟨L.gp, j * 3, none⟩)] w fun e w' => e = .returned (.tuple #[]) ∧ St w' L n room many XM XN U ls (upd sp j 1) ∧ Tn (fun i => i = L.gp) w w' := by
  have := (h.pcell hj).1
  rw [h0] at this
  refine (lock_free Try.muLib ⟨L.gp, j * 3, none⟩ _ this (h.par.free _)).mono ?_
  rintro e w' ⟨rfl, rfl⟩
  exact ⟨rfl, h.plock hj 1, (Tn.refl _ w).set _ _ (fun _ => rfl)⟩
theorem tb_punlock (h : St w L n room many XM XN U ls sp) {j : Nat} (hj : j < n) (h0 : sp j = 1) (u : FrameMode) :
    CallsD Try.prog 26 #[.pointer (some ⟨L.gp, j * 3, none⟩)] u w fun e u' w' => u' = u ∧ (e = .returned (.tuple #[]) ∧ St w' L n room many XM XN U ls (upd sp j 0) ∧ Tn (fun i => i = L.gp) w w') := by
  have := (h.pcell hj).1
  rw [h0] at this
  refine (unlock_deferred Try.muLib ⟨L.gp, j * 3, none⟩ u _ this (h.par.free _)).mono ?_
  rintro e u' w' ⟨rfl, rfl, rfl⟩
  exact ⟨rfl, rfl, h.plock hj 0, (Tn.refl _ w).set _ _ (fun _ => rfl)⟩
theorem mine_b (h : St w L n room many XM XN U ls sp) : Hid (∀ g, g < w.heap.size → g = L.b → Mine L g) := Lib.hid fun g _ e => by rw [e]; show L.col L.b ≠ -1; rw [h.cb]; decide
theorem mine_g (h : St w L n room many XM XN U ls sp) : Hid (∀ g, g < w.heap.size → g = L.gp → Mine L g) := Lib.hid fun g _ e => by rw [e]; show L.col L.gp ≠ -1; rw [h.cg]; decide
theorem Tn.b {w' : World} (t : Tn (fun i => i = L.b) w w') (h : St w L n room many XM XN U ls sp) : Tn (Mine L) w w' := t.mono (mine_b h).out
theorem Tn.g {w' : World} (t : Tn (fun i => i = L.gp) w w') (h : St w L n room many XM XN U ls sp) : Tn (Mine L) w w' := t.mono (mine_g h).out

/-! ### pointers compared -/
theorem infoE : ∃ j, Try.prog.info? 95 = some j ∧ j.size ≠ 0 := by
  have h : (Try.prog.info? 95).map (fun i => decide (i.size = 0)) = some false := by kernel_rfl
  cases hj : Try.prog.info? 95 with
  | none => rw [hj] at h; cases h
  | some j =>
    rw [hj] at h
    simp at h
    exact ⟨j, rfl, h⟩
theorem ptr_same (p : Nat) (W : World) : (binOp .eql 60 (ptv p) (ptv p)).run Try.prog W = .ok (.bool true) W := by
  obtain ⟨j, hj, _⟩ := infoE
  exact run_eql_ptr_same W ⟨p, 0, none⟩ Try.underlying60 hj
theorem ptr_other {p q : Nat} {W : World} {xs ys : List Value} (e : p ≠ q) (hp : At W p 95 xs) (hq : At W q 95 ys) : (binOp .eql 60 (ptv p) (ptv q)).run Try.prog W = .ok (.bool false) W := by
  obtain ⟨j, hj, hsz⟩ := infoE
  exact run_eql_ptr_other W (a := ⟨p, 0, none⟩) (b := ⟨q, 0, none⟩) Try.underlying60 hj hsz (by intro c; injection c with c; exact e c) hp hq

theorem res_oldest {T : Array Value} {W : World} {b : Nat} {x0 x1 : Int} {z : Bool} (h2 : T.getD 2 undef = .pointer (some ⟨b, 0, none⟩)) (h3 : T.getD 3 undef = .bool z) (h : At W b 35 [.int .i64 x0, .int .u32 x1]) : (results Try.f21 T).run Try.prog W = .ok (.tuple #[.agg #[.int .i64 x0, .int .u32 x1], .bool z]) W := by
  have c0 := h.cell 0 rfl
  have c1 := h.cell 1 rfl
  rw [results_cell_tmp rfl, h2, h3]
  simp [go_sem, asAddr, c0, c1, Result.andThen]

/-! ### count, oldest -/
/-- how much memory there is (by a name that no generalizing meets). -/
def szW (w : World) : Nat := w.heap.size
set_option maxRecDepth 100000 in
set_option maxHeartbeats 800000 in
theorem tb_count (h : St w L n room many XM XN U 0 sp) :
    Calls Try.prog 23 #[.pointer (some ⟨L.b, 1, none⟩)] w fun e w' => e = .returned (.int .i64 many) ∧ St w' L n room many XM XN U 0 sp ∧ Tn (Mine L) w w' := by
  have H0 := Lib.hid h
  clear h
  go_enter_defers Try.func23, Try.ntmps23
  go_wp2_with fail
  refine (tb_lock H0.out).mono ?_; rintro e w1 ⟨rfl, h1, t1⟩
  have H1 := Lib.hid h1
  have T1 := Lib.hid (t1.b H0.out)
  have c4 := h1.tab.cell 4 rfl
  clear h1 t1
  go_wp2_with fail
  refine leaves_cons (f := 26) (args := #[.pointer (some ⟨L.b, 1, none⟩)]) (by simp) (by simp [go_sem]) ?_
  refine (tb_unlock H1.out .returning).mono ?_
  rintro e u' w2 ⟨rfl, rfl, h2, t2⟩
  exact ⟨_, results_tmp rfl _ _ _, rfl, h2, T1.out.trans (t2.b H1.out)⟩
set_option maxRecDepth 100000 in
set_option maxHeartbeats 800000 in
theorem tb_oldest_none (h : St w L n room many XM XN [] 0 sp) :
    Calls Try.prog 21 #[.pointer (some ⟨L.b, 1, none⟩)] w fun e w' => e = .returned (.tuple #[kyV (0, 0), .bool false]) ∧ St w' L n room many XM XN [] 0 sp ∧ Tn (Mine L) w w' := by
  have HX0 := Lib.hid (At.new w 35 [.int .i64 0, .int .u32 0])
  have TA : Tn Nil w (w.alloc (.cells #[.int .i64 0, .int .u32 0] 35)) := (Tn.refl _ w).alloc _
  have H0 := Lib.hid (h.free TA)
  have T0 := Lib.hid (TA.mono (d := Mine L) fun _ _ e => e.elim)
  have HL := Lib.hid h.ahead
  clear h TA
  go_enter_defers Try.func21, Try.ntmps21
  go_wp2_with fail
  have HXC : Hid (L.col w.heap.size = -1) := Lib.hid (HL.out _ (Nat.le_refl _))
  have HBX : Hid (szW w ≤ w.heap.size) := Lib.hid (Nat.le_refl _)
  generalize w.heap.size = bx at *
  generalize w.alloc (.cells #[.int .i64 0, .int .u32 0] 35) = w1 at *
  refine (tb_lock H0.out).mono ?_; rintro e w2 ⟨rfl, h1, t1⟩
  have H1 := Lib.hid h1
  have T1 := Lib.hid (T0.out.trans (t1.b H0.out))
  have HX1 : Hid (At w2 bx 35 [.int .i64 0, .int .u32 0]) := Lib.hid (HX0.out.tn t1 (fun e => by have := HXC.out; rw [e, h1.cb] at this; exact absurd this (by decide)))
  obtain ⟨ah, bh, hz, _, hc⟩ := h1.nodes
  have c5 := h1.tab.cell 5 rfl
  have z6 := At.cell hz 6 rfl
  rw [hc.1] at z6
  clear h1 t1 hz hc HX0 H0 T0
  unfold ptO at z6
  simp only at z6
  go_wp2_with fail
  have he := ptr_same L.z
  go_quiet (fail)
  have TD : Tn Nil w2 (w2.drewN nq) := (Tn.refl _ w2).drewN nq
  have H2 := Lib.hid (H1.out.free TD)
  have T2 := Lib.hid (T1.out.trans (TD.mono fun _ _ e => e.elim))
  have HX2 := Lib.hid (HX1.out.tn TD (fun e => e))
  clear TD c5 z6 he H1 T1 HX1
  generalize w2.drewN nq = w3 at *
  have x0 := HX2.out.cell 0 rfl
  have x1 := HX2.out.cell 1 rfl
  have f0 := HX2.out.free 0
  have f1 := HX2.out.free 1
  go_wp2_with fail
  have TS : Tn (fun i => i = bx) w3 ((w3.setCell ⟨bx, 0, none⟩ (.int .i64 0)).setCell ⟨bx, 1, none⟩ (.int .u32 0)) := ((Tn.refl (fun i => i = bx) w3).set ⟨bx, 0, none⟩ _ (fun _ => rfl)).set ⟨bx, 1, none⟩ _ (fun _ => rfl)
  have HX3 := Lib.hid ((HX2.out.set_ 0 (.int .i64 0)).set_ 1 (.int .u32 0))
  have H3 := Lib.hid (H2.out.tn TS (fun g _ e => by rw [show g = bx from e]; exact HXC.out))
  have T3 := Lib.hid (T2.out.trans' TS (fun g hg e => by have := HBX.out; rw [show g = bx from e] at hg; exact absurd hg (Nat.not_lt.2 this)))
  clear TS x0 x1 f0 f1
  generalize ((w3.setCell ⟨bx, 0, none⟩ (.int .i64 0)).setCell ⟨bx, 1, none⟩ (.int .u32 0)) = w4 at *
  refine leaves_cons (f := 26) (args := #[.pointer (some ⟨L.b, 1, none⟩)]) (by simp) (by simp [go_sem]) ?_
  refine (tb_unlock H3.out .returning).mono ?_
  rintro e u' w5 ⟨rfl, rfl, h5, t5⟩
  have HX5 := HX3.out.tn t5 (fun e => by have := HXC.out; rw [e, H3.out.cb] at this; exact absurd this (by decide))
  exact ⟨_, res_oldest rfl rfl HX5, rfl, h5, T3.out.trans (t5.b H3.out)⟩
set_option maxRecDepth 100000 in
set_option maxHeartbeats 800000 in
theorem tb_oldest_some {p : Nat} (h : St w L n room many XM XN (p :: U) 0 sp) :
    Calls Try.prog 21 #[.pointer (some ⟨L.b, 1, none⟩)] w fun e w' => ∃ a ∈ XN, a.p = p ∧ e = .returned (.tuple #[kyV a.k, .bool true]) ∧ St w' L n room many XM XN (p :: U) 0 sp ∧ Tn (Mine L) w w' := by
  have HX0 := Lib.hid (At.new w 35 [.int .i64 0, .int .u32 0])
  have TA : Tn Nil w (w.alloc (.cells #[.int .i64 0, .int .u32 0] 35)) := (Tn.refl _ w).alloc _
  have H0 := Lib.hid (h.free TA)
  have T0 := Lib.hid (TA.mono (d := Mine L) fun _ _ e => e.elim)
  have HL := Lib.hid h.ahead
  clear h TA
  go_enter_defers Try.func21, Try.ntmps21
  go_wp2_with fail
  have HXC : Hid (L.col w.heap.size = -1) := Lib.hid (HL.out _ (Nat.le_refl _))
  have HBX : Hid (szW w ≤ w.heap.size) := Lib.hid (Nat.le_refl _)
  generalize w.heap.size = bx at *
  generalize w.alloc (.cells #[.int .i64 0, .int .u32 0] 35) = w1 at *
  refine (tb_lock H0.out).mono ?_; rintro e w2 ⟨rfl, h1, t1⟩
  have H1 := Lib.hid h1
  have T1 := Lib.hid (T0.out.trans (t1.b H0.out))
  have HX1 : Hid (At w2 bx 35 [.int .i64 0, .int .u32 0]) := Lib.hid (HX0.out.tn t1 (fun e => by have := HXC.out; rw [e, h1.cb] at this; exact absurd this (by decide)))
  obtain ⟨ah, bh, hz, hes, hc⟩ := h1.nodes
  obtain ⟨a, ha, rfl⟩ := h1.lu p (by simp)
  obtain ⟨s, v, hp, _⟩ := (hes a ha).mem
  have HA := Lib.hid ha
  have c5 := h1.tab.cell 5 rfl
  have z6 := At.cell hz 6 rfl
  rw [hc.1.1] at z6
  have hne : a.p ≠ L.z := fun e => (List.nodup_cons.1 h1.ln).1 (by rw [← e]; simp)
  have HP := Lib.hid hp
  have he : ∀ q, (binOp .eql 60 (ptv a.p) (ptv L.z)).run Try.prog (w2.drewN q) = .ok (.bool false) (w2.drewN q) := fun q => ptr_other hne (hp.tn ((Tn.refl Nil w2).drewN q) (fun e => e)) (hz.tn ((Tn.refl Nil w2).drewN q) (fun e => e))
  clear h1 t1 hz hc HX0 H0 T0 hes ha hp hne
  unfold ptO at z6
  simp only at z6
  go_wp2_with fail
  go_quiet (fail)
  have TD : Tn Nil w2 (w2.drewN nq) := (Tn.refl _ w2).drewN nq
  have H2 := Lib.hid (H1.out.free TD)
  have T2 := Lib.hid (T1.out.trans (TD.mono fun _ _ e => e.elim))
  have HX2 := Lib.hid (HX1.out.tn TD (fun e => e))
  have HP2 := Lib.hid (HP.out.tn TD (fun e => e))
  have z6' : (w2.drewN nq).cell? ⟨L.z, 6, none⟩ = some (ptv a.p) := z6
  have c5' : (w2.drewN nq).cell? ⟨L.b, 5, none⟩ = some (ptv L.z) := c5
  clear TD c5 z6 he H1 T1 HX1 HP
  generalize w2.drewN nq = w3 at *
  have x0 := HX2.out.cell 0 rfl
  have x1 := HX2.out.cell 1 rfl
  have f0 := HX2.out.free 0
  have f1 := HX2.out.free 1
  have p0 := At.cell HP2.out 0 rfl
  have p1 := At.cell HP2.out 1 rfl
  go_wp2_with fail
  have TS : Tn (fun i => i = bx) w3 ((w3.setCell ⟨bx, 0, none⟩ (.int .i64 a.k.1)).setCell ⟨bx, 1, none⟩ (.int .u32 a.k.2)) := ((Tn.refl (fun i => i = bx) w3).set ⟨bx, 0, none⟩ _ (fun _ => rfl)).set ⟨bx, 1, none⟩ _ (fun _ => rfl)
  have HX3 := Lib.hid ((HX2.out.set_ 0 (.int .i64 a.k.1)).set_ 1 (.int .u32 a.k.2))
  have H3 := Lib.hid (H2.out.tn TS (fun g _ e => by rw [show g = bx from e]; exact HXC.out))
  have T3 := Lib.hid (T2.out.trans' TS (fun g hg e => by have := HBX.out; rw [show g = bx from e] at hg; exact absurd hg (Nat.not_lt.2 this)))
  clear TS x0 x1 f0 f1 p0 p1 z6' c5'
  generalize ((w3.setCell ⟨bx, 0, none⟩ (.int .i64 a.k.1)).setCell ⟨bx, 1, none⟩ (.int .u32 a.k.2)) = w4 at *
  refine leaves_cons (f := 26) (args := #[.pointer (some ⟨L.b, 1, none⟩)]) (by simp) (by simp [go_sem]) ?_
  refine (tb_unlock H3.out .returning).mono ?_
  rintro e u' w5 ⟨rfl, rfl, h5, t5⟩
  have HX5 := HX3.out.tn t5 (fun e => by have := HXC.out; rw [e, H3.out.cb] at this; exact absurd this (by decide))
  exact ⟨_, res_oldest rfl rfl HX5, a, HA.out, rfl, rfl, h5, T3.out.trans (t5.b H3.out)⟩
end
end Go.Proofs.Ytgclgmfmcgacdaa

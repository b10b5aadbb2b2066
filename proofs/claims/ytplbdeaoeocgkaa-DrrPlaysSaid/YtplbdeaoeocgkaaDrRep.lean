/- Proved: what a scheduler in memory holds, and what may and serve answer. Conditions: those that the theorems name. -/
import Derived.Test.YtplbdeaoeocgkaaDrMem
import Derived.Laws.StructEq
import Derived.Deep.RegionHeld3
import Derived.Deep.QuietTactic
import Derived.Deep.DeepCutAuto
import Derived.BigQuiet
import Derived.WalkSpells
import Derived.IntWalk
import Derived.StillTailTactics
namespace Go.Proofs.Ytplbdeaoeocgkaa
open Go.ChangeShapes Go.WideShapes Go.ChangeAt Go.RowKit

/-- where a scheduler lies: its block, its map's, whose each block is, and where each queue lies. -/
structure Ly where
  b : Nat
  m : Nat
  col : Nat → Int
  ptr : Int → Nat
/-- a queue in memory. -/
def Qr (w : World) (L : Ly) (q : Qd) : Prop :=
  L.col (L.ptr q.id) = q.id ∧ ∃ v, At w (L.ptr q.id) 66 [.int .i64 q.w, .int .i64 q.d, .bool q.s, v] ∧ Ir w (fun g => L.col g = 1000 + q.id) v q.l
theorem Qr.lt {w : World} {L : Ly} {q : Qd} (h : Qr w L q) : L.ptr q.id < w.heap.size := by
  obtain ⟨_, v, h, _⟩ := h
  exact h.lt
theorem Qr.tn {w w' : World} {L : Ly} {q : Qd} {c : Nat → Prop} (h : Qr w L q) (k : Tn c w w') (hc : ∀ g, g < w.heap.size → c g → L.col g ≠ q.id ∧ L.col g ≠ 1000 + q.id) : Qr w' L q := by
  have hl := h.lt
  obtain ⟨h1, v, h2, h3⟩ := h
  exact ⟨h1, v, h2.tn k (fun e => (hc _ hl e).1 h1), h3.tn k (fun g hg e f => (hc g hg f).2 e)⟩
def fOf (W : List (Int × Int)) (L : Ly) (k : Int) : Option Nat := if inW W k = true then some (L.ptr k) else none
/-- a scheduler in memory: its quantum, its queues with their weights, and the round. -/
structure Sr (w : World) (L : Ly) (Q : Int) (W : List (Int × Int)) (R : List Qd) : Prop where
  sched : ∃ rv, At w L.b 56 [.int .i64 Q, .map (some L.m), rv] ∧ Rr w (fun g => L.col g = 258) rv (R.map fun q => L.ptr q.id)
  cb : L.col L.b = 256
  cm : L.col L.m = 257
  map : Mq w L.m (fOf W L) W.length
  busy : ∀ q ∈ R, Qr w L q
  idle : ∀ x ∈ W, isR R x.1 = false → Qr w L ⟨x.1, x.2, 0, false, []⟩
  ahead : ∀ i, w.heap.size ≤ i → L.col i = -1
/-- numbers that may be. -/
structure Rok (W : List (Int × Int)) (R : List Qd) : Prop where
  w : ∀ x ∈ W, 0 ≤ x.1 ∧ x.1 ≤ 255
  wn : (W.map (·.1)).Nodup
  rn : (R.map Qd.id).Nodup
  rw : ∀ x ∈ R, (x.id, x.w) ∈ W
theorem Ok.rok {Q M : Int} {W : List (Int × Int)} {R : List Qd} (k : Ok Q M W R) : Rok W R := ⟨fun x hx => ⟨(k.w x hx).1, (k.w x hx).2.1⟩, k.wn, k.rn, k.rw⟩
theorem Rok.id {W : List (Int × Int)} {R : List Qd} (k : Rok W R) {q : Qd} (h : q ∈ R) : 0 ≤ q.id ∧ q.id ≤ 255 := k.w _ (k.rw q h)
theorem Rok.same {W : List (Int × Int)} {R S : List Qd} (k : Rok W R) (h : S.map (fun q => (q.id, q.w)) = R.map (fun q => (q.id, q.w))) : Rok W S := by
  have e : S.map Qd.id = R.map Qd.id := by
    have := congrArg (List.map Prod.fst) h
    rwa [List.map_map, List.map_map] at this
  refine ⟨k.w, k.wn, by rw [e]; exact k.rn, fun x hx => ?_⟩
  have : (x.id, x.w) ∈ R.map fun q => (q.id, q.w) := by rw [← h]; exact List.mem_map.2 ⟨x, hx, rfl⟩
  obtain ⟨y, hy, e⟩ := List.mem_map.1 this
  rw [← e]; exact k.rw y hy
theorem isR_same {R S : List Qd} (h : S.map Qd.id = R.map Qd.id) (id : Int) : isR S id = isR R id := by
  have : ∀ T : List Qd, isR T id = (T.map Qd.id).any fun x => x == id := fun T => by unfold isR; rw [List.any_map]; rfl
  rw [this, this, h]
theorem Sr.tn {w w' : World} {L : Ly} {Q : Int} {W : List (Int × Int)} {R : List Qd} {c : Nat → Prop} (h : Sr w L Q W R) (o : Rok W R) (k : Tn c w w') (hc : ∀ g, g < w.heap.size → c g → L.col g = -1) : Sr w' L Q W R := by
  obtain ⟨rv, h1, h2⟩ := h.sched
  refine ⟨⟨rv, h1.tn k (fun e => by have := hc _ h1.lt e; rw [h.cb] at this; omega), h2.tn k (fun g hg e f => by have := hc g hg f; omega)⟩, h.cb, h.cm, h.map.tn k (fun e => by have := hc _ h.map.lt e; rw [h.cm] at this; omega), fun q hq => (h.busy q hq).tn k (fun g hg f => ?_), fun x hx hn => (h.idle x hx hn).tn k (fun g hg f => ?_), fun i hi => h.ahead i (Nat.le_trans k.size hi)⟩
  · have := hc g hg f
    have := o.id hq
    omega
  · have := hc g hg f
    have := o.w x hx
    show L.col g ≠ x.1 ∧ L.col g ≠ 1000 + x.1
    omega
theorem Sr.free {w w' : World} {L : Ly} {Q : Int} {W : List (Int × Int)} {R : List Qd} (h : Sr w L Q W R) (o : Rok W R) (k : Tn (fun _ => False) w w') : Sr w' L Q W R := h.tn o k fun _ _ e => e.elim
theorem Sr.below {w w' : World} {L : Ly} {Q : Int} {W : List (Int × Int)} {R : List Qd} (h : Sr w L Q W R) (o : Rok W R) (k : Below w.heap.size w w') : Sr w' L Q W R := h.free o (tn_below _ k)
/-- one queue of the round turns. -/
theorem Sr.turn {w w' : World} {L : Ly} {Q : Int} {W : List (Int × Int)} {A B : List Qd} {q q' : Qd} {c : Nat → Prop} (h : Sr w L Q W (A ++ q :: B)) (o : Rok W (A ++ q :: B)) (hid : q'.id = q.id) (k : Tn c w w')
    (hc : ∀ g, g < w.heap.size → c g → L.col g = q.id ∨ L.col g = 1000 + q.id) (hq : Qr w' L q') : Sr w' L Q W (A ++ q' :: B) := by
  obtain ⟨rv, h1, h2⟩ := h.sched
  have hqm : q ∈ A ++ q :: B := by simp
  have hqi := o.id hqm
  have hids : (A ++ q' :: B).map Qd.id = (A ++ q :: B).map Qd.id := by rw [List.map_append, List.map_append, List.map_cons, List.map_cons, hid]
  have hps : ((A ++ q' :: B).map fun q => L.ptr q.id) = (A ++ q :: B).map fun q => L.ptr q.id := by rw [List.map_append, List.map_append, List.map_cons, List.map_cons, hid]
  have far : ∀ x ∈ A ++ q :: B, x.id ≠ q.id → Qr w' L x := fun x hx hne => (h.busy x hx).tn k fun g hg f => by
    have := hc g hg f
    have := o.id hx
    omega
  have hnd := o.rn
  rw [List.map_append, List.map_cons, List.nodup_append] at hnd
  refine ⟨⟨rv, h1.tn k (fun e => by have := hc _ h1.lt e; rw [h.cb] at this; omega), ?_⟩, h.cb, h.cm, h.map.tn k (fun e => by have := hc _ h.map.lt e; rw [h.cm] at this; omega), fun x hx => ?_, fun x hx hn => ?_, fun i hi => h.ahead i (Nat.le_trans k.size hi)⟩
  · rw [hps]
    exact h2.tn k fun g hg e f => by have := hc g hg f; omega
  · rcases List.mem_append.1 hx with hx | hx
    · refine far x (List.mem_append_left _ hx) fun e => hnd.2.2 x.id (List.mem_map.2 ⟨x, hx, rfl⟩) q.id (List.mem_cons_self ..) e
    · rcases List.mem_cons.1 hx with rfl | hx
      · exact hq
      · refine far x (List.mem_append_right _ (List.mem_cons_of_mem _ hx)) fun e => ?_
        exact (List.nodup_cons.1 hnd.2.1).1 (List.mem_map.2 ⟨x, hx, e⟩)
  · rw [isR_same hids] at hn
    refine (h.idle x hx hn).tn k fun g hg f => ?_
    have := hc g hg f
    have h3 := o.w x hx
    have h4 := isR_not.1 hn q hqm
    show L.col g ≠ x.1 ∧ L.col g ≠ 1000 + x.1
    omega

/-! ### may, serve -/
theorem Qr.open_ {w : World} {L : Ly} {q : Qd} (h : Qr w L q) (hne : q.l ≠ []) :
    ∃ v g o cap, At w (L.ptr q.id) 66 [.int .i64 q.w, .int .i64 q.d, .bool q.s, v] ∧ v = .slice (some ⟨g, o, none⟩) q.l.length cap ∧ g < w.heap.size ∧ q.l.length ≤ cap ∧ L.col g = 1000 + q.id ∧ w.cell? ⟨g, o, none⟩ = some (.int .i64 q.hd.1) ∧ w.cell? ⟨g, o + 1, none⟩ = some (.int .i64 q.hd.2) ∧ 0 < q.l.length := by
  obtain ⟨_, v, h1, h2⟩ := h
  unfold Qd.hd
  cases hl : q.l with
  | nil => exact absurd hl hne
  | cons x r =>
    rw [hl] at h2
    obtain ⟨g, o, cap, e, hc, hg, hle, c0, c1⟩ := h2.first
    exact ⟨v, g, o, cap, h1, e, hg, hle, hc, c0, c1, Nat.succ_pos _⟩
set_option maxRecDepth 100000 in
theorem dr_may {w : World} {L : Ly} {q : Qd} (h : Qr w L q) (hne : q.l ≠ []) :
    Calls Try.prog 23 #[ptv (L.ptr q.id)] w fun e w' => e = .returned (.bool q.may) ∧ ∃ n, w' = w.drewN n := by
  obtain ⟨v, g, o, cap, h1, rfl, hg, hle, _, c0, c1, h0⟩ := h.open_ hne
  have k1 := h1.cell 1 rfl
  have k3 := h1.cell 3 rfl
  have e : q.may = decide (q.hd.2 ≤ q.d) := rfl
  rw [e]
  have h0' : (0 : Int) < (q.l.length : Int) := by omega
  clear h h1 hne e
  generalize L.ptr q.id = p at *
  generalize q.hd.1 = x at *
  generalize q.hd.2 = y at *
  generalize q.d = d at *
  generalize q.l.length = n at *
  go_enter Try.func23, Try.ntmps23
  go_wp2_with fail
  go_quiet (fail)
  go_wp2_with fail
  go_ret
  exact ⟨rfl, _, rfl⟩
set_option maxRecDepth 100000 in
theorem dr_serve {w : World} {L : Ly} {q : Qd} {Q : Int} (h : Qr w L q) (hQ : 1 ≤ Q ∧ Q ≤ 65536) (hw : 1 ≤ q.w ∧ q.w ≤ 255) (hd : 0 ≤ q.d ∧ (q.s = false → q.d ≤ 65536)) :
    Calls Try.prog 25 #[ptv (L.ptr q.id), .int .i64 Q] w fun e w' => e = .returned (.tuple #[]) ∧ Qr w' L (q.serve Q) ∧ Tn (fun i => i = L.ptr q.id) w w' := by
  have HQ := Lib.hid h
  obtain ⟨hcol, v, h1, h2⟩ := h
  cases hs : q.s with
  | true =>
    rw [serve_of hs]
    rw [hs] at h1
    have k2 := h1.cell 2 rfl
    clear hcol h1 h2 hs hd
    generalize hp : L.ptr q.id = p at *
    have HP := Lib.hid hp
    clear hp
    go_enter Try.func25, Try.ntmps25
    go_wp2_with fail
    go_end0
    exact ⟨rfl, HQ.out, Tn.refl _ _⟩
  | false =>
    rw [serve_not hs]
    have hd1 := hd.1
    have hd2 := hd.2 hs
    rw [hs] at h1
    have hm0 : 0 ≤ Q * q.w := Int.mul_nonneg (by omega) (by omega)
    have hm1 : Q * q.w ≤ 65536 * 255 := Int.mul_le_mul (by omega) (by omega) (by omega) (by omega)
    have H1 := Lib.hid h1
    have H2 := Lib.hid h2
    have HC := Lib.hid hcol
    have k0 := h1.cell 0 rfl
    have k1 := h1.cell 1 rfl
    have k2 := h1.cell 2 rfl
    have HW1 : Hid (IntKind.i64.wrap (Q * q.w) = Q * q.w) := Lib.hid (IntWalk.i64_in _ (by omega))
    have HW2 : Hid (IntKind.i64.wrap (q.d + Q * q.w) = q.d + Q * q.w) := Lib.hid (IntWalk.i64_in _ (by omega))
    have hlt : L.ptr q.id < w.heap.size := h1.lt
    clear hcol h1 h2 hs hd HQ
    have HL : Hid (L.col (L.ptr q.id) ≠ 1000 + q.id) := Lib.hid (by rw [HC.out]; omega)
    have HH : Calls Try.prog 25 #[ptv (L.ptr q.id), .int .i64 Q] w fun e w' => e = .returned (.tuple #[]) ∧ At w' (L.ptr q.id) 66 [.int .i64 q.w, .int .i64 (q.d + Q * q.w), .bool true, v] ∧ Tn (fun i => i = L.ptr q.id) w w' := by
      clear HC H2 HL
      generalize L.ptr q.id = p at *
      generalize q.d = d at *
      generalize q.w = wt at *
      go_enter Try.func25, Try.ntmps25
      go_wp2_with fail
      refine wp_region_still_tail 13 (by kernel_rfl) (by kernel_rfl) ?_
      simp only [List.take_succ_cons, List.take_zero, List.drop_succ_cons, List.drop_zero]
      repeat still_step
      refine wpStill_nil ?_
      change wpList _ _ _ _ _ w.drew
      rw [HW1.out, HW2.out]
      have H3 : Hid (At w.drew p 66 [.int .i64 wt, .int .i64 d, .bool false, v]) := Lib.hid (H1.out.tn (Tn.refl (fun _ => False) w).drew (fun e => e))
      have HT : Hid (Tn (fun i => i = p) w w.drew) := Lib.hid (Tn.refl _ w).drew
      have f1 := H3.out.free 1
      have f2 := H3.out.free 2
      have k1 := H3.out.cell 1 rfl
      have k2 := H3.out.cell 2 rfl
      generalize w.drew = w1 at *
      go_wp2_with fail
      go_end0
      exact ⟨rfl, (H3.out.set_ 1 _).set_ 2 _, (HT.out.set _ _ (fun _ => rfl)).set _ _ (fun _ => rfl)⟩
    · refine HH.mono ?_
      rintro e w' ⟨rfl, a, b⟩
      exact ⟨rfl, ⟨HC.out, v, a, H2.out.tn b (fun g _ e f => by
        have f : g = L.ptr q.id := f
        rw [f] at e
        exact HL.out e)⟩, b⟩
end Go.Proofs.Ytplbdeaoeocgkaa

/- Proved: lemmas of one statement's proof, merged by program: what each part proves stands ahead of it. Conditions: those that the lemmas name. -/
import Derived.Test.YtmnbkghihdbepaaM16
import Derived.Test.YtmnbkghihdbepaaM19
import Derived.Deep.RegionHeld3
import Derived.Deep.QuietTactic
import Derived.BigQuiet
import Derived.StillTailTactics
import Derived.IntWalk
import Derived.Deep.DeepCutAuto

/- Proved: what subjectOf, refusal, New and Len of package control answer. Conditions: those that the theorems name. -/
namespace Go.Proofs.Ytmnbkghihdbepaa
open Go.ChangeShapes Go.WideShapes Go.ChangeAt Go.RowKit

/-! ### subjectOf -/
set_option maxRecDepth 100000 in
set_option maxHeartbeats 1600000 in
theorem subj_nack (a1 : Int) (a2 : Nat) (a3 a4 a5 a6 a7 : Int) (a8 a9 : ByteArray) (w : World) : Calls Try.prog 20 #[Dg.val ⟨3, a1, a2, a3, a4, a5, a6, a7, a8, a9⟩] w fun e w' => e = .returned (skV (3, a1, (a2 : Int))) ∧ Below w.heap.size w w' := by
  unfold Dg.val
  simp only
  go_enter Try.func20, Try.ntmps20
  go_wp2_with fail
  refine bodyPost_ret (v := skV (3, a1, (a2 : Int))) (by simp [results, Try.results20, skV, go_sem]) rfl ⟨rfl, ?_⟩
  exact (((Below.refl _ _).alloc (Nat.le_refl _) _).alloc (by simp) _).alloc (by simp; omega) _
set_option maxRecDepth 100000 in
set_option maxHeartbeats 1600000 in
theorem subj_other (a0 a1 : Int) (a2 : Nat) (a3 a4 a5 a6 a7 : Int) (a8 a9 : ByteArray) (w : World) (h : a0 ≠ 3) : Calls Try.prog 20 #[Dg.val ⟨a0, a1, a2, a3, a4, a5, a6, a7, a8, a9⟩] w fun e w' => e = .returned (skV (a0, a1, 0)) ∧ Below w.heap.size w w' := by
  unfold Dg.val
  simp only
  have h3 : (a0 == 3) = false := by simpa using h
  clear h
  go_enter Try.func20, Try.ntmps20
  go_wp2_with fail
  refine bodyPost_ret (v := skV (a0, a1, 0)) (by simp [results, Try.results20, skV, go_sem]) rfl ⟨rfl, ?_⟩
  exact (((Below.refl _ _).alloc (Nat.le_refl _) _).alloc (by simp) _).alloc (by simp; omega) _
theorem subj_any (d : Dg) (w : World) : Calls Try.prog 20 #[d.val] w fun e w' => e = .returned (skV (subj d)) ∧ Below w.heap.size w w' := by
  obtain ⟨a0, a1, a2, a3, a4, a5, a6, a7, a8, a9⟩ := d
  unfold subj
  by_cases h : a0 = 3
  · subst h
    exact subj_nack a1 a2 a3 a4 a5 a6 a7 a8 a9 w
  · simp only [if_neg h]
    exact subj_other a0 a1 a2 a3 a4 a5 a6 a7 a8 a9 w h

/-! ### refusal -/
def refE (d : Dg) : Int := if chk d ≠ 0 then chk d else if d.kind = 1 ∨ d.kind = 2 then 1 else 0
theorem refE_ok {d : Dg} (h : refE d = 0) (hi : d.block < 4294967296) : DOk d := by
  unfold refE at h
  by_cases hc : chk d = 0
  · rw [if_neg (by simpa using hc)] at h
    obtain ⟨h1, h2, _⟩ := chk_zero hc
    by_cases hk : d.kind = 1 ∨ d.kind = 2
    · rw [if_pos hk] at h; cases h
    · exact ⟨by omega, h2, hi⟩
  · rw [if_pos hc] at h; exact absurd h hc
set_option maxRecDepth 100000 in
set_option maxHeartbeats 1600000 in
theorem refusal_any (d : Dg) (w : World) (hb : d.body.size ≤ maxLen) : Calls Try.prog 19 #[d.val] w (GivesZ w (refE d)) := by
  have HC := Lib.hid (fun w => dcheck_any d w hb)
  have B1 : Below w.heap.size w (w.alloc (.cells d.cells.toArray 29)) := (Below.refl _ _).alloc (Nat.le_refl _) _
  have HB1 := Lib.hid B1
  have HA1 := Lib.hid (At.new w 29 d.cells)
  have hE : refE d = if chk d ≠ 0 then chk d else if d.kind = 1 ∨ d.kind = 2 then 1 else 0 := rfl
  generalize chk d = z at *
  generalize refE d = q at *
  obtain ⟨a0, a1, a2, a3, a4, a5, a6, a7, a8, a9⟩ := d
  unfold Dg.val at *
  unfold Dg.cells at *
  dsimp only at *
  clear hb B1
  by_cases hz : z = 0
  · subst hz
    rw [if_neg (by simp)] at hE
    by_cases h1 : a0 = 1
    · rw [if_pos (.inl h1)] at hE
      subst hE; subst h1
      go_enter Try.func19, Try.ntmps19
      go_wp2_with fail
      refine (HC.out _).mono ?_; rintro e w2 ⟨rfl, g2⟩
      have k0 := (HA1.out.below g2 HA1.out.lt).cell 0 rfl
      have HB2 := Lib.hid (HB1.out.trans (g2.mono HB1.out.size))
      clear g2
      go_wp2_with fail
      go_ret
      exact ⟨rfl, HB2.out⟩
    · have n1 : (a0 == 1) = false := by simpa using h1
      by_cases h2 : a0 = 2
      · rw [if_pos (.inr h2)] at hE
        subst hE; subst h2
        clear h1 n1
        go_enter Try.func19, Try.ntmps19
        go_wp2_with fail
        refine (HC.out _).mono ?_; rintro e w2 ⟨rfl, g2⟩
        have k0 := (HA1.out.below g2 HA1.out.lt).cell 0 rfl
        have HB2 := Lib.hid (HB1.out.trans (g2.mono HB1.out.size))
        clear g2
        go_wp2_with fail
        go_ret
        exact ⟨rfl, HB2.out⟩
      · have n2 : (a0 == 2) = false := by simpa using h2
        rw [if_neg (by omega)] at hE
        subst hE
        clear h1 h2
        go_enter Try.func19, Try.ntmps19
        go_wp2_with fail
        refine (HC.out _).mono ?_; rintro e w2 ⟨rfl, g2⟩
        have k0 := (HA1.out.below g2 HA1.out.lt).cell 0 rfl
        have HB2 := Lib.hid (HB1.out.trans (g2.mono HB1.out.size))
        clear g2
        go_wp2_with fail
        go_ret
        exact ⟨rfl, HB2.out⟩
  · rw [if_pos hz] at hE
    have hz' : (z == 0) = false := by simpa using hz
    subst hE
    clear hz
    go_enter Try.func19, Try.ntmps19
    go_wp2_with fail
    refine (HC.out _).mono ?_; rintro e w2 ⟨rfl, g2⟩
    have HB2 := Lib.hid (HB1.out.trans (g2.mono HB1.out.size))
    clear g2
    go_wp2_with fail
    go_ret
    exact ⟨rfl, HB2.out⟩

/-! ### New, Len -/
theorem ct_new (w : World) :
    Calls Try.prog 6 #[] w fun e w' => ∃ L, e = .returned (ptv L.b) ∧ Ct w' L [] ∧ (∀ i, i < w.heap.size → ¬ L.own i) ∧ Below w.heap.size w w' := by
  have hmm := @run_makeMap Try.prog
  go_enter Try.func6, Try.ntmps6
  go_wp2_with fail
  go_ret
  refine ⟨⟨w.heap.size + 1, w.heap.size, fun i => i = w.heap.size ∨ i = w.heap.size + 1⟩, rfl, ?_, fun i hi h => by omega, ((Below.refl _ _).alloc (Nat.le_refl _) _).alloc (by simp) _⟩
  have ha : At ((w.alloc (.map #[] 0)).alloc (.cells #[.slice none 0 0, .map (some w.heap.size)] 50)) (w.heap.size + 1) 50 [.slice none 0 0, .map (some w.heap.size)] := by
    have := At.new (w.alloc (.map #[] 0)) 50 [.slice none 0 0, .map (some w.heap.size)]
    rwa [show (w.alloc (.map #[] 0)).heap.size = w.heap.size + 1 by simp] at this
  refine ⟨⟨_, none, ha, Qu.nil _ _ _, fun g e => nomatch e⟩, .inr rfl, .inl rfl, ?_, fun x hx => by simp at hx, List.nodup_nil, List.nodup_nil, fun x hx => by simp at hx, fun i hi h => ?_⟩
  · exact (Mq.new w).tn (tn_below Nil ((Below.refl _ _).alloc (Nat.le_refl _) _)) (fun e => e)
  · simp at hi
    omega
theorem ct_len_nil (w : World) : Calls Try.prog 14 #[.pointer none] w fun e w' => e = .returned (.int .i64 0) ∧ w = w' := by
  go_enter Try.func14, Try.ntmps14
  go_wp2_with fail
  go_ret
  exact ⟨rfl, rfl⟩
theorem ct_len {w : World} {L : Ly} {X : List Pd} (h : Ct w L X) : Calls Try.prog 14 #[ptv L.b] w fun e w' => e = .returned (.int .i64 (X.length : Nat)) ∧ w = w' := by
  obtain ⟨rv, r, h1, h2, _⟩ := h.ctl
  obtain ⟨A, cap, rfl⟩ := h2.form
  have k0 := h1.cell 0 rfl
  clear h h1 h2
  generalize L.b = b at *
  generalize X.length = n at *
  go_enter Try.func14, Try.ntmps14
  go_wp2_with fail
  go_ret
  exact ⟨rfl, rfl⟩
end Go.Proofs.Ytmnbkghihdbepaa

/- Proved: what Ask of package control answers and leaves. Conditions: those that the theorems name. -/
namespace Go.Proofs.Ytmnbkghihdbepaa
open Go.ChangeShapes Go.WideShapes Go.ChangeAt Go.RowKit

theorem ct_ask_nil (d : Dg) (w : World) : Calls Try.prog 8 #[.pointer none, d.val] w fun e w' => e = .returned (.int .i64 17) ∧ Below w.heap.size w w' := by
  obtain ⟨a0, a1, a2, a3, a4, a5, a6, a7, a8, a9⟩ := d
  unfold Dg.val
  dsimp only
  go_enter Try.func8, Try.ntmps8
  go_wp2_with fail
  go_ret
  exact ⟨rfl, (Below.refl _ _).alloc (Nat.le_refl _) _⟩
set_option maxRecDepth 100000 in
set_option maxHeartbeats 800000 in
theorem ct_ask_bad {w : World} {L : Ly} (d : Dg) (hb : d.body.size ≤ maxLen) {z : Int} (h : refE d = z) (hz : z ≠ 0) : Calls Try.prog 8 #[ptv L.b, d.val] w fun e w' => e = .returned (.int .i64 z) ∧ Below w.heap.size w w' := by
  have HR : Hid (∀ W, Calls Try.prog 19 #[d.val] W (GivesZ W z)) := Lib.hid (fun W => by rw [← h]; exact refusal_any d W hb)
  have B1 : Below w.heap.size w (w.alloc (.cells d.cells.toArray 29)) := (Below.refl _ _).alloc (Nat.le_refl _) _
  have HB1 := Lib.hid B1
  have hz' : (z == 0) = false := by simpa using hz
  clear h hz hb B1
  generalize L.b = b at *
  obtain ⟨a0, a1, a2, a3, a4, a5, a6, a7, a8, a9⟩ := d
  unfold Dg.val at *
  unfold Dg.cells at *
  dsimp only at *
  go_enter Try.func8, Try.ntmps8
  go_wp2_with fail
  refine (HR.out _).mono ?_; rintro e w2 ⟨rfl, g2⟩
  have HB2 := Lib.hid (HB1.out.trans (g2.mono HB1.out.size))
  clear g2
  go_wp2_with fail
  go_ret
  exact ⟨rfl, HB2.out⟩

/-- a datagram is stored. -/
def dset (W : World) (b : Nat) (d : Dg) : World :=
  (((((((((W.setCell ⟨b, 0, none⟩ (.int .i64 d.kind)).setCell ⟨b, 1, none⟩ (.int .i64 d.stream)).setCell ⟨b, 2, none⟩ (.int .u32 d.block)).setCell ⟨b, 3, none⟩ (.int .i64 d.index)).setCell ⟨b, 4, none⟩ (.int .i64 d.k)).setCell ⟨b, 5, none⟩ (.int .i64 d.n)).setCell ⟨b, 6, none⟩ (.int .i64 d.len)).setCell ⟨b, 7, none⟩ (.int .i64 d.credit)).setCell ⟨b, 8, none⟩ (.string d.has)).setCell ⟨b, 9, none⟩ (.string d.body)
theorem dset_at {W : World} {b : Nat} {d0 : Dg} (d : Dg) (A : At W b 29 d0.cells) : At (dset W b d) b 29 d.cells :=
  (((((((((A.set_ 0 _).set_ 1 _).set_ 2 _).set_ 3 _).set_ 4 _).set_ 5 _).set_ 6 _).set_ 7 _).set_ 8 _).set_ 9 _
theorem dset_tn (W : World) (b : Nat) (d : Dg) : Tn (fun g => g = b) W (dset W b d) :=
  ((((((((((Tn.refl (fun g => g = b) W).set ⟨b, 0, none⟩ _ (fun _ => rfl)).set ⟨b, 1, none⟩ _ (fun _ => rfl)).set ⟨b, 2, none⟩ _ (fun _ => rfl)).set ⟨b, 3, none⟩ _ (fun _ => rfl)).set ⟨b, 4, none⟩ _ (fun _ => rfl)).set ⟨b, 5, none⟩ _ (fun _ => rfl)).set ⟨b, 6, none⟩ _ (fun _ => rfl)).set ⟨b, 7, none⟩ _ (fun _ => rfl)).set ⟨b, 8, none⟩ _ (fun _ => rfl)).set ⟨b, 9, none⟩ _ (fun _ => rfl)
/-- one takes its place. -/
theorem Ct.turn {w w' : World} {L : Ly} {A B : List Pd} {p : Nat} {d0 d : Dg} (h : Ct w L (A ++ (p, d0) :: B)) (hs : subj d = subj d0) (ok : DOk d) (t : Tn (fun g => g = p) w w') (a : At w' p 29 d.cells) : Ct w' L (A ++ (p, d) :: B) := by
  obtain ⟨rv, r, h1, h2, h3⟩ := h.ctl
  have hm : (p, d0) ∈ A ++ (p, d0) :: B := by simp
  obtain ⟨hpo, hp⟩ := h.pts _ hm
  have hlen : (A ++ (p, d) :: B).length = (A ++ (p, d0) :: B).length := by simp
  have hps : ptrs (A ++ (p, d) :: B) = ptrs (A ++ (p, d0) :: B) := by simp [ptrs]
  have hnd := h.nd
  rw [List.map_append, List.map_cons, List.nodup_append, List.nodup_cons] at hnd
  refine ⟨⟨rv, r, h1.tn t (At.ne h1 hp ct_ne_dg), ?_, h3⟩, h.cb, h.cm, ?_, fun x hx => ?_, ?_, ?_, fun x hx => ?_, fun i hi => h.ahead i (Nat.le_trans t.size hi)⟩
  · rw [hlen, hps]
    exact h2.tn t fun g hg e => h2.ne hp dg_ne_pt (by rw [hg, e])
  · rw [hlen]
    exact (h.map.tn t (fun e => h.map.no_cell hp e.symm)).congr fun k _ => ptOf_turn hs k
  · rcases List.mem_append.1 hx with hx | hx
    · obtain ⟨o, q⟩ := h.pts x (List.mem_append_left _ hx)
      exact ⟨o, q.tn t (fun e => hnd.2.2 x.1 (List.mem_map.2 ⟨x, hx, rfl⟩) p (by simp) e)⟩
    · rcases List.mem_cons.1 hx with rfl | hx
      · exact ⟨hpo, a⟩
      · obtain ⟨o, q⟩ := h.pts x (List.mem_append_right _ (List.mem_cons_of_mem _ hx))
        exact ⟨o, q.tn t (fun e => hnd.2.1.1 (List.mem_map.2 ⟨x, hx, e⟩))⟩
  · rw [List.map_append, List.map_cons]
    have := h.nd
    rwa [List.map_append, List.map_cons] at this
  · have := h.ks
    unfold subjs at this ⊢
    rw [List.map_append, List.map_cons] at this ⊢
    rwa [hs]
  · rcases List.mem_append.1 hx with hx | hx
    · exact h.ok x (List.mem_append_left _ hx)
    · rcases List.mem_cons.1 hx with rfl | hx
      · exact ok
      · exact h.ok x (List.mem_append_right _ (List.mem_cons_of_mem _ hx))
/-- what the lookup tells, in whatever world that differs by draws alone. -/
theorem Ct.look {w : World} {L : Ly} {X : List Pd} (h : Ct w L X) {k : Sk} (hk : SkOk k) (q : Nat) : (Instr.lookup 47 (.map (some L.m)) (skV k) false).run Try.prog (w.drewN q) = .ok (ptO (ptOf X k)) (w.drewN q) :=
  mq_look (h.map.tn ((Tn.refl Nil w).drewN q) (fun e => e)) hk
/-- another one of this subject is there. -/
theorem ct_ask_old {w : World} {L : Ly} {X : List Pd} (h : Ct w L X) {d : Dg} (hb : d.body.size ≤ maxLen) (hi : d.block < 4294967296) (hr : refE d = 0) {p : Nat} (hp : ptOf X (subj d) = some p) :
    Calls Try.prog 8 #[ptv L.b, d.val] w fun e w' => e = .returned (.int .i64 0) ∧ ∃ A B d0, X = A ++ (p, d0) :: B ∧ subj d = subj d0 ∧ Ct w' L (A ++ (p, d) :: B) ∧ Tn L.own w w' := by
  have ok := refE_ok hr hi
  obtain ⟨A, B, d0, rfl, hs⟩ := ptOf_some hp
  have hpo : L.own p := (h.pts (p, d0) (by simp)).1
  have key : Calls Try.prog 8 #[ptv L.b, d.val] w fun e w' => e = .returned (.int .i64 0) ∧ ∃ V, Tn Nil w V ∧ Tn (fun g => g = p) V w' ∧ At w' p 29 d.cells := by
    have HR : Hid (∀ W, Calls Try.prog 19 #[d.val] W (GivesZ W 0)) := Lib.hid (fun W => by rw [← hr]; exact refusal_any d W hb)
    have HS := Lib.hid (fun W => subj_any d W)
    have B1 : Below w.heap.size w (w.alloc (.cells d.cells.toArray 29)) := (Below.refl _ _).alloc (Nat.le_refl _) _
    have HB1 := Lib.hid B1
    have HX1 := Lib.hid (At.new w 29 d.cells)
    have HL : Hid (∀ W, Tn Nil w W → ∃ rv, At W L.b 50 [rv, .map (some L.m)] ∧ At W p 29 d0.cells ∧ ∀ q, (Instr.lookup 47 (.map (some L.m)) (skV (subj d)) false).run Try.prog (W.drewN q) = .ok (ptv p) (W.drewN q)) := Lib.hid fun W t => by
      have h' := h.free t
      obtain ⟨rv, r, h1, _, _⟩ := h'.ctl
      exact ⟨rv, h1, (h'.pts (p, d0) (by simp)).2, fun q => by have := h'.look ok.sk q; rw [hp] at this; exact this⟩
    have HPX : Hid (p ≠ w.heap.size) := Lib.hid (by have := (h.pts (p, d0) (by simp)).2.lt; dsimp only at this; omega)
    clear h hb hi hr hp ok hs hpo B1
    generalize hsj : subj d = sj at *
    clear hsj
    obtain ⟨s0, s1, s2⟩ := sj
    generalize L.b = b at *
    generalize L.m = m at *
    obtain ⟨a0, a1, a2, a3, a4, a5, a6, a7, a8, a9⟩ := d
    unfold Dg.val at *
    unfold Dg.cells at *
    dsimp only at *
    go_enter Try.func8, Try.ntmps8
    go_wp2_with fail
    refine (HR.out _).mono ?_; rintro e w2 ⟨rfl, g2⟩
    have HB2 := Lib.hid (HB1.out.trans (g2.mono HB1.out.size))
    have HX2 := Lib.hid (HX1.out.below g2 HX1.out.lt)
    clear g2 HB1
    have c0 := HX2.out.cell 0 rfl
    have c1 := HX2.out.cell 1 rfl
    have c2 := HX2.out.cell 2 rfl
    have c3 := HX2.out.cell 3 rfl
    have c4 := HX2.out.cell 4 rfl
    have c5 := HX2.out.cell 5 rfl
    have c6 := HX2.out.cell 6 rfl
    have c7 := HX2.out.cell 7 rfl
    have c8 := HX2.out.cell 8 rfl
    have c9 := HX2.out.cell 9 rfl
    go_wp2_with fail
    refine (HS.out _).mono ?_; rintro e w3 ⟨rfl, g3⟩
    have HB3 := Lib.hid (HB2.out.trans (g3.mono HB2.out.size))
    have HX3 := Lib.hid (HX2.out.below g3 HX2.out.lt)
    clear g3 HB2 c0 c1 c2 c3 c4 c5 c6 c7 c8 c9 HX2 HX1
    go_wp2_with fail
    have g4 : Below w3.heap.size w3 (w3.alloc (.cells #[.int .i64 s0, .int .i64 s1, .int .u32 s2] 54)) := (Below.refl _ _).alloc (Nat.le_refl _) _
    have HB4 := Lib.hid (HB3.out.trans (g4.mono HB3.out.size))
    have HX4 := Lib.hid (HX3.out.below g4 HX3.out.lt)
    have HK4 := Lib.hid (At.new w3 54 [.int .i64 s0, .int .i64 s1, .int .u32 s2])
    have k0 := HK4.out.cell 0 rfl
    have k1 := HK4.out.cell 1 rfl
    have k2 := HK4.out.cell 2 rfl
    obtain ⟨rv, hc, _, hlook⟩ := HL.out _ (tn_below Nil HB4.out)
    have e1 := hc.cell 1 rfl
    clear g4 HB3 HX3 hc
    generalize w3.alloc (.cells #[.int .i64 s0, .int .i64 s1, .int .u32 s2] 54) = w4 at *
    go_quiet (fail)
    generalize hw5 : w4.drewN _ = w5
    have HT5 : Hid (Tn Nil w w5) := Lib.hid (by rw [← hw5]; exact (tn_below Nil HB4.out).drewN _)
    have HX5 : Hid (At w5 w.heap.size 29 [.int .i64 a0, .int .i64 a1, .int .u32 a2, .int .i64 a3, .int .i64 a4, .int .i64 a5, .int .i64 a6, .int .i64 a7, .string a8, .string a9]) := Lib.hid (by rw [← hw5]; exact HX4.out.tn ((Tn.refl Nil w4).drewN _) (fun e => e))
    clear hw5 HB4 HX4 HK4 k0 k1 k2 e1 hlook
    have c0 := HX5.out.cell 0 rfl
    have c1 := HX5.out.cell 1 rfl
    have c2 := HX5.out.cell 2 rfl
    have c3 := HX5.out.cell 3 rfl
    have c4 := HX5.out.cell 4 rfl
    have c5 := HX5.out.cell 5 rfl
    have c6 := HX5.out.cell 6 rfl
    have c7 := HX5.out.cell 7 rfl
    have c8 := HX5.out.cell 8 rfl
    have c9 := HX5.out.cell 9 rfl
    obtain ⟨_, _, hp5, _⟩ := HL.out _ HT5.out
    have HP5 := Lib.hid hp5
    have f0 := hp5.free 0
    have f1 := hp5.free 1
    have f2 := hp5.free 2
    have f3 := hp5.free 3
    have f4 := hp5.free 4
    have f5 := hp5.free 5
    have f6 := hp5.free 6
    have f7 := hp5.free 7
    have f8 := hp5.free 8
    have f9 := hp5.free 9
    have q0 := hp5.cell 0 rfl
    have q1 := hp5.cell 1 rfl
    have q2 := hp5.cell 2 rfl
    have q3 := hp5.cell 3 rfl
    have q4 := hp5.cell 4 rfl
    have q5 := hp5.cell 5 rfl
    have q6 := hp5.cell 6 rfl
    have q7 := hp5.cell 7 rfl
    have q8 := hp5.cell 8 rfl
    have q9 := hp5.cell 9 rfl
    clear hp5
    go_wp2_with fail
    go_ret
    exact ⟨rfl, w5, HT5.out, dset_tn w5 p ⟨a0, a1, a2, a3, a4, a5, a6, a7, a8, a9⟩, dset_at (d0 := d0) ⟨a0, a1, a2, a3, a4, a5, a6, a7, a8, a9⟩ HP5.out⟩
  refine key.mono ?_
  rintro e w' ⟨rfl, V, t, t2, a⟩
  have h' := h.free t
  exact ⟨rfl, A, B, d0, rfl, hs.symm, h'.turn hs.symm ok t2 a, (t.mono (d := L.own) (fun _ _ e => e.elim)).trans' t2 (fun i _ e => by rw [show i = p from e]; exact hpo)⟩
end Go.Proofs.Ytmnbkghihdbepaa

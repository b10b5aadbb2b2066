/- Proved: lemmas of one statement's proof, merged by program: what each part proves stands ahead of it. Conditions: those that the lemmas name. -/
import Derived.Test.YtmnbkghihdbepaaM23
import Derived.Deep.RegionWith
import Derived.Shelf.Abstract

/- Proved: what remove of package control answers and leaves, and with it Drop and Clean. Conditions: those that the theorems name. -/
namespace Go.Proofs.Ytmnbkghihdbepaa
open Go.ChangeShapes Go.WideShapes Go.ChangeAt Go.RowKit

/-- the boxes of remove, just made. -/
theorem rboxes (q : Option Nat) (F : Nat) (caps : Array Value) (w : World) : ∃ W, W = (w.alloc (.cells #[ptO q] 24)).alloc (.cells #[.func (.func F) #[] caps] 59) ∧ At W w.heap.size 24 [ptO q] ∧ At W (w.heap.size + 1) 59 [.func (.func F) #[] caps] ∧ Below w.heap.size w W := by
  refine ⟨_, rfl, ?_, ?_, ?_⟩
  · exact (At.new w 24 [ptO q]).alloc _
  · have h := At.new (w.alloc (.cells #[ptO q] 24)) 59 [.func (.func F) #[] caps]
    simpa using h
  · exact ((Below.refl _ _).alloc (Nat.le_refl _) _).alloc (by simp) _
set_option maxRecDepth 100000 in
theorem rem_nil (F : Nat) (caps : Array Value) (w : World) : Calls Try.prog 22 #[.pointer none, .func (.func F) #[] caps] w fun e w' => e = .returned (.int .i64 0) ∧ Below w.heap.size w w' := by
  obtain ⟨w1, HW, hc1, hf1, hb1⟩ := rboxes none F caps w
  have HB1 := Lib.hid hb1
  have c0 : w1.cell? ⟨w.heap.size, 0, none⟩ = some (.pointer none) := hc1.cell 0 rfl
  rw [show ptO none = .pointer none from rfl] at HW
  clear hc1 hf1 hb1
  go_enter Try.func22, Try.ntmps22
  go_upto_region 1 with fail
  rw [← HW]; clear HW
  go_wp2_with fail
  go_ret
  exact ⟨rfl, HB1.out⟩
/-- some go, the others stay. -/
theorem Ct.keep {w w' : World} {L : Ly} {X : List Pd} (h : Ct w L X) (u : Dg → Bool) {rv0 : Value} {r : Option Nat} (hq0 : Qu w r 56 1 rv0 X.length (ptrs X)) (hro : ∀ g, r = some g → L.own g)
    {v : Value} (hb : At w' L.b 50 [v, .map (some L.m)]) (hq : Qu w' r 56 1 v (keepX u X).length (ptrs (keepX u X)))
    (hm : Mq w' L.m (ptOf (keepX u X)) (keepX u X).length) (t : Tn (fun i => i = L.b ∨ i = L.m ∨ r = some i) w w') : Ct w' L (keepX u X) := by
  obtain ⟨rv, _, h1, _, _⟩ := h.ctl
  have hsub : (keepX u X).Sublist X := List.filter_sublist
  refine ⟨⟨v, r, hb, hq, hro⟩, h.cb, h.cm, hm, fun y hy => ?_, h.nd.sublist (hsub.map _), h.ks.sublist (hsub.map _), fun y hy => h.ok y (hsub.subset hy), fun i hi => h.ahead i (Nat.le_trans t.size hi)⟩
  obtain ⟨o, q⟩ := h.pts y (hsub.subset hy)
  refine ⟨o, q.tn t fun e => ?_⟩
  rcases e with e | e | e
  · exact At.ne h1 q ct_ne_dg e.symm
  · exact h.map.no_cell q e
  · exact hq0.ne q dg_ne_pt e
set_option maxRecDepth 100000 in
set_option maxHeartbeats 3200000 in
theorem rem_any {w : World} {L : Ly} {X : List Pd} (h : Ct w L X) (hX : X.length ≤ 60000) {F : Nat} {caps : Array Value} {u : Dg → Bool} (hU : ∀ V, Tn L.own w V → Tells F caps u V) :
    Calls Try.prog 22 #[ptv L.b, .func (.func F) #[] caps] w fun e w' => e = .returned (.int .i64 ((X.length - (keepX u X).length : Nat) : Int)) ∧ Ct w' L (keepX u X) ∧ Tn L.own w w' := by
  obtain ⟨rv0, r, hb0, hq0, hro⟩ := h.ctl
  have key : Calls Try.prog 22 #[ptv L.b, .func (.func F) #[] caps] w fun e w' => e = .returned (.int .i64 ((X.length - (keepX u X).length : Nat) : Int)) ∧ ∃ v, At w' L.b 50 [v, .map (some L.m)] ∧ Qu w' r 56 1 v (keepX u X).length (ptrs (keepX u X)) ∧ Mq w' L.m (ptOf (keepX u X)) (keepX u X).length ∧ Tn (fun i => i = L.b ∨ i = L.m ∨ r = some i) w w' := by
    obtain ⟨w1, HW, hc1, hf1, hb1⟩ := rboxes (some L.b) F caps w
    rw [show ptO (some L.b) = ptv L.b from rfl] at HW hc1
    have HT1 := Lib.hid (tn_below Nil hb1)
    have HB1 := Lib.hid hb1
    have HC1 := Lib.hid hc1
    have HF1 := Lib.hid hf1
    have HNE : Hid (L.b ≠ L.m ∧ r ≠ some L.b ∧ r ≠ some L.m ∧ L.b < w.heap.size ∧ L.m < w.heap.size ∧ ∀ g, r = some g → g < w.heap.size) := Lib.hid ⟨h.map.no_cell hb0, hq0.ne hb0 ct_ne_pt, hq0.no_map h.map, hb0.lt, h.map.lt, fun g hg => hq0.lt hg⟩
    have HIN : Hid (∀ W, Tn Nil w1 W → At W L.b 50 [rv0, .map (some L.m)] ∧ At W w.heap.size 24 [ptv L.b]) := Lib.hid fun W t => ⟨hb0.tn ((tn_below Nil hb1).trans t) (fun e => e), hc1.tn t (fun e => e)⟩
    have HD : Hid (Calls Try.prog 30 #[rv0, .func (.func 31) #[] #[ptv (w.heap.size + 1), ptv w.heap.size]] w1.drew fun e w' => ∃ v', e = .returned v' ∧ Qu w' r 56 1 v' (keepX u X).length (ptrs (keepX u X)) ∧ Mq w' L.m (ptOf (keepX u X)) (keepX u X).length ∧ Tn (fun i => i = L.m ∨ r = some i) w1.drew w') := Lib.hid (by
      have t1 : Tn Nil w w1.drew := (tn_below Nil hb1).drew
      have t2 : Tn Nil w1 w1.drew := (Tn.refl _ _).drew
      refine del_any (rv := rv0) hX (fun V t => ⟨hU V ((t1.mono (fun _ _ e => e.elim)).trans' t fun i hi e => ?_), hf1.tn (t2.mono (fun _ _ e => e.elim) |>.trans t) (fun e => ?_), hc1.tn (t2.mono (fun _ _ e => e.elim) |>.trans t) (fun e => ?_), hb0.tn (t1.mono (fun _ _ e => e.elim) |>.trans t) (fun e => ?_), fun x hx => (h.pts x hx).2.tn (t1.mono (fun _ _ e => e.elim) |>.trans t) (fun e => ?_), h.ok, h.ks⟩) (hq0.tn t1 (fun _ _ e => e)) (h.map.tn t1 (fun e => e))
      · rcases e with e | e
        · rw [e]; exact h.cm
        · exact hro i e
      · rcases e with e | e
        · have := h.map.lt; omega
        · have := hq0.lt e; omega
      · rcases e with e | e
        · have := h.map.lt; omega
        · have := hq0.lt e; omega
      · rcases e with e | e
        · exact h.map.no_cell hb0 e
        · exact hq0.ne hb0 ct_ne_pt e
      · rcases e with e | e
        · exact h.map.no_cell (h.pts x hx).2 e
        · exact hq0.ne (h.pts x hx).2 dg_ne_pt e)
    have HNB : Hid (¬ (L.b = L.m ∨ r = some L.b)) := Lib.hid (by
      rintro (e | e)
      · exact HNE.out.1 e
      · exact HNE.out.2.1 e)
    have HNC : Hid (¬ (w.heap.size = L.m ∨ r = some w.heap.size)) := Lib.hid (by
      rintro (e | e)
      · have := HNE.out.2.2.2.2.1; omega
      · have := HNE.out.2.2.2.2.2 _ e; omega)
    obtain ⟨A0, cap, rfl⟩ := hq0.form
    have hkl : (keepX u X).length ≤ X.length := List.length_filter_le _ _
    have b0 := ((HIN.out _ (Tn.refl _ _)).1).cell 0 rfl
    have c0 := ((HIN.out _ (Tn.refl _ _)).2).cell 0 rfl
    clear h hU hb0 hq0 hro hc1 hf1 hb1 HF1
    generalize ptrs (keepX u X) = ps at *
    generalize ptOf (keepX u X) = f at *
    generalize (keepX u X).length = k at *
    generalize X.length = n at *
    generalize L.b = b at *
    generalize L.m = m at *
    go_enter Try.func22, Try.ntmps22
    go_upto_region 1 with fail
    rw [← HW]; clear HW
    go_wp2_with fail
    have d0 := ((HIN.out _ (Tn.refl Nil w1).drew).1).cell 0 rfl
    have e0 := ((HIN.out _ (Tn.refl Nil w1).drew).2).cell 0 rfl
    go_region_with (go_at_call 30; (with_reducible refine HD.out.mono ?_); rintro e w2 ⟨v', rfl, hq2, hm2, ht2⟩; obtain ⟨A2, cap2, rfl⟩ := hq2.form; have HT2 : Hid (Tn (fun i => i = m ∨ r = some i) w1 w2) := Lib.hid (((Tn.refl Nil w1).drew.mono (fun _ _ e => e.elim)).trans ht2); have HQ2 := Lib.hid hq2; have HM2 := Lib.hid hm2; have hb2 := ((HIN.out _ (Tn.refl Nil w1)).1).tn HT2.out HNB.out; have hc2 := HC1.out.tn HT2.out HNC.out; have HB2 := Lib.hid hb2; have HC2 := Lib.hid hc2; have p0 := hb2.cell 0 rfl; have p1 := hb2.free 0; have p2 := hc2.cell 0 rfl; clear hq2 hm2 ht2 hb2 hc2)
    all_goals
      have t3 : Tn (fun i => i = b) w2 (w2.setCell ⟨b, 0, none⟩ (.slice A2 k cap2)) := (Tn.refl _ w2).set _ _ (fun _ => rfl)
      have HB3 := Lib.hid (HB2.out.set_ 0 (.slice A2 k cap2))
      have HC3 := Lib.hid (HC2.out.tn t3 (fun e => by have := HNE.out.2.2.2.1; omega))
      have HF : Hid (Qu (w2.setCell ⟨b, 0, none⟩ (.slice A2 k cap2)) r 56 1 (.slice A2 k cap2) k ps ∧ Mq (w2.setCell ⟨b, 0, none⟩ (.slice A2 k cap2)) m f k ∧ Tn (fun i => i = b ∨ i = m ∨ r = some i) w (w2.setCell ⟨b, 0, none⟩ (.slice A2 k cap2))) := Lib.hid ⟨HQ2.out.tn t3 (fun g hg e => HNE.out.2.1 (by rw [hg, e])), HM2.out.tn t3 (fun e => HNE.out.1 e.symm), ((HT1.out.mono (fun _ _ e => e.elim)).trans (HT2.out.mono (fun i _ e => .inr e))).trans (t3.mono (fun i _ e => .inl e))⟩
      clear t3 p0 p1 p2 HQ2 HM2 HB2 HC2 d0 e0 c0 b0
      generalize w2.setCell ⟨b, 0, none⟩ (.slice A2 k cap2) = w3 at *
      have p0 := HB3.out.cell 0 rfl
      have p2 := HC3.out.cell 0 rfl
      have HNK : Hid ((n : Int) - (k : Int) = ((n - k : Nat) : Int)) := Lib.hid (by omega)
      go_wp2_with fail
      rw [HNK.out]
      go_ret
      exact ⟨rfl, _, HB3.out, HF.out⟩
  refine key.mono ?_
  rintro e w' ⟨rfl, v, k1, k2, k3, t⟩
  refine ⟨rfl, h.keep u hq0 hro k1 k2 k3 t, t.mono fun i _ e => ?_⟩
  rcases e with rfl | rfl | e
  · exact h.cb
  · exact h.cm
  · exact hro i e
end Go.Proofs.Ytmnbkghihdbepaa

/- Proved: what Drop and Clean of package control answer and leave. Conditions: those that the theorems name. -/
namespace Go.Proofs.Ytmnbkghihdbepaa
open Go.ChangeShapes Go.WideShapes Go.ChangeAt Go.RowKit

def dropU (s : Int) (d : Dg) : Bool := decide (d.stream = s) && !decide (d.kind = 6)
def cleanU (s base : Int) (d : Dg) : Bool := decide (d.stream = s) && (decide (d.kind = 3) && decide (0 < ah (d.block : Int) base))
set_option maxRecDepth 100000 in
set_option maxHeartbeats 1600000 in
theorem drop_tells {s : Int} {bs : Nat} {V : World} (hs : At V bs 3 [.int .i64 s]) {p : Nat} {d : Dg} (hp : At V p 29 d.cells) : Calls Try.prog 25 #[ptv p, ptv bs] V fun e w' => e = .returned (.bool (dropU s d)) ∧ Tn Nil V w' := by
  have c0 := hs.cell 0 rfl
  obtain ⟨a0, a1, a2, a3, a4, a5, a6, a7, a8, a9⟩ := d
  have k0 : V.cell? ⟨p, 0, none⟩ = some (.int .i64 a0) := hp.cell 0 rfl
  have k1 : V.cell? ⟨p, 1, none⟩ = some (.int .i64 a1) := hp.cell 1 rfl
  clear hs hp
  unfold dropU
  dsimp only
  by_cases h1 : a1 = s
  · subst h1
    by_cases h2 : a0 = 6
    · subst h2
      go_enter Try.func25, Try.ntmps25
      go_wp2_with fail
      go_quiet (fail)
      go_wp2_with fail
      go_ret
      exact ⟨by simp, (Tn.refl _ _).drewN _⟩
    · have h3 : (a0 == 6) = false := by simpa using h2
      have H2 := Lib.hid h2
      clear h2
      go_enter Try.func25, Try.ntmps25
      go_wp2_with fail
      go_quiet (fail)
      go_wp2_with fail
      go_ret
      exact ⟨by simp [H2.out], (Tn.refl _ _).drewN _⟩
  · have h3 : (a1 == s) = false := by simpa using h1
    have H2 := Lib.hid h1
    clear h1
    go_enter Try.func25, Try.ntmps25
    go_wp2_with fail
    go_quiet (fail)
    go_wp2_with fail
    go_ret
    exact ⟨by simp [H2.out], (Tn.refl _ _).drewN _⟩
set_option maxRecDepth 100000 in
set_option maxHeartbeats 1600000 in
theorem clean_tells {s base : Int} (hb : U32 base) {bs bb : Nat} {V : World} (hs : At V bs 3 [.int .i64 s]) (hbb : At V bb 27 [.int .u32 base]) {p : Nat} {d : Dg} (hp : At V p 29 d.cells) (ok : DOk d) : Calls Try.prog 23 #[ptv p, ptv bs, ptv bb] V fun e w' => e = .returned (.bool (cleanU s base d)) ∧ Tn Nil V w' := by
  have c0 := hs.cell 0 rfl
  have c1 := hbb.cell 0 rfl
  have hu : U32 (d.block : Int) := by have := ok.b; unfold U32; omega
  have HL := Lib.hid (fun W => less_any (d.block : Int) base hu hb W)
  obtain ⟨a0, a1, a2, a3, a4, a5, a6, a7, a8, a9⟩ := d
  have k0 : V.cell? ⟨p, 0, none⟩ = some (.int .i64 a0) := hp.cell 0 rfl
  have k1 : V.cell? ⟨p, 1, none⟩ = some (.int .i64 a1) := hp.cell 1 rfl
  have k2 : V.cell? ⟨p, 2, none⟩ = some (.int .u32 a2) := hp.cell 2 rfl
  clear hs hp hbb ok hu
  unfold cleanU
  dsimp only at *
  generalize decide (0 < ah (a2 : Int) base) = z at *
  by_cases h1 : a1 = s
  · subst h1
    by_cases h2 : a0 = 3
    · subst h2
      go_enter Try.func23, Try.ntmps23
      go_wp2_with fail
      go_quiet ((go_at_call 24; exact Calls.quiet_of_same ((HL.out _).mono fun _ _ h => ⟨h.1, h.2.symm⟩)))
      go_wp2_with fail
      go_ret
      exact ⟨by simp, (Tn.refl _ _).drewN _⟩
    · have h3 : (a0 == 3) = false := by simpa using h2
      have H2 := Lib.hid h2
      clear h2
      go_enter Try.func23, Try.ntmps23
      go_wp2_with fail
      go_quiet (fail)
      go_wp2_with fail
      go_ret
      exact ⟨by simp [H2.out], (Tn.refl _ _).drewN _⟩
  · have h3 : (a1 == s) = false := by simpa using h1
    have H2 := Lib.hid h1
    clear h1
    go_enter Try.func23, Try.ntmps23
    go_wp2_with fail
    go_quiet (fail)
    go_wp2_with fail
    go_ret
    exact ⟨by simp [H2.out], (Tn.refl _ _).drewN _⟩
theorem enters_drop : ∀ args (V : World), (callFunc 25 args).run Try.prog V = .ok (.enter 25 args) V := enters_of Try.func25 (by kernel_rfl) rfl
theorem enters_clean : ∀ args (V : World), (callFunc 23 args).run Try.prog V = .ok (.enter 23 args) V := enters_of Try.func23 (by kernel_rfl) rfl
theorem tells_drop {s : Int} {bs : Nat} {V : World} (hs : At V bs 3 [.int .i64 s]) : Tells 25 #[ptv bs] (dropU s) V :=
  ⟨enters_drop, fun V' t' p d hp _ => by
    rw [show (#[ptv p] ++ #[ptv bs] : Array Value) = #[ptv p, ptv bs] from rfl]
    exact drop_tells (hs.tn t' (fun e => e)) hp⟩
theorem tells_clean {s base : Int} (hb : U32 base) {bs bb : Nat} {V : World} (hs : At V bs 3 [.int .i64 s]) (hbb : At V bb 27 [.int .u32 base]) : Tells 23 #[ptv bs, ptv bb] (cleanU s base) V :=
  ⟨enters_clean, fun V' t' p d hp ok => by
    rw [show (#[ptv p] ++ #[ptv bs, ptv bb] : Array Value) = #[ptv p, ptv bs, ptv bb] from rfl]
    exact clean_tells hb (hs.tn t' (fun e => e)) (hbb.tn t' (fun e => e)) hp ok⟩
/-- Drop, of whatever is handed to remove. -/
theorem drop_of (v : Value) (s : Int) (w : World) {R : Ending → World → Prop} (h : Calls Try.prog 22 #[v, .func (.func 25) #[] #[ptv w.heap.size]] (w.alloc (.cells #[.int .i64 s] 3)) fun e w' => ∃ z, e = .returned (.int .i64 z) ∧ R (.returned (.int .i64 z)) w') : Calls Try.prog 13 #[v, .int .i64 s] w R := by
  have H := Lib.hid h
  clear h
  generalize hW : w.alloc (.cells #[.int .i64 s] 3) = w1 at *
  go_enter Try.func13, Try.ntmps13
  go_upto_region 1 with fail
  clear hW
  go_wp2_with fail
  refine H.out.mono ?_; rintro e w2 ⟨z, rfl, g2⟩
  have G2 := Lib.hid g2
  clear g2
  go_wp2_with fail
  exact G2.out
theorem ct_drop_nil (s : Int) (w : World) : Calls Try.prog 13 #[.pointer none, .int .i64 s] w fun e w' => e = .returned (.int .i64 0) ∧ Below w.heap.size w w' := by
  refine drop_of _ s w ((rem_nil _ _ _).mono ?_)
  rintro e w' ⟨rfl, b⟩
  have b1 : Below w.heap.size w (w.alloc (.cells #[.int .i64 s] 3)) := (Below.refl _ _).alloc (Nat.le_refl _) _
  exact ⟨0, rfl, rfl, b1.trans (b.mono b1.size)⟩
theorem ct_drop {w : World} {L : Ly} {X : List Pd} (h : Ct w L X) (hX : X.length ≤ 60000) (s : Int) :
    Calls Try.prog 13 #[ptv L.b, .int .i64 s] w fun e w' => e = .returned (.int .i64 ((X.length - (keepX (dropU s) X).length : Nat) : Int)) ∧ Ct w' L (keepX (dropU s) X) ∧ Tn L.own w w' := by
  have t1 : Tn Nil w (w.alloc (.cells #[.int .i64 s] 3)) := (Tn.refl _ _).alloc _
  have a1 := At.new w 3 [.int .i64 s]
  refine drop_of _ s w ((rem_any (h.free t1) hX (u := dropU s) (fun V t => tells_drop (a1.tn t (h.ahead _ (Nat.le_refl _))))).mono ?_)
  rintro e w' ⟨rfl, b, t⟩
  exact ⟨_, rfl, rfl, b, (t1.mono (fun _ _ e => e.elim)).trans t⟩
/-- Clean, of whatever is handed to remove. -/
theorem clean_of (v : Value) (s base : Int) (w : World) {R : Ending → World → Prop} (h : Calls Try.prog 22 #[v, .func (.func 23) #[] #[ptv w.heap.size, ptv (w.heap.size + 1)]] ((w.alloc (.cells #[.int .i64 s] 3)).alloc (.cells #[.int .u32 base] 27)) fun e w' => ∃ z, e = .returned (.int .i64 z) ∧ R (.returned (.int .i64 z)) w') : Calls Try.prog 11 #[v, .int .i64 s, .int .u32 base] w R := by
  have H := Lib.hid h
  clear h
  generalize hW : (w.alloc (.cells #[.int .i64 s] 3)).alloc (.cells #[.int .u32 base] 27) = w1 at *
  go_enter Try.func11, Try.ntmps11
  go_upto_region 1 with fail
  clear hW
  go_wp2_with fail
  refine H.out.mono ?_; rintro e w2 ⟨z, rfl, g2⟩
  have G2 := Lib.hid g2
  clear g2
  go_wp2_with fail
  exact G2.out
theorem ct_clean_nil (s base : Int) (w : World) : Calls Try.prog 11 #[.pointer none, .int .i64 s, .int .u32 base] w fun e w' => e = .returned (.int .i64 0) ∧ Below w.heap.size w w' := by
  refine clean_of _ s base w ((rem_nil _ _ _).mono ?_)
  rintro e w' ⟨rfl, b⟩
  have b1 : Below w.heap.size w ((w.alloc (.cells #[.int .i64 s] 3)).alloc (.cells #[.int .u32 base] 27)) := ((Below.refl _ _).alloc (Nat.le_refl _) _).alloc (by simp) _
  exact ⟨0, rfl, rfl, b1.trans (b.mono b1.size)⟩
theorem ct_clean {w : World} {L : Ly} {X : List Pd} (h : Ct w L X) (hX : X.length ≤ 60000) (s base : Int) (hb : U32 base) :
    Calls Try.prog 11 #[ptv L.b, .int .i64 s, .int .u32 base] w fun e w' => e = .returned (.int .i64 ((X.length - (keepX (cleanU s base) X).length : Nat) : Int)) ∧ Ct w' L (keepX (cleanU s base) X) ∧ Tn L.own w w' := by
  have t1 : Tn Nil w ((w.alloc (.cells #[.int .i64 s] 3)).alloc (.cells #[.int .u32 base] 27)) := ((Tn.refl _ _).alloc _).alloc _
  have a1 : At ((w.alloc (.cells #[.int .i64 s] 3)).alloc (.cells #[.int .u32 base] 27)) w.heap.size 3 [.int .i64 s] := (At.new w 3 [.int .i64 s]).alloc _
  have a2 : At ((w.alloc (.cells #[.int .i64 s] 3)).alloc (.cells #[.int .u32 base] 27)) (w.heap.size + 1) 27 [.int .u32 base] := by
    have h := At.new (w.alloc (.cells #[.int .i64 s] 3)) 27 [.int .u32 base]
    simpa using h
  refine clean_of _ s base w ((rem_any (h.free t1) hX (u := cleanU s base) (fun V t => tells_clean hb (a1.tn t (h.ahead _ (Nat.le_refl _))) (a2.tn t (h.ahead _ (Nat.le_succ _))))).mono ?_)
  rintro e w' ⟨rfl, b, t⟩
  exact ⟨_, rfl, rfl, b, (t1.mono (fun _ _ e => e.elim)).trans t⟩
end Go.Proofs.Ytmnbkghihdbepaa

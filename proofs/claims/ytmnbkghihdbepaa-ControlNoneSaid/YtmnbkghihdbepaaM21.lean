/- Proved: lemmas of one statement's proof, merged by program: what each part proves stands ahead of it. Conditions: those that the lemmas name. -/
import Derived.Test.YtmnbkghihdbepaaM20
import Derived.Lib.AppendZeros

/- Proved: what Ask of package control leaves where nothing of the subject is there. Conditions: those that the theorems name. -/
namespace Go.Proofs.Ytmnbkghihdbepaa
open Go.ChangeShapes Go.WideShapes Go.ChangeAt Go.RowKit

/-- all that is made in a call may be its own. -/
def Ly.upto (L : Ly) (w w' : World) : Ly := ⟨L.b, L.m, fun i => L.own i ∨ (w.heap.size ≤ i ∧ i < w'.heap.size)⟩
/-- one more, the last one. -/
theorem Ct.snoc {w w' : World} {L : Ly} {X : List Pd} {p : Nat} {d : Dg} (h : Ct w L X) (ok : DOk d) (hn : ptOf X (subj d) = none) {rv0 : Value} {r r' : Option Nat} (hq0 : Qu w r 56 1 rv0 X.length (ptrs X)) (hro : ∀ g, r = some g → L.own g)
    {v : Value} (hb : At w' L.b 50 [v, .map (some L.m)]) (hq : Qu w' r' 56 1 v (X.length + 1) (ptrs X ++ [ptv p])) (hr : r' = r ∨ ∃ g, r' = some g ∧ w.heap.size ≤ g)
    (hm : Mq w' L.m (fun i => if i = subj d then some p else ptOf X i) (X.length + 1)) (hp : At w' p 29 d.cells) (hps : w.heap.size ≤ p) (t : Tn (fun i => i = L.b ∨ i = L.m ∨ r = some i) w w') : Ct w' (L.upto w w') (X ++ [(p, d)]) := by
  obtain ⟨rv, _, h1, _, _⟩ := h.ctl
  have hlen : (X ++ [(p, d)]).length = X.length + 1 := by simp
  have hpt : ptrs (X ++ [(p, d)]) = ptrs X ++ [ptv p] := by simp [ptrs]
  refine ⟨⟨v, r', hb, by rw [hlen, hpt]; exact hq, fun g hg => ?_⟩, .inl h.cb, .inl h.cm, ?_, fun x hx => ?_, ?_, ?_, fun x hx => ?_, fun i hi h' => ?_⟩
  · rcases hr with hr | ⟨g', hr, hl⟩
    · exact .inl (hro g (by rw [← hr]; exact hg))
    · rw [hr] at hg
      injection hg with hg
      subst hg
      exact .inr ⟨hl, hq.lt hr⟩
  · rw [hlen]
    exact hm.congr fun k _ => ptOf_snoc hn k
  · rcases List.mem_append.1 hx with hx | hx
    · obtain ⟨o, q⟩ := h.pts x hx
      refine ⟨.inl o, q.tn t fun e => ?_⟩
      rcases e with e | e | e
      · exact At.ne h1 q ct_ne_dg e.symm
      · exact h.map.no_cell q e
      · exact hq0.ne q dg_ne_pt e
    · obtain rfl : x = (p, d) := by simpa using hx
      exact ⟨.inr ⟨hps, hp.lt⟩, hp⟩
  · rw [List.map_append, List.nodup_append]
    refine ⟨h.nd, by simp, fun a ha b hb e => ?_⟩
    obtain ⟨x, hx, rfl⟩ := List.mem_map.1 ha
    have hb : b = p := by simpa using hb
    have := (h.pts x hx).2.lt
    rw [e, hb] at this
    omega
  · rw [subjs_app, List.nodup_append]
    refine ⟨h.ks, by simp [subjs], fun a ha b hb e => ?_⟩
    obtain ⟨x, hx, rfl⟩ := List.mem_map.1 ha
    have hb : b = subj d := by simpa [subjs] using hb
    exact ptOf_none_iff.1 hn x hx (e.trans hb)
  · rcases List.mem_append.1 hx with hx | hx
    · exact h.ok x hx
    · obtain rfl : x = (p, d) := by simpa using hx
      exact ok
  · rcases h' with h' | ⟨_, h'⟩
    · exact h.ahead i (Nat.le_trans t.size hi) h'
    · omega
set_option maxRecDepth 100000 in
set_option maxHeartbeats 1600000 in
theorem ct_ask_new {w : World} {L : Ly} {X : List Pd} (h : Ct w L X) (hX : X.length ≤ 60000) {d : Dg} (hb : d.body.size ≤ maxLen) (hi : d.block < 4294967296) (hr : refE d = 0) (hp : ptOf X (subj d) = none) :
    Calls Try.prog 8 #[ptv L.b, d.val] w fun e w' => e = .returned (.int .i64 0) ∧ ∃ p, Ct w' (L.upto w w') (X ++ [(p, d)]) ∧ Tn L.own w w' := by
  have ok := refE_ok hr hi
  obtain ⟨rv0, r, hb0, hq0, hro⟩ := h.ctl
  have key : Calls Try.prog 8 #[ptv L.b, d.val] w fun e w' => e = .returned (.int .i64 0) ∧ ∃ v r' p, At w' L.b 50 [v, .map (some L.m)] ∧ Qu w' r' 56 1 v (X.length + 1) (ptrs X ++ [ptv p]) ∧ (r' = r ∨ ∃ g, r' = some g ∧ w.heap.size ≤ g) ∧ Mq w' L.m (fun i => if i = subj d then some p else ptOf X i) (X.length + 1) ∧ At w' p 29 d.cells ∧ w.heap.size ≤ p ∧ Tn (fun i => i = L.b ∨ i = L.m ∨ r = some i) w w' := by
    have HR : Hid (∀ W, Calls Try.prog 19 #[d.val] W (GivesZ W 0)) := Lib.hid (fun W => by rw [← hr]; exact refusal_any d W hb)
    have HS := Lib.hid (fun W => subj_any d W)
    have B1 : Below w.heap.size w (w.alloc (.cells d.cells.toArray 29)) := (Below.refl _ _).alloc (Nat.le_refl _) _
    have HB1 := Lib.hid B1
    have HX1 := Lib.hid (At.new w 29 d.cells)
    have HL : Hid (∀ W, Tn Nil w W → At W L.b 50 [rv0, .map (some L.m)] ∧ ∀ q, (Instr.lookup 47 (.map (some L.m)) (skV (subj d)) false).run Try.prog (W.drewN q) = .ok (.pointer none) (W.drewN q)) := Lib.hid fun W t => by
      have h' := h.free t
      exact ⟨hb0.tn t (fun e => e), fun q => by have := h'.look ok.sk q; rw [hp] at this; exact this⟩
    have HP : Hid (∀ W p, Tn Nil w W → ∃ w', (Instr.mapUpdate 47 (.map (some L.m)) (skV (subj d)) (ptv p)).run Try.prog W = .ok () w' ∧ Mq w' L.m (fun i => if i = subj d then some p else ptOf X i) (X.length + 1) ∧ W.grownBy w' (some L.m)) := Lib.hid fun W p t => mq_put (h.free t).map (by omega) ok.sk hp p
    have HQ : Hid (∀ W, Tn (fun i => i = L.m) w W → Qu W r 56 1 rv0 X.length (ptrs X)) := Lib.hid fun W t => hq0.tn t fun g hg e => hq0.no_map h.map (by rw [hg, e])
    have HNE : Hid (L.b ≠ L.m ∧ r ≠ some L.b ∧ r ≠ some L.m ∧ L.b < w.heap.size ∧ L.m < w.heap.size ∧ ∀ g, r = some g → g < w.heap.size) := Lib.hid ⟨h.map.no_cell hb0, hq0.ne hb0 ct_ne_pt, hq0.no_map h.map, hb0.lt, h.map.lt, fun g hg => hq0.lt hg⟩
    have HXL := Lib.hid hX
    have HONE := Lib.hid (ptrs_one X)
    clear h hb hi hr hp ok hro B1 hb0 hX hq0
    generalize hG : (fun p i => if i = subj d then some p else ptOf X i : Nat → Sk → Option Nat) = G
    have HG : ∀ p, (fun i => if i = subj d then some p else ptOf X i) = G p := fun p => by rw [← hG]
    simp only [HG] at *
    clear HG hG
    generalize subj d = sj at *
    obtain ⟨s0, s1, s2⟩ := sj
    generalize L.b = b at *
    generalize L.m = m at *
    generalize ptrs X = ps at *
    generalize X.length = n at *
    obtain ⟨a0, a1, a2, a3, a4, a5, a6, a7, a8, a9⟩ := d
    unfold Dg.val at *
    unfold Dg.cells at *
    dsimp only at *
    go_enter Try.func8, Try.ntmps8
    go_wp2_with fail
    refine (HR.out _).mono ?_; rintro e w2 ⟨rfl, g2⟩
    have HB2 := Lib.hid (HB1.out.trans (g2.mono HB1.out.size))
    have HX2 := Lib.hid (HX1.out.below g2 HX1.out.lt)
    clear g2 HB1
    have c0 := HX2.out.cell 0 rfl
    have c1 := HX2.out.cell 1 rfl
    have c2 := HX2.out.cell 2 rfl
    have c3 := HX2.out.cell 3 rfl
    have c4 := HX2.out.cell 4 rfl
    have c5 := HX2.out.cell 5 rfl
    have c6 := HX2.out.cell 6 rfl
    have c7 := HX2.out.cell 7 rfl
    have c8 := HX2.out.cell 8 rfl
    have c9 := HX2.out.cell 9 rfl
    go_wp2_with fail
    refine (HS.out _).mono ?_; rintro e w3 ⟨rfl, g3⟩
    have HB3 := Lib.hid (HB2.out.trans (g3.mono HB2.out.size))
    have HX3 := Lib.hid (HX2.out.below g3 HX2.out.lt)
    clear g3 HB2 c0 c1 c2 c3 c4 c5 c6 c7 c8 c9 HX2 HX1
    go_wp2_with fail
    have g4 : Below w3.heap.size w3 (w3.alloc (.cells #[.int .i64 s0, .int .i64 s1, .int .u32 s2] 54)) := (Below.refl _ _).alloc (Nat.le_refl _) _
    have HB4 := Lib.hid (HB3.out.trans (g4.mono HB3.out.size))
    have HX4 := Lib.hid (HX3.out.below g4 HX3.out.lt)
    have HK4 := Lib.hid (At.new w3 54 [.int .i64 s0, .int .i64 s1, .int .u32 s2])
    have k0 := HK4.out.cell 0 rfl
    have k1 := HK4.out.cell 1 rfl
    have k2 := HK4.out.cell 2 rfl
    obtain ⟨hc, hlook⟩ := HL.out _ (tn_below Nil HB4.out)
    have e1 := hc.cell 1 rfl
    clear g4 HB3 HX3 hc
    generalize w3.alloc (.cells #[.int .i64 s0, .int .i64 s1, .int .u32 s2] 54) = w4 at *
    generalize w3.heap.size = kb at *
    go_quiet (fail)
    generalize hw5 : w4.drewN _ = w5
    have HT5 : Hid (Tn Nil w w5) := Lib.hid (by rw [← hw5]; exact (tn_below Nil HB4.out).drewN _)
    have HX5 : Hid (At w5 w.heap.size 29 [.int .i64 a0, .int .i64 a1, .int .u32 a2, .int .i64 a3, .int .i64 a4, .int .i64 a5, .int .i64 a6, .int .i64 a7, .string a8, .string a9]) := Lib.hid (by rw [← hw5]; exact HX4.out.tn ((Tn.refl Nil w4).drewN _) (fun e => e))
    have HK5 : Hid (At w5 kb 54 [.int .i64 s0, .int .i64 s1, .int .u32 s2]) := Lib.hid (by rw [← hw5]; exact HK4.out.tn ((Tn.refl Nil w4).drewN _) (fun e => e))
    clear hw5 HB4 HX4 HK4 k0 k1 k2 e1 hlook
    go_wp2_with fail
    have k0 := HK5.out.cell 0 rfl
    have k1 := HK5.out.cell 1 rfl
    have k2 := HK5.out.cell 2 rfl
    obtain ⟨hc, _⟩ := HL.out _ HT5.out
    have e1 := hc.cell 1 rfl
    clear hc
    refine wp_region_still_tail 5 (by kernel_rfl) (by kernel_rfl) ?_
    simp only [List.take_succ_cons, List.take_zero, List.drop_succ_cons, List.drop_zero]
    repeat still_step
    refine wpStill_nil ?_
    change wpList _ _ _ _ _ w5.drew
    obtain ⟨w6, hrun, hm6, hg6⟩ := HP.out w5.drew w.heap.size HT5.out.drew
    have HM6 := Lib.hid hm6
    have HT6 : Hid (Tn (fun i => i = m) w w6) := Lib.hid ((HT5.out.drew.mono (fun _ _ e => e.elim)).trans (tn_grown hg6 (fun g e => by injection e with e; exact e.symm)))
    have HX6 : Hid (At w6 w.heap.size 29 [.int .i64 a0, .int .i64 a1, .int .u32 a2, .int .i64 a3, .int .i64 a4, .int .i64 a5, .int .i64 a6, .int .i64 a7, .string a8, .string a9]) := Lib.hid ((HX5.out.tn ((Tn.refl Nil w5).drew) (fun e => e)).kept hg6 (fun e => by injection e with e; have := HNE.out.2.2.2.2.1; omega))
    have HC6 : Hid (At w6 b 50 [rv0, .map (some m)]) := Lib.hid (((HL.out _ HT5.out.drew).1).kept hg6 (fun e => by injection e with e; exact HNE.out.1 e.symm))
    clear hm6 hg6 k0 k1 k2 e1 HK5 HX5 HT5 HL HP
    generalize w5.drew = w5' at *
    have HQ6 := Lib.hid (HQ.out _ HT6.out)
    obtain ⟨A, cap, rfl⟩ := HQ6.out.form
    have b0 := HC6.out.cell 0 rfl
    have hHA := At.new w6 56 [ptv w.heap.size]
    have HAL : Hid (Tn Nil w6 (w6.alloc (.cells #[ptv w.heap.size] 56))) := Lib.hid ((Tn.refl _ w6).alloc _)
    obtain ⟨v', w8, r', hap, hq8, hr8, ht8⟩ := Qu.append (t := 48) (ty := 48) Try.underlying48 infoPt rfl (by decide) (by decide) (HQ6.out.tn HAL.out (fun _ _ e => e)) (by have := HXL.out; omega) (a := ⟨w6.heap.size, 0, none⟩) (cp := 1) (news := [ptv w.heap.size]) rfl (fun j u hj => by
      match j, hj with
      | 0, hj => simp at hj; subst hj; exact hHA.cell 0 rfl
      | j + 1, hj => simp at hj) (by simp [Value.oneCell']) HONE.out
    obtain ⟨A8, cap8, rfl⟩ := hq8.form
    have HQ8 := Lib.hid hq8
    have HR8 := Lib.hid hr8
    have HT8 : Hid (Tn (fun i => r = some i) w6 w8) := Lib.hid ((HAL.out.mono (fun _ _ e => e.elim)).trans ht8)
    have HC8 : Hid (At w8 b 50 [.slice A n cap, .map (some m)]) := Lib.hid (HC6.out.tn HT8.out (fun e => HNE.out.2.1 e))
    have HM8 := Lib.hid (HM6.out.tn HT8.out (fun e => HNE.out.2.2.1 e))
    have HX8 := Lib.hid (HX6.out.tn HT8.out (fun e => by have := HNE.out.2.2.2.2.2 _ e; omega))
    have b8 := HC8.out.cell 0 rfl
    have f8 := HC8.out.free 0
    clear hq8 hr8 ht8 hHA HC6 HM6 HX6 HQ HQ6
    go_wp2_with (at_builtin; refine Lib.wpList_append_run _ rfl _ _ _ _ rfl _ _ rfl rfl _ _ hap ?_)
    go_ret
    have t9 : Tn (fun i => i = b) w8 (w8.setCell ⟨b, 0, none⟩ (.slice A8 (n + 1) cap8)) := (Tn.refl _ w8).set _ _ (fun _ => rfl)
    refine ⟨rfl, _, r', w.heap.size, HC8.out.set_ 0 _, HQ8.out.tn t9 (fun g hg e => ?_), ?_, HM8.out.tn t9 (fun e => HNE.out.1 e.symm), HX8.out.tn t9 (fun e => ?_), Nat.le_refl _, ?_⟩
    · exact HQ8.out.ne HC8.out ct_ne_pt (by rw [hg, e])
    · rcases HR8.out with e | ⟨g, e, hl⟩
      · exact .inl e
      · exact .inr ⟨g, e, Nat.le_trans (Nat.le_trans HT6.out.size HAL.out.size) hl⟩
    · have := HNE.out.2.2.2.1
      omega
    · refine ((HT6.out.mono (fun i _ e => .inr (.inl e))).trans' HT8.out (fun i _ e => .inr (.inr e))).trans' t9 (fun i _ e => .inl e)
  refine key.mono ?_
  rintro e w' ⟨rfl, v, r', p, k1, k2, k3, k4, k5, k6, t⟩
  refine ⟨rfl, p, h.snoc ok hp hq0 hro k1 k2 k3 k4 k5 k6 t, t.mono fun i _ e => ?_⟩
  rcases e with rfl | rfl | e
  · exact h.cb
  · exact h.cm
  · exact hro i e
end Go.Proofs.Ytmnbkghihdbepaa

/- Proved: what Next of package control answers and leaves. Conditions: those that the theorems name. -/
namespace Go.Proofs.Ytmnbkghihdbepaa
open Go.ChangeShapes Go.WideShapes Go.ChangeAt Go.RowKit

/-- no datagram. -/
def dgZ : Dg := ⟨0, 0, 0, 0, 0, 0, 0, 0, ⟨#[]⟩, ⟨#[]⟩⟩
/-- a box without a datagram, just made. -/
theorem zbox (w : World) : ∃ W, W = w.alloc (.cells #[.int .i64 0, .int .i64 0, .int .u32 0, .int .i64 0, .int .i64 0, .int .i64 0, .int .i64 0, .int .i64 0, .string ⟨#[]⟩, .string ⟨#[]⟩] 29) ∧ At W w.heap.size 29 dgZ.cells ∧ Below w.heap.size w W := ⟨_, rfl, At.new w 29 dgZ.cells, (Below.refl _ _).alloc (Nat.le_refl _) _⟩
theorem res_next {T : Array Value} {W : World} {b : Nat} {d : Dg} {s : Bool} (h2 : T.getD 2 undef = .pointer (some ⟨b, 0, none⟩)) (h3 : T.getD 3 undef = .bool s) (A : At W b 29 d.cells) : (results Try.f9 T).run Try.prog W = .ok (.tuple #[d.val, .bool s]) W := by
  have h2' : T[2]?.getD undef = .pointer (some ⟨b, 0, none⟩) := by simpa using h2
  have h3' : T[3]?.getD undef = .bool s := by simpa using h3
  have c0 := A.cell 0 rfl
  have c1 := A.cell 1 rfl
  have c2 := A.cell 2 rfl
  have c3 := A.cell 3 rfl
  have c4 := A.cell 4 rfl
  have c5 := A.cell 5 rfl
  have c6 := A.cell 6 rfl
  have c7 := A.cell 7 rfl
  have c8 := A.cell 8 rfl
  have c9 := A.cell 9 rfl
  simp [results, Try.results9, h2', h3', c0, c1, c2, c3, c4, c5, c6, c7, c8, c9, go_sem, Dg.val]
set_option maxRecDepth 100000 in
set_option maxHeartbeats 1600000 in
theorem ct_next_of (v : Value) (w : World) (h : ∀ W, Tn Nil w W → Calls Try.prog 14 #[v] W fun e w' => e = .returned (.int .i64 0) ∧ W = w') : Calls Try.prog 9 #[v] w fun e w' => e = .returned (.tuple #[dgZ.val, .bool false]) ∧ Below w.heap.size w w' := by
  obtain ⟨w1, HW, hx1, hb1⟩ := zbox w
  have HX1 := Lib.hid hx1
  have HB1 := Lib.hid hb1
  have HL := Lib.hid (h _ (tn_below Nil hb1))
  clear h hx1 hb1
  go_enter Try.func9, Try.ntmps9
  go_wp2_with fail
  rw [← HW]; clear HW
  refine HL.out.mono ?_; rintro e w2 ⟨rfl, rfl⟩
  generalize hbx : w.heap.size = bx at *
  have HBX : Hid (w.heap.size = bx) := Lib.hid hbx
  clear hbx
  have c0 : w1.cell? ⟨bx, 0, none⟩ = some (.int .i64 0) := HX1.out.cell 0 rfl
  have c1 : w1.cell? ⟨bx, 1, none⟩ = some (.int .i64 0) := HX1.out.cell 1 rfl
  have c2 : w1.cell? ⟨bx, 2, none⟩ = some (.int .u32 0) := HX1.out.cell 2 rfl
  have c3 : w1.cell? ⟨bx, 3, none⟩ = some (.int .i64 0) := HX1.out.cell 3 rfl
  have c4 : w1.cell? ⟨bx, 4, none⟩ = some (.int .i64 0) := HX1.out.cell 4 rfl
  have c5 : w1.cell? ⟨bx, 5, none⟩ = some (.int .i64 0) := HX1.out.cell 5 rfl
  have c6 : w1.cell? ⟨bx, 6, none⟩ = some (.int .i64 0) := HX1.out.cell 6 rfl
  have c7 : w1.cell? ⟨bx, 7, none⟩ = some (.int .i64 0) := HX1.out.cell 7 rfl
  have c8 : w1.cell? ⟨bx, 8, none⟩ = some (.string ⟨#[]⟩) := HX1.out.cell 8 rfl
  have c9 : w1.cell? ⟨bx, 9, none⟩ = some (.string ⟨#[]⟩) := HX1.out.cell 9 rfl
  have f0 := HX1.out.free 0
  have f1 := HX1.out.free 1
  have f2 := HX1.out.free 2
  have f3 := HX1.out.free 3
  have f4 := HX1.out.free 4
  have f5 := HX1.out.free 5
  have f6 := HX1.out.free 6
  have f7 := HX1.out.free 7
  have f8 := HX1.out.free 8
  have f9 := HX1.out.free 9
  have HF : Hid (At (dset w1 bx dgZ) bx 29 dgZ.cells ∧ Below bx w (dset w1 bx dgZ)) := Lib.hid ⟨dset_at (d0 := dgZ) dgZ HX1.out, (dset_tn w1 bx dgZ).below HB1.out (by rw [← HBX.out]; exact HB1.out.size) (fun i hi e => Nat.lt_irrefl _ (by rw [show i = bx from e] at hi; exact hi))⟩
  go_wp2_with fail
  change bodyPost _ _ _ _ _ (dset w1 bx dgZ)
  generalize dset w1 bx dgZ = w3 at *
  exact bodyPost_ret (v := .tuple #[dgZ.val, .bool false]) (res_next rfl rfl HF.out.1) rfl ⟨rfl, by rw [HBX.out]; exact HF.out.2⟩
theorem ct_next_nil (w : World) : Calls Try.prog 9 #[.pointer none] w fun e w' => e = .returned (.tuple #[dgZ.val, .bool false]) ∧ Below w.heap.size w w' := ct_next_of _ w fun W _ => ct_len_nil W
theorem ct_next_none {w : World} {L : Ly} (h : Ct w L []) : Calls Try.prog 9 #[ptv L.b] w fun e w' => e = .returned (.tuple #[dgZ.val, .bool false]) ∧ Below w.heap.size w w' := ct_next_of _ w fun W t => by
  have := ct_len (h.free t)
  exact this
/-- the first one goes. -/
theorem Ct.tail {w w' : World} {L : Ly} {x : Pd} {X : List Pd} (h : Ct w L (x :: X)) {rv0 : Value} {r : Option Nat} (hq0 : Qu w r 56 1 rv0 (X.length + 1) (ptrs (x :: X))) (hro : ∀ g, r = some g → L.own g)
    {v : Value} (hb : At w' L.b 50 [v, .map (some L.m)]) (hq : Qu w' r 56 1 v X.length (ptrs X))
    (hm : Mq w' L.m (fun i => if i = subj x.2 then none else ptOf (x :: X) i) X.length) (t : Tn (fun i => i = L.b ∨ i = L.m ∨ r = some i) w w') : Ct w' L X := by
  obtain ⟨rv, _, h1, _, _⟩ := h.ctl
  refine ⟨⟨v, r, hb, hq, hro⟩, h.cb, h.cm, hm.congr fun k _ => ?_, fun y hy => ?_, ?_, ?_, fun y hy => h.ok y (List.mem_cons_of_mem _ hy), fun i hi => h.ahead i (Nat.le_trans t.size hi)⟩
  · have := ptOf_del (A := []) (B := X) (x := x) h.ks k
    exact this
  · obtain ⟨o, q⟩ := h.pts y (List.mem_cons_of_mem _ hy)
    refine ⟨o, q.tn t fun e => ?_⟩
    rcases e with e | e | e
    · exact At.ne h1 q ct_ne_dg e.symm
    · exact h.map.no_cell q e
    · exact hq0.ne q dg_ne_pt e
  · have := h.nd
    rw [List.map_cons, List.nodup_cons] at this
    exact this.2
  · have := h.ks
    unfold subjs at this
    rw [List.map_cons, List.nodup_cons] at this
    exact this.2
set_option maxRecDepth 100000 in
set_option maxHeartbeats 3200000 in
theorem ct_next_some {w : World} {L : Ly} {x : Pd} {X : List Pd} (h : Ct w L (x :: X)) (hX : X.length ≤ 60000) :
    Calls Try.prog 9 #[ptv L.b] w fun e w' => e = .returned (.tuple #[x.2.val, .bool true]) ∧ Ct w' L X ∧ Tn L.own w w' := by
  obtain ⟨rv0, r, hb0, hq0, hro⟩ := h.ctl
  have key : Calls Try.prog 9 #[ptv L.b] w fun e w' => e = .returned (.tuple #[x.2.val, .bool true]) ∧ ∃ v, At w' L.b 50 [v, .map (some L.m)] ∧ Qu w' r 56 1 v X.length (ptrs X) ∧ Mq w' L.m (fun i => if i = subj x.2 then none else ptOf (x :: X) i) X.length ∧ Tn (fun i => i = L.b ∨ i = L.m ∨ r = some i) w w' := by
    have hq0 : Qu w r 56 1 rv0 (X.length + 1) (ptrs (x :: X)) := hq0
    obtain ⟨w1, HW, hx1, B1⟩ := zbox w
    have HX1 := Lib.hid hx1
    have HB1 := Lib.hid B1
    have HLEN : Hid (∀ W, Tn Nil w W → Calls Try.prog 14 #[ptv L.b] W fun e w' => e = .returned (.int .i64 ((X.length : Nat) + 1)) ∧ W = w') := Lib.hid fun W t => by
      have := ct_len (h.free t)
      exact this
    have HS := Lib.hid (fun W => subj_any x.2 W)
    have ok := h.ok x (List.mem_cons_self ..)
    have HL : Hid (∀ W, Tn Nil w W → At W L.b 50 [rv0, .map (some L.m)] ∧ At W x.1 29 x.2.cells ∧ Qu W r 56 1 rv0 (X.length + 1) (ptrs (x :: X))) := Lib.hid fun W t => ⟨hb0.tn t (fun e => e), (h.pts x (List.mem_cons_self ..)).2.tn t (fun e => e), hq0.tn t (fun _ _ e => e)⟩
    have HP : Hid (∀ W, Tn Nil w W → ∀ ty, ∃ w', (Builtin.delete_ #[47, 54] ty #[.map (some L.m), skV (subj x.2)]).run Try.prog W = .ok (.tuple #[]) w' ∧ Mq w' L.m (fun i => if i = subj x.2 then none else ptOf (x :: X) i) X.length ∧ W.grownBy w' (some L.m)) := Lib.hid fun W t ty => mq_del (h.free t).map ok.sk (by rw [ptOf_cons, if_pos rfl]; rfl) ty
    have HNE : Hid (L.b ≠ L.m ∧ r ≠ some L.b ∧ r ≠ some L.m ∧ L.b < w.heap.size ∧ L.m < w.heap.size ∧ ∀ g, r = some g → g < w.heap.size) := Lib.hid ⟨h.map.no_cell hb0, hq0.ne hb0 ct_ne_pt, hq0.no_map h.map, hb0.lt, h.map.lt, fun g hg => hq0.lt hg⟩
    obtain ⟨g, o, cap, hrg, rfl, hgl, hcap, hcs, hfr⟩ := hq0.head (Nat.succ_pos _)
    have HRG := Lib.hid hrg
    have HGL := Lib.hid hgl
    have hcap' : X.length + 1 ≤ cap := hcap
    have hn0 : (((X.length : Int) + 1) == 0) = false := beq_eq_false_iff_ne.2 (by omega)
    have hn1 : (0 : Int) < (X.length : Int) + 1 := by omega
    have HHD : Hid (∀ W, Tn Nil w W → W.cell? ⟨g, o, none⟩ = some (ptv x.1)) := Lib.hid fun W t => by
      obtain ⟨g', o', cap', hr', hv', _, _, hc', _⟩ := ((HL.out W t).2.2).head (Nat.succ_pos _)
      injection hv' with hv'
      injection hv' with hv'
      injection hv' with h1 h2
      subst h1; subst h2
      exact hc' 0 _ rfl
    clear h hb0 hro hq0 B1 hx1 ok hX hcs hfr hrg hgl hcap
    generalize hG : (fun i => if i = subj x.2 then none else ptOf (x :: X) i) = G at *
    clear hG
    rw [show ptrs (x :: X) = ptv x.1 :: ptrs X from rfl] at HL
    generalize subj x.2 = sj at *
    obtain ⟨s0, s1, s2⟩ := sj
    generalize L.b = b at *
    generalize L.m = m at *
    generalize ptrs X = ps at *
    generalize X.length = n at *
    obtain ⟨p, d⟩ := x
    dsimp only at *
    obtain ⟨a0, a1, a2, a3, a4, a5, a6, a7, a8, a9⟩ := d
    unfold Dg.val at *
    unfold Dg.cells at *
    dsimp only at *
    go_enter Try.func9, Try.ntmps9
    go_wp2_with fail
    have HT1 := Lib.hid (tn_below Nil HB1.out)
    rw [← HW]; clear HW
    obtain ⟨hc1, hp1, _⟩ := HL.out _ HT1.out
    have hh1 := HHD.out _ HT1.out
    have HC1 := Lib.hid hc1
    have b0 := hc1.cell 0 rfl
    have c0 := hp1.cell 0 rfl
    have c1 := hp1.cell 1 rfl
    have c2 := hp1.cell 2 rfl
    have c3 := hp1.cell 3 rfl
    have c4 := hp1.cell 4 rfl
    have c5 := hp1.cell 5 rfl
    have c6 := hp1.cell 6 rfl
    have c7 := hp1.cell 7 rfl
    have c8 := hp1.cell 8 rfl
    have c9 := hp1.cell 9 rfl
    clear hc1 hp1
    refine (HLEN.out _ HT1.out).mono ?_; rintro e w2 ⟨rfl, rfl⟩
    clear HLEN
    go_wp2_with fail
    have al : Below w1.heap.size w1 (w1.alloc (.cells #[.int .i64 a0, .int .i64 a1, .int .u32 a2, .int .i64 a3, .int .i64 a4, .int .i64 a5, .int .i64 a6, .int .i64 a7, .string a8, .string a9] 29)) := (Below.refl _ _).alloc (Nat.le_refl _) _
    have HT2 := Lib.hid (HT1.out.trans (tn_below Nil al))
    have HX2 := Lib.hid (HX1.out.below al HX1.out.lt)
    have HY2 : Hid (At (w1.alloc (.cells #[.int .i64 a0, .int .i64 a1, .int .u32 a2, .int .i64 a3, .int .i64 a4, .int .i64 a5, .int .i64 a6, .int .i64 a7, .string a8, .string a9] 29)) w1.heap.size 29 [.int .i64 a0, .int .i64 a1, .int .u32 a2, .int .i64 a3, .int .i64 a4, .int .i64 a5, .int .i64 a6, .int .i64 a7, .string a8, .string a9]) := Lib.hid (At.new w1 29 [.int .i64 a0, .int .i64 a1, .int .u32 a2, .int .i64 a3, .int .i64 a4, .int .i64 a5, .int .i64 a6, .int .i64 a7, .string a8, .string a9])
    have HYB : Hid (w.heap.size < w1.heap.size) := Lib.hid HX1.out.lt
    clear al c0 c1 c2 c3 c4 c5 c6 c7 c8 c9 b0 hh1 HX1 HB1 HT1 HC1
    generalize w1.alloc (.cells #[.int .i64 a0, .int .i64 a1, .int .u32 a2, .int .i64 a3, .int .i64 a4, .int .i64 a5, .int .i64 a6, .int .i64 a7, .string a8, .string a9] 29) = w2 at *
    generalize w1.heap.size = yb at *
    have KP : Hid (∀ V W : World, Tn Nil w2 V → Tn Nil V W → W.cell? ⟨b, 1, none⟩ = some (.map (some m)) ∧ W.cell? ⟨yb, 0, none⟩ = some (.int .i64 a0) ∧ W.cell? ⟨yb, 1, none⟩ = some (.int .i64 a1) ∧ W.cell? ⟨yb, 2, none⟩ = some (.int .u32 a2) ∧ W.cell? ⟨yb, 3, none⟩ = some (.int .i64 a3) ∧ W.cell? ⟨yb, 4, none⟩ = some (.int .i64 a4) ∧ W.cell? ⟨yb, 5, none⟩ = some (.int .i64 a5) ∧ W.cell? ⟨yb, 6, none⟩ = some (.int .i64 a6) ∧ W.cell? ⟨yb, 7, none⟩ = some (.int .i64 a7) ∧ W.cell? ⟨yb, 8, none⟩ = some (.string a8) ∧ W.cell? ⟨yb, 9, none⟩ = some (.string a9)) := Lib.hid fun V W hV hW => by
      have q := HY2.out.tn (hV.trans hW) (fun e => e)
      exact ⟨((HL.out _ (HT2.out.trans (hV.trans hW))).1).cell 1 rfl, q.cell 0 rfl, q.cell 1 rfl, q.cell 2 rfl, q.cell 3 rfl, q.cell 4 rfl, q.cell 5 rfl, q.cell 6 rfl, q.cell 7 rfl, q.cell 8 rfl, q.cell 9 rfl⟩
    have KQ : Hid (∀ V W : World, Tn Nil w2 V → V.grownBy W (some m) → W.cell? ⟨b, 1, none⟩ = some (.map (some m)) ∧ W.cell? ⟨yb, 0, none⟩ = some (.int .i64 a0) ∧ W.cell? ⟨yb, 1, none⟩ = some (.int .i64 a1) ∧ W.cell? ⟨yb, 2, none⟩ = some (.int .u32 a2) ∧ W.cell? ⟨yb, 3, none⟩ = some (.int .i64 a3) ∧ W.cell? ⟨yb, 4, none⟩ = some (.int .i64 a4) ∧ W.cell? ⟨yb, 5, none⟩ = some (.int .i64 a5) ∧ W.cell? ⟨yb, 6, none⟩ = some (.int .i64 a6) ∧ W.cell? ⟨yb, 7, none⟩ = some (.int .i64 a7) ∧ W.cell? ⟨yb, 8, none⟩ = some (.string a8) ∧ W.cell? ⟨yb, 9, none⟩ = some (.string a9)) := Lib.hid fun V W hV hW => by
      have q := (HY2.out.tn hV (fun e => e)).kept hW (fun e => by injection e with e; have := HNE.out.2.2.2.2.1; have := HYB.out; omega)
      exact ⟨(((HL.out _ (HT2.out.trans hV)).1).kept hW (fun e => by injection e with e; exact HNE.out.1 e.symm)).cell 1 rfl, q.cell 0 rfl, q.cell 1 rfl, q.cell 2 rfl, q.cell 3 rfl, q.cell 4 rfl, q.cell 5 rfl, q.cell 6 rfl, q.cell 7 rfl, q.cell 8 rfl, q.cell 9 rfl⟩
    have dw : Tn Nil w2 w2.drew := (Tn.refl _ _).drew
    obtain ⟨k0, k1, k2, k3, k4, k5, k6, k7, k8, k9, k10⟩ := KP.out _ _ (Tn.refl _ _) dw
    have QQ := Lib.hid dw
    clear dw
    go_region_held3 (fun W => W.cell? ⟨b, 1, none⟩ = some (.map (some m)) ∧ W.cell? ⟨yb, 0, none⟩ = some (.int .i64 a0) ∧ W.cell? ⟨yb, 1, none⟩ = some (.int .i64 a1) ∧ W.cell? ⟨yb, 2, none⟩ = some (.int .u32 a2) ∧ W.cell? ⟨yb, 3, none⟩ = some (.int .i64 a3) ∧ W.cell? ⟨yb, 4, none⟩ = some (.int .i64 a4) ∧ W.cell? ⟨yb, 5, none⟩ = some (.int .i64 a5) ∧ W.cell? ⟨yb, 6, none⟩ = some (.int .i64 a6) ∧ W.cell? ⟨yb, 7, none⟩ = some (.int .i64 a7) ∧ W.cell? ⟨yb, 8, none⟩ = some (.string a8) ∧ W.cell? ⟨yb, 9, none⟩ = some (.string a9))
      (first | go_keep | with_reducible exact KS.out | with_reducible exact KS5.out)
      (((with_reducible refine (HS.out _).mono ?_); rintro e w4 ⟨rfl, g4⟩; have QN := Lib.hid (tn_below Nil g4); obtain ⟨w5, hrun, hm5, hg5⟩ := HP.out w4 (HT2.out.trans (QQ.out.trans QN.out)) 0; have HM5 := Lib.hid hm5; have HG5 := Lib.hid hg5; have HT4 := Lib.hid (HT2.out.trans (QQ.out.trans QN.out)); have HY4 := Lib.hid (HY2.out.tn (QQ.out.trans QN.out) (fun e => e)); have HX4 := Lib.hid (HX2.out.tn (QQ.out.trans QN.out) (fun e => e)); have KS := Lib.hid (KP.out _ _ QQ.out QN.out); have KS5 := Lib.hid (KQ.out _ _ (QQ.out.trans QN.out) hg5); clear g4 hm5 hg5))
    have HT5 : Hid (Tn (fun i => i = m) w w5) := Lib.hid ((HT4.out.mono (fun _ _ e => e.elim)).trans (tn_grown HG5.out (fun g e => by injection e with e; exact e.symm)))
    have HY5 := Lib.hid (HY4.out.kept HG5.out (fun e => by injection e with e; have := HNE.out.2.2.2.2.1; have := HYB.out; omega))
    have HX5 := Lib.hid (HX4.out.kept HG5.out (fun e => by injection e with e; have := HNE.out.2.2.2.2.1; omega))
    have HC5 := Lib.hid (((HL.out _ HT4.out).1).kept HG5.out (fun e => by injection e with e; exact HNE.out.1 e.symm))
    have HQ5 := Lib.hid (((HL.out _ HT4.out).2.2).tn (tn_grown (c := fun i => i = m) HG5.out (fun g e => by injection e with e; exact e.symm)) (fun g hg e => HNE.out.2.2.1 (by rw [hg, e])))
    clear KS KS5 KP KQ QQ QN HT4 HY4 HX4 HG5 hrun k0 k1 k2 k3 k4 k5 k6 k7 k8 k9 k10 HT2 HX2 HY2 HS HP HHD HL
    have b0 := HC5.out.cell 0 rfl
    obtain ⟨_, _, _, _, hv, _, _, hcs, hfr⟩ := HQ5.out.head (Nat.succ_pos _)
    injection hv with hv _ hc
    injection hv with hv
    injection hv with hv1 hv2
    subst hv1; subst hv2; subst hc
    have f0 := hfr o
    have p0 : w5.cell? ⟨g, o, none⟩ = some (ptv p) := hcs 0 _ rfl
    clear hfr hcs
    have t6 : Tn (fun i => i = g) w5 (w5.setCell ⟨g, o, none⟩ (.pointer none)) := (Tn.refl _ w5).set _ _ (fun _ => rfl)
    have HGN : Hid (g ≠ b ∧ g ≠ m ∧ g ≠ w.heap.size ∧ g ≠ yb) := Lib.hid ⟨fun e => HNE.out.2.1 (by rw [HRG.out, e]), fun e => HNE.out.2.2.1 (by rw [HRG.out, e]), by have := HGL.out; omega, by have := HGL.out; have := HYB.out; omega⟩
    have HT6 := Lib.hid ((HT5.out.mono (d := fun i => i = b ∨ i = m ∨ r = some i) (fun i _ e => .inr (.inl e))).trans' t6 (fun i _ e => .inr (.inr (by rw [HRG.out, show i = g from e]))))
    have HQ6 : Hid (Qu (w5.setCell ⟨g, o, none⟩ (.pointer none)) r 56 1 (.slice (some ⟨g, o, none⟩) (n + 1) cap) (n + 1) (.pointer none :: ps)) := Lib.hid (HQ5.out.set_ (j := 0) (by omega) (.pointer none))
    have HC6 := Lib.hid (HC5.out.tn t6 (fun e => HGN.out.1 e.symm))
    have HM6 := Lib.hid (HM5.out.tn t6 (fun e => HGN.out.2.1 e.symm))
    have HX6 := Lib.hid (HX5.out.tn t6 (fun e => HGN.out.2.2.1 e.symm))
    have HY6 := Lib.hid (HY5.out.tn t6 (fun e => HGN.out.2.2.2 e.symm))
    clear t6 HT5 HQ5 HC5 HX5 HY5 HM5
    go_upto_region 6 with fail
    clear b0 f0 p0
    generalize w5.setCell ⟨g, o, none⟩ (.pointer none) = w6 at *
    obtain ⟨v6, hsl, hq7, A6, c6, rfl⟩ := Qu.rest (t := 48) Try.underlying48 infoPt (by decide) HQ6.out
    have HQ7 : Hid (Qu w6 r 56 1 (.slice A6 n c6) n ps) := Lib.hid hq7
    have b0 := HC6.out.cell 0 rfl
    have f0 := HC6.out.free 0
    have t7 : Tn (fun i => i = b) w6 (w6.setCell ⟨b, 0, none⟩ (.slice A6 n c6)) := (Tn.refl _ w6).set _ _ (fun _ => rfl)
    have HC7 : Hid (At (w6.setCell ⟨b, 0, none⟩ (.slice A6 n c6)) b 50 [.slice A6 n c6, .map (some m)]) := Lib.hid (HC6.out.set_ 0 _)
    have HM7 := Lib.hid (HM6.out.tn t7 (fun e => HNE.out.1 e.symm))
    have HQ8 := Lib.hid (HQ7.out.tn t7 (fun g' hg e => HNE.out.2.1 (by rw [hg, e])))
    have HX7 := Lib.hid (HX6.out.tn t7 (fun e => by have := HNE.out.2.2.2.1; omega))
    have HY7 := Lib.hid (HY6.out.tn t7 (fun e => by have := HNE.out.2.2.2.1; have := HYB.out; omega))
    have HT7 := Lib.hid (HT6.out.trans' t7 (fun i _ e => .inl e))
    clear t7 HT6 HQ6 HC6 HX6 HY6 HM6 HQ7 hq7
    go_upto_region 7 with fail
    clear b0 f0 hsl
    generalize w6.setCell ⟨b, 0, none⟩ (.slice A6 n c6) = w7 at *
    have c0 : w7.cell? ⟨w.heap.size, 0, none⟩ = some (.int .i64 0) := HX7.out.cell 0 rfl
    have c1 : w7.cell? ⟨w.heap.size, 1, none⟩ = some (.int .i64 0) := HX7.out.cell 1 rfl
    have c2 : w7.cell? ⟨w.heap.size, 2, none⟩ = some (.int .u32 0) := HX7.out.cell 2 rfl
    have c3 : w7.cell? ⟨w.heap.size, 3, none⟩ = some (.int .i64 0) := HX7.out.cell 3 rfl
    have c4 : w7.cell? ⟨w.heap.size, 4, none⟩ = some (.int .i64 0) := HX7.out.cell 4 rfl
    have c5 : w7.cell? ⟨w.heap.size, 5, none⟩ = some (.int .i64 0) := HX7.out.cell 5 rfl
    have c6 : w7.cell? ⟨w.heap.size, 6, none⟩ = some (.int .i64 0) := HX7.out.cell 6 rfl
    have c7 : w7.cell? ⟨w.heap.size, 7, none⟩ = some (.int .i64 0) := HX7.out.cell 7 rfl
    have c8 : w7.cell? ⟨w.heap.size, 8, none⟩ = some (.string ⟨#[]⟩) := HX7.out.cell 8 rfl
    have c9 : w7.cell? ⟨w.heap.size, 9, none⟩ = some (.string ⟨#[]⟩) := HX7.out.cell 9 rfl
    have f0 := HX7.out.free 0
    have f1 := HX7.out.free 1
    have f2 := HX7.out.free 2
    have f3 := HX7.out.free 3
    have f4 := HX7.out.free 4
    have f5 := HX7.out.free 5
    have f6 := HX7.out.free 6
    have f7 := HX7.out.free 7
    have f8 := HX7.out.free 8
    have f9 := HX7.out.free 9
    have y0 := HY7.out.cell 0 rfl
    have y1 := HY7.out.cell 1 rfl
    have y2 := HY7.out.cell 2 rfl
    have y3 := HY7.out.cell 3 rfl
    have y4 := HY7.out.cell 4 rfl
    have y5 := HY7.out.cell 5 rfl
    have y6 := HY7.out.cell 6 rfl
    have y7 := HY7.out.cell 7 rfl
    have y8 := HY7.out.cell 8 rfl
    have y9 := HY7.out.cell 9 rfl
    have t8 := dset_tn w7 w.heap.size ⟨a0, a1, a2, a3, a4, a5, a6, a7, a8, a9⟩
    have HX8 := Lib.hid (dset_at (d0 := dgZ) ⟨a0, a1, a2, a3, a4, a5, a6, a7, a8, a9⟩ HX7.out)
    have HC8 := Lib.hid (HC7.out.tn t8 (fun e => by have := HNE.out.2.2.2.1; omega))
    have HM8 := Lib.hid (HM7.out.tn t8 (fun e => by have := HNE.out.2.2.2.2.1; omega))
    have HQ9 := Lib.hid (HQ8.out.tn t8 (fun g' hg e => by have := HNE.out.2.2.2.2.2 g' hg; omega))
    have HT8 := Lib.hid (HT7.out.trans' t8 (fun i hi e => by rw [show i = w.heap.size from e] at hi; exact absurd hi (Nat.lt_irrefl _)))
    clear t8
    go_wp2_with fail
    change bodyPost _ _ _ _ _ (dset w7 w.heap.size ⟨a0, a1, a2, a3, a4, a5, a6, a7, a8, a9⟩)
    generalize dset w7 w.heap.size ⟨a0, a1, a2, a3, a4, a5, a6, a7, a8, a9⟩ = w8 at *
    exact bodyPost_ret (v := .tuple #[Dg.val ⟨a0, a1, a2, a3, a4, a5, a6, a7, a8, a9⟩, .bool true]) (res_next (d := ⟨a0, a1, a2, a3, a4, a5, a6, a7, a8, a9⟩) rfl rfl HX8.out) rfl ⟨rfl, _, HC8.out, by have h := HQ9.out; rw [HRG.out] at h; exact h, HM8.out, by have h := HT8.out; simp only [HRG.out, Option.some.injEq] at h; exact h⟩
  refine key.mono ?_
  rintro e w' ⟨rfl, v, k1, k2, k3, t⟩
  refine ⟨rfl, h.tail hq0 hro k1 k2 k3 t, t.mono fun i _ e => ?_⟩
  rcases e with rfl | rfl | e
  · exact h.cb
  · exact h.cm
  · exact hro i e
end Go.Proofs.Ytmnbkghihdbepaa

/- Proved: what the document's set answers. Conditions: those that the theorems name. -/
import Derived.Test.YtplbdeaoeocgkaaDpLen
namespace Go.Proofs.Ytplbdeaoeocgkaa
open Go.ChangeShapes Go.WideShapes Go.ChangeAt Go.RowKit

theorem pset_below {W w : World} {B b j : Nat} {v : Value} (h : Below B w W) (hw : B ≤ w.heap.size) (hb : B ≤ b) : Below B w (W.setCell ⟨b, j, none⟩ v) := h.grown (grown_set W ⟨b, j, none⟩ v) (Nat.le_trans hw h.size) (fun k e => by injection e with e; show B ≤ k; rw [← e]; exact hb)
def pset3 (W : World) (b : Nat) (x y z : Value) : World := ((W.setCell ⟨b, 0, none⟩ x).setCell ⟨b, 1, none⟩ y).setCell ⟨b, 2, none⟩ z
theorem pset3_at {W : World} {b : Nat} {t : TypeId} {a c d x y z : Value} (A : At W b t [a, c, d]) : At (pset3 W b x y z) b t [x, y, z] := ((A.set_ 0 _).set_ 1 _).set_ 2 _
theorem pset3_below {W w : World} {B b : Nat} {x y z : Value} (h : Below B w W) (hw : B ≤ w.heap.size) (hb : B ≤ b) : Below B w (pset3 W b x y z) := pset_below (pset_below (pset_below h hw hb) hw hb) hw hb
theorem pset3_far {W : World} {b g : Nat} {t : TypeId} {xs : List Value} {x y z : Value} (A : At W g t xs) (h : g ≠ b) : At (pset3 W b x y z) g t xs := ((A.far (p := ⟨b, 0, none⟩) h x).far (p := ⟨b, 1, none⟩) h y).far (p := ⟨b, 2, none⟩) h z
def pset5 (W : World) (b o : Nat) (y : Qv) : World := ((((W.setCell ⟨b, o, none⟩ (.int .i64 y.q.id)).setCell ⟨b, o + 1, none⟩ (.int .i64 y.q.w)).setCell ⟨b, o + 2, none⟩ (.int .i64 y.q.d)).setCell ⟨b, o + 3, none⟩ (.bool y.q.s)).setCell ⟨b, o + 4, none⟩ (.slice y.A y.q.l.length y.c)
def lset5 (L : List Value) (o : Nat) (y : Qv) : List Value := ((((L.set o (.int .i64 y.q.id)).set (o + 1) (.int .i64 y.q.w)).set (o + 2) (.int .i64 y.q.d)).set (o + 3) (.bool y.q.s)).set (o + 4) (.slice y.A y.q.l.length y.c)
theorem pset5_at {W : World} {b o : Nat} {t : TypeId} {L : List Value} {y : Qv} (A : At W b t L) : At (pset5 W b o y) b t (lset5 L o y) := ((((A.set_ o _).set_ (o + 1) _).set_ (o + 2) _).set_ (o + 3) _).set_ (o + 4) _
theorem pset5_far {W : World} {b o g : Nat} {t : TypeId} {xs : List Value} {y : Qv} (A : At W g t xs) (h : g ≠ b) : At (pset5 W b o y) g t xs :=
  ((((A.far (p := ⟨b, o, none⟩) h _).far (p := ⟨b, o + 1, none⟩) h _).far (p := ⟨b, o + 2, none⟩) h _).far (p := ⟨b, o + 3, none⟩) h _).far (p := ⟨b, o + 4, none⟩) h _
theorem pset5_below {W w : World} {B b o : Nat} {y : Qv} (h : Below B w W) (hw : B ≤ w.heap.size) (hb : B ≤ b) : Below B w (pset5 W b o y) := pset_below (pset_below (pset_below (pset_below (pset_below h hw hb) hw hb) hw hb) hw hb) hw hb
theorem lset5_take (L : List Value) (n o : Nat) (y : Qv) : (lset5 L o y).take n = lset5 (L.take n) o y := by
  unfold lset5
  simp only [List.take_set]
theorem lset5_q (xs : List Qv) (i : Nat) (y : Qv) (h : i < xs.length) : lset5 (qcells xs) (i * 5) y = qcells (xs.set i y) := by
  induction xs generalizing i with
  | nil => simp at h
  | cons x t ih =>
    cases i with
    | zero => rfl
    | succ i =>
      have := ih i (by simpa using h)
      show lset5 (x.cells ++ qcells t) ((i + 1) * 5) y = x.cells ++ qcells (t.set i y)
      rw [← this, show (i + 1) * 5 = i * 5 + 5 by omega]
      rfl
/-- An own row of queues, as a block. -/
theorem qrow_at {w : World} {base n : Nat} {v : Value} {xs : List Qv} (h : w.ownsRow base 68 5 v n (qcells xs)) (hn : 0 < n) :
    ∃ g cap L, v = .slice (some ⟨g, 0, none⟩) n cap ∧ base ≤ g ∧ n ≤ cap ∧ At w g 68 L ∧ L.take (n * 5) = qcells xs := by
  obtain ⟨hl, hv⟩ := h
  rcases hv with ⟨_, h0⟩ | ⟨g, cap, cur, rfl, hb, hg, h1, h2, h3, h4⟩
  · omega
  · exact ⟨g, cap, cur.toList, rfl, hb, h1, by unfold At; simpa using hg, h4⟩
theorem cl_at {w : World} {c : Nat → Prop} {g n : Nat} {t : TypeId} {L xs : List Value} (h : At w g t L) (hc : c g) (e : L.take n = xs) : Cl w c (some ⟨g, 0, none⟩) xs := fun _ => ⟨g, 0, rfl, hc, h.lt, fun j u hj => by
  rw [Nat.zero_add]
  rw [← e, List.getElem?_take] at hj
  split at hj
  · exact h.cell j hj
  · cases hj⟩
theorem res_rset {T : Array Value} {W : World} {b : Nat} {s : Sv} (h2 : T.getD 6 undef = .pointer (some ⟨b, 0, none⟩)) (h : At W b 31 s.cells) : (results Try.f29 T).run Try.prog W = .ok s.val W := by
  have h2' : T[6]?.getD undef = .pointer (some ⟨b, 0, none⟩) := by simpa using h2
  have c0 := h.cell 0 rfl
  have c1 := h.cell 1 rfl
  have c2 := h.cell 2 rfl
  simp [results, Try.results29, h2', c0, c1, c2, go_sem, Sv.val]
set_option maxRecDepth 100000 in
set_option maxHeartbeats 1600000 in
theorem rset_any {w : World} {c : Nat → Prop} {s : Sv} (h : Sg w c s) (hc : ∀ g, w.heap.size ≤ g → c g) (hb : s.xs.length ≤ 256) {i : Nat} (hi : i < s.xs.length) (y : Qv) (hy : Ql w c y) :
    Calls Try.prog 29 #[s.val, .int .i64 i, y.val] w fun e w' => ∃ A n, e = .returned ({ s with xs := s.xs.set i y, A := A, c := n } : Sv).val ∧ Sg w' c { s with xs := s.xs.set i y, A := A, c := n } ∧ Below w.heap.size w w' := by
  obtain ⟨Q, xs, A, n, rd, B, d⟩ := s
  obtain ⟨⟨qi, qw, qd, qs, ql⟩, yA, yc⟩ := y
  have A1 := ((At.new w 31 [.int .i64 Q, .slice A xs.length n, .slice B rd.length d]).alloc (.cells #[.int .i64 qi, .int .i64 qw, .int .i64 qd, .bool qs, .slice yA ql.length yc] 68)).alloc (.cells #[.int .i64 0, .slice none 0 0, .slice none 0 0] 31)
  have A2 := (At.new (w.alloc (.cells #[.int .i64 Q, .slice A xs.length n, .slice B rd.length d] 31)) 68 [.int .i64 qi, .int .i64 qw, .int .i64 qd, .bool qs, .slice yA ql.length yc]).alloc (.cells #[.int .i64 0, .slice none 0 0, .slice none 0 0] 31)
  have A3 := At.new ((w.alloc (.cells #[.int .i64 Q, .slice A xs.length n, .slice B rd.length d] 31)).alloc (.cells #[.int .i64 qi, .int .i64 qw, .int .i64 qd, .bool qs, .slice yA ql.length yc] 68)) 31 [.int .i64 0, .slice none 0 0, .slice none 0 0]
  obtain ⟨W, HW⟩ : ∃ W, W = ((w.alloc (.cells #[.int .i64 Q, .slice A xs.length n, .slice B rd.length d] 31)).alloc (.cells #[.int .i64 qi, .int .i64 qw, .int .i64 qd, .bool qs, .slice yA ql.length yc] 68)).alloc (.cells #[.int .i64 0, .slice none 0 0, .slice none 0 0] 31) := ⟨_, rfl⟩
  have hbel : Below w.heap.size w W := by rw [HW]; exact (((Below.refl _ _).alloc (Nat.le_refl _) _).alloc (by simp) _).alloc (by simp; omega) _
  have hs1 : (w.alloc (.cells #[.int .i64 Q, .slice A xs.length n, .slice B rd.length d] 31)).heap.size = w.heap.size + 1 := by simp
  have hs2 : ((w.alloc (.cells #[.int .i64 Q, .slice A xs.length n, .slice B rd.length d] 31)).alloc (.cells #[.int .i64 qi, .int .i64 qw, .int .i64 qd, .bool qs, .slice yA ql.length yc] 68)).heap.size = w.heap.size + 1 + 1 := by simp
  have hs3 : W.heap.size = w.heap.size + 3 := by rw [HW]; simp
  erw [hs1] at A2
  erw [hs2] at A3
  rw [← HW] at A1
  erw [← HW] at A2
  erw [← HW] at A3
  obtain ⟨v', w4, hr, ho, hg⟩ := run_copy (ty := 28) Try.underlying28 Try.infoQ rfl (by decide) (World.ownsRow_nil W W.heap.size 68 5) (c := c) (A := A) (m := xs.length) (cp := n) (ys := qcells xs) (qcells_len xs) (h.qs.below hbel) h.qn (qcells_one xs) (by have : xs.length ≤ 256 := hb; omega) (by decide) (Nat.le_refl _)
  rw [Nat.zero_add, List.nil_append] at ho
  obtain ⟨g, cap, L, rfl, hgb, hcap, A4, hL⟩ := qrow_at ho (by have : i < xs.length := hi; omega)
  have hb4 : Below W.heap.size W w4 := below_grown hg (Nat.le_refl _) (by simp [Value.ownBlock])
  have A1' := A1.below hb4 A1.lt
  have A2' := A2.below hb4 A2.lt
  have A3' := A3.below hb4 A3.lt
  have hi' : i < xs.length := hi
  have hLl : L.length ≥ xs.length * 5 := by
    have := congrArg List.length hL
    rw [List.length_take, qcells_len] at this
    omega
  have HC4 := Lib.hid (And.intro A1' (And.intro A2' (And.intro A3' A4)))
  have HB4 : Hid (Below w.heap.size w w4) := Lib.hid (hbel.trans (hb4.mono hbel.size))
  have HI := Lib.hid (And.intro hi' hL)
  have HS := Lib.hid h
  have HY := Lib.hid hy
  have HCC := Lib.hid hc
  have HGB : Hid (w.heap.size + 3 ≤ g) := Lib.hid (by omega)
  have c1 := A1.cell 1 rfl
  have hrc : ∀ r, r < 5 → ∃ u, w4.cell? ⟨g, i * 5 + r, none⟩ = some u := fun r hr => ⟨_, A4.cell (i * 5 + r) (List.getElem?_eq_getElem (by omega))⟩
  have HRC := Lib.hid hrc
  have hlt' : (i : Int) < (xs.length : Int) := by omega
  have hi0 : (0 : Int) ≤ (i : Int) := Int.natCast_nonneg _
  have HCAP := Lib.hid hcap
  clear A1 A2 A3 A4 A1' A2' A3' hgb hcap hL hLl hb4 hbel hs1 hs2 hs3 ho hg hrc h hc hb hi hi' hy
  show Calls Try.prog 29 #[.agg #[.int .i64 Q, .slice A xs.length n, .slice B rd.length d], .int .i64 i, .agg #[.int .i64 qi, .int .i64 qw, .int .i64 qd, .bool qs, .slice yA ql.length yc]] w _
  generalize hm : xs.length = m at *
  have HM := Lib.hid hm
  clear hm
  go_enter Try.func29, Try.ntmps29
  go_upto_region 3 with (rw [← HW]; at_builtin; refine Lib.wpList_append_run _ rfl _ _ _ _ rfl _ _ rfl rfl _ _ hr ?_)
  have HB3 : Hid (w.heap.size + 1 + 1 = w.heap.size + 1 + 1) := Lib.hid rfl
  have y0 := HC4.out.2.1.cell 0 rfl
  have y1 := HC4.out.2.1.cell 1 rfl
  have y2 := HC4.out.2.1.cell 2 rfl
  have y3 := HC4.out.2.1.cell 3 rfl
  have y4 := HC4.out.2.1.cell 4 rfl
  obtain ⟨u0, r0⟩ := HRC.out 0 (by decide)
  obtain ⟨u1, r1⟩ := HRC.out 1 (by decide)
  obtain ⟨u2, r2⟩ := HRC.out 2 (by decide)
  obtain ⟨u3, r3⟩ := HRC.out 3 (by decide)
  obtain ⟨u4, r4⟩ := HRC.out 4 (by decide)
  dsimp only [Nat.add_zero] at r0
  have f0 := HC4.out.2.2.2.free (i * 5)
  have f1 := HC4.out.2.2.2.free (i * 5 + 1)
  have f2 := HC4.out.2.2.2.free (i * 5 + 2)
  have f3 := HC4.out.2.2.2.free (i * 5 + 3)
  have f4 := HC4.out.2.2.2.free (i * 5 + 4)
  clear c1 hr HW
  go_upto_region 4 with fail
  change Code.wp _ _ _ _ (pset5 w4 g (i * 5) ⟨⟨qi, qw, qd, qs, ql⟩, yA, yc⟩)
  have HR5 := Lib.hid (pset5_at (o := i * 5) (y := ⟨⟨qi, qw, qd, qs, ql⟩, yA, yc⟩) HC4.out.2.2.2)
  have HA5 := Lib.hid (pset5_far (o := i * 5) (y := ⟨⟨qi, qw, qd, qs, ql⟩, yA, yc⟩) HC4.out.1 (show w.heap.size ≠ g by have := HGB.out; omega))
  have HT5 := Lib.hid (pset5_far (o := i * 5) (y := ⟨⟨qi, qw, qd, qs, ql⟩, yA, yc⟩) HC4.out.2.2.1 (show w.heap.size + 1 + 1 ≠ g by have := HGB.out; omega))
  have HB5 := Lib.hid (pset5_below (o := i * 5) (y := ⟨⟨qi, qw, qd, qs, ql⟩, yA, yc⟩) HB4.out (Nat.le_refl _) (by have := HGB.out; omega : w.heap.size ≤ g))
  clear y0 y1 y2 y3 y4 r0 r1 r2 r3 r4 f0 f1 f2 f3 f4 HC4 HRC
  generalize pset5 w4 g (i * 5) ⟨⟨qi, qw, qd, qs, ql⟩, yA, yc⟩ = w5 at *
  have a1 := HA5.out.cell 1 rfl
  have g1 := HA5.out.free 1
  have A6 := HA5.out.set_ 1 (.slice (some ⟨g, 0, none⟩) m cap)
  have T6 := HT5.out.far (p := ⟨w.heap.size, 1, none⟩) (by show w.heap.size + 1 + 1 ≠ w.heap.size; omega) (.slice (some ⟨g, 0, none⟩) m cap)
  have HR6 := Lib.hid (HR5.out.far (p := ⟨w.heap.size, 1, none⟩) (by have := HGB.out; show g ≠ w.heap.size; omega) (.slice (some ⟨g, 0, none⟩) m cap))
  have d0 := A6.cell 0 rfl
  have d1 := A6.cell 1 rfl
  have d2 := A6.cell 2 rfl
  have t0 := T6.cell 0 rfl
  have t1 := T6.cell 1 rfl
  have t2 := T6.cell 2 rfl
  have h0 := T6.free 0
  have h1 := T6.free 1
  have h2 := T6.free 2
  have HT6 := Lib.hid T6
  have HB6 := Lib.hid (pset_below (j := 1) (v := .slice (some ⟨g, 0, none⟩) m cap) HB5.out (Nat.le_refl _) (Nat.le_refl w.heap.size))
  clear A6 T6 HA5 HT5 HR5 HB5
  go_wp2_with fail
  have HR7 := Lib.hid (pset3_far (b := w.heap.size + 1 + 1) (x := .int .i64 Q) (y := .slice (some ⟨g, 0, none⟩) m cap) (z := .slice B rd.length d) HR6.out (by have := HGB.out; omega))
  have HT7 := pset3_at (x := .int .i64 Q) (y := .slice (some ⟨g, 0, none⟩) m cap) (z := .slice B rd.length d) HT6.out
  have HB7 := pset3_below (b := w.heap.size + 1 + 1) (x := .int .i64 Q) (y := .slice (some ⟨g, 0, none⟩) m cap) (z := .slice B rd.length d) HB6.out (Nat.le_refl _) (by omega)
  change bodyPost _ _ _ _ _ (pset3 (w5.setCell ⟨w.heap.size, 1, none⟩ (.slice (some ⟨g, 0, none⟩) m cap)) (w.heap.size + 1 + 1) (.int .i64 Q) (.slice (some ⟨g, 0, none⟩) m cap) (.slice B rd.length d))
  generalize pset3 (w5.setCell ⟨w.heap.size, 1, none⟩ (.slice (some ⟨g, 0, none⟩) m cap)) (w.heap.size + 1 + 1) (.int .i64 Q) (.slice (some ⟨g, 0, none⟩) m cap) (.slice B rd.length d) = w9 at *
  have hset : (xs.set i ⟨⟨qi, qw, qd, qs, ql⟩, yA, yc⟩).length = m := by rw [List.length_set, HM.out]
  have hrow : Cl w9 c (some ⟨g, 0, none⟩) (qcells (xs.set i ⟨⟨qi, qw, qd, qs, ql⟩, yA, yc⟩)) := cl_at (n := m * 5) HR7.out (HCC.out g (by have := HGB.out; omega)) (by
    rw [lset5_take, HI.out.2]
    exact lset5_q xs i _ (by rw [HM.out]; exact HI.out.1))
  have hS := HS.out.below HB7
  have hql : ∀ x ∈ xs.set i ⟨⟨qi, qw, qd, qs, ql⟩, yA, yc⟩, Ql w9 c x := fun x hx => by
    rcases List.mem_or_eq_of_mem_set hx with hx | rfl
    · exact hS.ql x hx
    · exact HY.out.below HB7
  generalize xs.set i ⟨⟨qi, qw, qd, qs, ql⟩, yA, yc⟩ = ys at *
  have hget : At w9 (w.heap.size + 1 + 1) 31 (Sv.cells ⟨Q, ys, some ⟨g, 0, none⟩, cap, rd, B, d⟩) := by
    show At _ _ _ [.int .i64 Q, .slice (some ⟨g, 0, none⟩) ys.length cap, .slice B rd.length d]
    rw [hset]; exact HT7
  refine bodyPost_ret (v := (Sv.val ⟨Q, ys, some ⟨g, 0, none⟩, cap, rd, B, d⟩)) (res_rset rfl hget) rfl ⟨_, _, rfl, ⟨hrow, (fun e => nomatch e), ?_, hql, hS.rs, hS.rn, hS.rc⟩, HB7⟩
  show ys.length ≤ cap
  rw [hset]; exact HCAP.out
end Go.Proofs.Ytplbdeaoeocgkaa

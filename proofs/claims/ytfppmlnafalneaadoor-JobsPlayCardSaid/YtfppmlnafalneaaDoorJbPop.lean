/- Proved: what Pop of package jobs leaves. Conditions: those that the theorems name. -/
import Derived.Test.YtfppmlnafalneaaDoorJbPush
namespace Go.Proofs.YtfppmlnafalneaaDoor
open Go.ChangeShapes Go.WideShapes Go.ChangeAt Go.RowKit Go.MuLone

theorem res_pop {T : Array Value} {W : World} {b : Nat} {x : Jb} {z : Bool} (h2 : T.getD 2 undef = .pointer (some ⟨b, 0, none⟩)) (h3 : T.getD 3 undef = .bool z) (h : At W b 37 [.int .i64 x.s, .int .u32 x.b, .int .i64 x.k, .int .i64 x.n, .int .i64 x.l, .slice none 0 0]) : (results Tryd.f8 T).run Tryd.prog W = .ok (.tuple #[x.val, .bool z]) W := by
  have c0 := h.cell 0 rfl
  have c1 := h.cell 1 rfl
  have c2 := h.cell 2 rfl
  have c3 := h.cell 3 rfl
  have c4 := h.cell 4 rfl
  have c5 := h.cell 5 rfl
  rw [results_cell_tmp rfl, h2, h3]
  simp [go_sem, asAddr, c0, c1, c2, c3, c4, c5, Result.andThen]
def set6 (W : World) (g o : Nat) (x : Jb) : World := (((((W.setCell ⟨g, o, none⟩ (.int .i64 x.s)).setCell ⟨g, o + 1, none⟩ (.int .u32 x.b)).setCell ⟨g, o + 2, none⟩ (.int .i64 x.k)).setCell ⟨g, o + 3, none⟩ (.int .i64 x.n)).setCell ⟨g, o + 4, none⟩ (.int .i64 x.l)).setCell ⟨g, o + 5, none⟩ (.slice none 0 0)
theorem set6_tn (W : World) (g o : Nat) (x : Jb) : Tn (fun i => i = g) W (set6 W g o x) :=
  ((((((Tn.refl (fun i => i = g) W).set ⟨g, o, none⟩ _ (fun _ => rfl)).set ⟨g, o + 1, none⟩ _ (fun _ => rfl)).set ⟨g, o + 2, none⟩ _ (fun _ => rfl)).set ⟨g, o + 3, none⟩ _ (fun _ => rfl)).set ⟨g, o + 4, none⟩ _ (fun _ => rfl)).set ⟨g, o + 5, none⟩ _ (fun _ => rfl)
theorem set6_at {W : World} {b : Nat} {x y : Jb} (h : At W b 37 y.cells) : At (set6 W b 0 x) b 37 x.cells := (((((h.set_ 0 _).set_ 1 _).set_ 2 _).set_ 3 _).set_ 4 _).set_ 5 _
theorem set6_qu {W : World} {r : Option Nat} {g o cap n : Nat} {x y : Jb} {xs : List Value} (h : Qu W r 37 6 (.slice (some ⟨g, o, none⟩) (n + 1) cap) (n + 1) (y.cells ++ xs)) :
    Qu (set6 W g o x) r 37 6 (.slice (some ⟨g, o, none⟩) (n + 1) cap) (n + 1) (x.cells ++ xs) :=
  (((((h.set_ (j := 0) (by omega) _).set_ (j := 1) (by omega) _).set_ (j := 2) (by omega) _).set_ (j := 3) (by omega) _).set_ (j := 4) (by omega) _).set_ (j := 5) (by omega) _
/-- a job lies there, and may be written. -/
structure Six (w : World) (g o : Nat) (x : Jb) : Prop where
  lt : g < w.heap.size
  c0 : w.cell? ⟨g, o, none⟩ = some (.int .i64 x.s)
  c1 : w.cell? ⟨g, o + 1, none⟩ = some (.int .u32 x.b)
  c2 : w.cell? ⟨g, o + 2, none⟩ = some (.int .i64 x.k)
  c3 : w.cell? ⟨g, o + 3, none⟩ = some (.int .i64 x.n)
  c4 : w.cell? ⟨g, o + 4, none⟩ = some (.int .i64 x.l)
  c5 : w.cell? ⟨g, o + 5, none⟩ = some (.slice none 0 0)
  f : ∀ j, w.frozen? ⟨g, j, none⟩ = false
theorem Six.tn {c : Nat → Prop} {w w' : World} {g o : Nat} {x : Jb} (h : Six w g o x) (t : Tn c w w') (hc : ¬ c g) : Six w' g o x := by
  have hb := t.block g h.lt hc
  have cell : ∀ j, w'.cell? ⟨g, j, none⟩ = w.cell? ⟨g, j, none⟩ := fun j => World.cell?_of_block (a := ⟨g, j, none⟩) hb
  refine ⟨Nat.lt_of_lt_of_le h.lt t.size, ?_, ?_, ?_, ?_, ?_, ?_, fun j => ?_⟩
  · rw [cell]; exact h.c0
  · rw [cell]; exact h.c1
  · rw [cell]; exact h.c2
  · rw [cell]; exact h.c3
  · rw [cell]; exact h.c4
  · rw [cell]; exact h.c5
  · have := h.f j
    unfold World.frozen? at this ⊢
    rw [hb]; exact this
theorem Qe.six {w : World} {b : Nat} {r : Option Nat} {room : Int} {S : List Jb} {cl : Bool} {ls : Int} {v : Value} {x : Jb} (h : Qe w b r room (x :: S) cl ls v) :
    ∃ g o cap, v = .slice (some ⟨g, o, none⟩) (S.length + 1) cap ∧ r = some g ∧ g ≠ b ∧ Six w g o x := by
  obtain ⟨g, o, cap, hrg, hv, hgl, hle, hc, hf⟩ := h.row.head (by simp)
  exact ⟨g, o, cap, hv, hrg, h.ne g hrg, ⟨hgl, hc 0 _ rfl, hc 1 _ rfl, hc 2 _ rfl, hc 3 _ rfl, hc 4 _ rfl, hc 5 _ rfl, hf⟩⟩
theorem Qe.clear {w : World} {b : Nat} {r : Option Nat} {room : Int} {S : List Jb} {cl : Bool} {ls : Int} {g o cap : Nat} {x : Jb} (h : Qe w b r room (x :: S) cl ls (.slice (some ⟨g, o, none⟩) (S.length + 1) cap)) (hr : r = some g) (y : Jb) :
    Qe (set6 w g o y) b r room (y :: S) cl ls (.slice (some ⟨g, o, none⟩) (S.length + 1) cap) :=
  ⟨h.at_.tn (set6_tn w g o y) (fun e => h.ne g hr e.symm), set6_qu (x := y) h.row, h.ne⟩
theorem Qe.rest {w : World} {b : Nat} {r : Option Nat} {room : Int} {S : List Jb} {cl : Bool} {ls : Int} {v : Value} {x : Jb} (h : Qe w b r room (x :: S) cl ls v) :
    ∃ A cap, (∀ W : World, (Instr.slice 50 v (some (.int .i64 1)) none none).run Tryd.prog W = .ok (.slice A S.length cap) W) ∧ Qe (w.setCell ⟨b, 3, none⟩ (.slice A S.length cap)) b r room S cl ls (.slice A S.length cap) := by
  obtain ⟨v', hrun, hq, A, cap, rfl⟩ := Qu.rest Tryd.underlying50 infoJob (by decide) h.row
  exact ⟨A, cap, hrun, h.at_.set_ 3 _, (show Qu w r 37 6 (.slice A S.length cap) S.length (jcells S) from hq).tn (tn_set w b 3 _) h.ne, h.ne⟩
/-- what Pop tells. -/
def popJ (S : List Jb) : Jb := match S with | [] => jb0 | x :: _ => x
def popB (S : List Jb) : Bool := match S with | [] => false | _ :: _ => true
section
variable {w : World} {b : Nat} {r : Option Nat} {room : Int} {S : List Jb} {cl : Bool} {ls : Int} {v : Value} {B : Nat} {a0 a1 : Addr}
set_option maxRecDepth 100000 in
theorem jb_pop_none (w : World) :
    Calls Tryd.prog 8 #[.pointer none] w fun e w' => e = .returned (.tuple #[jb0.val, .bool false]) ∧ Tn Nil w w' := by
  have HX := Lib.hid (At.new w 37 jb0.cells)
  have HT := Lib.hid ((Tn.refl Nil w).alloc (.cells jb0.cells.toArray 37))
  have HB : Hid (szW w ≤ w.heap.size) := Lib.hid (Nat.le_refl _)
  go_enter_defers Tryd.func8, Tryd.ntmps8
  go_wp2_with fail
  exact ⟨_, res_pop (x := jb0) rfl rfl HX.out, rfl, HT.out⟩
set_option maxRecDepth 100000 in
set_option maxHeartbeats 3200000 in
theorem jb_pop_empty (h : Qe w b r room [] cl 0 v) :
    Calls Tryd.prog 8 #[ptv b] w fun e w' => e = .returned (.tuple #[jb0.val, .bool false]) ∧ (∃ v', Qe w' b r room [] cl 0 v') ∧ Tn (Mine b r) w w' := by
  have HX0 := Lib.hid (At.new w 37 jb0.cells)
  have TA : Tn Nil w (w.alloc (.cells jb0.cells.toArray 37)) := (Tn.refl Nil w).alloc _
  have H0 := Lib.hid (h.free TA)
  have T0 := Lib.hid (TA.mono (d := Mine b r) fun _ _ e => e.elim)
  have HB : Hid (b ≠ w.heap.size) := Lib.hid (Nat.ne_of_lt h.at_.lt)
  have HR : Hid (∀ g, r = some g → g ≠ w.heap.size) := Lib.hid fun g hg => Nat.ne_of_lt (h.row.lt hg)
  have HS : Hid (szW w ≤ w.heap.size) := Lib.hid (Nat.le_refl _)
  obtain ⟨A, cap, rfl⟩ := h.row.form
  clear h TA
  rw [show jb0.cells = [.int .i64 0, .int .u32 0, .int .i64 0, .int .i64 0, .int .i64 0, .slice none 0 0] from rfl] at HX0 H0 T0
  go_enter_defers Tryd.func8, Tryd.ntmps8
  go_wp2_with fail
  generalize w.heap.size = bx at *
  generalize w.alloc (.cells #[.int .i64 0, .int .u32 0, .int .i64 0, .int .i64 0, .int .i64 0, .slice none 0 0] 37) = w1 at *
  refine (jb_lock H0.out).mono ?_; rintro e w2 ⟨rfl, h2, t2⟩
  have H2 := Lib.hid h2
  have T2 := Lib.hid (T0.out.trans (t2.mono (d := Mine b r) fun _ _ e => .inl e))
  have HX2 := Lib.hid (HX0.out.tn t2 (fun e => HB.out e.symm))
  have c3 : w2.cell? ⟨b, 3, none⟩ = some (.slice A 0 cap) := h2.at_.cell 3 rfl
  clear h2 t2 HX0 H0 T0
  have x0 := HX2.out.cell 0 rfl
  have x1 := HX2.out.cell 1 rfl
  have x2 := HX2.out.cell 2 rfl
  have x3 := HX2.out.cell 3 rfl
  have x4 := HX2.out.cell 4 rfl
  have x5 := HX2.out.cell 5 rfl
  have f0 := HX2.out.free 0
  have f1 := HX2.out.free 1
  have f2 := HX2.out.free 2
  have f3 := HX2.out.free 3
  have f4 := HX2.out.free 4
  have f5 := HX2.out.free 5
  go_wp2_with fail
  have T3 := Lib.hid (T2.out.trans' (set6_tn w2 bx 0 jb0) (fun i hi e => by have := HS.out; unfold szW at this; rw [show i = bx from e] at hi; omega))
  have HX3 := Lib.hid (set6_at (x := jb0) (y := jb0) HX2.out)
  have H3 := Lib.hid (H2.out.tn (set6_tn w2 bx 0 jb0) HB.out (fun g hg e => HR.out g hg e))
  change bodyPostD _ _ _ _ _ (set6 w2 bx 0 jb0)
  generalize set6 w2 bx 0 jb0 = w3 at *
  refine leaves_cons (f := 13) (args := #[.pointer (some ⟨b, 0, none⟩)]) (by simp) (by simp [go_sem]) ?_
  refine (jb_unlock H3.out .returning).mono ?_
  rintro e u' w5 ⟨rfl, rfl, h5, t5⟩
  exact ⟨_, res_pop (x := jb0) rfl rfl (HX3.out.tn t5 (fun e => HB.out e.symm)), rfl, ⟨_, h5⟩, T3.out.trans (t5.mono (d := Mine b r) fun _ _ e => .inl e)⟩
set_option maxRecDepth 100000 in
set_option maxHeartbeats 3200000 in
theorem jb_pop_some {x : Jb} (h : Qe w b r room (x :: S) cl 0 v) :
    Calls Tryd.prog 8 #[ptv b] w fun e w' => e = .returned (.tuple #[x.val, .bool true]) ∧ (∃ v', Qe w' b r room S cl 0 v') ∧ Tn (Mine b r) w w' := by
  have HX0 := Lib.hid (At.new w 37 jb0.cells)
  have TA : Tn Nil w (w.alloc (.cells jb0.cells.toArray 37)) := (Tn.refl Nil w).alloc _
  have H0 := Lib.hid (h.free TA)
  have T0 := Lib.hid (TA.mono (d := Mine b r) fun _ _ e => e.elim)
  have HB : Hid (b ≠ w.heap.size) := Lib.hid (Nat.ne_of_lt h.at_.lt)
  have HR : Hid (∀ g, r = some g → g ≠ w.heap.size) := Lib.hid fun g hg => Nat.ne_of_lt (h.row.lt hg)
  have HS : Hid (szW w ≤ w.heap.size) := Lib.hid (Nat.le_refl _)
  obtain ⟨A, cap0, rfl⟩ := h.row.form
  clear h TA
  obtain ⟨xs, xb, xk, xn, xl⟩ := x
  rw [show jb0.cells = [.int .i64 0, .int .u32 0, .int .i64 0, .int .i64 0, .int .i64 0, .slice none 0 0] from rfl] at HX0 H0 T0
  go_enter_defers Tryd.func8, Tryd.ntmps8
  go_wp2_with fail
  generalize w.heap.size = bx at *
  generalize w.alloc (.cells #[.int .i64 0, .int .u32 0, .int .i64 0, .int .i64 0, .int .i64 0, .slice none 0 0] 37) = w1 at *
  refine (jb_lock H0.out).mono ?_; rintro e w2 ⟨rfl, h2, t2⟩
  have H2 := Lib.hid h2
  have T2 := Lib.hid (T0.out.trans (t2.mono (d := Mine b r) fun _ _ e => .inl e))
  have HX2 := Lib.hid (HX0.out.tn t2 (fun e => HB.out e.symm))
  obtain ⟨g, o, cap, hv, hrg, hgb, hsix⟩ := h2.six
  injection hv with hA _ hcap
  subst hA; subst hcap
  have HG : Hid (r = some g) := Lib.hid hrg
  have HGB : Hid (g ≠ b) := Lib.hid hgb
  have HGX : Hid (g ≠ bx) := Lib.hid (HR.out g hrg)
  have c3 : w2.cell? ⟨b, 3, none⟩ = some (.slice (some ⟨g, o, none⟩) (S.length + 1) cap0) := h2.at_.cell 3 rfl
  obtain ⟨_, y0, y1, y2, y3, y4, y5, _⟩ := id hsix
  have TA : Tn Nil w2 (w2.alloc (.cells #[.int .i64 xs, .int .u32 xb, .int .i64 xk, .int .i64 xn, .int .i64 xl, .slice none 0 0] 37)) := (Tn.refl Nil w2).alloc _
  have H3a := Lib.hid (H2.out.free TA)
  have c3a : (w2.alloc (.cells #[.int .i64 xs, .int .u32 xb, .int .i64 xk, .int .i64 xn, .int .i64 xl, .slice none 0 0] 37)).cell? ⟨b, 3, none⟩ = some (.slice (some ⟨g, o, none⟩) (S.length + 1) cap0) := H3a.out.at_.cell 3 rfl
  obtain ⟨_, s0, s1, s2, s3, s4, s5, hf3⟩ := hsix.tn TA (fun e => e)
  have z0 := hf3 o
  have z1 := hf3 (o + 1)
  have z2 := hf3 (o + 2)
  have z3 := hf3 (o + 3)
  have z4 := hf3 (o + 4)
  have z5 := hf3 (o + 5)
  have H4 := Lib.hid (h2.clear hrg jb0)
  have TS4 : Tn (Mine b r) w2 (set6 w2 g o jb0) := (set6_tn w2 g o jb0).mono fun i _ e => .inr (by rw [show i = g from e]; exact hrg)
  have HX4 := Lib.hid (HX2.out.tn (set6_tn w2 g o jb0) (fun e => HGX.out e.symm))
  have HSZ : Hid ((set6 w2 g o jb0).heap.size = w2.heap.size) := Lib.hid (by simp [set6, World.setCell])
  have HYB : Hid (w2.heap.size ≠ b ∧ w2.heap.size ≠ bx) := Lib.hid ⟨fun e => Nat.lt_irrefl _ (e ▸ h2.at_.lt), fun e => Nat.lt_irrefl _ (e ▸ HX2.out.lt)⟩
  have T4 := Lib.hid (T2.out.trans TS4)
  clear h2 t2 HX0 H0 T0 hrg hgb hsix TA hf3 H2 T2 HX2 H3a TS4
  have hn0 : (((S.length : Int) + 1) == 0) = false := beq_eq_false_iff_ne.2 (by omega)
  have hn1 : (0 : Int) < (S.length : Int) + 1 := by omega
  generalize hsl : S.length = n at *
  have HL := Lib.hid hsl
  clear hsl
  go_upto_region 9 with fail
  change Code.wp _ _ _ _ ((set6 w2 g o jb0).alloc (.cells #[.int .i64 xs, .int .u32 xb, .int .i64 xk, .int .i64 xn, .int .i64 xl, .slice none 0 0] 37))
  clear c3 c3a y0 y1 y2 y3 y4 y5 s0 s1 s2 s3 s4 s5 z0 z1 z2 z3 z4 z5 hn0 hn1
  rw [← HSZ.out] at HYB ⊢
  clear HSZ
  generalize set6 w2 g o jb0 = w4 at *
  have TB : Tn Nil w4 (w4.alloc (.cells #[.int .i64 xs, .int .u32 xb, .int .i64 xk, .int .i64 xn, .int .i64 xl, .slice none 0 0] 37)) := (Tn.refl Nil w4).alloc _
  have HY5 : Hid (At (w4.alloc (.cells #[.int .i64 xs, .int .u32 xb, .int .i64 xk, .int .i64 xn, .int .i64 xl, .slice none 0 0] 37)) w4.heap.size 37 (Jb.cells ⟨xs, xb, xk, xn, xl⟩)) := Lib.hid (At.new w4 _ _)
  have H5 := Lib.hid (H4.out.free TB)
  have HX5 := Lib.hid (HX4.out.tn TB (fun e => e))
  have T5 := Lib.hid (T4.out.trans (TB.mono (d := Mine b r) fun _ _ e => e.elim))
  clear TB H4 HX4 T4
  generalize w4.heap.size = by_ at *
  generalize w4.alloc (.cells #[.int .i64 xs, .int .u32 xb, .int .i64 xk, .int .i64 xn, .int .i64 xl, .slice none 0 0] 37) = w5 at *
  obtain ⟨A6, c6, hrun, h6⟩ := H5.out.rest
  rw [HL.out] at hrun h6
  have c3 := H5.out.at_.cell 3 rfl
  have f3 := H5.out.at_.free 3
  have HX6 := Lib.hid (HX5.out.tn (tn_set w5 b 3 (.slice A6 n c6)) (fun e => HB.out e.symm))
  have HY6 := Lib.hid (HY5.out.tn (tn_set w5 b 3 (.slice A6 n c6)) HYB.out.1)
  have T6 := Lib.hid (T5.out.trans ((tn_set w5 b 3 (.slice A6 n c6)).mono (d := Mine b r) fun _ _ e => .inl e))
  have H6 := Lib.hid h6
  clear H5 HX5 HY5 T5 h6
  go_upto_region 10 with fail
  clear hrun c3 f3
  generalize w5.setCell ⟨b, 3, none⟩ (.slice A6 n c6) = w6 at *
  have y0 := HY6.out.cell 0 rfl
  have y1 := HY6.out.cell 1 rfl
  have y2 := HY6.out.cell 2 rfl
  have y3 := HY6.out.cell 3 rfl
  have y4 := HY6.out.cell 4 rfl
  have y5 := HY6.out.cell 5 rfl
  have x0 := HX6.out.cell 0 rfl
  have x1 := HX6.out.cell 1 rfl
  have x2 := HX6.out.cell 2 rfl
  have x3 := HX6.out.cell 3 rfl
  have x4 := HX6.out.cell 4 rfl
  have x5 := HX6.out.cell 5 rfl
  have f0 := HX6.out.free 0
  have f1 := HX6.out.free 1
  have f2 := HX6.out.free 2
  have f3 := HX6.out.free 3
  have f4 := HX6.out.free 4
  have f5 := HX6.out.free 5
  go_wp2_with fail
  have T7 := Lib.hid (T6.out.trans' (set6_tn w6 bx 0 ⟨xs, xb, xk, xn, xl⟩) (fun i hi e => by have := HS.out; unfold szW at this; rw [show i = bx from e] at hi; omega))
  have HX7 := Lib.hid (set6_at (x := ⟨xs, xb, xk, xn, xl⟩) (y := jb0) HX6.out)
  have H7 := Lib.hid (H6.out.tn (set6_tn w6 bx 0 ⟨xs, xb, xk, xn, xl⟩) HB.out (fun g hg e => HR.out g hg e))
  change bodyPostD _ _ _ _ _ (set6 w6 bx 0 ⟨xs, xb, xk, xn, xl⟩)
  generalize set6 w6 bx 0 ⟨xs, xb, xk, xn, xl⟩ = w7 at *
  refine leaves_cons (f := 13) (args := #[.pointer (some ⟨b, 0, none⟩)]) (by simp) (by simp [go_sem]) ?_
  refine (jb_unlock H7.out .returning).mono ?_
  rintro e u' w8 ⟨rfl, rfl, h8, t8⟩
  exact ⟨_, res_pop (x := ⟨xs, xb, xk, xn, xl⟩) rfl rfl (HX7.out.tn t8 (fun e => HB.out e.symm)), rfl, ⟨_, h8⟩, T7.out.trans (t8.mono (d := Mine b r) fun _ _ e => .inl e)⟩
/-- Pop, of whatever there is. -/
theorem jb_pop (h : Qe w b r room S cl 0 v) :
    Calls Tryd.prog 8 #[ptv b] w fun e w' => e = .returned (.tuple #[(popJ S).val, .bool (popB S)]) ∧ (∃ v', Qe w' b r room S.tail cl 0 v') ∧ Tn (Mine b r) w w' := by
  cases S with
  | nil => exact jb_pop_empty h
  | cons x S => exact jb_pop_some h
end
end Go.Proofs.YtfppmlnafalneaaDoor

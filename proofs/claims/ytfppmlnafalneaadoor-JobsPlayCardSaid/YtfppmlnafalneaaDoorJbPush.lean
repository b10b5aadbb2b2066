/- Proved: what Push of package jobs leaves. Conditions: those that the theorems name. -/
import Derived.Test.YtfppmlnafalneaaDoorJbWhy
import Derived.Test.YtfppmlnafalneaaDoorRun
namespace Go.Proofs.YtfppmlnafalneaaDoor
open Go.ChangeShapes Go.WideShapes Go.ChangeAt Go.RowKit Go.MuLone

/-- Push's answer, and the jobs behind it. -/
def pushE (S : List Jb) (room : Int) (cl : Bool) : Int := whyE cl (decide ((S.length : Int) = room))
def pushS (S : List Jb) (room : Int) (cl : Bool) (x : Jb) : List Jb := if pushE S room cl = 0 then S ++ [x] else S
/-- how much memory there is (by a name that no generalizing meets). -/
def szW (w : World) : Nat := w.heap.size
/-- a row's block is the one that it was, or new. -/
def NewR (w : World) (r r' : Option Nat) : Prop := r' = r ∨ ∃ g, r' = some g ∧ szW w ≤ g
section
variable {w : World} {b : Nat} {r : Option Nat} {room : Int} {S : List Jb} {cl : Bool} {ls : Int} {v : Value} {B : Nat} {a0 a1 : Addr}
theorem From.far (f : From B b r) (i : Nat) (hi : i < B) : ¬ Mine b r i := fun e => by
  rcases e with e | e
  · have := f.1; omega
  · have := f.2 i e; omega
theorem jb_push_none (x : Jb) (w : World) :
    Calls Tryd.prog 7 #[.pointer none, x.val] w fun e w' => e = .returned (.int .i64 17) ∧ Tn Nil w w' := by
  have HT := Lib.hid ((Tn.refl Nil w).alloc (.cells x.cells.toArray 37))
  go_enter Tryd.func7, Tryd.ntmps7
  go_wp2_with fail
  go_ret
  exact ⟨rfl, HT.out⟩
set_option maxRecDepth 100000 in
theorem jb_clone (w : World) :
    Calls Tryd.prog 16 #[.slice none 0 0] w fun e w' => e = .returned (.slice none 0 0) ∧ w' = w := by
  have hq : ∀ w, (binOp .eql 35 (.slice none 0 0) (.slice none 0 0)).run Tryd.prog w = .ok (.bool true) w := fun w => Lib.run_eql_slice_nil w _ _ none 0 0 0 0 Tryd.underlying35
  go_enter Tryd.func16, Tryd.ntmps16
  go_wp2_with fail
  go_ret
  exact ⟨rfl, rfl⟩
set_option maxRecDepth 100000 in
set_option maxHeartbeats 3200000 in
theorem jb_push (h : Qe w b r room S cl 0 v) (e : Er w B a0 a1) (f : From B b r) (hn : S.length ≤ 65536) (x : Jb) :
    Calls Tryd.prog 7 #[ptv b, x.val] w fun e w' => e = .returned (.int .i64 (pushE S room cl)) ∧ (∃ r' v', Qe w' b r' room (pushS S room cl x) cl 0 v' ∧ NewR w r r') ∧ Tn (Mine b r) w w' := by
  have HX0 := Lib.hid (At.new w 37 x.cells)
  have TA : Tn Nil w (w.alloc (.cells x.cells.toArray 37)) := (Tn.refl Nil w).alloc _
  have H0 := Lib.hid (h.free TA)
  have HE0 := Lib.hid (e.free TA)
  have T0 := Lib.hid (TA.mono (d := Mine b r) fun _ _ e => e.elim)
  have HB : Hid (b ≠ w.heap.size) := Lib.hid (Nat.ne_of_lt h.at_.lt)
  have HR : Hid (∀ g, r = some g → g ≠ w.heap.size) := Lib.hid fun g hg => Nat.ne_of_lt (h.row.lt hg)
  have HS : Hid (szW w ≤ w.heap.size) := Lib.hid (Nat.le_refl _)
  have HN := Lib.hid hn
  have HF := Lib.hid f
  clear h e TA hn f
  obtain ⟨xs, xb, xk, xn, xl⟩ := x
  have HC : Hid (Jb.cells ⟨xs, xb, xk, xn, xl⟩ = [.int .i64 xs, .int .u32 xb, .int .i64 xk, .int .i64 xn, .int .i64 xl, .slice none 0 0]) := Lib.hid rfl
  rw [HC.out] at HX0 H0 HE0 T0
  go_enter_defers Tryd.func7, Tryd.ntmps7
  go_wp2_with fail
  generalize w.heap.size = bx at *
  generalize w.alloc (.cells #[.int .i64 xs, .int .u32 xb, .int .i64 xk, .int .i64 xn, .int .i64 xl, .slice none 0 0] 37) = w1 at *
  refine (jb_lock H0.out).mono ?_; rintro e w2 ⟨rfl, h2, t2⟩
  have H2 := Lib.hid h2
  have T2 := Lib.hid (T0.out.trans (t2.mono (d := Mine b r) fun _ _ e => .inl e))
  have HX2 := Lib.hid (HX0.out.tn t2 (fun e => HB.out e.symm))
  have HE2 := Lib.hid (HE0.out.tn t2 (fun i hi e => HF.out.far i hi (.inl e)))
  clear h2 t2 HX0 H0 HE0 T0
  go_wp2_with fail
  refine (jb_refusal H2.out HE2.out).mono ?_; rintro e w3 ⟨rfl, t3⟩
  have H3 := Lib.hid (H2.out.free t3)
  have T3 := Lib.hid (T2.out.trans (t3.mono (d := Mine b r) fun _ _ e => e.elim))
  have HX3 := Lib.hid (HX2.out.tn t3 (fun e => e))
  have HE3 := Lib.hid (HE2.out.free t3)
  clear t3 H2 T2 HX2 HE2
  go_wp2_with fail
  refine (jb_number HE3.out _).mono ?_; rintro e w4 ⟨rfl, rfl⟩
  have hpe : whyE cl (decide ((S.length : Int) = room)) = pushE S room cl := rfl
  rw [hpe]
  clear hpe
  by_cases hz : pushE S room cl = 0
  · have HPS : Hid (pushE S room cl = 0 ∧ pushS S room cl ⟨xs, xb, xk, xn, xl⟩ = S ++ [⟨xs, xb, xk, xn, xl⟩]) := Lib.hid ⟨hz, if_pos hz⟩
    rw [hz]
    clear hz
    have x5 := HX3.out.cell 5 rfl
    have f5 := HX3.out.free 5
    go_wp2_with fail
    refine (jb_clone _).mono ?_; rintro e w5 ⟨rfl, rfl⟩
    go_wp2_with fail
    clear x5 f5
    have TS : Tn (fun i => i = bx) w5 (w5.setCell ⟨bx, 5, none⟩ (.slice none 0 0)) := tn_set w5 bx 5 _
    have H6 := Lib.hid (H3.out.tn TS (fun e => HB.out e) (fun g hg e => HR.out g hg e))
    have HX6 : Hid (At (w5.setCell ⟨bx, 5, none⟩ (.slice none 0 0)) bx 37 [.int .i64 xs, .int .u32 xb, .int .i64 xk, .int .i64 xn, .int .i64 xl, .slice none 0 0]) := Lib.hid (HX3.out.set_ 5 (.slice none 0 0))
    have T6 := Lib.hid (T3.out.trans' TS (fun i hi e => by have := HS.out; unfold szW at this; rw [show i = bx from e] at hi; omega))
    clear TS H3 HX3 T3 HE3
    generalize w5.setCell ⟨bx, 5, none⟩ (.slice none 0 0) = w6 at *
    obtain ⟨A6, c6, rfl⟩ := H6.out.row.form
    have TB : Tn Nil w6 (w6.alloc (.cells #[.int .i64 xs, .int .u32 xb, .int .i64 xk, .int .i64 xn, .int .i64 xl, .slice none 0 0] 37)).drew := ((Tn.refl Nil w6).alloc _).drew
    have hN := At.new w6 37 [.int .i64 xs, .int .u32 xb, .int .i64 xk, .int .i64 xn, .int .i64 xl, .slice none 0 0]
    obtain ⟨v7, w7, r7, hrun, hq7, hr7, t7⟩ := (H6.out.row.tn TB (fun _ _ e => e)).append (t := 50) (ty := 50) Tryd.underlying50 infoJob rfl (by decide) (by decide) HN.out (a := ⟨w6.heap.size, 0, none⟩) (cp := 1) (news := Jb.cells ⟨xs, xb, xk, xn, xl⟩) rfl (fun j u hj => by
      rw [Addr.add_lit, Nat.zero_add]
      exact hN.cell j hj) (jb_one _) (jcells_one _)
    obtain ⟨A7, c7, rfl⟩ := hq7.form
    have HQ7 := Lib.hid hq7
    have hb6 := H6.out.at_
    have hbn := hb6.tn TB (fun e => e)
    have hb7 := hbn.tn t7 (fun e => H6.out.ne b e rfl)
    have HB7 := Lib.hid hb7
    have HR7 : Hid (NewR w r r7) := Lib.hid (hr7.imp id fun ⟨g, e, q⟩ => ⟨g, e, Nat.le_trans T6.out.size (Nat.le_trans TB.size q)⟩)
    have T7 : Hid (Tn (Mine b r) w w7) := Lib.hid ((T6.out.trans (TB.mono (d := Mine b r) fun _ _ e => e.elim)).trans (t7.mono fun _ _ e => .inr e))
    have HNE : Hid (∀ g, r7 = some g → g ≠ b) := Lib.hid fun g hg e => by
      rcases hr7 with h | ⟨g', h, q⟩
      · exact H6.out.ne g (h ▸ hg) e
      · rw [hg] at h; injection h with h; have := hbn.lt; omega
    have p2 := hb6.cell 3 rfl
    have n2 := hbn.cell 3 rfl
    have q2 := hb7.cell 3 rfl
    have q2f := hb7.free 3
    have x0 := HX6.out.cell 0 rfl
    have x1 := HX6.out.cell 1 rfl
    have x2 := HX6.out.cell 2 rfl
    have x3 := HX6.out.cell 3 rfl
    have x4 := HX6.out.cell 4 rfl
    have x5 := HX6.out.cell 5 rfl
    clear TB hN hq7 hr7 t7 hb6 hbn hb7 H6 T6
    generalize hsl : S.length = n at *
    have HL := Lib.hid hsl
    clear hsl
    refine only_wp ?_
    go_region_law (refine step_append_run rfl _ _ _ _ rfl _ _ rfl rfl _ _ hrun ?_)
    all_goals
      refine only_of ?_
      have H8 : Hid (Qe (w7.setCell ⟨b, 3, none⟩ (.slice A7 (n + 1) c7)) b r7 room (S ++ [⟨xs, xb, xk, xn, xl⟩]) cl 1 (.slice A7 (n + 1) c7)) := Lib.hid ⟨HB7.out.set_ 3 _, by
        have := HQ7.out.tn (tn_set w7 b 3 (.slice A7 (n + 1) c7)) HNE.out
        rw [jcells_app, List.length_append, HL.out]
        exact this, HNE.out⟩
      have T8 := Lib.hid (T7.out.trans ((tn_set w7 b 3 (.slice A7 (n + 1) c7)).mono (d := Mine b r) fun _ _ e => .inl e))
      change Exit.then _ _ _ _ (w7.setCell ⟨b, 3, none⟩ (.slice A7 (n + 1) c7))
      generalize w7.setCell ⟨b, 3, none⟩ (.slice A7 (n + 1) c7) = w8 at *
      clear hrun p2 n2 q2 q2f x0 x1 x2 x3 x4 x5 HX6 HB7 HQ7
      go_wp2_with fail
      refine leaves_cons (f := 13) (args := #[.pointer (some ⟨b, 0, none⟩)]) (by simp) (by simp [go_sem]) ?_
      refine (jb_unlock H8.out .returning).mono ?_
      rintro e u' w9 ⟨rfl, rfl, h9, t9⟩
      exact ⟨_, results_tmp rfl _ _ _, by rw [HPS.out.1]; rfl, ⟨r7, _, by rw [HPS.out.2]; exact h9, HR7.out⟩, T8.out.trans (t9.mono (d := Mine b r) fun _ _ e => .inl e)⟩
  · have HPS : Hid (pushS S room cl ⟨xs, xb, xk, xn, xl⟩ = S) := Lib.hid (if_neg hz)
    obtain ⟨pe, HPE⟩ : ∃ pe, Hid (pushE S room cl = pe) := ⟨_, Lib.hid rfl⟩
    rw [HPE.out] at hz ⊢
    have hzb : (pe == 0) = false := beq_eq_false_iff_ne.2 hz
    clear hz
    go_wp2_with fail
    refine leaves_cons (f := 13) (args := #[.pointer (some ⟨b, 0, none⟩)]) (by simp) (by simp [go_sem]) ?_
    refine (jb_unlock H3.out .returning).mono ?_
    rintro e u' w5 ⟨rfl, rfl, h5, t5⟩
    exact ⟨_, results_tmp rfl _ _ _, by rw [HPE.out]; rfl, ⟨r, v, by rw [HPS.out]; exact h5, .inl rfl⟩, T3.out.trans (t5.mono (d := Mine b r) fun _ _ e => .inl e)⟩
end
end Go.Proofs.YtfppmlnafalneaaDoor

/- Proved: what widen, Put and Take of package ring leave, for every ring. Conditions: those that the theorems name. -/
import Derived.Test.YtkmnlpohbemlgaaRgPeek
namespace Go.Proofs.Ytkmnlpohbemlgaa
open Go.ChangeShapes Go.WideShapes Go.ChangeAt Go.RowKit

/-! ### widen -/
def GivesW (W : World) (b r k : Nat) (g : Option Nat) (s : ByteArray) (e : Ending) (w' : World) : Prop :=
  e = .returned (.tuple #[]) ∧ ∃ n f g', Kp w' b r n f g' s ∧ k ≤ n ∧ Turns W w' b g ∧ Grows W g g'
theorem rnd_new (q : Nat) (s : ByteArray) (h : s.size ≤ q) : Rnd q 0 (lay (List.replicate q 0) 0 (min s.size q) (bts s)) s := by
  intro j hj
  have h1 : 0 + min s.size q ≤ (List.replicate q 0).length := by rw [List.length_replicate]; omega
  have h2 : min s.size q ≤ (bts s).length := by rw [bts_len]; omega
  have e : pl q 0 j = j := by unfold pl; rw [if_neg (by omega)]; omega
  rw [lay_at h1 h2, e, if_neg (Nat.not_lt_zero _), if_pos (by omega)]
  rfl
set_option maxRecDepth 100000 in
set_option maxHeartbeats 1600000 in
theorem rg_widen_more (b r n f k q : Nat) (g : Option Nat) (s : ByteArray) (w : World) (h : Kp w b r n f g s) (hk : k ≤ r) (hn : n < k) (hq : q = min r (max k (2 * n))) :
    Calls Try.prog 21 #[.pointer (some ⟨b, 0, none⟩), .int .i64 (k : Nat)] w (GivesW w b r k g s) := by
  have HS : s.size ≤ n := h.2.1
  have HR : r ≤ 1048576 := h.2.2.2.1
  have hmk := run_make_row' (P := Try.prog) 48 5 (.int .u8 0) 1 Try.underlying48 Try.infoByte rfl .i64 .i64 q (by omega) (by omega) w.drew
  have B1 : Hid (Below w.heap.size w (w.drew.alloc (.cells (madeCells #[.int .u8 0] q) 5))) := Lib.hid ((Below.refl w.heap.size w).drew.alloc (Nat.le_refl _) _)
  have O1 : Hid (Own (w.drew.alloc (.cells (madeCells #[.int .u8 0] q) 5)) w.heap.size q (List.replicate q 0)) := Lib.hid (own_new w.drew q)
  have K1 : Hid (Kp (w.drew.alloc (.cells (madeCells #[.int .u8 0] q) 5)) b r n f g s) := Lib.hid (h.below B1.out)
  have X1 : Hid (w.heap.size < (w.drew.alloc (.cells (madeCells #[.int .u8 0] q) 5)).heap.size) := Lib.hid O1.out.block_lt
  have hb := Lib.hid h.1.lt
  have d1 := h.1.cell 1 rfl
  have d0 := h.1.cell 0 rfl
  have e3 := K1.out.1.cell 3 rfl
  have HE := Lib.hid (rnd_new q s (by omega))
  have H2 := Lib.hid (And.intro (show s.size ≤ q by omega) (And.intro (show q ≤ r by omega) (And.intro (show k ≤ q by omega) (And.intro (show 0 < q by omega) HR))))
  have hx : (s.extract 0 s.size) = s := by
    refine rg_ext (n := s.size) (by rw [rg_cut_size]; omega) rfl fun j hj => rg_cut_at _ _ _ hj
  have HP : Hid (∀ w, Kp w b r n f g s → Calls Try.prog 24 #[.pointer (some ⟨b, 0, none⟩), .int .i64 (s.size : Nat)] w fun e w' => e = .returned (.string s) ∧ Below w.heap.size w w') := Lib.hid fun w h => by
    have := rg_peek_many b r n f s.size (s.size : Int) g s w h (by omega)
    rwa [hx] at this
  have hq' : min (r : Int) (max (k : Int) (2 * (n : Int))) = (q : Int) := by omega
  have hn' : ¬ (k : Int) ≤ (n : Int) := by omega
  have hn2 : (n : Int) ≤ 1048576 := by have := h.2.2.1; omega
  have hn3 : (0 : Int) ≤ (n : Int) := Int.natCast_nonneg _
  have hq0 : (0 : Int) ≤ (q : Int) := Int.natCast_nonneg _
  have hw : IntKind.i64.wrap (2 * (n : Int)) = 2 * (n : Int) := IntWalk.i64_in _ (by omega)
  clear h hx hq hn hk HS HR
  generalize w.drew.alloc (.cells (madeCells #[.int .u8 0] q) 5) = w1 at *
  have SZ : Hid (w.heap.size ≤ w1.heap.size) := Lib.hid B1.out.size
  have hx : w.drew.heap.size = w.heap.size := rfl
  rw [hx] at hmk
  clear hx
  generalize hx : w.heap.size = x at *
  have HWX := Lib.hid hx
  clear hx
  go_enter Try.func21, Try.ntmps21
  go_wp2_with fail
  refine wp_region_still_tail 13 (by kernel_rfl) (by kernel_rfl) ?_
  simp only [List.take_succ_cons, List.take_zero, List.drop_succ_cons, List.drop_zero]
  repeat still_step
  refine wpStill_nil ?_
  change wpList _ _ _ _ _ w.drew
  clear d0 d1
  generalize w.drew = w0 at *
  go_wp2_with fail
  refine (HP.out _ K1.out).mono ?_; rintro e w2 ⟨rfl, g2⟩
  have O2 := O1.out.below2 g2 X1.out
  obtain ⟨W3, cc, O3, g3⟩ := copy_text w2 x q 0 q q (some ⟨x, 0, none⟩) _ O2 (fun _ => rfl) (by omega) s
  have hxb : x ≠ b := by have := hb.out; omega
  have A3 : At W3 b 50 (rgCells r n f g s.size) := ((K1.out.below g2).1).kept g3 (by intro e; injection e with e; exact hxb e)
  have B3 : Hid (Below x w W3) := Lib.hid ((B1.out.trans (g2.mono SZ.out)).grown g3 (Nat.le_trans SZ.out g2.size) (fun k e => by injection e with e; omega))
  have z1 := A3.free 1
  have z2 := A3.free 2
  have y1 := A3.cell 1 rfl
  have y2 := A3.cell 2 rfl
  have HA := Lib.hid A3
  have HO := Lib.hid O3
  have HX := Lib.hid hxb
  clear A3 O3 g3 O2 g2 hxb
  generalize min s.size q = mm at *
  go_wp2_with fail
  go_end0
  have key : At ((W3.setCell ⟨b, 1, none⟩ (.slice (some ⟨x, 0, none⟩) q q)).setCell ⟨b, 2, none⟩ (.int .i64 0)) b 50 (rgCells r q 0 (some x) s.size) :=
    (HA.out.set_ 1 _).set_ 2 _
  have own : Own ((W3.setCell ⟨b, 1, none⟩ (.slice (some ⟨x, 0, none⟩) q q)).setCell ⟨b, 2, none⟩ (.int .i64 0)) x q (lay (List.replicate q 0) 0 mm (bts s)) :=
    (HO.out.far2 (p := ⟨b, 1, none⟩) HX.out _).far2 (p := ⟨b, 2, none⟩) HX.out _
  refine ⟨rfl, q, 0, some x, ⟨key, H2.out.1, H2.out.2.1, H2.out.2.2.2.2, Or.inl H2.out.2.2.2.1, _, own.1, Or.inr ⟨x, rfl, HX.out, H2.out.2.2.2.1, own⟩, HE.out⟩, H2.out.2.2.1, ?_, fun y hy => Or.inr ?_⟩
  · exact (turns_below (by rw [HWX.out]; exact B3.out) b g).trans (Grows.refl _ _) ((turns_set _ _ _ _ _).trans (Grows.refl _ _) (turns_set _ _ _ _ _))
  · injection hy with hy
    rw [HWX.out, hy]
    exact Nat.le_refl _
theorem rg_widen_any (b r k : Nat) (g : Option Nat) (s : ByteArray) (w : World) (h : Rg w b r g s) (hk : k ≤ r) :
    Calls Try.prog 21 #[.pointer (some ⟨b, 0, none⟩), .int .i64 (k : Nat)] w (GivesW w b r k g s) := by
  obtain ⟨n, f, h⟩ := h
  by_cases hn : n < k
  · exact rg_widen_more b r n f k _ g s w h hk hn rfl
  · have hn' : (k : Int) ≤ (n : Int) := by omega
    have HK := Lib.hid h
    have HN : Hid (k ≤ n) := Lib.hid (by omega)
    have d1 := h.1.cell 1 rfl
    clear h hk hn
    go_enter Try.func21, Try.ntmps21
    go_wp2_with fail
    go_end0
    exact ⟨rfl, n, f, g, HK.out, HN.out, Turns.refl _ _ _, Grows.refl _ _⟩
end Go.Proofs.Ytkmnlpohbemlgaa

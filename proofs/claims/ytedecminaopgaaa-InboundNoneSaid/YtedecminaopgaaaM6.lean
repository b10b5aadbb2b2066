/- Proved: lemmas of one statement's proof, merged by program: what each part proves stands ahead of it. Conditions: those that the lemmas name. -/
import Derived.Test.YtedecminaopgaaaM5

/- Proved: what widen, Put and Take of package ring leave, for every ring. Conditions: those that the theorems name. -/
namespace Go.Proofs.Ytedecminaopgaaa
open Go.ChangeShapes Go.WideShapes Go.ChangeAt Go.RowKit

/-! ### widen -/
def GivesW (W : World) (b r k : Nat) (g : Option Nat) (s : ByteArray) (e : Ending) (w' : World) : Prop :=
  e = .returned (.tuple #[]) ∧ ∃ n f g', Kp w' b r n f g' s ∧ k ≤ n ∧ Turns W w' b g ∧ Grows W g g'
theorem rnd_new (q : Nat) (s : ByteArray) (h : s.size ≤ q) : Rnd q 0 (lay (List.replicate q 0) 0 (min s.size q) (bts s)) s := by
  intro j hj
  have h1 : 0 + min s.size q ≤ (List.replicate q 0).length := by rw [List.length_replicate]; omega
  have h2 : min s.size q ≤ (bts s).length := by rw [bts_len]; omega
  have e : pl q 0 j = j := by unfold pl; rw [if_neg (by omega)]; omega
  rw [lay_at h1 h2, e, if_neg (Nat.not_lt_zero _), if_pos (by omega)]
  rfl
set_option maxRecDepth 100000 in
set_option maxHeartbeats 1600000 in
theorem rg_widen_more (b r n f k q : Nat) (g : Option Nat) (s : ByteArray) (w : World) (h : Kp w b r n f g s) (hk : k ≤ r) (hn : n < k) (hq : q = min r (max k (2 * n))) :
    Calls Try.prog 68 #[.pointer (some ⟨b, 0, none⟩), .int .i64 (k : Nat)] w (GivesW w b r k g s) := by
  have HS : s.size ≤ n := h.2.1
  have HR : r ≤ 1048576 := h.2.2.2.1
  have hmk := run_make_row' (P := Try.prog) 94 5 (.int .u8 0) 1 Try.underlying94 Try.infoByte rfl .i64 .i64 q (by omega) (by omega) w.drew
  have B1 : Hid (Below w.heap.size w (w.drew.alloc (.cells (madeCells #[.int .u8 0] q) 5))) := Lib.hid ((Below.refl w.heap.size w).drew.alloc (Nat.le_refl _) _)
  have O1 : Hid (Own (w.drew.alloc (.cells (madeCells #[.int .u8 0] q) 5)) w.heap.size q (List.replicate q 0)) := Lib.hid (own_new w.drew q)
  have K1 : Hid (Kp (w.drew.alloc (.cells (madeCells #[.int .u8 0] q) 5)) b r n f g s) := Lib.hid (h.below B1.out)
  have X1 : Hid (w.heap.size < (w.drew.alloc (.cells (madeCells #[.int .u8 0] q) 5)).heap.size) := Lib.hid O1.out.block_lt
  have hb := Lib.hid h.1.lt
  have d1 := h.1.cell 1 rfl
  have d0 := h.1.cell 0 rfl
  have e3 := K1.out.1.cell 3 rfl
  have HE := Lib.hid (rnd_new q s (by omega))
  have H2 := Lib.hid (And.intro (show s.size ≤ q by omega) (And.intro (show q ≤ r by omega) (And.intro (show k ≤ q by omega) (And.intro (show 0 < q by omega) HR))))
  have hx : (s.extract 0 s.size) = s := by
    refine rg_ext (n := s.size) (by rw [rg_cut_size]; omega) rfl fun j hj => rg_cut_at _ _ _ hj
  have HP : Hid (∀ w, Kp w b r n f g s → Calls Try.prog 61 #[.pointer (some ⟨b, 0, none⟩), .int .i64 (s.size : Nat)] w fun e w' => e = .returned (.string s) ∧ Below w.heap.size w w') := Lib.hid fun w h => by
    have := rg_peek_many b r n f s.size (s.size : Int) g s w h (by omega)
    rwa [hx] at this
  have hq' : min (r : Int) (max (k : Int) (2 * (n : Int))) = (q : Int) := by omega
  have hn' : ¬ (k : Int) ≤ (n : Int) := by omega
  have hn2 : (n : Int) ≤ 1048576 := by have := h.2.2.1; omega
  have hn3 : (0 : Int) ≤ (n : Int) := Int.natCast_nonneg _
  have hq0 : (0 : Int) ≤ (q : Int) := Int.natCast_nonneg _
  have hw : IntKind.i64.wrap (2 * (n : Int)) = 2 * (n : Int) := IntWalk.i64_in _ (by omega)
  clear h hx hq hn hk HS HR
  generalize w.drew.alloc (.cells (madeCells #[.int .u8 0] q) 5) = w1 at *
  have SZ : Hid (w.heap.size ≤ w1.heap.size) := Lib.hid B1.out.size
  have hx : w.drew.heap.size = w.heap.size := rfl
  rw [hx] at hmk
  clear hx
  generalize hx : w.heap.size = x at *
  have HWX := Lib.hid hx
  clear hx
  go_enter Try.func68, Try.ntmps68
  go_wp2_with fail
  refine wp_region_still_tail 13 (by kernel_rfl) (by kernel_rfl) ?_
  simp only [List.take_succ_cons, List.take_zero, List.drop_succ_cons, List.drop_zero]
  repeat still_step
  refine wpStill_nil ?_
  change wpList _ _ _ _ _ w.drew
  clear d0 d1
  generalize w.drew = w0 at *
  go_wp2_with fail
  refine (HP.out _ K1.out).mono ?_; rintro e w2 ⟨rfl, g2⟩
  have O2 := O1.out.below2 g2 X1.out
  obtain ⟨W3, cc, O3, g3⟩ := copy_text w2 x q 0 q q (some ⟨x, 0, none⟩) _ O2 (fun _ => rfl) (by omega) s
  have hxb : x ≠ b := by have := hb.out; omega
  have A3 : At W3 b 96 (rgCells r n f g s.size) := ((K1.out.below g2).1).kept g3 (by intro e; injection e with e; exact hxb e)
  have B3 : Hid (Below x w W3) := Lib.hid ((B1.out.trans (g2.mono SZ.out)).grown g3 (Nat.le_trans SZ.out g2.size) (fun k e => by injection e with e; omega))
  have z1 := A3.free 1
  have z2 := A3.free 2
  have y1 := A3.cell 1 rfl
  have y2 := A3.cell 2 rfl
  have HA := Lib.hid A3
  have HO := Lib.hid O3
  have HX := Lib.hid hxb
  clear A3 O3 g3 O2 g2 hxb
  generalize min s.size q = mm at *
  go_wp2_with fail
  go_end0
  have key : At ((W3.setCell ⟨b, 1, none⟩ (.slice (some ⟨x, 0, none⟩) q q)).setCell ⟨b, 2, none⟩ (.int .i64 0)) b 96 (rgCells r q 0 (some x) s.size) :=
    (HA.out.set_ 1 _).set_ 2 _
  have own : Own ((W3.setCell ⟨b, 1, none⟩ (.slice (some ⟨x, 0, none⟩) q q)).setCell ⟨b, 2, none⟩ (.int .i64 0)) x q (lay (List.replicate q 0) 0 mm (bts s)) :=
    (HO.out.far2 (p := ⟨b, 1, none⟩) HX.out _).far2 (p := ⟨b, 2, none⟩) HX.out _
  refine ⟨rfl, q, 0, some x, ⟨key, H2.out.1, H2.out.2.1, H2.out.2.2.2.2, Or.inl H2.out.2.2.2.1, _, own.1, Or.inr ⟨x, rfl, HX.out, H2.out.2.2.2.1, own⟩, HE.out⟩, H2.out.2.2.1, ?_, fun y hy => Or.inr ?_⟩
  · exact (turns_below (by rw [HWX.out]; exact B3.out) b g).trans (Grows.refl _ _) ((turns_set _ _ _ _ _).trans (Grows.refl _ _) (turns_set _ _ _ _ _))
  · injection hy with hy
    rw [HWX.out, hy]
    exact Nat.le_refl _
theorem rg_widen_any (b r k : Nat) (g : Option Nat) (s : ByteArray) (w : World) (h : Rg w b r g s) (hk : k ≤ r) :
    Calls Try.prog 68 #[.pointer (some ⟨b, 0, none⟩), .int .i64 (k : Nat)] w (GivesW w b r k g s) := by
  obtain ⟨n, f, h⟩ := h
  by_cases hn : n < k
  · exact rg_widen_more b r n f k _ g s w h hk hn rfl
  · have hn' : (k : Int) ≤ (n : Int) := by omega
    have HK := Lib.hid h
    have HN : Hid (k ≤ n) := Lib.hid (by omega)
    have d1 := h.1.cell 1 rfl
    clear h hk hn
    go_enter Try.func68, Try.ntmps68
    go_wp2_with fail
    go_end0
    exact ⟨rfl, n, f, g, HK.out, HN.out, Turns.refl _ _ _, Grows.refl _ _⟩
end Go.Proofs.Ytedecminaopgaaa

/- Proved: what Put and Take of package ring answer and leave, for every ring. Conditions: those that the theorems name. -/
namespace Go.Proofs.Ytedecminaopgaaa
open Go.ChangeShapes Go.WideShapes Go.ChangeAt Go.RowKit

/-- the two copies of Put. -/
theorem put_copies (w : World) (b r n f : Nat) (g : Option Nat) (s t : ByteArray) (h : Kp w b r n f g s) (hm : s.size + t.size ≤ n) :
    ∃ W2 W3, (∀ ty, (Builtin.copy_ #[94, 9] ty #[.slice (cutA (adr g) n (pl n f s.size)) (n - pl n f s.size) (n - pl n f s.size), .string t]).run Try.prog w.drew = .ok (.int .i64 ((min t.size (n - pl n f s.size) : Nat) : Int)) W2) ∧
      (∀ ty, (Builtin.copy_ #[94, 9] ty #[.slice (adr g) n n, .string (t.extract (min t.size (n - pl n f s.size)) t.size)]).run Try.prog W2.drew = .ok (.int .i64 ((min (t.size - min t.size (n - pl n f s.size)) n : Nat) : Int)) W3) ∧
      At W2 b 96 (rgCells r n f g s.size) ∧ At W3 b 96 (rgCells r n f g s.size) ∧
      Kp (W3.setCell ⟨b, 3, none⟩ (.int .i64 ((s.size + t.size : Nat) : Int))) b r n f g (s ++ t) ∧ Turns w W3 b g := by
  obtain ⟨ha, h1, h2, h3, h4, l, hl, hr, hs⟩ := h
  rcases hr with ⟨rfl, rfl⟩ | ⟨x, rfl, hxb, hn0, ho⟩
  · obtain rfl : f = 0 := by omega
    have e0 : s.size = 0 := by omega
    have e1 : t.size = 0 := by omega
    have e2 : pl 0 0 s.size = 0 := by unfold pl; rw [if_pos (Nat.zero_le _)]; omega
    have e3 : s ++ t = s := by
      refine rg_ext (n := 0) (by rw [rg_append_size]; omega) e0 fun j hj => absurd hj (Nat.not_lt_zero _)
    refine ⟨w.drew, w.drew.drew, fun ty => ?_, fun ty => ?_, ha, ha, ?_, ⟨rfl, rfl, rfl, Nat.le_refl _, fun _ _ _ _ => rfl⟩⟩
    · rw [e1, Nat.zero_min]
      have : 0 - pl 0 0 s.size = 0 := by omega
      rw [this]
      exact copy_text_none _ _ _ _ ty
    · rw [Nat.min_zero]
      exact copy_text_none _ _ _ _ ty
    · rw [e3]
      have e4 : s.size + t.size = s.size := by omega
      rw [e4]
      exact ⟨At.set_ (w := w.drew.drew) ha 3 _, h1, h2, h3, h4, l, hl, Or.inl ⟨rfl, rfl⟩, hs⟩
  · have hf : f < n := by omega
    have hp := pl_lt (j := s.size) hf (by omega)
    obtain ⟨W2, c1, O2, g2⟩ := copy_text w.drew x n (pl n f s.size) (n - pl n f s.size) (n - pl n f s.size) (cutA (adr (some x)) n (pl n f s.size)) l ho (fun q => cut_own _ _ _ q) (by omega) t
    obtain ⟨W3, c2, O3, g3⟩ := copy_text W2.drew x n 0 n n (adr (some x)) _ O2 (fun _ => rfl) (by omega) (t.extract (min t.size (n - pl n f s.size)) t.size)
    have a2 : At W2 b 96 (rgCells r n f (some x) s.size) := At.kept (w := w.drew) ha g2 (by intro e; injection e with e; exact hxb e)
    have a3 : At W3 b 96 (rgCells r n f (some x) s.size) := At.kept (w := W2.drew) a2 g3 (by intro e; injection e with e; exact hxb e)
    have es : (t.extract (min t.size (n - pl n f s.size)) t.size).size = t.size - min t.size (n - pl n f s.size) := by rw [rg_cut_size]; omega
    have T1 : Turns w w.drew b (some x) := ⟨rfl, rfl, rfl, Nat.le_refl _, fun _ _ _ _ => rfl⟩
    have T2 : Turns W2 W2.drew b (some x) := ⟨rfl, rfl, rfl, Nat.le_refl _, fun _ _ _ _ => rfl⟩
    have hput := hs.put (t := t) hl hf hm
    rw [es] at c2 O3
    refine ⟨W2, W3, c1, c2, a2, a3, ?_, T1.trans (Grows.refl _ _) ((turns_grown g2 b).trans (Grows.refl _ _) (T2.trans (Grows.refl _ _) (turns_grown g3 b)))⟩
    refine ⟨?_, by rw [rg_append_size]; exact hm, h2, h3, h4, _, O3.1, Or.inr ⟨x, rfl, hxb, hn0, O3.far2 (p := ⟨b, 3, none⟩) hxb _⟩, hput⟩
    rw [rg_append_size]
    exact a3.set_ 3 _

set_option maxRecDepth 100000 in
set_option maxHeartbeats 1600000 in
theorem rg_put_many (b r q : Nat) (g : Option Nat) (s t : ByteArray) (w : World) (h : Rg w b r g s) (hq : min t.size (r - s.size) = q) :
    Calls Try.prog 51 #[.pointer (some ⟨b, 0, none⟩), .string t] w (GivesRg w b r g (.int .i64 (q : Nat)) (s ++ t.extract 0 q)) := by
  have hsr := h.size
  have hr := h.room
  have hmin : min (t.size : Int) ((r : Int) - (s.size : Int)) = (q : Int) := by omega
  have hsl : ∀ W, (Instr.slice 9 (Value.string t) none (some (Value.int .i64 (q : Int))) none).run Try.prog W = .ok (Value.string (t.extract 0 q)) W := fun W => by
    rw [run_slice_string_to_if W 9 t .i64 (q : Int) Try.underlying9, if_pos ⟨by omega, by omega⟩]; rfl
  have hT : (t.extract 0 q).size = q := by rw [rg_cut_size]; omega
  have H1 := Lib.hid (rg_room_any b r g s w h)
  have H0 := Lib.hid h
  have HB := Lib.hid (And.intro hsr (And.intro hr (show s.size + q ≤ r by omega)))
  have hq0 : (0 : Int) ≤ (q : Int) := Int.natCast_nonneg _
  have hq1 : (q : Int) ≤ 1048576 := by omega
  have hm0 : (0 : Int) ≤ (s.size : Int) := Int.natCast_nonneg _
  have hm1 : (s.size : Int) ≤ 1048576 := by omega
  clear h hq hsr hr
  generalize t.extract 0 q = T at *
  have hT2 : (T.size : Int) = (q : Int) := by omega
  have HT := Lib.hid hT
  clear hT
  go_enter Try.func51, Try.ntmps51
  go_wp2_with fail
  refine H1.out.mono ?_; rintro e w1 ⟨rfl, hd⟩
  have H2 := Lib.hid (H0.out.below (two_drawn hd))
  have T1 := Lib.hid (turns_drawn hd b g)
  have c3 : w1.cell? ⟨b, 3, none⟩ = some (.int .i64 (s.size : Nat)) := by
    obtain ⟨n, f, h⟩ := H2.out
    exact h.1.cell 3 rfl
  clear hd
  go_wp2_with fail
  have e1 : (s.size : Int) + (q : Int) = ((s.size + q : Nat) : Int) := by omega
  have HW := Lib.hid (rg_widen_any b r (s.size + q) g s w1 H2.out HB.out.2.2)
  rw [← e1] at HW
  clear e1
  refine HW.out.mono ?_; rintro e w2 ⟨rfl, n, f, g', hk, hn, ht, hg⟩
  have T2 := Lib.hid (T1.out.trans (Grows.refl _ _) ht)
  have G2 : Hid (Grows w g g') := Lib.hid ((Grows.refl w g).trans T1.out.size hg)
  obtain ⟨W2, W3, cp1, cp2, a2, a3, kp, t3⟩ := put_copies w2 b r n f g' s T hk (by rw [HT.out]; exact hn)
  have T3 := Lib.hid (T2.out.trans G2.out t3)
  have KP := Lib.hid kp
  have HPL := Lib.hid (fun W (a : At W b 96 (rgCells r n f g' s.size)) => rg_place_any b r n f s.size s.size g' W a (by have := HB.out; have := hk.2.2.1; have := hk.2.2.2.2.1; omega) (by have := HB.out; omega))
  have A0 : Hid (At w2.drew b 96 (rgCells r n f g' s.size)) := Lib.hid hk.1
  have hsl1 := cut_run (adr g') n (pl n f s.size) (by
    have h5 := hk.2.2.2.2.1
    have h6 := hk.2.1
    rcases h5 with h5 | ⟨h5, h7⟩
    · exact Nat.le_of_lt (pl_lt h5 (by omega))
    · subst h5 h7
      unfold pl
      rw [if_pos (Nat.zero_le _)]; omega)
  have hsl2 : ∀ W, (Instr.slice 9 (Value.string T) (some (Value.int .i64 ((min T.size (n - pl n f s.size) : Nat) : Int))) none none).run Try.prog W = .ok (Value.string (T.extract (min T.size (n - pl n f s.size)) T.size)) W := fun W => by
    rw [run_slice_string_from_if W 9 T .i64 _ Try.underlying9, if_pos ⟨by omega, by omega⟩]; rfl
  have d1 := hk.1.cell 1 rfl
  have d3 := hk.1.cell 3 rfl
  have i1 := a2.cell 1 rfl
  have j3 := a3.cell 3 rfl
  have z3 := a3.free 3
  clear hmin c3 hk hn ht hg H1 H2 T1 T2 HW a2 a3 kp t3 hsl
  generalize min (T.size - min T.size (n - pl n f s.size)) n = y2 at *
  generalize T.extract (min T.size (n - pl n f s.size)) T.size = T' at *
  generalize min T.size (n - pl n f s.size) = y1 at *
  generalize cutA (adr g') n (pl n f s.size) = X at *
  generalize n - pl n f s.size = p at *
  have hp0 : (0 : Int) ≤ ((pl n f s.size : Nat) : Int) := Int.natCast_nonneg _
  generalize pl n f s.size = o at *
  go_wp2_with fail
  refine wp_region_still_tail 12 (by kernel_rfl) (by kernel_rfl) ?_
  simp only [List.take_succ_cons, List.take_zero, List.drop_succ_cons, List.drop_zero]
  repeat still_step
  still_call ((HPL.out _ A0.out).mono fun _ _ h => ⟨h.1, h.2.symm⟩)
  repeat still_step
  refine wpStill_nil ?_
  change wpList _ _ _ _ _ w2.drew
  clear d1 d3 A0 hsl1
  generalize w2.drew = w3 at *
  go_wp2_with fail
  refine wp_region_still_tail 7 (by kernel_rfl) (by kernel_rfl) ?_
  simp only [List.take_succ_cons, List.take_zero, List.drop_succ_cons, List.drop_zero]
  repeat still_step
  refine wpStill_nil ?_
  change wpList _ _ _ _ _ W2.drew
  clear i1 hsl2
  generalize W2.drew = w4 at *
  go_wp2_with fail
  go_ret
  have e2 : ((s.size + T.size : Nat) : Int) = (s.size : Int) + (q : Int) := by have := HT.out; omega
  rw [e2] at KP
  exact ⟨rfl, g', ⟨n, f, KP.out⟩, T3.out.trans G2.out (turns_set _ _ _ _ _), G2.out⟩
theorem rg_put_any (b r : Nat) (g : Option Nat) (s t : ByteArray) (w : World) (h : Rg w b r g s) :
    Calls Try.prog 51 #[.pointer (some ⟨b, 0, none⟩), .string t] w (GivesRg w b r g (.int .i64 (min t.size (r - s.size) : Nat)) (s ++ t.extract 0 (min t.size (r - s.size)))) :=
  rg_put_many b r _ g s t w h rfl
/-! ### Take -/
theorem rg_rest_none (s : ByteArray) : s.extract 0 s.size = s :=
  rg_ext (n := s.size) (by rw [rg_cut_size]; omega) rfl fun j hj => rg_cut_at _ _ _ hj
theorem taken_kp {w : World} {b r n f k : Nat} {g : Option Nat} {s : ByteArray} (h : Kp w b r n f g s) (hk : k ≤ s.size) (h0 : 0 < k) :
    Kp ((w.setCell ⟨b, 2, none⟩ (.int .i64 (pl n f k : Nat))).setCell ⟨b, 3, none⟩ (.int .i64 ((s.size : Int) - (k : Int)))) b r n (pl n f k) g (s.extract k s.size) := by
  obtain ⟨ha, h1, h2, h3, h4, l, hl, hr, hs⟩ := h
  have hf : f < n := by omega
  have hz : (s.extract k s.size).size = s.size - k := by rw [rg_cut_size]; omega
  have e : ((s.size : Int) - (k : Int)) = ((s.size - k : Nat) : Int) := by omega
  refine ⟨?_, by omega, h2, h3, Or.inl (pl_lt hf (by omega)), l, hl, ?_, hs.take hf h1⟩
  · rw [hz, e]
    exact (ha.set_ 2 _).set_ 3 _
  · refine hr.block fun x hx hb hlt => ?_
    rw [Below.heap_setCell _ ⟨b, 3, none⟩ _ x hb, Below.heap_setCell _ ⟨b, 2, none⟩ _ x hb]

set_option maxRecDepth 100000 in
set_option maxHeartbeats 1600000 in
theorem rg_take_many (b r k : Nat) (z : Int) (g : Option Nat) (s : ByteArray) (w : World) (h : Rg w b r g s) (hk : max 0 (min z (s.size : Int)) = (k : Int)) :
    Calls Try.prog 42 #[.pointer (some ⟨b, 0, none⟩), .int .i64 z] w (GivesRg w b r g (.string (s.extract 0 k)) (s.extract k s.size)) := by
  have hks : k ≤ s.size := by omega
  have hsz : (s.extract 0 k).size = k := by rw [rg_cut_size]; omega
  have hrz : (s.extract k s.size).size = s.size - k := by rw [rg_cut_size]; omega
  obtain ⟨n, f, h⟩ := h
  have HP := Lib.hid (rg_peek_many b r n f k z g s w h hk)
  have HK := Lib.hid h
  have hb1 : s.size ≤ 1048576 := by have := h.2.1; have := h.2.2.1; have := h.2.2.2.1; omega
  have hb2 : f ≤ 1048576 := by have := h.2.2.1; have := h.2.2.2.1; have := h.2.2.2.2.1; omega
  clear h hk
  by_cases h0 : k = 0
  · subst h0
    have HE : Hid (s.extract 0 s.size = s) := Lib.hid (rg_rest_none s)
    have hs0 : ((s.extract 0 0).size : Int) = 0 := by omega
    generalize s.extract 0 0 = T at *
    clear hks hsz hrz
    go_enter Try.func42, Try.ntmps42
    go_wp2_with fail
    refine HP.out.mono ?_; rintro e w1 ⟨rfl, g1⟩
    have K1 := Lib.hid (HK.out.below g1)
    have T1 := Lib.hid (turns_below g1 b g)
    clear g1
    go_wp2_with fail
    go_ret
    rw [HE.out]
    exact ⟨rfl, g, ⟨n, f, K1.out⟩, T1.out, Grows.refl _ _⟩
  · have hs1 : ((s.extract 0 k).size : Int) = (k : Int) := by omega
    have hs0 : (0 : Int) < ((s.extract 0 k).size : Int) := by omega
    have hk1 : (k : Int) ≤ (s.size : Int) := by omega
    have hm1 : (s.size : Int) ≤ 1048576 := by omega
    have HR := Lib.hid hrz
    have HX := Lib.hid (And.intro hks (And.intro hb1 hb2))
    clear hks hsz hrz h0 hb1 hb2
    generalize s.extract 0 k = T at *
    have hk0 : (0 : Int) < (k : Int) := by omega
    go_enter Try.func42, Try.ntmps42
    go_wp2_with fail
    refine HP.out.mono ?_; rintro e w1 ⟨rfl, g1⟩
    have K1 := Lib.hid (HK.out.below g1)
    have T1 := Lib.hid (turns_below g1 b g)
    have hf2 := K1.out.1.free 2
    have hf3 := K1.out.1.free 3
    have hc2 := K1.out.1.cell 2 rfl
    have hc3 := K1.out.1.cell 3 rfl
    clear g1
    go_wp2_with fail
    refine (rg_place_any b r n f s.size k g w1 K1.out.1 HX.out.2.2 (by have := HX.out; omega)).mono ?_; rintro e w2 ⟨rfl, rfl⟩
    go_wp2_with fail
    go_ret
    exact ⟨rfl, g, ⟨n, pl n f k, taken_kp K1.out HX.out.1 (by omega)⟩, T1.out.trans (Grows.refl _ _) ((turns_set _ _ _ _ _).trans (Grows.refl _ _) (turns_set _ _ _ _ _)), Grows.refl _ _⟩
theorem rg_take_any (b r : Nat) (z : Int) (g : Option Nat) (s : ByteArray) (w : World) (h : Rg w b r g s) :
    Calls Try.prog 42 #[.pointer (some ⟨b, 0, none⟩), .int .i64 z] w (GivesRg w b r g (.string (s.extract 0 (max 0 (min z (s.size : Int))).toNat)) (s.extract (max 0 (min z (s.size : Int))).toNat s.size)) :=
  rg_take_many b r _ z g s w h (by omega)
end Go.Proofs.Ytedecminaopgaaa

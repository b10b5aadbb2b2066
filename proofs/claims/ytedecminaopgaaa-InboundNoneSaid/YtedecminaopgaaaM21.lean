/- Proved: lemmas of one statement's proof, merged by program: what each part proves stands ahead of it. Conditions: those that the lemmas name. -/
import Derived.Test.YtedecminaopgaaaM19
import Derived.Test.YtedecminaopgaaaM17
import Derived.Test.YtedecminaopgaaaM8

/- Proved: what waitsFrom, Fin, Lacks of package inbound answer, and leave, for every state. Conditions: those that the theorems name. -/
namespace Go.Proofs.Ytedecminaopgaaa
open Go.ChangeShapes Go.WideShapes Go.ChangeAt Go.RowKit

theorem has_wpl {B : Int} {L : List ByteArray} {i : Nat} (hB : U32 B) (hi : i < 1000) : hasO B L (wpl B i) = !emB (st_ L i) := by
  unfold hasO atO
  rw [ah_place hB hi, atZ_nat]
set_option maxRecDepth 100000 in
set_option maxHeartbeats 1600000 in
theorem ib_waits (Y : IbY) (M : IbM) (p : Nat) (w : World) (h : Ibm w Y M) (hl : M.L.length ≤ M.k) (hk : M.k ≤ 64) (hp : p ≤ 65) :
    Calls Try.prog 48 #[ibp Y, .int .u32 (wpl M.B p)] w fun e w' => e = .returned (.bool (wfZ M.L p)) ∧ ∃ q, w' = w.drewN q := by
  have HLs := Lib.hid (fun W j (hj : j ≤ 65) => less_any (wpl M.B j) (wpl M.B M.k) (wpl_u32 _ _) (wpl_u32 _ _) W)
  have HLd : Hid (∀ j, j ≤ 65 → decide (0 < ah (wpl M.B j) (wpl M.B M.k)) = decide (j < M.k)) := Lib.hid fun j hj => by
    rw [ah_wpl (by omega) (by omega)]
    exact decide_eq_decide.2 (by omega)
  have HH : Hid (∀ q j, j ≤ 65 → Calls Try.prog 38 #[.pointer (some ⟨Y.o, 0, none⟩), .int .u32 (wpl M.B j)] (w.drewN q) fun e w' => e = .returned (.bool (!emB (st_ M.L j))) ∧ ∃ q', w' = (w.drewN q).drewN q') := Lib.hid fun q j hj => by
    rw [← has_wpl h.u32 (by omega)]
    exact or_has_any (some ⟨Y.o, 0, none⟩) M.B Y.v M.L _ _ (h.drewN q).odo (wpl_u32 _ _)
  have HC : Hid (∀ q, (w.drewN q).cell? ⟨Y.i, 1, none⟩ = some (.pointer (some ⟨Y.o, 0, none⟩)) ∧ (w.drewN q).cell? ⟨Y.i, 3, none⟩ = some (.int .u32 (wpl M.B M.k))) := Lib.hid fun q => ⟨(h.drewN q).own.cell 1 rfl, (h.drewN q).own.cell 3 rfl⟩
  have HB := Lib.hid (And.intro hl (And.intro hk hp))
  clear h
  go_enter Try.func48, Try.ntmps48
  go_wp2_with fail
  go_loopw [5] (fun v wr => ∃ j : Nat, p ≤ j ∧ j ≤ 65 ∧ v = .int .u32 (wpl M.B j) ∧ (∀ i, p ≤ i → i < j → emB (st_ M.L i) = true) ∧ ∃ q, wr = w.drewN q) (fun v _ => M.k - (off M.B (intOf v)).toNat)
  case atStart => exact ⟨p, Nat.le_refl _, hp, rfl, fun i a b => absurd a (by omega), 0, rfl⟩
  case round =>
    obtain ⟨j, hpj, hj, rfl, hno, q, hq⟩ := hrel
    have HN := Lib.hid hno
    have HQ := Lib.hid hq
    have HX := Lib.hid (wpl_next M.B j)
    have HM0 : Hid (off M.B (wpl M.B j) = j ∧ off M.B (wpl M.B (j + 1)) = (j + 1 : Nat)) := Lib.hid ⟨off_wpl (by omega), off_wpl (by omega)⟩
    obtain ⟨c1, c3⟩ := HC.out q
    have HL1 := Lib.hid (fun W => HLs.out W j hj)
    rw [HLd.out j hj] at HL1
    have HH1 := Lib.hid (HH.out q j hj)
    rw [← hq] at c1 c3 HH1
    clear hno hq
    by_cases hlt : j < M.k
    · rw [decide_eq_true hlt] at HL1
      have HLT := Lib.hid hlt
      clear hlt
      cases he : emB (st_ M.L j)
      · rw [he] at HH1
        have HE : Hid (wfZ M.L p = true) := Lib.hid (wf_is.2 ⟨j, hpj, he⟩)
        clear he
        generalize wpl M.B j = y at *
        go_wp2_with fail
        refine (HL1.out _).mono ?_; rintro e w1 ⟨rfl, rfl⟩
        go_wp2_with fail
        refine HH1.out.mono ?_; rintro e w1 ⟨rfl, q', rfl⟩
        go_wp2_with fail
        go_ret
        rw [HE.out, HQ.out]
        exact ⟨rfl, _, World.drewN_drewN _ _ _⟩
      · rw [he] at HH1
        have HE := Lib.hid he
        clear he
        generalize hy : wpl M.B j = y at HX HM0 HL1 HH1 ⊢
        clear hy
        go_wp2_with fail
        refine (HL1.out _).mono ?_; rintro e w1 ⟨rfl, rfl⟩
        go_wp2_with fail
        refine HH1.out.mono ?_; rintro e w1 ⟨rfl, q', rfl⟩
        go_wp2_with fail
        go_roundw
        case rel =>
          refine ⟨j + 1, by omega, by have := HLT.out; have := HB.out; omega, by rw [HX.out], fun i a b => ?_, q + q', by rw [HQ.out]; exact World.drewN_drewN _ _ _⟩
          rcases Nat.lt_or_ge i j with e | e
          · exact HN.out i a e
          · obtain rfl : i = j := by omega
            exact HE.out
        case measure => simp only [intOf]; rw [HX.out, HM0.out.1, HM0.out.2]; have := HLT.out; omega
    · rw [decide_eq_false hlt] at HL1
      have HE : Hid (wfZ M.L p = false) := Lib.hid (wf_no.2 fun i hi => by
        rcases Nat.lt_or_ge i j with e | e
        · exact HN.out i hi e
        · rw [st_none (by omega)]; exact em_S0)
      clear hlt
      generalize wpl M.B j = y at *
      go_wp2_with fail
      refine (HL1.out _).mono ?_; rintro e w1 ⟨rfl, rfl⟩
      go_wp2_with fail
      go_ret
      rw [HE.out]
      exact ⟨rfl, q, HQ.out⟩
set_option maxRecDepth 100000 in
set_option maxHeartbeats 1600000 in
theorem ib_fin (Y : IbY) (M : IbM) (x : Int) (w : World) (h : Ib w Y M) (hx : U32 x) :
    Calls Try.prog 24 #[ibp Y, .int .u32 x] w (GivesIb w Y (finM M x) (.int .i64 (finE M x))) := by
  have HB := Lib.hid (fun q => or_base_any (some ⟨Y.o, 0, none⟩) M.B Y.v M.L (w.drewN q) (h.m.drewN q).odo)
  have HW := Lib.hid (fun W => within_any x M.B (M.n + 1) hx h.m.u32 W)
  have hn0 := h.m.n64.1
  have hn1 := h.m.n64.2
  have HI := Lib.hid h
  have HX := Lib.hid (h.i.fin_ hx)
  have HXU := Lib.hid hx
  have c0 := h.m.own.cell 0 rfl
  have c1 := h.m.own.cell 1 rfl
  clear h hx
  cases h1 : inZ x M.B (M.n + 1)
  · obtain ⟨e1, e2⟩ := fn_past h1
    rw [h1] at HW
    rw [e1, e2]
    clear e1 e2 h1
    go_enter Try.func24, Try.ntmps24
    go_wp2_with fail
    go_quiet ((first | (go_at_call 36; exact Calls.quiet_of_same ((HB.out _).mono fun _ _ h => ⟨h.1, h.2.symm⟩)) | (go_at_call 44; exact Calls.quiet_of_same ((HW.out _).mono fun _ _ h => ⟨h.1, h.2.symm⟩))))
    go_wp2_with fail
    go_ret
    exact ⟨rfl, Y, HI.out.drewN _, (IbT.refl w Y).drewN_ _⟩
  obtain ⟨p, hp, hpn⟩ := in_place h1
  have hxp := in_wpl HI.out.m.u32 HXU.out hp
  have HF : Hid (∀ q, Calls Try.prog 48 #[ibp Y, .int .u32 x] (w.drewN q) fun e w' => e = .returned (.bool (wfZ M.L (ah M.B x).toNat)) ∧ ∃ q', w' = (w.drewN q).drewN q') := Lib.hid fun q => by
    rw [hp]
    have := ib_waits Y M p (w.drewN q) (HI.out.m.drewN q) HI.out.i.low HI.out.k64 (by omega)
    rw [← hxp] at this
    exact this
  clear hp hpn hxp
  have HZ := Lib.hid h1
  rw [h1] at HW
  cases h2 : wfZ M.L (ah M.B x).toNat
  · rw [h2] at HF
    have c5 : ∀ q, (w.drewN q).cell? ⟨Y.i, 5, none⟩ = some (.int .u32 M.fi) := fun q => (HI.out.m.drewN q).own.cell 5 rfl
    have c6 : ∀ q, (w.drewN q).cell? ⟨Y.i, 6, none⟩ = some (.bool M.hf) := fun q => (HI.out.m.drewN q).own.cell 6 rfl
    by_cases h3 : M.hf = true ∧ M.fi ≠ x
    · obtain ⟨e1, e2⟩ := fn_unlike h1 h2 h3.1 h3.2
      rw [e1, e2]
      rw [h3.1] at c6
      have h4 : (M.fi == x) = false := by simpa using h3.2
      have h5 : (M.fi != x) = true := by unfold bne; rw [h4]; rfl
      clear e1 e2 h1 h2 h3
      go_enter Try.func24, Try.ntmps24
      go_wp2_with fail
      go_quiet ((first | (go_at_call 36; exact Calls.quiet_of_same ((HB.out _).mono fun _ _ h => ⟨h.1, h.2.symm⟩)) | (go_at_call 44; exact Calls.quiet_of_same ((HW.out _).mono fun _ _ h => ⟨h.1, h.2.symm⟩)) | (go_at_call 48; exact Calls.quiet_of (HF.out _))))
      have d5 := c5 nq
      have d6 := c6 nq
      have HI1 := Lib.hid (HI.out.drewN nq)
      have T1 := Lib.hid ((IbT.refl w Y).drewN_ nq)
      clear c5 c6 c0 c1
      generalize w.drewN nq = w1 at *
      go_wp2_with fail
      go_ret
      exact ⟨rfl, Y, HI1.out, T1.out⟩
    · obtain ⟨e1, e2⟩ := fn_set h1 h2 h3
      rw [e2] at HX
      rw [e1, e2]
      have h4 : M.hf = false ∨ (M.hf = true ∧ M.fi = x) := by
        cases e : M.hf
        · exact .inl rfl
        · exact .inr ⟨rfl, Classical.byContradiction fun q => h3 ⟨e, q⟩⟩
      clear e1 e2 h1 h2 h3
      rcases h4 with h4 | ⟨h4, h5⟩
      · rw [h4] at c6
        clear h4
        go_enter Try.func24, Try.ntmps24
        go_wp2_with fail
        go_quiet ((first | (go_at_call 36; exact Calls.quiet_of_same ((HB.out _).mono fun _ _ h => ⟨h.1, h.2.symm⟩)) | (go_at_call 44; exact Calls.quiet_of_same ((HW.out _).mono fun _ _ h => ⟨h.1, h.2.symm⟩)) | (go_at_call 48; exact Calls.quiet_of (HF.out _))))
        have d5 := c5 nq
        have d6 := c6 nq
        have HI1 := Lib.hid (HI.out.drewN nq)
        have T1 := Lib.hid ((IbT.refl w Y).drewN_ nq)
        clear c5 c6 c0 c1
        generalize w.drewN nq = w1 at *
        have f5 := HI1.out.m.own.free 5
        have f6 := HI1.out.m.own.free 6
        go_wp2_with fail
        go_ret
        obtain ⟨a, b⟩ := HI1.out.m.fin_ x
        obtain ⟨a', b'⟩ := a.has_ true
        exact ⟨rfl, Y, ⟨a', HX.out⟩, T1.out.trans (b.trans b')⟩
      · rw [h4] at c6
        have h6 : (M.fi == x) = true := by simpa using h5
        have h7 : (M.fi != x) = false := by unfold bne; rw [h6]; rfl
        clear h4 h5
        go_enter Try.func24, Try.ntmps24
        go_wp2_with fail
        go_quiet ((first | (go_at_call 36; exact Calls.quiet_of_same ((HB.out _).mono fun _ _ h => ⟨h.1, h.2.symm⟩)) | (go_at_call 44; exact Calls.quiet_of_same ((HW.out _).mono fun _ _ h => ⟨h.1, h.2.symm⟩)) | (go_at_call 48; exact Calls.quiet_of (HF.out _))))
        have d5 := c5 nq
        have d6 := c6 nq
        have HI1 := Lib.hid (HI.out.drewN nq)
        have T1 := Lib.hid ((IbT.refl w Y).drewN_ nq)
        clear c5 c6 c0 c1
        generalize w.drewN nq = w1 at *
        have f5 := HI1.out.m.own.free 5
        have f6 := HI1.out.m.own.free 6
        go_wp2_with fail
        go_ret
        obtain ⟨a, b⟩ := HI1.out.m.fin_ x
        obtain ⟨a', b'⟩ := a.has_ true
        exact ⟨rfl, Y, ⟨a', HX.out⟩, T1.out.trans (b.trans b')⟩
  · obtain ⟨e1, e2⟩ := fn_wait h1 h2
    rw [h2] at HF
    rw [e1, e2]
    clear e1 e2 h1 h2
    go_enter Try.func24, Try.ntmps24
    go_wp2_with fail
    go_quiet ((first | (go_at_call 36; exact Calls.quiet_of_same ((HB.out _).mono fun _ _ h => ⟨h.1, h.2.symm⟩)) | (go_at_call 44; exact Calls.quiet_of_same ((HW.out _).mono fun _ _ h => ⟨h.1, h.2.symm⟩)) | (go_at_call 48; exact Calls.quiet_of (HF.out _))))
    go_wp2_with fail
    go_ret
    exact ⟨rfl, Y, HI.out.drewN _, (IbT.refl w Y).drewN_ _⟩
end Go.Proofs.Ytedecminaopgaaa

/- Proved: what Lacks of package inbound answers, for every state. Conditions: those that the theorems name. -/
namespace Go.Proofs.Ytedecminaopgaaa
open Go.ChangeShapes Go.WideShapes Go.ChangeAt Go.RowKit

set_option maxRecDepth 100000 in
set_option maxHeartbeats 1600000 in
theorem ib_lacks (Y : IbY) (M : IbM) (w : World) (h : Ib w Y M) :
    Calls Try.prog 16 #[ibp Y] w (GivesU w (lkL M.B M.L M.k)) := by
  have HI := Lib.hid h
  have HB := Lib.hid (or_base_any (some ⟨Y.o, 0, none⟩) M.B Y.v M.L w h.m.odo)
  have HH : Hid (∀ W j, Below w.heap.size w W → j ≤ 65 → Calls Try.prog 38 #[.pointer (some ⟨Y.o, 0, none⟩), .int .u32 (wpl M.B j)] W fun e w' => e = .returned (.bool (!emB (st_ M.L j))) ∧ ∃ q, w' = W.drewN q) := Lib.hid fun W j g hj => by
    rw [← has_wpl h.m.u32 (by omega)]
    exact or_has_any (some ⟨Y.o, 0, none⟩) M.B Y.v M.L _ _ (h.below g).m.odo (wpl_u32 _ _)
  have HC : Hid (∀ W, Below w.heap.size w W → W.cell? ⟨Y.i, 1, none⟩ = some (.pointer (some ⟨Y.o, 0, none⟩)) ∧ W.cell? ⟨Y.i, 3, none⟩ = some (.int .u32 (wpl M.B M.k))) := Lib.hid fun W g => ⟨(h.below g).m.own.cell 1 rfl, (h.below g).m.own.cell 3 rfl⟩
  have HK := Lib.hid h.k64
  have HZ := Lib.hid (wpl_zero h.m.u32)
  obtain ⟨B, hB⟩ : ∃ B, M.B = B := ⟨_, rfl⟩
  obtain ⟨L, hL⟩ : ∃ L, M.L = L := ⟨_, rfl⟩
  obtain ⟨k, hk⟩ : ∃ k, M.k = k := ⟨_, rfl⟩
  rw [hB] at HB
  rw [hB, hL] at HH
  rw [hB, hk] at HC
  rw [hk] at HK
  rw [hB] at HZ
  rw [hB, hL, hk]
  clear h hB hL hk HI
  obtain ⟨c1, c3⟩ := HC.out w (Below.refl _ _)
  go_enter Try.func16, Try.ntmps16
  go_wp2_with fail
  refine HB.out.mono ?_; rintro e w1 ⟨rfl, rfl⟩
  go_wp2_with fail
  clear c1 c3
  go_loopw [3, 4] (fun v x wr => ∃ j : Nat, j ≤ k ∧ x = .int .u32 (wpl B j) ∧ wr.ownsRow w.heap.size 32 1 v (lkL B L j).length (ucells (lkL B L j)) ∧ Below w.heap.size w wr) (fun _ x _ => k - (off B (intOf x)).toNat)
  case atStart => exact ⟨0, by omega, by rw [HZ.out], World.ownsRow_nil _ _ _ _, Below.refl _ _⟩
  case round =>
    obtain ⟨j, hj, rfl, hown, hbel⟩ := hrel
    have HBL := Lib.hid hbel
    have HO := Lib.hid hown
    have HX := Lib.hid (wpl_next B j)
    have hk64 := HK.out
    obtain ⟨c1, c3⟩ := HC.out wr hbel
    have HH1 := Lib.hid (HH.out wr j hbel (by omega))
    clear hown hbel
    have HM0 : Hid (off B (wpl B j) = j ∧ off B (wpl B (j + 1)) = (j + 1 : Nat)) := Lib.hid ⟨off_wpl (by omega), off_wpl (by omega)⟩
    by_cases hlt : j < k
    · have hne : (wpl B j == wpl B k) = false := by
        have := fun e => wpl_inj (B := B) (i := j) (j := k) (by omega) (by omega) e
        simp only [beq_eq_false_iff_ne, ne_eq]
        intro e
        have := this e
        omega
      have hne2 : (wpl B j != wpl B k) = true := by unfold bne; rw [hne]; rfl
      cases hin : emB (st_ L j)
      · rw [hin] at HH1
        have HI : Hid (lkL B L (j + 1) = lkL B L j) := Lib.hid (by show lkL B L j ++ (if _ then _ else _) = _; rw [if_neg (by rw [hin]; decide), List.append_nil])
        clear hin
        generalize hy : wpl B j = y at HH1 HX hne hne2 HM0 ⊢
        generalize hz : wpl B k = z at hne hne2 c3 ⊢
        clear hy hz
        go_wp2_with fail
        refine HH1.out.mono ?_; rintro e w2 ⟨rfl, q, hq⟩
        have HB2 : Hid (Below w.heap.size w w2) := Lib.hid (by rw [hq]; exact bel_drewN HBL.out (Nat.le_refl _) q)
        have HO2 : Hid (w2.ownsRow w.heap.size 32 1 u3 (lkL B L j).length (ucells (lkL B L j))) := Lib.hid (by rw [hq]; exact HO.out.kept (grown_drewN wr q none) (Classical.em _))
        clear hq HBL HO HH1
        go_wp2_with fail
        go_roundw
        case rel => exact ⟨j + 1, by omega, by rw [HX.out], by rw [HI.out]; exact HO2.out, HB2.out⟩
        case measure => simp only [intOf]; rw [HX.out, HM0.out.1, HM0.out.2]; omega
      · rw [hin] at HH1
        have HI : Hid (lkL B L (j + 1) = lkL B L j ++ [wpl B j]) := Lib.hid (by show lkL B L j ++ (if _ then _ else _) = _; rw [if_pos hin])
        have HQ : Hid ((lkL B L j).length ≤ 64) := Lib.hid (by have := lk_len B L j; omega)
        clear hin
        generalize hp : lkL B L j = p at *
        generalize hy : wpl B j = y at HH1 HX hne hne2 HM0 HI ⊢
        generalize hz : wpl B k = z at hne hne2 c3 ⊢
        clear hy hz hp
        go_wp2_with fail
        refine HH1.out.mono ?_; rintro e w2 ⟨rfl, q, hq⟩
        have HB2 : Hid (Below w.heap.size w w2) := Lib.hid (by rw [hq]; exact bel_drewN HBL.out (Nat.le_refl _) q)
        have HO2 : Hid ((w2.alloc (.cells #[.int .u32 y] 32)).ownsRow w.heap.size 32 1 u3 p.length (ucells p)) := Lib.hid (by rw [hq]; exact (HO.out.kept (grown_drewN wr q none) (Classical.em _)).alloc (.cells #[.int .u32 y] 32))
        have hb3 := (Below.refl w2.heap.size w2).alloc (Nat.le_refl _) (.cells #[.int .u32 y] 32)
        have HB3 := Lib.hid (HB2.out.trans (hb3.mono HB2.out.size))
        have hs3 : w.heap.size ≤ (w2.alloc (.cells #[.int .u32 y] 32)).heap.size := HB3.out.size
        have HRB : Hid (∀ q, u3.ownBlock = some q → w.heap.size ≤ q) := Lib.hid fun q e => (HO.out.lt q e).1
        have hq' := HQ.out
        have HC2 := Lib.hid (uw_one w2 y)
        clear hq HBL HO HH1 hb3 HB2
        go_wp2_with (at_builtin; refine uw_append rfl _ _ rfl _ _ _ p rfl HO2.out _ 1 1 [y] rfl HC2.out (fun e => nomatch e) (by omega) hs3 ?_; intro v4 w4 hown4 hg4; have HO4 := Lib.hid hown4; have HG4 := Lib.hid hg4; clear hown4 hg4)
        go_roundw
        case rel =>
          refine ⟨j + 1, by omega, by rw [HX.out], ?_, HB3.out.grown HG4.out HB3.out.size HRB.out⟩
          rw [HI.out, List.length_append]; exact HO4.out
        case measure => simp only [intOf]; rw [HX.out, HM0.out.1, HM0.out.2]; omega
    · obtain rfl : j = k := by omega
      go_wp2_with fail
      go_ret
      obtain ⟨A, c, e1, e2, e3, e4⟩ := uw_of HO.out
      rw [e1]
      exact ⟨A, c, rfl, e2, e3, e4, HBL.out⟩
end Go.Proofs.Ytedecminaopgaaa

/- Proved: lemmas of one statement's proof, merged by program: what each part proves stands ahead of it. Conditions: those that the lemmas name. -/
import Derived.Test.YtgclgmfmcgacdaaM29
import Derived.Deep.RegionHeld3

/- Proved: what the document's Put answers of an entry that is there. Conditions: those that the theorems name. -/
namespace Go.Proofs.Ytgclgmfmcgacdaa
open Go.ChangeShapes Go.WideShapes Go.ChangeAt Go.RowKit

set_option maxRecDepth 100000 in
set_option maxHeartbeats 3200000 in
theorem rput_some {w : World} {c : Nat → Prop} {s : Tv} (h : Tg w c s) (hc : ∀ g, w.heap.size ≤ g → c g) (ho : SOk (facesE s.xs) s.room) (k : Ky) (nd : Int) (x : Shd) (hb : badP nd x = false) {fe : Fe} (hf : findF (facesE s.xs) k = some fe) {r : Int × List Fe} (hr : (match roleR fe.l fe.need nd x with | .wanted _ => (if (fe.more x).ready = true then 3 else 0, (facesE s.xs).map fun a => if a.k = k then a.more x else a) | .known => (1, facesE s.xs) | _ => (4, facesE s.xs) : Int × List Fe) = r) :
    Calls Try.prog 17 #[s.val, kyV k, .int .i64 nd, .agg #[.int .i64 x.1, .string x.2]] w (GivesU w c s.room r) := by
  obtain ⟨W1, HW, A1, A2, A3, A4, B1, hs⟩ := putboxes s k x w
  have HS := Lib.hid h
  have HB := Lib.hid B1
  have HC := Lib.hid hc
  have HO := Lib.hid ho
  have HAT := Lib.hid (rat_any (h.below B1) ho.few k)
  have HA1 := Lib.hid A1
  have HA2 := Lib.hid A2
  have HA3 := Lib.hid A3
  have HA4 := Lib.hid A4
  have HZ : Hid (W1.heap.size = w.heap.size + 4) := Lib.hid hs
  have c0 := A1.cell 0 rfl
  have c1 := A1.cell 1 rfl
  have k0' := A2.cell 0 rfl
  have k1' := A2.cell 1 rfl
  have z0 := A3.cell 0 rfl
  unfold badP at hb
  simp only [Bool.or_eq_false_iff, decide_eq_false_iff_not] at hb
  obtain ⟨h0, h1, h2, h3⟩ := hb
  obtain ⟨nn, rfl⟩ : ∃ nn : Nat, nd = nn := ⟨nd.toNat, by omega⟩
  have h3' : ¬ 254 < x.1 := by omega
  have hfw : (s.xs.length : Int) ≤ 65536 := by have := ho.few; omega
  have hro : (s.room : Int) ≤ 65536 := by have := ho.room; omega
  have hlr : s.xs.length ≤ s.room := by have := ho.len; rw [List.length_map] at this; exact this
  clear A1 A2 A3 A4 B1 hs h hc ho h3
  obtain ⟨room, xs, A, n⟩ := s
  obtain ⟨k0, k1⟩ := k
  obtain ⟨i, t⟩ := x
  dsimp only at HW HS HO HA1 c0 c1 k0' k1' z0 h2 h3' hfw hro hlr hr hf
  have HAT : Hid (Calls Try.prog 34 #[.agg #[.int .i64 room, .slice A xs.length n], .agg #[.int .i64 k0, .int .u32 k1]] W1 _) := HAT
  show Calls Try.prog 17 #[.agg #[.int .i64 room, .slice A xs.length n], .agg #[.int .i64 k0, .int .u32 k1], .int .i64 nn, .agg #[.int .i64 i, .string t]] w (GivesU w c room r)
  go_enter Try.func17, Try.ntmps17
  go_upto_region 1 with fail
  rw [← HW]; clear HW
  go_wp2_with fail
  refine HAT.out.mono ?_; rintro e w1 ⟨z, rfl, hz, b1⟩
  have A1 := HA1.out.below b1 HA1.out.lt
  have A2 := HA2.out.below b1 HA2.out.lt
  have A3 := HA3.out.below b1 HA3.out.lt
  have A4 := HA4.out.below b1 HA4.out.lt
  have HB1 := Lib.hid (HB.out.trans (b1.mono HB.out.size))
  have HZ1 : Hid (w.heap.size + 4 ≤ w1.heap.size) := Lib.hid (by have := b1.size; have := HZ.out; omega)
  have c0 := A1.cell 0 rfl
  have c1 := A1.cell 1 rfl
  have HP1 := Lib.hid A1
  have HP2 := Lib.hid A2
  have HP3 := Lib.hid A3
  have HP4 := Lib.hid A4
  have HFA := Lib.hid (find_at HO.out.nod hz)
  clear k0' k1' z0 A1 A2 A3 A4 b1 HAT HA1 HA2 HA3 HA4 hz
  rcases HFA.out with ⟨_, hf'⟩ | ⟨ix, xo, rfl, hx, hxk, hf'⟩
  · rw [hf] at hf'; cases hf'
  · rw [hf] at hf'
    injection hf' with hf'
    subst hf'
    have hi0 : (0 : Int) ≤ (ix : Int) := Int.natCast_nonneg _
    have hix := (List.getElem?_eq_some_iff.1 hx).1
    have hlt' : (ix : Int) < (xs.length : Int) := by omega
    have hT := HS.out.below HB1.out
    obtain ⟨v2, w2, hr1, ho1, hg1⟩ := run_copy (ty := 28) Try.underlying28 Try.infoE rfl (by decide) (World.ownsRow_nil w1 w1.heap.size 76 4) (c := c) (A := A) (m := xs.length) (cp := n) (ys := evcells xs) (evcells_len xs) hT.qs hT.qn (evcells_one xs) (by omega) (by decide) (Nat.le_refl _)
    rw [Nat.zero_add, List.nil_append] at ho1
    have b2 : Below w1.heap.size w1 w2 := below_grown hg1 (Nat.le_refl _) (by simp [Value.ownBlock])
    obtain ⟨g, cap, L, rfl, hgb, hcap, A2, hL⟩ := evrow_at ho1 (by omega)
    have HROW := Lib.hid (And.intro A2 (And.intro hL (And.intro hgb hcap)))
    have HB2 := Lib.hid (HB1.out.trans (b2.mono HB1.out.size))
    have HQ1 := Lib.hid (HP1.out.below b2 HP1.out.lt)
    have HQ3 := Lib.hid (HP3.out.below b2 HP3.out.lt)
    have HQ4 := Lib.hid (HP4.out.below b2 HP4.out.lt)
    have hT2 : Tg w2 c ⟨room, xs, some ⟨g, 0, none⟩, cap⟩ := ⟨cl_at (n := xs.length * 4) A2 (HC.out g (Nat.le_trans HB1.out.size hgb)) hL, (fun e => nomatch e), hcap, fun z hz => (HS.out.ql z hz).below HB2.out⟩
    have HT2 := Lib.hid hT2
    have HXO := Lib.hid (And.intro hx hxk)
    have HFO := Lib.hid (HO.out.at_ (List.mem_of_getElem? hx))
    have HKP : Hid (∀ V, Below w2.heap.size w2 V → V.cell? ⟨g, ix * 4, none⟩ = some (.int .i64 xo.e.k.1) ∧ V.cell? ⟨g, ix * 4 + 1, none⟩ = some (.int .u32 xo.e.k.2) ∧ V.cell? ⟨g, ix * 4 + 2, none⟩ = some (.int .i64 xo.e.need) ∧ V.cell? ⟨g, ix * 4 + 3, none⟩ = some (.slice xo.A xo.e.l.length xo.c) ∧ V.cell? ⟨w.heap.size + 1 + 1, 0, none⟩ = some (.int .i64 i) ∧ V.cell? ⟨w.heap.size + 1 + 1, 1, none⟩ = some (.string t)) := Lib.hid fun V hV => by
      obtain ⟨g', o', e, _, _, hcs⟩ := (HT2.out.below hV).at_ HXO.out.1
      injection e with e
      injection e with e1 e2
      subst e1; subst e2
      have d0 := hcs 0 _ rfl
      have d1 := hcs 1 _ rfl
      have d2 := hcs 2 _ rfl
      have d3 := hcs 3 _ rfl
      have q3 := HQ3.out.below hV HQ3.out.lt
      simp only [Nat.zero_add, Nat.add_zero] at d0 d1 d2 d3
      exact ⟨d0, d1, d2, d3, q3.cell 0 rfl, q3.cell 1 rfl⟩
    have QQ : Hid (Below w2.heap.size w2 w2.drew) := Lib.hid (Below.refl _ _).drew
    have HKN : Hid (Calls Try.prog 35 #[.agg #[.int .i64 xo.e.k.1, .int .u32 xo.e.k.2, .int .i64 xo.e.need, .slice xo.A xo.e.l.length xo.c], .int .i64 nn, .agg #[.int .i64 i, .string t]] w2.drew fun e w' => e = .returned (.int .i64 (knownZ xo.e nn (i, t))) ∧ Below w2.heap.size w2.drew w') := Lib.hid (rknown_any ((HT2.out.ql xo (List.mem_of_getElem? hx)).below QQ.out) HFO.out nn (i, t))
    obtain ⟨d0, d1, d2, d3, z0, z1⟩ := HKP.out _ QQ.out
    clear hf hx hxk hix hT b2 ho1 hg1 hgb hcap A2 hL hT2 HP1 HP2 HP3 HP4 hlr
    go_upto_region 8 with (at_builtin; refine Lib.wpList_append_run _ rfl _ _ _ _ rfl _ _ rfl rfl _ _ hr1 ?_)
    clear hr1 c0 c1
    go_wp2_with fail
    go_region_held3 (fun w' => w'.cell? ⟨g, ix * 4, none⟩ = some (.int .i64 xo.e.k.1) ∧ w'.cell? ⟨g, ix * 4 + 1, none⟩ = some (.int .u32 xo.e.k.2) ∧ w'.cell? ⟨g, ix * 4 + 2, none⟩ = some (.int .i64 xo.e.need) ∧ w'.cell? ⟨g, ix * 4 + 3, none⟩ = some (.slice xo.A xo.e.l.length xo.c) ∧ w'.cell? ⟨w.heap.size + 1 + 1, 0, none⟩ = some (.int .i64 i) ∧ w'.cell? ⟨w.heap.size + 1 + 1, 1, none⟩ = some (.string t))
      (first | go_keep | with_reducible exact HKP.out _ QQ.out)
      (((with_reducible refine HKN.out.mono ?_); rintro e w3 ⟨rfl, q3⟩; have QQ3 := Lib.hid (QQ.out.trans q3); clear q3 QQ; have QQ := QQ3))
    clear d0 d1 d2 d3 z0 z1 HKN
    cases hro : roleR xo.e.l xo.e.need nn (i, t) with
    | wanted p =>
      have hZ : knownZ xo.e nn (i, t) = -1 := by unfold knownZ; rw [hro]
      rw [hZ]
      rw [hro] at hr
      dsimp only at hr
      have QD : Hid (Below w2.heap.size w2 w3.drew) := Lib.hid QQ.out.drew
      have HNR : Hid (xo.e.l.length ≠ xo.e.need) := Lib.hid fun e => by
        unfold roleR at hro
        rw [if_pos e] at hro
        cases hro
      have hEl := (HS.out.noBx.ql xo (List.mem_of_getElem? HXO.out.1)).below (HB2.out.trans (QD.out.mono HB2.out.size))
      have HPI := Lib.hid (rins_any hEl.cl ⟨HFO.out.l0, Nat.le_trans HFO.out.l1 HFO.out.n1⟩ hEl.cap (i, t))
      have HA3 := Lib.hid (HROW.out.1.below QD.out HROW.out.1.lt)
      obtain ⟨_, _, _, d3, z0, z1⟩ := HKP.out _ QD.out
      have HLI : Hid (ix * 4 + 3 < L.length) := Lib.hid (by
        have := congrArg List.length HROW.out.2.1
        rw [List.length_take, evcells_len] at this
        have := (List.getElem?_eq_some_iff.1 HXO.out.1).1
        omega)
      have f3 := HA3.out.free (ix * 4 + 3)
      have HCQ : Hid (∀ q, w3.drew.heap.size ≤ q → noBx w c q ∧ q ≠ g) := Lib.hid fun q hq => by
        have h1 := HB2.out.size
        have h2 := QD.out.size
        have h3 := HROW.out.1.lt
        have h4 := HZ1.out
        have h5 := HROW.out.2.2.1
        exact ⟨⟨HC.out q (by omega), .inr (by omega)⟩, by omega⟩
      clear hZ hro hEl
      go_wp2_with fail
      go_region_with (go_at_call 36; refine HPI.out.mono ?_; rintro e w4 ⟨v4, rfl, ho4, b4⟩; obtain ⟨A4, cap4, rfl, hcap4, hno4, hcl4⟩ := Cl.own (c := fun q => noBx w c q ∧ q ≠ g) ho4 (HCQ.out); have HCL := Lib.hid (And.intro hcap4 (And.intro hno4 hcl4)); have HA4 := Lib.hid (HA3.out.below b4 HA3.out.lt); have HB4' := Lib.hid (QD.out.trans (b4.mono QD.out.size)); have q3 := HA4.out.cell (ix * 4 + 3) (List.getElem?_eq_getElem HLI.out); have f3' := HA4.out.free (ix * 4 + 3); have HSZ : Hid (w3.drew.heap.size ≤ w4.heap.size) := Lib.hid b4.size; clear ho4 b4 hcap4 hno4 hcl4)
      all_goals
        go_upto_region 15 with fail
        change Code.wp _ _ _ _ (w4.setCell ⟨g, ix * 4 + 3, none⟩ (.slice A4 (insS xo.e.l (i, t)).length cap4))
        have hgw : w.heap.size + 4 ≤ g := by have h4 := HZ1.out; have h5 := HROW.out.2.2.1; omega
        have HB40 : Below w.heap.size w w4 := HB2.out.trans (HB4'.out.mono HB2.out.size)
        have hix := (List.getElem?_eq_some_iff.1 HXO.out.1).1
        have HTG : Hid (Tg (w4.setCell ⟨g, ix * 4 + 3, none⟩ (.slice A4 (insS xo.e.l (i, t)).length cap4)) (noBx w c) ⟨room, xs.set ix ⟨xo.e.more (i, t), A4, cap4⟩, some ⟨g, 0, none⟩, cap⟩) := Lib.hid (tg_set (y := ⟨xo.e.more (i, t), A4, cap4⟩) HA4.out HROW.out.2.1 ⟨HC.out g (by omega), .inr hgw⟩ HROW.out.2.2.2 (fun z hz => (((HS.out.ql z hz).mono (d := fun q => noBx w c q ∧ q ≠ g) fun q hq e => ⟨⟨e, .inl hq⟩, by omega⟩)).below HB40) HXO.out.1 ⟨HCL.out.2.2, HCL.out.1, HCL.out.2.1⟩ rfl rfl)
        have HX : Hid ((xs.set ix (⟨xo.e.more (i, t), A4, cap4⟩ : Ev))[ix]? = some ⟨xo.e.more (i, t), A4, cap4⟩) := Lib.hid (by rw [List.getElem?_set_self hix])
        have HFE : Hid (facesE (xs.set ix (⟨xo.e.more (i, t), A4, cap4⟩ : Ev)) = (facesE xs).map fun a => if a.k = (k0, k1) then a.more (i, t) else a) := Lib.hid (faces_set HO.out.nod HXO.out.1 HXO.out.2 rfl)
        have HB3 := Lib.hid (pset_below (j := ix * 4 + 3) (v := .slice A4 (insS xo.e.l (i, t)).length cap4) HB40 (Nat.le_refl _) (by omega : w.heap.size ≤ g))
        have P1 := (HQ1.out.below HB4'.out HQ1.out.lt).far (p := ⟨g, ix * 4 + 3, none⟩) (by show w.heap.size ≠ g; omega) (.slice A4 (insS xo.e.l (i, t)).length cap4)
        have P4 := (HQ4.out.below HB4'.out HQ4.out.lt).far (p := ⟨g, ix * 4 + 3, none⟩) (by show w.heap.size + 1 + 1 + 1 ≠ g; omega) (.slice A4 (insS xo.e.l (i, t)).length cap4)
        clear HQ1 HQ4
        have HQ1 := Lib.hid P1
        have HQ4 := Lib.hid P4
        generalize w4.setCell ⟨g, ix * 4 + 3, none⟩ (.slice A4 (insS xo.e.l (i, t)).length cap4) = u3 at *
        clear P1 P4 hix HB40 hgw d3 z0 z1 f3 q3 f3' HA4 HB4' HSZ HPI HA3 HLI HCL
        obtain ⟨M, hM⟩ : ∃ M, xs.length = M := ⟨_, rfl⟩
        obtain ⟨xn, hxn⟩ : ∃ xn : Ev, ⟨xo.e.more (i, t), A4, cap4⟩ = xn := ⟨_, rfl⟩
        have HXR : Hid (xn.e.l.length ≤ xn.e.need ∧ xn.e.need ≤ 32) := Lib.hid (by
          rw [← hxn]
          have h1 := HFO.out.l1
          have h2 := HNR.out
          exact ⟨by show (insS xo.e.l (i, t)).length ≤ xo.e.need; rw [insS_len]; omega, HFO.out.n1⟩)
        obtain ⟨rd, hrd⟩ : ∃ rd, xn.e.ready = rd := ⟨_, rfl⟩
        have HRZ := Lib.hid hrd
        have HRS : Hid ((if rd = true then 3 else 0, (facesE xs).map fun a => if a.k = (k0, k1) then a.more (i, t) else a) = r) := Lib.hid (by
          rw [← hr, ← hrd, ← hxn])
        rw [hxn] at HTG HX HFE
        obtain ⟨ys, hys⟩ : ∃ ys, xs.set ix xn = ys := ⟨_, rfl⟩
        have HM : Hid (ys.length = M) := Lib.hid (by rw [← hys, ← hM]; simp)
        rw [hys] at HTG HX HFE
        rw [hM] at hlt' hfw ⊢
        clear hys hxn hrd hr hM

        have a1 := HQ1.out.cell 1 rfl
        have f1 := HQ1.out.free 1
        have tn1 : Tn (fun q => q = w.heap.size) u3 (u3.setCell ⟨w.heap.size, 1, none⟩ (.slice (some ⟨g, 0, none⟩) M cap)) := (Tn.refl (fun q => q = w.heap.size) u3).set ⟨w.heap.size, 1, none⟩ _ (fun _ => rfl)
        have HTG1 := Lib.hid (HTG.out.tn tn1 fun q _ e f => by have h1 : q = w.heap.size := f; have := e.2; omega)
        have HS1 := Lib.hid (HQ1.out.set_ 1 (.slice (some ⟨g, 0, none⟩) M cap))
        have HT1 := Lib.hid (HQ4.out.far (p := ⟨w.heap.size, 1, none⟩) (by show w.heap.size + 1 + 1 + 1 ≠ w.heap.size; omega) (.slice (some ⟨g, 0, none⟩) M cap))
        have HB4 := Lib.hid (pset_below (j := 1) (v := .slice (some ⟨g, 0, none⟩) M cap) HB3.out (Nat.le_refl _) (Nat.le_refl w.heap.size))
        clear tn1 HTG HQ1 HQ4
        go_upto_region 16 with fail
        change Code.wp _ _ _ _ (u3.setCell ⟨w.heap.size, 1, none⟩ (.slice (some ⟨g, 0, none⟩) M cap))
        generalize u3.setCell ⟨w.heap.size, 1, none⟩ (.slice (some ⟨g, 0, none⟩) M cap) = u4 at *
        clear a1 f1
        obtain ⟨g', o', e, _, _, hcs⟩ := HTG1.out.at_ HX.out
        injection e with e
        injection e with e1 e2
        subst e1; subst e2
        have d0 := hcs 0 _ rfl
        have d1 := hcs 1 _ rfl
        have d2 := hcs 2 _ rfl
        have d3 := hcs 3 _ rfl
        simp only [Nat.zero_add, Nat.add_zero] at d0 d1 d2 d3
        have HRD : Hid (Calls Try.prog 22 #[.agg #[.int .i64 xn.e.k.1, .int .u32 xn.e.k.2, .int .i64 xn.e.need, .slice xn.A xn.e.l.length xn.c]] u4 fun e w' => e = .returned (.bool rd) ∧ Below u4.heap.size u4 w') := Lib.hid (by
          have := rready_any xn HXR.out.1 HXR.out.2 u4
          rw [HRZ.out] at this
          exact this)
        clear hcs
        go_wp2_with fail
        refine HRD.out.mono ?_; rintro e u5 ⟨rfl, b5⟩
        clear d0 d1 d2 d3 HRD
        have HTG5 := Lib.hid (HTG1.out.below b5)
        have S5 := HS1.out.below b5 HS1.out.lt
        have T5 := HT1.out.below b5 HT1.out.lt
        have HB5 := Lib.hid (HB4.out.trans (b5.mono HB4.out.size))
        have s0 := S5.cell 0 rfl
        have s1 := S5.cell 1 rfl
        have t0 := T5.cell 0 rfl
        have t1 := T5.cell 1 rfl
        have u0 := T5.free 0
        have u1 := T5.free 1
        have HT9 := Lib.hid (pset2_at (x := .int .i64 room) (y := .slice (some ⟨g, 0, none⟩) M cap) T5)
        have HB9 := Lib.hid (pset2_below (b := w.heap.size + 1 + 1 + 1) (x := .int .i64 room) (y := .slice (some ⟨g, 0, none⟩) M cap) HB5.out (Nat.le_refl _) (by omega))
        have HTG9 := Lib.hid ((HTG5.out.tn (pset2_tn u5 (w.heap.size + 1 + 1 + 1) (.int .i64 room) (.slice (some ⟨g, 0, none⟩) M cap)) fun q _ e f => by have h1 : q = w.heap.size + 1 + 1 + 1 := f; have := e.2; omega).mono (d := c) fun q _ e => e.1)
        have hrs := HRS.out
        clear S5 T5 HS1 HT1 b5
        cases rd with
        | true =>
          go_wp2_with fail
          change bodyPost _ _ _ _ _ (pset2 u5 (w.heap.size + 1 + 1 + 1) (.int .i64 room) (.slice (some ⟨g, 0, none⟩) M cap))
          generalize pset2 u5 (w.heap.size + 1 + 1 + 1) (.int .i64 room) (.slice (some ⟨g, 0, none⟩) M cap) = u9 at *
          have hm := HM.out
          subst hm
          subst hrs
          exact bodyPost_ret (v := .tuple #[Tv.val ⟨room, ys, some ⟨g, 0, none⟩, cap⟩, .int .i64 3]) (res_rput rfl rfl HT9.out) rfl ⟨ys, ⟨some ⟨g, 0, none⟩, cap, rfl, HTG9.out, HB9.out⟩, HFE.out⟩
        | false =>
          go_wp2_with fail
          change bodyPost _ _ _ _ _ (pset2 u5 (w.heap.size + 1 + 1 + 1) (.int .i64 room) (.slice (some ⟨g, 0, none⟩) M cap))
          generalize pset2 u5 (w.heap.size + 1 + 1 + 1) (.int .i64 room) (.slice (some ⟨g, 0, none⟩) M cap) = u9 at *
          have hm := HM.out
          subst hm
          subst hrs
          exact bodyPost_ret (v := .tuple #[Tv.val ⟨room, ys, some ⟨g, 0, none⟩, cap⟩, .int .i64 0]) (res_rput rfl rfl HT9.out) rfl ⟨ys, ⟨some ⟨g, 0, none⟩, cap, rfl, HTG9.out, HB9.out⟩, HFE.out⟩
    | first =>
      have hZ : knownZ xo.e nn (i, t) = 4 := by unfold knownZ; rw [hro]
      rw [hZ]
      rw [hro] at hr
      dsimp only at hr
      have P1 := HQ1.out.below QQ.out HQ1.out.lt
      have P4 := HQ4.out.below QQ.out HQ4.out.lt
      have c0 := P1.cell 0 rfl
      have c1 := P1.cell 1 rfl
      have x0 := P4.cell 0 rfl
      have x1 := P4.cell 1 rfl
      have y0 := P4.free 0
      have y1 := P4.free 1
      have HP4 := Lib.hid P4
      have HB9 := Lib.hid (HB2.out.trans (QQ.out.mono HB2.out.size))
      clear P1 P4 hZ hro
      go_wp2_with fail
      change bodyPost _ _ _ _ _ (pset2 w3 (w.heap.size + 1 + 1 + 1) (.int .i64 room) (.slice A xs.length n))
      subst hr
      exact bodyPost_ret (v := .tuple #[Tv.val ⟨room, xs, A, n⟩, .int .i64 4]) (res_rput rfl rfl (pset2_at HP4.out)) rfl (u_same HS.out HB9.out rfl)
    | known =>
      have hZ : knownZ xo.e nn (i, t) = 1 := by unfold knownZ; rw [hro]
      rw [hZ]
      rw [hro] at hr
      dsimp only at hr
      have P1 := HQ1.out.below QQ.out HQ1.out.lt
      have P4 := HQ4.out.below QQ.out HQ4.out.lt
      have c0 := P1.cell 0 rfl
      have c1 := P1.cell 1 rfl
      have x0 := P4.cell 0 rfl
      have x1 := P4.cell 1 rfl
      have y0 := P4.free 0
      have y1 := P4.free 1
      have HP4 := Lib.hid P4
      have HB9 := Lib.hid (HB2.out.trans (QQ.out.mono HB2.out.size))
      clear P1 P4 hZ hro
      go_wp2_with fail
      change bodyPost _ _ _ _ _ (pset2 w3 (w.heap.size + 1 + 1 + 1) (.int .i64 room) (.slice A xs.length n))
      subst hr
      exact bodyPost_ret (v := .tuple #[Tv.val ⟨room, xs, A, n⟩, .int .i64 1]) (res_rput rfl rfl (pset2_at HP4.out)) rfl (u_same HS.out HB9.out rfl)
    | unlike =>
      have hZ : knownZ xo.e nn (i, t) = 4 := by unfold knownZ; rw [hro]
      rw [hZ]
      rw [hro] at hr
      dsimp only at hr
      have P1 := HQ1.out.below QQ.out HQ1.out.lt
      have P4 := HQ4.out.below QQ.out HQ4.out.lt
      have c0 := P1.cell 0 rfl
      have c1 := P1.cell 1 rfl
      have x0 := P4.cell 0 rfl
      have x1 := P4.cell 1 rfl
      have y0 := P4.free 0
      have y1 := P4.free 1
      have HP4 := Lib.hid P4
      have HB9 := Lib.hid (HB2.out.trans (QQ.out.mono HB2.out.size))
      clear P1 P4 hZ hro
      go_wp2_with fail
      change bodyPost _ _ _ _ _ (pset2 w3 (w.heap.size + 1 + 1 + 1) (.int .i64 room) (.slice A xs.length n))
      subst hr
      exact bodyPost_ret (v := .tuple #[Tv.val ⟨room, xs, A, n⟩, .int .i64 4]) (res_rput rfl rfl (pset2_at HP4.out)) rfl (u_same HS.out HB9.out rfl)
end Go.Proofs.Ytgclgmfmcgacdaa

/- Plain lemmas: a deed, done by the document and by the table, ahead of the walks. No condition beyond those that each lemma names. -/
namespace Go.Proofs.Ytgclgmfmcgacdaa
open Go.ChangeShapes Go.WideShapes Go.ChangeAt Go.RowKit Go.MuLone

theorem rput_any {w : World} {c : Nat → Prop} {s : Tv} (h : Tg w c s) (hc : ∀ g, w.heap.size ≤ g → c g) (ho : SOk (facesE s.xs) s.room) (k : Ky) (nd : Int) (x : Shd) :
    Calls Try.prog 17 #[s.val, kyV k, .int .i64 nd, .agg #[.int .i64 x.1, .string x.2]] w (GivesU w c s.room (putF (facesE s.xs) s.room k nd x)) := by
  cases hb : badP nd x with
  | true => exact rput_bad h k nd x hb
  | false =>
    cases hf : findF (facesE s.xs) k with
    | none =>
      have e : putF (facesE s.xs) s.room k nd x = (if s.xs.length = s.room then (2, facesE s.xs) else (if nd = 1 then 3 else 0, facesE s.xs ++ [⟨k, nd.toNat, [x]⟩])) := by
        unfold putF
        rw [hb, hf]
        simp only [Bool.false_eq_true, if_false, List.length_map]
      exact rput_none h hc ho k nd x hb hf e.symm
    | some e =>
      refine rput_some h hc ho k nd x hb hf ?_
      unfold putF
      rw [hb, hf]
      simp only [Bool.false_eq_true, if_false]
      cases roleR e.l e.need nd x <;> rfl
theorem Tg.there {w : World} {c : Nat → Prop} {s : Tv} (h : Tg w c s) : Tg w (fun g => c g ∧ g < w.heap.size) s := h.mono fun _ hg e => ⟨e, hg⟩
/-- A box with a table, one with a deed, and an empty result. -/
theorem tdboxes (s : Tv) (d : De) (w : World) : ∃ W, W = ((w.alloc (.cells #[.int .i64 s.room, .slice s.A s.xs.length s.c] 30)).alloc (.cells #[.int .i64 d.kd, .int .i64 d.k.1, .int .u32 d.k.2, .int .i64 d.need, .int .i64 d.i, .string d.t] 37)).alloc (.cells #[.int .i64 0, .slice none 0 0] 30) ∧ At W w.heap.size 30 [.int .i64 s.room, .slice s.A s.xs.length s.c] ∧ At W (w.heap.size + 1) 37 [.int .i64 d.kd, .int .i64 d.k.1, .int .u32 d.k.2, .int .i64 d.need, .int .i64 d.i, .string d.t] ∧ At W (w.heap.size + 1 + 1) 30 [.int .i64 0, .slice none 0 0] ∧ Below w.heap.size w W ∧ W.heap.size = w.heap.size + 3 := by
  refine ⟨_, rfl, ?_, ?_, ?_, ?_, by simp⟩
  · exact ((At.new w 30 [.int .i64 s.room, .slice s.A s.xs.length s.c]).alloc _).alloc _
  · have h := At.new (w.alloc (.cells #[.int .i64 s.room, .slice s.A s.xs.length s.c] 30)) 37 [.int .i64 d.kd, .int .i64 d.k.1, .int .u32 d.k.2, .int .i64 d.need, .int .i64 d.i, .string d.t]
    have h2 := h.alloc (.cells #[.int .i64 0, .slice none 0 0] 30)
    simpa using h2
  · have h := At.new ((w.alloc (.cells #[.int .i64 s.room, .slice s.A s.xs.length s.c] 30)).alloc (.cells #[.int .i64 d.kd, .int .i64 d.k.1, .int .u32 d.k.2, .int .i64 d.need, .int .i64 d.i, .string d.t] 37)) 30 [.int .i64 0, .slice none 0 0]
    simpa using h
  · exact (((Below.refl _ _).alloc (Nat.le_refl _) _).alloc (by simp) _).alloc (by simp; omega) _
theorem res_tdo {T : Array Value} {W : World} {b : Nat} {s : Tv} {z : Bool} (h2 : T.getD 6 undef = .pointer (some ⟨b, 0, none⟩)) (h3 : T.getD 7 undef = .bool z) (h : At W b 30 [.int .i64 s.room, .slice s.A s.xs.length s.c]) : (results Try.f8 T).run Try.prog W = .ok (.tuple #[s.val, .bool z]) W := by
  have h2' : T[6]?.getD undef = .pointer (some ⟨b, 0, none⟩) := by simpa using h2
  have h3' : T[7]?.getD undef = .bool z := by simpa using h3
  have c0 := h.cell 0 rfl
  have c1 := h.cell 1 rfl
  simp [results, Try.results8, h2', h3', c0, c1, go_sem, Tv.val]
theorem res_tdo_put {T : Array Value} {W : World} {b : Nat} {s : Tv} {z : Bool} (h2 : T.getD 6 undef = .pointer (some ⟨b, 0, none⟩)) (h3 : T.size = 125) (h : At W b 30 [.int .i64 s.room, .slice s.A s.xs.length s.c]) : (results Try.f8 (T.setIfInBounds 7 (.bool z))).run Try.prog W = .ok (.tuple #[s.val, .bool z]) W :=
  res_tdo (by
    rw [← h2]
    simp) (by
    have : 7 < T.size := by omega
    simp [this]) h
/-- a deed was done alike. -/
def Done (w wi : World) (L : Ly) (n room : Nat) (P : Nat → Prop) (e : Ending) (w' : World) : Prop :=
  ∃ (xs : List Ev) (A : Option Addr) (cp : Nat) (L' : Ly), e = .returned (.tuple #[.agg #[.int .i64 room, .slice A xs.length cp], .bool true]) ∧ L'.b = L.b ∧ SB w w' L' n room (facesE xs) ∧ Fr wi L w' L' ∧ Tg w' (fun g => L'.col g = -1 ∧ P g) ⟨room, xs, A, cp⟩
theorem tdo_close {w wi w3 w4 w5 : World} {rb n room : Nat} {L L' : Ly} {P : Nat → Prop} {S' : List Fe} {s : Tv} (hw : szW w ≤ wi.heap.size) (h1 : Below wi.heap.size wi w3) (hrb : wi.heap.size ≤ rb) (hrl : rb < w3.heap.size) (hcr : L.col rb = -1)
    (hs : SB w w4 L' n room S') (fr : Fr w3 L w4 L') (g : Tg w3 (fun g => (L.col g = -1 ∧ P g) ∧ g ≠ rb) s) (t : Tn (fun g => g = rb) w4 w5) :
    SB w w5 L' n room S' ∧ Fr wi L w5 L' ∧ Tg w5 (fun g => L'.col g = -1 ∧ P g) s := by
  have hc4 : L'.col rb = -1 := (fr.col rb hrl).trans hcr
  have f1 : Fr wi L w4 L' := (Fr.free L (tn_below Nil h1)).trans fr
  refine ⟨hs.own t fun i _ e => ?_, ⟨f1.col, f1.tn.trans' t fun i hi e => by have e : i = rb := e; omega⟩, ?_⟩
  · have e : i = rb := e
    rw [e]
    exact ⟨hc4, Nat.le_trans hw hrb⟩
  have g4 := (g.there.tn fr.tn fun i _ e f => f e.1.1.1).mono (d := fun i => (L'.col i = -1 ∧ P i) ∧ i ≠ rb) fun i _ e => ⟨⟨(fr.col i e.2).trans e.1.1.1, e.1.1.2⟩, e.1.2⟩
  exact (g4.tn t fun i _ e f => e.2 f).mono fun i _ e => e.1
theorem GivesU.form {w w' : World} {c : Nat → Prop} {room : Nat} {r : Int × List Fe} {e : Ending} (h : GivesU w c room r e w') :
    ∃ xs A cp, e = .returned (.tuple #[.agg #[.int .i64 room, .slice A xs.length cp], .int .i64 r.1]) ∧ Tg w' c ⟨room, xs, A, cp⟩ ∧ facesE xs = r.2 ∧ Below w.heap.size w w' := by
  obtain ⟨xs, ⟨A, cp, e, h1, h2⟩, h3⟩ := h
  exact ⟨xs, A, cp, e, h1, h3, h2⟩
theorem SB.szw {w wi : World} {L : Ly} {n room : Nat} {S : List Fe} (h : SB w wi L n room S) : szW w ≤ wi.heap.size := by
  obtain ⟨X, _, _, _, t⟩ := h
  exact t.size
theorem SB.ahead {w wi : World} {L : Ly} {n room : Nat} {S : List Fe} (h : SB w wi L n room S) : ∀ g, wi.heap.size ≤ g → L.col g = -1 := by
  obtain ⟨X, hx, _⟩ := h
  exact hx.st.ahead
end Go.Proofs.Ytgclgmfmcgacdaa

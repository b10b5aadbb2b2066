/- Proved: lemmas of one statement's proof, merged by program: what each part proves stands ahead of it. Conditions: those that the lemmas name. -/
import Derived.Test.YtgclgmfmcgacdaaM30

/- Proved: a deed, done by the document and by the table, comes out alike: an entry is taken. Conditions: those that the theorems name. -/
namespace Go.Proofs.Ytgclgmfmcgacdaa
open Go.ChangeShapes Go.WideShapes Go.ChangeAt Go.RowKit Go.MuLone

theorem take_faces (xs : List Ev) (k : Ky) : keepF (facesE xs) (butK k) = facesE (keptE xs k.1 true k.2) := by
  unfold keepF keptE facesE
  rw [List.filter_map]
  congr 1
  refine List.filter_congr fun x _ => ?_
  obtain ⟨k0, k1⟩ := k
  show decide (x.e.k ≠ (k0, k1)) = (!decide (x.e.k.1 = k0) || (true && !decide (x.e.k.2 = k1)))
  obtain ⟨⟨⟨q0, q1⟩, nd, l⟩, A, c⟩ := x
  by_cases e : q0 = k0 <;> by_cases f : q1 = k1 <;> simp [e, f]
theorem tdo_end {w wi w5 w6 : World} {rb n room : Nat} {L : Ly} {P : Nat → Prop} {S' : List Fe} {s : Tv} (hw : szW w ≤ wi.heap.size) (hrb : wi.heap.size ≤ rb) (hcr : L.col rb = -1)
    (hs : SB w w5 L n room S') (fr : Fr wi L w5 L) (g : Tg w5 (fun g => (L.col g = -1 ∧ P g) ∧ g ≠ rb) s) (t : Tn (fun g => g = rb) w5 w6) :
    SB w w6 L n room S' ∧ Fr wi L w6 L ∧ Tg w6 (fun g => L.col g = -1 ∧ P g) s := by
  refine ⟨hs.own t fun i _ e => ?_, ⟨fr.col, fr.tn.trans' t fun i hi e => by have e : i = rb := e; omega⟩, ?_⟩
  · have e : i = rb := e
    rw [e]
    exact ⟨hcr, Nat.le_trans hw hrb⟩
  · exact (g.tn t fun i _ e f => e.2 f).mono fun i _ e => e.1
set_option maxRecDepth 100000 in
set_option maxHeartbeats 3200000 in
theorem tdo_take {w wi : World} {L : Ly} {n room : Nat} {s : Tv} (h : SB w wi L n room (facesE s.xs)) (P : Nat → Prop) (hP : ∀ g, wi.heap.size ≤ g → P g) (sg : Tg wi (fun g => L.col g = -1 ∧ P g) s) (hr : s.room = room) {d : De} (hd : d.kd = 1) (hk : KyOk d.k) :
    Calls Try.prog 8 #[ptv L.b, s.val, d.val] wi (Done w wi L n room P) := by
  subst hr
  obtain ⟨W1, HW, A1, A2, A3, B1, hs⟩ := tdboxes s d wi
  obtain ⟨room, xs, A, cp⟩ := s
  obtain ⟨kd, ⟨k0, k1⟩, nd, i, t⟩ := d
  have hd : kd = 1 := hd
  subst hd
  have HN := Lib.hid h.szw
  have HB1 := Lib.hid B1
  have HHP := Lib.hid hP
  have sg1 := (sg.there.below B1).mono (d := fun g => (L.col g = -1 ∧ P g) ∧ g ≠ wi.heap.size + 1 + 1) fun g _ e => ⟨e.1, by omega⟩
  have HG1 := Lib.hid sg1
  have HGT := Lib.hid (rget_any sg1 (k0, k1) h.sok)
  have HGT : Hid (Calls Try.prog 18 #[.agg #[.int .i64 room, .slice A xs.length cp], .agg #[.int .i64 k0, .int .u32 k1]] W1 (GivesGR W1 (fun g => (L.col g = -1 ∧ P g) ∧ g ≠ wi.heap.size + 1 + 1) (facesE xs) (k0, k1))) := HGT
  have HFEW : Hid (xs.length ≤ 65536) := Lib.hid h.sok.few
  have HLL : Hid ((getF (facesE xs) (k0, k1)).length ≤ 65536) := Lib.hid (by
    unfold getF
    cases hf : findF (facesE xs) (k0, k1) with
    | none => exact Nat.zero_le _
    | some e =>
      have := h.sok.ok e (by unfold findF at hf; exact List.mem_of_find?_eq_some hf)
      exact Nat.le_trans this.l1 (Nat.le_trans this.n1 (by decide)))
  have HP := Lib.hid (And.intro A1 (And.intro A2 A3))
  have HSZ : Hid (W1.heap.size = wi.heap.size + 3) := Lib.hid hs
  have HCR : Hid (L.col wi.heap.size = -1 ∧ L.col (wi.heap.size + 1) = -1 ∧ L.col (wi.heap.size + 1 + 1) = -1) := Lib.hid ⟨h.ahead _ (by omega), h.ahead _ (by omega), h.ahead _ (by omega)⟩
  have HSB := Lib.hid (h.free (tn_below Nil B1))
  have HKO := Lib.hid hk
  have c0 := A1.cell 0 rfl
  have c1 := A1.cell 1 rfl
  have i0 := A2.cell 0 rfl
  have i1 := A2.cell 1 rfl
  have i2 := A2.cell 2 rfl
  clear h sg hP hk A1 A2 A3 B1 hs sg1
  show Calls Try.prog 8 #[.pointer (some ⟨L.b, 0, none⟩), .agg #[.int .i64 room, .slice A xs.length cp], .agg #[.int .i64 1, .int .i64 k0, .int .u32 k1, .int .i64 nd, .int .i64 i, .string t]] wi _
  dsimp only at HW HP HKO i0 i1 i2
  go_enter Try.func8, Try.ntmps8
  go_upto_region 1 with fail
  rw [← HW]; clear HW
  go_wp2_with fail
  refine HGT.out.mono ?_; rintro e w2 ⟨A2, cp2, rfl, hcl, b2⟩
  have HCA := Lib.hid hcl
  have HS2 := Lib.hid (HSB.out.free (tn_below Nil b2))
  have HG2 := Lib.hid (HG1.out.below b2)
  have HB2 := Lib.hid (HB1.out.trans (b2.mono HB1.out.size))
  have p1 := HP.out.1.below b2 HP.out.1.lt
  have p2 := HP.out.2.1.below b2 HP.out.2.1.lt
  have p3 := HP.out.2.2.below b2 HP.out.2.2.lt
  have HP2 := Lib.hid (And.intro p1 (And.intro p2 p3))
  clear c0 c1 i0 i1 i2 hcl b2 HGT HSB HG1 p1 p2 p3 HP HB1
  have i1 := HP2.out.2.1.cell 1 rfl
  have i2 := HP2.out.2.1.cell 2 rfl
  obtain ⟨bb, hbb⟩ : ∃ bb, (findF (facesE xs) (k0, k1)).isSome = bb := ⟨_, rfl⟩
  obtain ⟨ll, hll⟩ : ∃ ll, getF (facesE xs) (k0, k1) = ll := ⟨_, rfl⟩
  have HTK := Lib.hid (sb_take HS2.out HKO.out hll hbb (take_faces xs (k0, k1)))
  rw [hll] at HCA HLL
  rw [hbb, hll]
  clear hbb hll
  go_wp2_with fail
  refine HTK.out.mono ?_; rintro e w3 ⟨⟨v3, rfl, ho3⟩, s3, f3⟩
  obtain ⟨A3, cp3, rfl, _, _, hcl3⟩ := Cl.own (c := fun g => L.col g = -1) ho3 (fun g hg => HS2.out.ahead g hg)
  have HCB := Lib.hid hcl3
  have HCA3 := Lib.hid (HCA.out.tn f3.tn fun g _ e f => f e.1.1)
  have HG3 := Lib.hid (HG2.out.tn f3.tn fun g _ e f => f e.1.1)
  have q1 := f3.at_ HP2.out.1 HCR.out.1
  have q2 := f3.at_ HP2.out.2.1 HCR.out.2.1
  have q3 := f3.at_ HP2.out.2.2 HCR.out.2.2
  have HP3 := Lib.hid (And.intro q1.1 (And.intro q2.1 q3.1))
  have HS3 := Lib.hid s3
  have HF3 : Hid (Fr wi L w3 L) := Lib.hid ((Fr.free L (tn_below Nil HB2.out)).trans f3)
  have HZ3 : Hid (wi.heap.size ≤ w3.heap.size) := Lib.hid HF3.out.tn.size
  clear i1 i2 ho3 s3 f3 hcl3 HTK HS2 HG2 HCA q1 q2 q3 HP2 HB2
  have c0 := HP3.out.1.cell 0 rfl
  have c1 := HP3.out.1.cell 1 rfl
  have i1 := HP3.out.2.1.cell 1 rfl
  have i2 := HP3.out.2.1.cell 2 rfl
  have HRZ3 : Hid (wi.heap.size + 1 + 1 < w3.heap.size) := Lib.hid HP3.out.2.2.lt
  have HDR : Hid (Calls Try.prog 19 #[.agg #[.int .i64 room, .slice A xs.length cp], .int .i64 k0, .bool true, .int .u32 k1] w3 (GivesT w3 (fun g => (L.col g = -1 ∧ P g) ∧ g ≠ wi.heap.size + 1 + 1) room (keptE xs k0 true k1) ((xs.length - (keptE xs k0 true k1).length : Nat) : Int))) := Lib.hid (rdrop_any HG3.out (fun g hg => ⟨⟨HS3.out.ahead g hg, HHP.out g (Nat.le_trans HZ3.out hg)⟩, by have := HRZ3.out; omega⟩) HFEW.out k0 true k1)
  generalize ((xs.length - (keptE xs k0 true k1).length : Nat) : Int) = zz at *
  have HS3 : Hid (SB w w3 L n room (facesE (keptE xs k0 true k1))) := HS3
  generalize keptE xs k0 true k1 = ys at *
  go_upto_region 9 with (go_at_call 19; refine HDR.out.mono ?_; rintro e w4 ⟨A4, n4, rfl, g4, b4⟩; have HG4 := Lib.hid g4; have HB4 := Lib.hid b4; clear g4 b4)
  have HAL := Lib.hid ((Below.refl w4.heap.size w4).alloc (Nat.le_refl _) (.cells #[.int .i64 room, .slice A4 ys.length n4] 30))
  have HY5 := Lib.hid (At.new w4 30 [.int .i64 room, .slice A4 ys.length n4])
  generalize w4.alloc (.cells #[.int .i64 room, .slice A4 ys.length n4] 30) = w5 at *
  have HB35 : Hid (Below w3.heap.size w3 w5.drew) := Lib.hid (HB4.out.trans (HAL.out.mono HB4.out.size)).drew
  have HG5 : Hid (Tg w5.drew (fun g => (L.col g = -1 ∧ P g) ∧ g ≠ wi.heap.size + 1 + 1) ⟨room, ys, A4, n4⟩) := Lib.hid (HG4.out.below (by exact HAL.out.drew))
  have HS5 := Lib.hid (HS3.out.free (tn_below Nil HB35.out))
  have HF5 : Hid (Fr wi L w5.drew L) := Lib.hid (HF3.out.trans (Fr.free L (tn_below Nil HB35.out)))
  have HE5 := Lib.hid (HP3.out.2.2.below HB35.out HP3.out.2.2.lt)
  have HY5 : Hid (At w5.drew w4.heap.size 30 [.int .i64 room, .slice A4 ys.length n4]) := HY5
  have HCA5 := Lib.hid (HCA3.out.below HB35.out)
  have HCB5 := Lib.hid (HCB.out.below HB35.out)
  have HSM := Lib.hid (rsame_yes cp2 cp3 HCA5.out HCB5.out HLL.out)
  have k0' := HY5.out.cell 0 rfl
  have k1' := HY5.out.cell 1 rfl
  clear c0 c1 i1 i2 HAL HB35 HS3 HG3 HCA3 HCB HF3 HP3 HDR HG4 HB4
  generalize ll.length = lm at *
  have hbe : (bb == bb) = true := by simp
  cases bb
  all_goals
    go_region_law ((go_simp; go_at_call 20; refine (HSM.out).mono ?_; rintro e w6 ⟨rfl, b6⟩; have HB6 := Lib.hid b6; have e4 := HE5.out.below b6 HE5.out.lt; have y4 := HY5.out.below b6 HY5.out.lt; have e0 := e4.cell 0 rfl; have e1 := e4.cell 1 rfl; have g0 := e4.free 0; have g1 := e4.free 1; have y40 := y4.cell 0 rfl; have y41 := y4.cell 1 rfl; have HE6 := Lib.hid e4; clear y4 e4 b6))
  all_goals
    go_wp2_with fail
    change bodyPost _ _ _ _ ⟨Array.setIfInBounds _ 7 (.bool true), []⟩ (pset2 w6 (wi.heap.size + 1 + 1) (.int .i64 room) (.slice A4 ys.length n4))
    have hA := pset2_at (x := .int .i64 room) (y := .slice A4 ys.length n4) HE6.out
    have hcl := tdo_end (s := ⟨room, ys, A4, n4⟩) HN.out (by omega) HCR.out.2.2 (HS5.out.free (tn_below Nil HB6.out)) (HF5.out.trans (Fr.free L (tn_below Nil HB6.out))) (HG5.out.below HB6.out) (pset2_tn w6 (wi.heap.size + 1 + 1) (.int .i64 room) (.slice A4 ys.length n4))
    generalize pset2 w6 (wi.heap.size + 1 + 1) (.int .i64 room) (.slice A4 ys.length n4) = w7 at *
    exact bodyPost_ret (v := .tuple #[Tv.val ⟨room, ys, A4, n4⟩, .bool true]) (res_tdo_put (s := ⟨room, ys, A4, n4⟩) rfl rfl hA) rfl ⟨ys, A4, n4, L, rfl, rfl, hcl.1, hcl.2.1, hcl.2.2⟩
end Go.Proofs.Ytgclgmfmcgacdaa

/- Proved: a deed, done by the document and by the table, comes out alike: an entry is looked at. Conditions: those that the theorems name. -/
namespace Go.Proofs.Ytgclgmfmcgacdaa
open Go.ChangeShapes Go.WideShapes Go.ChangeAt Go.RowKit Go.MuLone

set_option maxRecDepth 100000 in
set_option maxHeartbeats 3200000 in
theorem tdo_look {w wi : World} {L : Ly} {n room : Nat} {s : Tv} (h : SB w wi L n room (facesE s.xs)) (P : Nat → Prop) (hP : ∀ g, wi.heap.size ≤ g → P g) (sg : Tg wi (fun g => L.col g = -1 ∧ P g) s) (hr : s.room = room) {d : De} (hd : d.kd ≠ 0 ∧ d.kd ≠ 1 ∧ d.kd ≠ 2) (hk : KyOk d.k) :
    Calls Try.prog 8 #[ptv L.b, s.val, d.val] wi (Done w wi L n room P) := by
  subst hr
  obtain ⟨W1, HW, A1, A2, A3, B1, hs⟩ := tdboxes s d wi
  obtain ⟨room, xs, A, cp⟩ := s
  obtain ⟨kd, ⟨k0, k1⟩, nd, i, t⟩ := d
  have hd0 : (kd == 0) = false := by simpa using hd.1
  have hd1 : (kd == 1) = false := by simpa using hd.2.1
  have hd2 : (kd == 2) = false := by simpa using hd.2.2
  clear hd
  have HN := Lib.hid h.szw
  have HB1 := Lib.hid B1
  have HHP := Lib.hid hP
  have sg1 := (sg.there.below B1).mono (d := fun g => (L.col g = -1 ∧ P g) ∧ g ≠ wi.heap.size + 1 + 1) fun g _ e => ⟨e.1, by omega⟩
  have HG1 := Lib.hid sg1
  have HGT := Lib.hid (rget_any sg1 (k0, k1) h.sok)
  have HGT : Hid (Calls Try.prog 18 #[.agg #[.int .i64 room, .slice A xs.length cp], .agg #[.int .i64 k0, .int .u32 k1]] W1 (GivesGR W1 (fun g => (L.col g = -1 ∧ P g) ∧ g ≠ wi.heap.size + 1 + 1) (facesE xs) (k0, k1))) := HGT
  have HFEW : Hid (xs.length ≤ 65536) := Lib.hid h.sok.few
  have HLL : Hid ((getF (facesE xs) (k0, k1)).length ≤ 65536) := Lib.hid (by
    unfold getF
    cases hf : findF (facesE xs) (k0, k1) with
    | none => exact Nat.zero_le _
    | some e =>
      have := h.sok.ok e (by unfold findF at hf; exact List.mem_of_find?_eq_some hf)
      exact Nat.le_trans this.l1 (Nat.le_trans this.n1 (by decide)))
  have HP := Lib.hid (And.intro A1 (And.intro A2 A3))
  have HSZ : Hid (W1.heap.size = wi.heap.size + 3) := Lib.hid hs
  have HCR : Hid (L.col wi.heap.size = -1 ∧ L.col (wi.heap.size + 1) = -1 ∧ L.col (wi.heap.size + 1 + 1) = -1) := Lib.hid ⟨h.ahead _ (by omega), h.ahead _ (by omega), h.ahead _ (by omega)⟩
  have HSB := Lib.hid (h.free (tn_below Nil B1))
  have HKO := Lib.hid hk
  have c0 := A1.cell 0 rfl
  have c1 := A1.cell 1 rfl
  have i0 := A2.cell 0 rfl
  have i1 := A2.cell 1 rfl
  have i2 := A2.cell 2 rfl
  clear h sg hP hk A1 A2 A3 B1 hs sg1
  show Calls Try.prog 8 #[.pointer (some ⟨L.b, 0, none⟩), .agg #[.int .i64 room, .slice A xs.length cp], .agg #[.int .i64 kd, .int .i64 k0, .int .u32 k1, .int .i64 nd, .int .i64 i, .string t]] wi _
  dsimp only at HW HP HKO i0 i1 i2
  go_enter Try.func8, Try.ntmps8
  go_upto_region 1 with fail
  rw [← HW]; clear HW
  go_wp2_with fail
  refine HGT.out.mono ?_; rintro e w2 ⟨A2, cp2, rfl, hcl, b2⟩
  have HCA := Lib.hid hcl
  have HS2 := Lib.hid (HSB.out.free (tn_below Nil b2))
  have HG2 := Lib.hid (HG1.out.below b2)
  have HB2 := Lib.hid (HB1.out.trans (b2.mono HB1.out.size))
  have p1 := HP.out.1.below b2 HP.out.1.lt
  have p2 := HP.out.2.1.below b2 HP.out.2.1.lt
  have p3 := HP.out.2.2.below b2 HP.out.2.2.lt
  have HP2 := Lib.hid (And.intro p1 (And.intro p2 p3))
  clear c0 c1 i0 i1 i2 hcl b2 HGT HSB HG1 p1 p2 p3 HP HB1
  have i1 := HP2.out.2.1.cell 1 rfl
  have i2 := HP2.out.2.1.cell 2 rfl
  obtain ⟨bb, hbb⟩ : ∃ bb, (findF (facesE xs) (k0, k1)).isSome = bb := ⟨_, rfl⟩
  obtain ⟨ll, hll⟩ : ∃ ll, getF (facesE xs) (k0, k1) = ll := ⟨_, rfl⟩
  have HTK := Lib.hid (sb_get HS2.out HKO.out hll hbb)
  rw [hll] at HCA HLL
  rw [hbb, hll]
  clear hbb hll
  go_wp2_with fail
  refine HTK.out.mono ?_; rintro e w3 ⟨⟨v3, rfl, ho3⟩, s3, f3⟩
  obtain ⟨A3, cp3, rfl, _, _, hcl3⟩ := Cl.own (c := fun g => L.col g = -1) ho3 (fun g hg => HS2.out.ahead g hg)
  have HCB := Lib.hid hcl3
  have HCA3 := Lib.hid (HCA.out.tn f3.tn fun g _ e f => f e.1.1)
  have HG3 := Lib.hid (HG2.out.tn f3.tn fun g _ e f => f e.1.1)
  have q1 := f3.at_ HP2.out.1 HCR.out.1
  have q2 := f3.at_ HP2.out.2.1 HCR.out.2.1
  have q3 := f3.at_ HP2.out.2.2 HCR.out.2.2
  have HP3 := Lib.hid (And.intro q1.1 (And.intro q2.1 q3.1))
  have HS3 := Lib.hid s3
  have HF3 : Hid (Fr wi L w3 L) := Lib.hid ((Fr.free L (tn_below Nil HB2.out)).trans f3)
  have HZ3 : Hid (wi.heap.size ≤ w3.heap.size) := Lib.hid HF3.out.tn.size
  clear i1 i2 ho3 s3 f3 hcl3 HTK HS2 HG2 HCA q1 q2 q3 HP2 HB2
  have HB35 : Hid (Below w3.heap.size w3 w3.drew) := Lib.hid (Below.refl _ _).drew
  have HG5 : Hid (Tg w3.drew (fun g => (L.col g = -1 ∧ P g) ∧ g ≠ wi.heap.size + 1 + 1) ⟨room, xs, A, cp⟩) := Lib.hid (HG3.out.below HB35.out)
  have HS5 := Lib.hid (HS3.out.free (tn_below Nil HB35.out))
  have HF5 : Hid (Fr wi L w3.drew L) := Lib.hid (HF3.out.trans (Fr.free L (tn_below Nil HB35.out)))
  have HE5 := Lib.hid (HP3.out.2.2.below HB35.out HP3.out.2.2.lt)
  have HY5 := Lib.hid (HP3.out.1.below HB35.out HP3.out.1.lt)
  have HCA5 := Lib.hid (HCA3.out.below HB35.out)
  have HCB5 := Lib.hid (HCB.out.below HB35.out)
  have HSM := Lib.hid (rsame_yes cp2 cp3 HCA5.out HCB5.out HLL.out)
  have k0' := HY5.out.cell 0 rfl
  have k1' := HY5.out.cell 1 rfl
  clear HB35 HS3 HG3 HCA3 HCB HF3 HP3
  generalize ll.length = lm at *
  have hbe : (bb == bb) = true := by simp
  go_upto_region 15 with fail
  cases bb
  all_goals
    go_region_law ((go_simp; go_at_call 20; refine (HSM.out).mono ?_; rintro e w6 ⟨rfl, b6⟩; have HB6 := Lib.hid b6; have e4 := HE5.out.below b6 HE5.out.lt; have y4 := HY5.out.below b6 HY5.out.lt; have e0 := e4.cell 0 rfl; have e1 := e4.cell 1 rfl; have g0 := e4.free 0; have g1 := e4.free 1; have y40 := y4.cell 0 rfl; have y41 := y4.cell 1 rfl; have HE6 := Lib.hid e4; clear y4 e4 b6))
  all_goals
    go_wp2_with fail
    change bodyPost _ _ _ _ ⟨Array.setIfInBounds _ 7 (.bool true), []⟩ (pset2 w6 (wi.heap.size + 1 + 1) (.int .i64 room) (.slice A xs.length cp))
    have hA := pset2_at (x := .int .i64 room) (y := .slice A xs.length cp) HE6.out
    have hcl := tdo_end (s := ⟨room, xs, A, cp⟩) HN.out (by omega) HCR.out.2.2 (HS5.out.free (tn_below Nil HB6.out)) (HF5.out.trans (Fr.free L (tn_below Nil HB6.out))) (HG5.out.below HB6.out) (pset2_tn w6 (wi.heap.size + 1 + 1) (.int .i64 room) (.slice A xs.length cp))
    generalize pset2 w6 (wi.heap.size + 1 + 1) (.int .i64 room) (.slice A xs.length cp) = w7 at *
    exact bodyPost_ret (v := .tuple #[Tv.val ⟨room, xs, A, cp⟩, .bool true]) (res_tdo_put (s := ⟨room, xs, A, cp⟩) rfl rfl hA) rfl ⟨xs, A, cp, L, rfl, rfl, hcl.1, hcl.2.1, hcl.2.2⟩
end Go.Proofs.Ytgclgmfmcgacdaa

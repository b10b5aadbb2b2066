/- Proved: a deed, done by the document and by the scheduler, comes out alike: Next, and all. Conditions: those that the theorems name. -/
import Derived.Test.YtplbdeaoeocgkaaDpDo
import Derived.Laws.StructEq
namespace Go.Proofs.Ytplbdeaoeocgkaa
open Go.ChangeShapes Go.WideShapes Go.ChangeAt Go.RowKit

set_option maxRecDepth 100000 in
set_option maxHeartbeats 3200000 in
theorem ddo_some {w wi : World} {b : Nat} {L : Ly} {Q : Int} {W : List (Int × Int)} {R : List Qd} {s : Sv} (h : SB w wi b L Q 65536 W R) (P : Nat → Prop) (hP : ∀ g, wi.heap.size ≤ g → P g) (sg : Sg wi (fun g => L.col g = -1 ∧ P g) s) (dr : DRel s.xs s.rd W R) (hQ : s.Q = Q) (hR : R ≠ []) (kd id z : Int) (h0 : (kd == 0) = false) (h1 : (kd == 1) = false) (h2 : (kd == 2) = false) :
    Calls Try.prog 8 #[ptv b, s.val, .agg #[.int .i64 kd, .int .i64 id, .int .i64 z]] wi (Done w wi b L Q P) := by
  obtain ⟨W1, HW, A1, A2, A3, B1, hs⟩ := dboxes s kd id z wi
  obtain ⟨Q', xs, A, n, rd, B, d⟩ := s
  have hQ : Q' = Q := hQ
  subst hQ
  have HN := Lib.hid h
  have HB1 := Lib.hid B1
  have sg1 := (sg.there.below B1).mono (d := fun g => (L.col g = -1 ∧ P g) ∧ g ≠ wi.heap.size + 1 + 1) fun g _ e => ⟨e.1, by omega⟩
  have HAD := Lib.hid (rnext_some sg1 (fun g hg => ⟨⟨h.sr.ahead g (Nat.le_trans B1.size hg), hP g (Nat.le_trans B1.size hg)⟩, by omega⟩) dr h.ok hR)
  have HAD : Hid (Calls Try.prog 21 #[.agg #[.int .i64 Q', .slice A xs.length n, .slice B rd.length d]] W1 _) := HAD
  have HP := Lib.hid (And.intro A2 A3)
  have HSZ : Hid (W1.heap.size = wi.heap.size + 3) := Lib.hid hs
  have HCR : Hid (L.col (wi.heap.size + 1 + 1) = -1) := Lib.hid (h.sr.ahead _ (by omega))
  have HAH : Hid (∀ g, wi.heap.size ≤ g → L.col g = -1) := Lib.hid h.sr.ahead
  have HSB := Lib.hid (h.below B1)
  have c0 := A1.cell 0 rfl
  have c1 := A1.cell 1 rfl
  have c2 := A1.cell 2 rfl
  have i0 := A2.cell 0 rfl
  have HSA : Hid (∀ {V : World}, SB w V b L Q' 65536 W R → Calls Try.prog 15 #[.pointer (some ⟨b, 0, none⟩)] V fun e w' => ∃ (x : It) (R' : List Qd), e = .returned (.tuple #[.agg #[.int .i64 x.1, .int .i64 x.2], .bool true]) ∧ DrGoes Q' R x R' ∧ ∃ L', SB w w' b L' Q' 65536 W R' ∧ Fr V L w' L') := Lib.hid fun hV => sb_next hV hR
  clear h sg hP dr A1 A2 A3 B1 hs sg1
  show Calls Try.prog 8 #[.pointer (some ⟨b, 0, none⟩), .agg #[.int .i64 Q', .slice A xs.length n, .slice B rd.length d], .agg #[.int .i64 kd, .int .i64 id, .int .i64 z]] wi _
  dsimp only at HW
  go_enter Try.func8, Try.ntmps8
  go_upto_region 1 with fail
  rw [← HW]; clear HW
  go_upto_region 12 with (go_at_call 21; refine HAD.out.mono ?_; intro e w2 hp; obtain ⟨xs2, A2, n2, rd2, B2, d2, x, R2, rfl, go2, g2, r2, b2⟩ := hp.form; have HGO := Lib.hid go2; clear go2; have HG2 := Lib.hid g2; have HR2 := Lib.hid r2; have HB2 := Lib.hid b2; clear hp g2 r2 b2)
  have HAL := Lib.hid (((Below.refl w2.heap.size w2).alloc (Nat.le_refl _) (.cells #[.int .i64 Q', .slice A2 xs2.length n2, .slice B2 rd2.length d2] 31)).alloc (by simp) (.cells #[.int .i64 x.1, .int .i64 x.2] 35))
  have HY3 := Lib.hid ((At.new w2 31 [.int .i64 Q', .slice A2 xs2.length n2, .slice B2 rd2.length d2]).alloc (.cells #[.int .i64 x.1, .int .i64 x.2] 35))
  have HX3 : Hid (At ((w2.alloc (.cells #[.int .i64 Q', .slice A2 xs2.length n2, .slice B2 rd2.length d2] 31)).alloc (.cells #[.int .i64 x.1, .int .i64 x.2] 35)) (w2.heap.size + 1) 35 [.int .i64 x.1, .int .i64 x.2]) := Lib.hid (by
    have := At.new (w2.alloc (.cells #[.int .i64 Q', .slice A2 xs2.length n2, .slice B2 rd2.length d2] 31)) 35 [.int .i64 x.1, .int .i64 x.2]
    simpa using this)
  generalize (w2.alloc (.cells #[.int .i64 Q', .slice A2 xs2.length n2, .slice B2 rd2.length d2] 31)).alloc (.cells #[.int .i64 x.1, .int .i64 x.2] 35) = w3 at *
  have HB13 : Hid (Below W1.heap.size W1 w3) := Lib.hid (HB2.out.trans (HAL.out.mono HB2.out.size))
  have HBW3 : Hid (Below wi.heap.size wi w3) := Lib.hid (HB1.out.trans (HB13.out.mono HB1.out.size))
  have HG3 : Hid (Sg w3 (fun g => (L.col g = -1 ∧ P g) ∧ g ≠ wi.heap.size + 1 + 1) ⟨Q', xs2, A2, n2, rd2, B2, d2⟩) := Lib.hid (HG2.out.below HAL.out)
  have HS3 := Lib.hid (HSB.out.below HB13.out)
  have HE3 := Lib.hid (HP.out.2.below HB13.out HP.out.2.lt)
  have HYC : Hid (L.col w2.heap.size = -1) := Lib.hid (HAH.out _ (by have := HB1.out.size; have := HB2.out.size; omega))
  have HXC : Hid (L.col (w2.heap.size + 1) = -1) := Lib.hid (HAH.out _ (by have := HB1.out.size; have := HB2.out.size; omega))
  clear c0 c1 c2 i0 HAL HB13
  go_upto_region 13 with (go_at_call 15; refine (HSA.out HS3.out).mono ?_; rintro e w4 ⟨x', R4, rfl, go4, L4, s4, f4⟩; obtain ⟨rfl, rfl⟩ := go4.only HGO.out; clear go4; have HS4 := Lib.hid s4; have HF4 := Lib.hid f4; clear s4 f4)
  have HY4 := Lib.hid (HF4.out.at_ HY3.out HYC.out).1
  have HX4 := Lib.hid (HF4.out.at_ HX3.out HXC.out).1
  have HE4 := Lib.hid (HF4.out.at_ HE3.out HCR.out).1
  have al : Below w4.heap.size w4 (w4.alloc (.cells #[.int .i64 x'.1, .int .i64 x'.2] 35)) := (Below.refl _ _).alloc (Nat.le_refl _) _
  have Z5 := At.new w4 35 [.int .i64 x'.1, .int .i64 x'.2]
  have Y5 := HY4.out.below al HY4.out.lt
  have X5 := HX4.out.below al HX4.out.lt
  have E5 := HE4.out.below al HE4.out.lt
  have k0 := Y5.cell 0 rfl
  have k1 := Y5.cell 1 rfl
  have k2 := Y5.cell 2 rfl
  have x0 := X5.cell 0 rfl
  have x1 := X5.cell 1 rfl
  have z0 := Z5.cell 0 rfl
  have z1 := Z5.cell 1 rfl
  have e0 := E5.cell 0 rfl
  have e1 := E5.cell 1 rfl
  have e2 := E5.cell 2 rfl
  have g0 := E5.free 0
  have g1 := E5.free 1
  have g2 := E5.free 2
  have HE5 := Lib.hid E5
  have HT5 : Hid (Tn (fun g => g = wi.heap.size + 1 + 1) w4 (w4.alloc (.cells #[.int .i64 x'.1, .int .i64 x'.2] 35))) := Lib.hid (tn_below (fun g => g = wi.heap.size + 1 + 1) al)
  clear al Z5 Y5 X5 E5
  generalize w4.heap.size = zb at *
  generalize w4.alloc (.cells #[.int .i64 x'.1, .int .i64 x'.2] 35) = w5 at *
  go_region
  all_goals
    go_wp2_with fail
    change bodyPost _ _ _ _ _ (pset3 w5 (wi.heap.size + 1 + 1) (.int .i64 Q') (.slice A2 xs2.length n2) (.slice B2 rd2.length d2)).drew
    have hA : At (pset3 w5 (wi.heap.size + 1 + 1) (.int .i64 Q') (.slice A2 xs2.length n2) (.slice B2 rd2.length d2)).drew (wi.heap.size + 1 + 1) 31 [.int .i64 Q', .slice A2 xs2.length n2, .slice B2 rd2.length d2] := pset3_at HE5.out
    have hcl := ddo_close (s := ⟨Q', xs2, A2, n2, rd2, B2, d2⟩) HN.out.bel.size HBW3.out (by omega) HE3.out.lt HCR.out HS4.out HF4.out HG3.out (HT5.out.trans (pset3_tn w5 (wi.heap.size + 1 + 1) (.int .i64 Q') (.slice A2 xs2.length n2) (.slice B2 rd2.length d2))).drew
    generalize (pset3 w5 (wi.heap.size + 1 + 1) (.int .i64 Q') (.slice A2 xs2.length n2) (.slice B2 rd2.length d2)).drew = w6 at *
    exact bodyPost_ret (v := .tuple #[Sv.val ⟨Q', xs2, A2, n2, rd2, B2, d2⟩, .bool true]) (res_ddo (s := ⟨Q', xs2, A2, n2, rd2, B2, d2⟩) rfl rfl hA) rfl ⟨⟨Q', xs2, A2, n2, rd2, B2, d2⟩, L4, W, R4, rfl, hcl.1, hcl.2.1, hcl.2.2, HR2.out, rfl⟩
set_option maxRecDepth 100000 in
set_option maxHeartbeats 3200000 in
theorem ddo_none {w wi : World} {b : Nat} {L : Ly} {Q : Int} {W : List (Int × Int)} {s : Sv} (h : SB w wi b L Q 65536 W []) (P : Nat → Prop) (sg : Sg wi (fun g => L.col g = -1 ∧ P g) s) (dr : DRel s.xs s.rd W []) (hQ : s.Q = Q)  (kd id z : Int) (h0 : (kd == 0) = false) (h1 : (kd == 1) = false) (h2 : (kd == 2) = false) :
    Calls Try.prog 8 #[ptv b, s.val, .agg #[.int .i64 kd, .int .i64 id, .int .i64 z]] wi (Done w wi b L Q P) := by
  obtain ⟨W1, HW, A1, A2, A3, B1, hs⟩ := dboxes s kd id z wi
  obtain ⟨Q', xs, A, n, rd, B, d⟩ := s
  have hQ : Q' = Q := hQ
  subst hQ
  have HN := Lib.hid h
  have HB1 := Lib.hid B1
  have sg1 := (sg.there.below B1).mono (d := fun g => (L.col g = -1 ∧ P g) ∧ g ≠ wi.heap.size + 1 + 1) fun g _ e => ⟨e.1, by omega⟩
  have HAD := Lib.hid (rnext_none sg1 dr)
  have HAD : Hid (Calls Try.prog 21 #[.agg #[.int .i64 Q', .slice A xs.length n, .slice B rd.length d]] W1 _) := HAD
  have HP := Lib.hid (And.intro A2 A3)
  have HSZ : Hid (W1.heap.size = wi.heap.size + 3) := Lib.hid hs
  have HCR : Hid (L.col (wi.heap.size + 1 + 1) = -1) := Lib.hid (h.sr.ahead _ (by omega))
  have HAH : Hid (∀ g, wi.heap.size ≤ g → L.col g = -1) := Lib.hid h.sr.ahead
  have HSB := Lib.hid (h.below B1)
  have c0 := A1.cell 0 rfl
  have c1 := A1.cell 1 rfl
  have c2 := A1.cell 2 rfl
  have i0 := A2.cell 0 rfl
  have HSA : Hid (∀ {V : World}, SB w V b L Q' 65536 W [] → Calls Try.prog 15 #[.pointer (some ⟨b, 0, none⟩)] V fun e w' => e = .returned (.tuple #[.agg #[.int .i64 0, .int .i64 0], .bool false]) ∧ ∃ L', SB w w' b L' Q' 65536 W [] ∧ Fr V L w' L') := Lib.hid fun hV => sb_next_none hV
  clear h sg dr A1 A2 A3 B1 hs sg1
  show Calls Try.prog 8 #[.pointer (some ⟨b, 0, none⟩), .agg #[.int .i64 Q', .slice A xs.length n, .slice B rd.length d], .agg #[.int .i64 kd, .int .i64 id, .int .i64 z]] wi _
  dsimp only at HW
  go_enter Try.func8, Try.ntmps8
  go_upto_region 1 with fail
  rw [← HW]; clear HW
  go_upto_region 12 with (go_at_call 21; refine HAD.out.mono ?_; intro e w2 hp; obtain ⟨xs2, A2, n2, rd2, B2, d2, rfl, g2, r2, b2⟩ := hp.form; have HG2 := Lib.hid g2; have HR2 := Lib.hid r2; have HB2 := Lib.hid b2; clear hp g2 r2 b2)
  have HAL := Lib.hid (((Below.refl w2.heap.size w2).alloc (Nat.le_refl _) (.cells #[.int .i64 Q', .slice A2 xs2.length n2, .slice B2 rd2.length d2] 31)).alloc (by simp) (.cells #[.int .i64 0, .int .i64 0] 35))
  have HY3 := Lib.hid ((At.new w2 31 [.int .i64 Q', .slice A2 xs2.length n2, .slice B2 rd2.length d2]).alloc (.cells #[.int .i64 0, .int .i64 0] 35))
  have HX3 : Hid (At ((w2.alloc (.cells #[.int .i64 Q', .slice A2 xs2.length n2, .slice B2 rd2.length d2] 31)).alloc (.cells #[.int .i64 0, .int .i64 0] 35)) (w2.heap.size + 1) 35 [.int .i64 0, .int .i64 0]) := Lib.hid (by
    have := At.new (w2.alloc (.cells #[.int .i64 Q', .slice A2 xs2.length n2, .slice B2 rd2.length d2] 31)) 35 [.int .i64 0, .int .i64 0]
    simpa using this)
  generalize (w2.alloc (.cells #[.int .i64 Q', .slice A2 xs2.length n2, .slice B2 rd2.length d2] 31)).alloc (.cells #[.int .i64 0, .int .i64 0] 35) = w3 at *
  have HB13 : Hid (Below W1.heap.size W1 w3) := Lib.hid (HB2.out.trans (HAL.out.mono HB2.out.size))
  have HBW3 : Hid (Below wi.heap.size wi w3) := Lib.hid (HB1.out.trans (HB13.out.mono HB1.out.size))
  have HG3 : Hid (Sg w3 (fun g => (L.col g = -1 ∧ P g) ∧ g ≠ wi.heap.size + 1 + 1) ⟨Q', xs2, A2, n2, rd2, B2, d2⟩) := Lib.hid (HG2.out.below HAL.out)
  have HS3 := Lib.hid (HSB.out.below HB13.out)
  have HE3 := Lib.hid (HP.out.2.below HB13.out HP.out.2.lt)
  have HYC : Hid (L.col w2.heap.size = -1) := Lib.hid (HAH.out _ (by have := HB1.out.size; have := HB2.out.size; omega))
  have HXC : Hid (L.col (w2.heap.size + 1) = -1) := Lib.hid (HAH.out _ (by have := HB1.out.size; have := HB2.out.size; omega))
  clear c0 c1 c2 i0 HAL HB13
  go_upto_region 13 with (go_at_call 15; refine (HSA.out HS3.out).mono ?_; rintro e w4 ⟨rfl, L4, s4, f4⟩; have HS4 := Lib.hid s4; have HF4 := Lib.hid f4; clear s4 f4)
  have HY4 := Lib.hid (HF4.out.at_ HY3.out HYC.out).1
  have HX4 := Lib.hid (HF4.out.at_ HX3.out HXC.out).1
  have HE4 := Lib.hid (HF4.out.at_ HE3.out HCR.out).1
  have al : Below w4.heap.size w4 (w4.alloc (.cells #[.int .i64 0, .int .i64 0] 35)) := (Below.refl _ _).alloc (Nat.le_refl _) _
  have Z5 := At.new w4 35 [.int .i64 0, .int .i64 0]
  have Y5 := HY4.out.below al HY4.out.lt
  have X5 := HX4.out.below al HX4.out.lt
  have E5 := HE4.out.below al HE4.out.lt
  have k0 := Y5.cell 0 rfl
  have k1 := Y5.cell 1 rfl
  have k2 := Y5.cell 2 rfl
  have x0 := X5.cell 0 rfl
  have x1 := X5.cell 1 rfl
  have z0 := Z5.cell 0 rfl
  have z1 := Z5.cell 1 rfl
  have e0 := E5.cell 0 rfl
  have e1 := E5.cell 1 rfl
  have e2 := E5.cell 2 rfl
  have g0 := E5.free 0
  have g1 := E5.free 1
  have g2 := E5.free 2
  have HE5 := Lib.hid E5
  have HT5 : Hid (Tn (fun g => g = wi.heap.size + 1 + 1) w4 (w4.alloc (.cells #[.int .i64 0, .int .i64 0] 35))) := Lib.hid (tn_below (fun g => g = wi.heap.size + 1 + 1) al)
  clear al Z5 Y5 X5 E5
  generalize w4.heap.size = zb at *
  generalize w4.alloc (.cells #[.int .i64 0, .int .i64 0] 35) = w5 at *
  go_region
  all_goals
    go_wp2_with fail
    change bodyPost _ _ _ _ _ (pset3 w5 (wi.heap.size + 1 + 1) (.int .i64 Q') (.slice A2 xs2.length n2) (.slice B2 rd2.length d2)).drew
    have hA : At (pset3 w5 (wi.heap.size + 1 + 1) (.int .i64 Q') (.slice A2 xs2.length n2) (.slice B2 rd2.length d2)).drew (wi.heap.size + 1 + 1) 31 [.int .i64 Q', .slice A2 xs2.length n2, .slice B2 rd2.length d2] := pset3_at HE5.out
    have hcl := ddo_close (s := ⟨Q', xs2, A2, n2, rd2, B2, d2⟩) HN.out.bel.size HBW3.out (by omega) HE3.out.lt HCR.out HS4.out HF4.out HG3.out (HT5.out.trans (pset3_tn w5 (wi.heap.size + 1 + 1) (.int .i64 Q') (.slice A2 xs2.length n2) (.slice B2 rd2.length d2))).drew
    generalize (pset3 w5 (wi.heap.size + 1 + 1) (.int .i64 Q') (.slice A2 xs2.length n2) (.slice B2 rd2.length d2)).drew = w6 at *
    exact bodyPost_ret (v := .tuple #[Sv.val ⟨Q', xs2, A2, n2, rd2, B2, d2⟩, .bool true]) (res_ddo (s := ⟨Q', xs2, A2, n2, rd2, B2, d2⟩) rfl rfl hA) rfl ⟨⟨Q', xs2, A2, n2, rd2, B2, d2⟩, L4, W, [], rfl, hcl.1, hcl.2.1, hcl.2.2, HR2.out, rfl⟩
theorem ddo_any {w wi : World} {b : Nat} {L : Ly} {Q : Int} {W : List (Int × Int)} {R : List Qd} {s : Sv} (h : SB w wi b L Q 65536 W R) (P : Nat → Prop) (hP : ∀ g, wi.heap.size ≤ g → P g) (sg : Sg wi (fun g => L.col g = -1 ∧ P g) s) (dr : DRel s.xs s.rd W R) (hQ : s.Q = Q) (kd : Int) {id : Int} (hid : I64 id) (z : Int) :
    Calls Try.prog 8 #[ptv b, s.val, .agg #[.int .i64 kd, .int .i64 id, .int .i64 z]] wi (Done w wi b L Q P) := by
  by_cases h0 : kd = 0
  · subst h0; exact ddo_add h P hP sg dr hQ hid z
  by_cases h1 : kd = 1
  · subst h1; exact ddo_rem h P hP sg dr hQ hid z
  by_cases h2 : kd = 2
  · subst h2; exact ddo_push h P hP sg dr hQ hid z
  have e0 : (kd == 0) = false := by simpa using h0
  have e1 : (kd == 1) = false := by simpa using h1
  have e2 : (kd == 2) = false := by simpa using h2
  cases R with
  | nil => exact ddo_none h P sg dr hQ kd id z e0 e1 e2
  | cons q t => exact ddo_some h P hP sg dr hQ (by simp) kd id z e0 e1 e2
end Go.Proofs.Ytplbdeaoeocgkaa

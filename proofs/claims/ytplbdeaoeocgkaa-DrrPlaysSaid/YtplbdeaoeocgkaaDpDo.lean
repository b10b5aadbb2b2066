/- Proved: a deed, done by the document and by the scheduler, comes out alike: Add, Remove, Push. Conditions: those that the theorems name. -/
import Derived.Test.YtplbdeaoeocgkaaDpDoM
namespace Go.Proofs.Ytplbdeaoeocgkaa
open Go.ChangeShapes Go.WideShapes Go.ChangeAt Go.RowKit

set_option maxRecDepth 100000 in
set_option maxHeartbeats 3200000 in
theorem ddo_add {w wi : World} {b : Nat} {L : Ly} {Q : Int} {W : List (Int × Int)} {R : List Qd} {s : Sv} (h : SB w wi b L Q 65536 W R) (P : Nat → Prop) (hP : ∀ g, wi.heap.size ≤ g → P g) (sg : Sg wi (fun g => L.col g = -1 ∧ P g) s) (dr : DRel s.xs s.rd W R) (hQ : s.Q = Q) {id : Int} (hid : I64 id) (z : Int) :
    Calls Try.prog 8 #[ptv b, s.val, .agg #[.int .i64 0, .int .i64 id, .int .i64 z]] wi (Done w wi b L Q P) := by
  obtain ⟨W1, HW, A1, A2, A3, B1, hs⟩ := dboxes s 0 id z wi
  obtain ⟨Q', xs, A, n, rd, B, d⟩ := s
  have hQ : Q' = Q := hQ
  subst hQ
  have HN := Lib.hid (And.intro h hid)
  have HB1 := Lib.hid B1
  have sg1 := (sg.there.below B1).mono (d := fun g => (L.col g = -1 ∧ P g) ∧ g ≠ wi.heap.size + 1 + 1) fun g _ e => ⟨e.1, by omega⟩
  have HAD := Lib.hid (radd_any sg1 (fun g hg => ⟨⟨h.sr.ahead g (Nat.le_trans B1.size hg), hP g (Nat.le_trans B1.size hg)⟩, by omega⟩) dr h.ok id z)
  have HAD : Hid (Calls Try.prog 18 #[.agg #[.int .i64 Q', .slice A xs.length n, .slice B rd.length d], .int .i64 id, .int .i64 z] W1 _) := HAD
  have HP := Lib.hid (And.intro A2 A3)
  have HSZ : Hid (W1.heap.size = wi.heap.size + 3) := Lib.hid hs
  have HCR : Hid (L.col (wi.heap.size + 1 + 1) = -1) := Lib.hid (h.sr.ahead _ (by omega))
  have HAH : Hid (∀ g, wi.heap.size ≤ g → L.col g = -1) := Lib.hid h.sr.ahead
  have HSB := Lib.hid (h.below B1)
  have c0 := A1.cell 0 rfl
  have c1 := A1.cell 1 rfl
  have c2 := A1.cell 2 rfl
  have i0 := A2.cell 0 rfl
  have i1 := A2.cell 1 rfl
  have i2 := A2.cell 2 rfl
  clear h sg hP dr hid A1 A2 A3 B1 hs sg1
  show Calls Try.prog 8 #[.pointer (some ⟨b, 0, none⟩), .agg #[.int .i64 Q', .slice A xs.length n, .slice B rd.length d], .agg #[.int .i64 0, .int .i64 id, .int .i64 z]] wi _
  dsimp only at HW
  obtain ⟨zE, hz0⟩ : ∃ z', addE W id z = z' := ⟨_, rfl⟩
  obtain ⟨WE, hz1⟩ : ∃ z', addW W id z = z' := ⟨_, rfl⟩
  have HSA : Hid (∀ {V : World}, SB w V b L Q' 65536 W R → Calls Try.prog 13 #[.pointer (some ⟨b, 0, none⟩), .int .i64 id, .int .i64 z] V fun e w' => e = .returned (.int .i64 zE) ∧ ∃ L', SB w w' b L' Q' 65536 WE R ∧ Fr V L w' L') := Lib.hid fun hV => by
    have := sb_add hV HN.out.2 z
    rw [hz0, hz1] at this
    exact this
  rw [hz0, hz1] at HAD
  clear hz0 hz1
  go_enter Try.func8, Try.ntmps8
  go_upto_region 1 with fail
  rw [← HW]; clear HW
  go_upto_region 4 with (go_at_call 18; refine HAD.out.mono ?_; intro e w2 hp; obtain ⟨xs2, A2, n2, rd2, B2, d2, rfl, g2, r2, b2⟩ := hp.form; have HG2 := Lib.hid g2; have HR2 := Lib.hid r2; have HB2 := Lib.hid b2; clear hp g2 r2 b2)
  have HAL := Lib.hid ((Below.refl w2.heap.size w2).alloc (Nat.le_refl _) (.cells #[.int .i64 Q', .slice A2 xs2.length n2, .slice B2 rd2.length d2] 31))
  have HY3 := Lib.hid (At.new w2 31 [.int .i64 Q', .slice A2 xs2.length n2, .slice B2 rd2.length d2])
  generalize w2.alloc (.cells #[.int .i64 Q', .slice A2 xs2.length n2, .slice B2 rd2.length d2] 31) = w3 at *
  have HB13 : Hid (Below W1.heap.size W1 w3.drew) := Lib.hid (HB2.out.trans (HAL.out.mono HB2.out.size)).drew
  have HBW3 : Hid (Below wi.heap.size wi w3.drew) := Lib.hid (HB1.out.trans (HB13.out.mono HB1.out.size))
  have HG3 : Hid (Sg w3.drew (fun g => (L.col g = -1 ∧ P g) ∧ g ≠ wi.heap.size + 1 + 1) ⟨Q', xs2, A2, n2, rd2, B2, d2⟩) := Lib.hid (HG2.out.below (by exact HAL.out.drew))
  have HS3 := Lib.hid (HSB.out.below HB13.out)
  have HD3 := Lib.hid (HP.out.1.below HB13.out HP.out.1.lt)
  have HE3 := Lib.hid (HP.out.2.below HB13.out HP.out.2.lt)
  have HY3 : Hid (At w3.drew w2.heap.size 31 [.int .i64 Q', .slice A2 xs2.length n2, .slice B2 rd2.length d2]) := HY3
  have HYC : Hid (L.col w2.heap.size = -1) := Lib.hid (HAH.out _ (by have := HB1.out.size; have := HB2.out.size; omega))
  have HDC : Hid (L.col (wi.heap.size + 1) = -1) := Lib.hid (HAH.out _ (by omega))
  have k0 := HY3.out.cell 0 rfl
  have k1 := HY3.out.cell 1 rfl
  have k2 := HY3.out.cell 2 rfl
  have k3 := HD3.out.cell 1 rfl
  have k4 := HD3.out.cell 2 rfl
  clear c0 c1 c2 i0 i1 i2 HAL HB13
  go_region_law ((go_simp; go_at_call 13; refine (HSA.out HS3.out).mono ?_; rintro e w4 ⟨rfl, L4, s4, f4⟩; have y4 := f4.at_ HY3.out HYC.out; have x4 := f4.at_ HD3.out HDC.out; have e4 := f4.at_ HE3.out HCR.out; have e0 := e4.1.cell 0 rfl; have e1 := e4.1.cell 1 rfl; have e2 := e4.1.cell 2 rfl; have g0 := e4.1.free 0; have g1 := e4.1.free 1; have g2 := e4.1.free 2; have y40 := y4.1.cell 0 rfl; have y41 := y4.1.cell 1 rfl; have y42 := y4.1.cell 2 rfl; have x41 := x4.1.cell 1 rfl; have x42 := x4.1.cell 2 rfl; have HE4 := Lib.hid e4.1; have HS4 := Lib.hid s4; have HF4 := Lib.hid f4; clear y4 x4 e4 s4 f4))
  all_goals
    go_wp2_with fail
    change bodyPost _ _ _ _ ⟨Array.setIfInBounds _ 7 (.bool true), []⟩ (pset3 w4 (wi.heap.size + 1 + 1) (.int .i64 Q') (.slice A2 xs2.length n2) (.slice B2 rd2.length d2))
    have hA := pset3_at (x := .int .i64 Q') (y := .slice A2 xs2.length n2) (z := .slice B2 rd2.length d2) HE4.out
    have hcl := ddo_close (s := ⟨Q', xs2, A2, n2, rd2, B2, d2⟩) HN.out.1.bel.size HBW3.out (by omega) HE3.out.lt HCR.out HS4.out HF4.out HG3.out (pset3_tn w4 (wi.heap.size + 1 + 1) (.int .i64 Q') (.slice A2 xs2.length n2) (.slice B2 rd2.length d2))
    generalize pset3 w4 (wi.heap.size + 1 + 1) (.int .i64 Q') (.slice A2 xs2.length n2) (.slice B2 rd2.length d2) = w5 at *
    exact bodyPost_ret (v := .tuple #[Sv.val ⟨Q', xs2, A2, n2, rd2, B2, d2⟩, .bool true]) (res_ddo_put (s := ⟨Q', xs2, A2, n2, rd2, B2, d2⟩) rfl rfl hA) rfl ⟨⟨Q', xs2, A2, n2, rd2, B2, d2⟩, L4, WE, R, rfl, hcl.1, hcl.2.1, hcl.2.2, HR2.out, rfl⟩
set_option maxRecDepth 100000 in
set_option maxHeartbeats 3200000 in
theorem ddo_rem {w wi : World} {b : Nat} {L : Ly} {Q : Int} {W : List (Int × Int)} {R : List Qd} {s : Sv} (h : SB w wi b L Q 65536 W R) (P : Nat → Prop) (hP : ∀ g, wi.heap.size ≤ g → P g) (sg : Sg wi (fun g => L.col g = -1 ∧ P g) s) (dr : DRel s.xs s.rd W R) (hQ : s.Q = Q) {id : Int} (hid : I64 id) (z : Int) :
    Calls Try.prog 8 #[ptv b, s.val, .agg #[.int .i64 1, .int .i64 id, .int .i64 z]] wi (Done w wi b L Q P) := by
  obtain ⟨W1, HW, A1, A2, A3, B1, hs⟩ := dboxes s 1 id z wi
  obtain ⟨Q', xs, A, n, rd, B, d⟩ := s
  have hQ : Q' = Q := hQ
  subst hQ
  have HN := Lib.hid (And.intro h hid)
  have HB1 := Lib.hid B1
  have sg1 := (sg.there.below B1).mono (d := fun g => (L.col g = -1 ∧ P g) ∧ g ≠ wi.heap.size + 1 + 1) fun g _ e => ⟨e.1, by omega⟩
  have HAD := Lib.hid (rrem_any sg1 (fun g hg => ⟨⟨h.sr.ahead g (Nat.le_trans B1.size hg), hP g (Nat.le_trans B1.size hg)⟩, by omega⟩) dr h.ok id)
  have HAD : Hid (Calls Try.prog 19 #[.agg #[.int .i64 Q', .slice A xs.length n, .slice B rd.length d], .int .i64 id] W1 _) := HAD
  have HP := Lib.hid (And.intro A2 A3)
  have HSZ : Hid (W1.heap.size = wi.heap.size + 3) := Lib.hid hs
  have HCR : Hid (L.col (wi.heap.size + 1 + 1) = -1) := Lib.hid (h.sr.ahead _ (by omega))
  have HAH : Hid (∀ g, wi.heap.size ≤ g → L.col g = -1) := Lib.hid h.sr.ahead
  have HSB := Lib.hid (h.below B1)
  have c0 := A1.cell 0 rfl
  have c1 := A1.cell 1 rfl
  have c2 := A1.cell 2 rfl
  have i0 := A2.cell 0 rfl
  have i1 := A2.cell 1 rfl
  have i2 := A2.cell 2 rfl
  clear h sg hP dr hid A1 A2 A3 B1 hs sg1
  show Calls Try.prog 8 #[.pointer (some ⟨b, 0, none⟩), .agg #[.int .i64 Q', .slice A xs.length n, .slice B rd.length d], .agg #[.int .i64 1, .int .i64 id, .int .i64 z]] wi _
  dsimp only at HW
  obtain ⟨zE, hz0⟩ : ∃ z', remE W id = z' := ⟨_, rfl⟩
  obtain ⟨WE, hz1⟩ : ∃ z', remW W id = z' := ⟨_, rfl⟩
  obtain ⟨RE, hz2⟩ : ∃ z', remR R id = z' := ⟨_, rfl⟩
  have HSA : Hid (∀ {V : World}, SB w V b L Q' 65536 W R → Calls Try.prog 17 #[.pointer (some ⟨b, 0, none⟩), .int .i64 id] V fun e w' => e = .returned (.int .i64 zE) ∧ ∃ L', SB w w' b L' Q' 65536 WE RE ∧ Fr V L w' L') := Lib.hid fun hV => by
    have := sb_remove hV HN.out.2
    rw [hz0, hz1, hz2] at this
    exact this
  rw [hz0, hz1, hz2] at HAD
  clear hz0 hz1 hz2
  go_enter Try.func8, Try.ntmps8
  go_upto_region 1 with fail
  rw [← HW]; clear HW
  go_upto_region 7 with (go_at_call 19; refine HAD.out.mono ?_; intro e w2 hp; obtain ⟨xs2, A2, n2, rd2, B2, d2, rfl, g2, r2, b2⟩ := hp.form; have HG2 := Lib.hid g2; have HR2 := Lib.hid r2; have HB2 := Lib.hid b2; clear hp g2 r2 b2)
  have HAL := Lib.hid ((Below.refl w2.heap.size w2).alloc (Nat.le_refl _) (.cells #[.int .i64 Q', .slice A2 xs2.length n2, .slice B2 rd2.length d2] 31))
  have HY3 := Lib.hid (At.new w2 31 [.int .i64 Q', .slice A2 xs2.length n2, .slice B2 rd2.length d2])
  generalize w2.alloc (.cells #[.int .i64 Q', .slice A2 xs2.length n2, .slice B2 rd2.length d2] 31) = w3 at *
  have HB13 : Hid (Below W1.heap.size W1 w3.drew) := Lib.hid (HB2.out.trans (HAL.out.mono HB2.out.size)).drew
  have HBW3 : Hid (Below wi.heap.size wi w3.drew) := Lib.hid (HB1.out.trans (HB13.out.mono HB1.out.size))
  have HG3 : Hid (Sg w3.drew (fun g => (L.col g = -1 ∧ P g) ∧ g ≠ wi.heap.size + 1 + 1) ⟨Q', xs2, A2, n2, rd2, B2, d2⟩) := Lib.hid (HG2.out.below (by exact HAL.out.drew))
  have HS3 := Lib.hid (HSB.out.below HB13.out)
  have HD3 := Lib.hid (HP.out.1.below HB13.out HP.out.1.lt)
  have HE3 := Lib.hid (HP.out.2.below HB13.out HP.out.2.lt)
  have HY3 : Hid (At w3.drew w2.heap.size 31 [.int .i64 Q', .slice A2 xs2.length n2, .slice B2 rd2.length d2]) := HY3
  have HYC : Hid (L.col w2.heap.size = -1) := Lib.hid (HAH.out _ (by have := HB1.out.size; have := HB2.out.size; omega))
  have HDC : Hid (L.col (wi.heap.size + 1) = -1) := Lib.hid (HAH.out _ (by omega))
  have k0 := HY3.out.cell 0 rfl
  have k1 := HY3.out.cell 1 rfl
  have k2 := HY3.out.cell 2 rfl
  have k3 := HD3.out.cell 1 rfl
  have k4 := HD3.out.cell 2 rfl
  clear c0 c1 c2 i0 i1 i2 HAL HB13
  go_region_law ((go_simp; go_at_call 17; refine (HSA.out HS3.out).mono ?_; rintro e w4 ⟨rfl, L4, s4, f4⟩; have y4 := f4.at_ HY3.out HYC.out; have x4 := f4.at_ HD3.out HDC.out; have e4 := f4.at_ HE3.out HCR.out; have e0 := e4.1.cell 0 rfl; have e1 := e4.1.cell 1 rfl; have e2 := e4.1.cell 2 rfl; have g0 := e4.1.free 0; have g1 := e4.1.free 1; have g2 := e4.1.free 2; have y40 := y4.1.cell 0 rfl; have y41 := y4.1.cell 1 rfl; have y42 := y4.1.cell 2 rfl; have x41 := x4.1.cell 1 rfl; have x42 := x4.1.cell 2 rfl; have HE4 := Lib.hid e4.1; have HS4 := Lib.hid s4; have HF4 := Lib.hid f4; clear y4 x4 e4 s4 f4))
  all_goals
    go_wp2_with fail
    change bodyPost _ _ _ _ ⟨Array.setIfInBounds _ 7 (.bool true), []⟩ (pset3 w4 (wi.heap.size + 1 + 1) (.int .i64 Q') (.slice A2 xs2.length n2) (.slice B2 rd2.length d2))
    have hA := pset3_at (x := .int .i64 Q') (y := .slice A2 xs2.length n2) (z := .slice B2 rd2.length d2) HE4.out
    have hcl := ddo_close (s := ⟨Q', xs2, A2, n2, rd2, B2, d2⟩) HN.out.1.bel.size HBW3.out (by omega) HE3.out.lt HCR.out HS4.out HF4.out HG3.out (pset3_tn w4 (wi.heap.size + 1 + 1) (.int .i64 Q') (.slice A2 xs2.length n2) (.slice B2 rd2.length d2))
    generalize pset3 w4 (wi.heap.size + 1 + 1) (.int .i64 Q') (.slice A2 xs2.length n2) (.slice B2 rd2.length d2) = w5 at *
    exact bodyPost_ret (v := .tuple #[Sv.val ⟨Q', xs2, A2, n2, rd2, B2, d2⟩, .bool true]) (res_ddo_put (s := ⟨Q', xs2, A2, n2, rd2, B2, d2⟩) rfl rfl hA) rfl ⟨⟨Q', xs2, A2, n2, rd2, B2, d2⟩, L4, WE, RE, rfl, hcl.1, hcl.2.1, hcl.2.2, HR2.out, rfl⟩
set_option maxRecDepth 100000 in
set_option maxHeartbeats 3200000 in
theorem ddo_push {w wi : World} {b : Nat} {L : Ly} {Q : Int} {W : List (Int × Int)} {R : List Qd} {s : Sv} (h : SB w wi b L Q 65536 W R) (P : Nat → Prop) (hP : ∀ g, wi.heap.size ≤ g → P g) (sg : Sg wi (fun g => L.col g = -1 ∧ P g) s) (dr : DRel s.xs s.rd W R) (hQ : s.Q = Q) {id : Int} (hid : I64 id) (z : Int) :
    Calls Try.prog 8 #[ptv b, s.val, .agg #[.int .i64 2, .int .i64 id, .int .i64 z]] wi (Done w wi b L Q P) := by
  obtain ⟨W1, HW, A1, A2, A3, B1, hs⟩ := dboxes s 2 id z wi
  obtain ⟨Q', xs, A, n, rd, B, d⟩ := s
  have hQ : Q' = Q := hQ
  subst hQ
  have HN := Lib.hid (And.intro h hid)
  have HB1 := Lib.hid B1
  have sg1 := (sg.there.below B1).mono (d := fun g => (L.col g = -1 ∧ P g) ∧ g ≠ wi.heap.size + 1 + 1) fun g _ e => ⟨e.1, by omega⟩
  have HAD := Lib.hid (rpush_any sg1 (fun g hg => ⟨⟨h.sr.ahead g (Nat.le_trans B1.size hg), hP g (Nat.le_trans B1.size hg)⟩, by omega⟩) dr h.ok (id, z))
  have HAD : Hid (Calls Try.prog 20 #[.agg #[.int .i64 Q', .slice A xs.length n, .slice B rd.length d], .agg #[.int .i64 id, .int .i64 z]] W1 _) := HAD
  have HP := Lib.hid (And.intro A2 A3)
  have HSZ : Hid (W1.heap.size = wi.heap.size + 3) := Lib.hid hs
  have HCR : Hid (L.col (wi.heap.size + 1 + 1) = -1) := Lib.hid (h.sr.ahead _ (by omega))
  have HAH : Hid (∀ g, wi.heap.size ≤ g → L.col g = -1) := Lib.hid h.sr.ahead
  have HSB := Lib.hid (h.below B1)
  have c0 := A1.cell 0 rfl
  have c1 := A1.cell 1 rfl
  have c2 := A1.cell 2 rfl
  have i0 := A2.cell 0 rfl
  have i1 := A2.cell 1 rfl
  have i2 := A2.cell 2 rfl
  clear h sg hP dr hid A1 A2 A3 B1 hs sg1
  show Calls Try.prog 8 #[.pointer (some ⟨b, 0, none⟩), .agg #[.int .i64 Q', .slice A xs.length n, .slice B rd.length d], .agg #[.int .i64 2, .int .i64 id, .int .i64 z]] wi _
  dsimp only at HW
  obtain ⟨zE, hz0⟩ : ∃ z', pushE W R (id, z) = z' := ⟨_, rfl⟩
  obtain ⟨RE, hz1⟩ : ∃ z', push W R (id, z) = z' := ⟨_, rfl⟩
  have HPX : Hid (pushE W R (id, z) = 0 → (id, z).2 ≤ 65536) := Lib.hid fun e => (pushE_zero e).2.2.1
  have HSA : Hid (∀ {V : World}, SB w V b L Q' 65536 W R → Calls Try.prog 14 #[.pointer (some ⟨b, 0, none⟩), .agg #[.int .i64 id, .int .i64 z]] V fun e w' => e = .returned (.int .i64 zE) ∧ ∃ L', SB w w' b L' Q' 65536 W RE ∧ Fr V L w' L') := Lib.hid fun hV => by
    have := sb_push (x := (id, z)) hV HN.out.2 (by decide) HPX.out
    rw [hz0, hz1] at this
    exact this
  rw [hz0, hz1] at HAD
  clear hz0 hz1
  go_enter Try.func8, Try.ntmps8
  go_upto_region 1 with fail
  rw [← HW]; clear HW
  go_upto_region 10 with (go_at_call 20; refine HAD.out.mono ?_; intro e w2 hp; obtain ⟨xs2, A2, n2, rd2, B2, d2, rfl, g2, r2, b2⟩ := hp.form; have HG2 := Lib.hid g2; have HR2 := Lib.hid r2; have HB2 := Lib.hid b2; clear hp g2 r2 b2)
  have HAL := Lib.hid ((Below.refl w2.heap.size w2).alloc (Nat.le_refl _) (.cells #[.int .i64 Q', .slice A2 xs2.length n2, .slice B2 rd2.length d2] 31))
  have HY3 := Lib.hid (At.new w2 31 [.int .i64 Q', .slice A2 xs2.length n2, .slice B2 rd2.length d2])
  generalize w2.alloc (.cells #[.int .i64 Q', .slice A2 xs2.length n2, .slice B2 rd2.length d2] 31) = w3 at *
  have HB13 : Hid (Below W1.heap.size W1 w3.drew) := Lib.hid (HB2.out.trans (HAL.out.mono HB2.out.size)).drew
  have HBW3 : Hid (Below wi.heap.size wi w3.drew) := Lib.hid (HB1.out.trans (HB13.out.mono HB1.out.size))
  have HG3 : Hid (Sg w3.drew (fun g => (L.col g = -1 ∧ P g) ∧ g ≠ wi.heap.size + 1 + 1) ⟨Q', xs2, A2, n2, rd2, B2, d2⟩) := Lib.hid (HG2.out.below (by exact HAL.out.drew))
  have HS3 := Lib.hid (HSB.out.below HB13.out)
  have HD3 := Lib.hid (HP.out.1.below HB13.out HP.out.1.lt)
  have HE3 := Lib.hid (HP.out.2.below HB13.out HP.out.2.lt)
  have HY3 : Hid (At w3.drew w2.heap.size 31 [.int .i64 Q', .slice A2 xs2.length n2, .slice B2 rd2.length d2]) := HY3
  have HYC : Hid (L.col w2.heap.size = -1) := Lib.hid (HAH.out _ (by have := HB1.out.size; have := HB2.out.size; omega))
  have HDC : Hid (L.col (wi.heap.size + 1) = -1) := Lib.hid (HAH.out _ (by omega))
  have k0 := HY3.out.cell 0 rfl
  have k1 := HY3.out.cell 1 rfl
  have k2 := HY3.out.cell 2 rfl
  have k3 := HD3.out.cell 1 rfl
  have k4 := HD3.out.cell 2 rfl
  clear c0 c1 c2 i0 i1 i2 HAL HB13
  go_region_law ((go_simp; go_at_call 14; refine (HSA.out HS3.out).mono ?_; rintro e w4 ⟨rfl, L4, s4, f4⟩; have y4 := f4.at_ HY3.out HYC.out; have x4 := f4.at_ HD3.out HDC.out; have e4 := f4.at_ HE3.out HCR.out; have e0 := e4.1.cell 0 rfl; have e1 := e4.1.cell 1 rfl; have e2 := e4.1.cell 2 rfl; have g0 := e4.1.free 0; have g1 := e4.1.free 1; have g2 := e4.1.free 2; have y40 := y4.1.cell 0 rfl; have y41 := y4.1.cell 1 rfl; have y42 := y4.1.cell 2 rfl; have x41 := x4.1.cell 1 rfl; have x42 := x4.1.cell 2 rfl; have HE4 := Lib.hid e4.1; have HS4 := Lib.hid s4; have HF4 := Lib.hid f4; clear y4 x4 e4 s4 f4))
  all_goals
    go_wp2_with fail
    change bodyPost _ _ _ _ ⟨Array.setIfInBounds _ 7 (.bool true), []⟩ (pset3 w4 (wi.heap.size + 1 + 1) (.int .i64 Q') (.slice A2 xs2.length n2) (.slice B2 rd2.length d2))
    have hA := pset3_at (x := .int .i64 Q') (y := .slice A2 xs2.length n2) (z := .slice B2 rd2.length d2) HE4.out
    have hcl := ddo_close (s := ⟨Q', xs2, A2, n2, rd2, B2, d2⟩) HN.out.1.bel.size HBW3.out (by omega) HE3.out.lt HCR.out HS4.out HF4.out HG3.out (pset3_tn w4 (wi.heap.size + 1 + 1) (.int .i64 Q') (.slice A2 xs2.length n2) (.slice B2 rd2.length d2))
    generalize pset3 w4 (wi.heap.size + 1 + 1) (.int .i64 Q') (.slice A2 xs2.length n2) (.slice B2 rd2.length d2) = w5 at *
    exact bodyPost_ret (v := .tuple #[Sv.val ⟨Q', xs2, A2, n2, rd2, B2, d2⟩, .bool true]) (res_ddo_put (s := ⟨Q', xs2, A2, n2, rd2, B2, d2⟩) rfl rfl hA) rfl ⟨⟨Q', xs2, A2, n2, rd2, B2, d2⟩, L4, W, RE, rfl, hcl.1, hcl.2.1, hcl.2.2, HR2.out, rfl⟩
end Go.Proofs.Ytplbdeaoeocgkaa

/- Proved: lemmas of one statement's proof, merged by program: what each part proves stands ahead of it. Conditions: those that the lemmas name. -/
import Derived.Test.YtgclgmfmcgacdaaM30

/- Proved: a deed, done by the document and by the table, comes out alike: a shard comes. Conditions: those that the theorems name. -/
namespace Go.Proofs.Ytgclgmfmcgacdaa
open Go.ChangeShapes Go.WideShapes Go.ChangeAt Go.RowKit Go.MuLone

set_option maxRecDepth 100000 in
set_option maxHeartbeats 3200000 in
theorem tdo_put {w wi : World} {L : Ly} {n room : Nat} {s : Tv} (h : SB w wi L n room (facesE s.xs)) (P : Nat → Prop) (hP : ∀ g, wi.heap.size ≤ g → P g) (sg : Tg wi (fun g => L.col g = -1 ∧ P g) s) (hr : s.room = room) {d : De} (hd : d.kd = 0) (hk : KyOk d.k) :
    Calls Try.prog 8 #[ptv L.b, s.val, d.val] wi (Done w wi L n room P) := by
  subst hr
  obtain ⟨W1, HW, A1, A2, A3, B1, hs⟩ := tdboxes s d wi
  obtain ⟨room, xs, A, cp⟩ := s
  obtain ⟨kd, ⟨k0, k1⟩, nd, i, t⟩ := d
  have hd : kd = 0 := hd
  subst hd
  have HN := Lib.hid (And.intro h hk)
  have HB1 := Lib.hid B1
  have sg1 := (sg.there.below B1).mono (d := fun g => (L.col g = -1 ∧ P g) ∧ g ≠ wi.heap.size + 1 + 1) fun g _ e => ⟨e.1, by omega⟩
  have HAD := Lib.hid (rput_any sg1 (fun g hg => ⟨⟨h.ahead g (Nat.le_trans B1.size hg), hP g (Nat.le_trans B1.size hg)⟩, by omega⟩) h.sok (k0, k1) nd (i, t))
  have HAD : Hid (Calls Try.prog 17 #[.agg #[.int .i64 room, .slice A xs.length cp], .agg #[.int .i64 k0, .int .u32 k1], .int .i64 nd, .agg #[.int .i64 i, .string t]] W1 _) := HAD
  have HP := Lib.hid (And.intro A2 A3)
  have HSZ : Hid (W1.heap.size = wi.heap.size + 3) := Lib.hid hs
  have HCR : Hid (L.col (wi.heap.size + 1 + 1) = -1) := Lib.hid (h.ahead _ (by omega))
  have HAH : Hid (∀ g, wi.heap.size ≤ g → L.col g = -1) := Lib.hid h.ahead
  have HSB := Lib.hid (h.free (tn_below Nil B1))
  have c0 := A1.cell 0 rfl
  have c1 := A1.cell 1 rfl
  have i0 := A2.cell 0 rfl
  have i1 := A2.cell 1 rfl
  have i2 := A2.cell 2 rfl
  have i3 := A2.cell 3 rfl
  have i4 := A2.cell 4 rfl
  have i5 := A2.cell 5 rfl
  clear h sg hP hk A1 A2 A3 B1 hs sg1
  show Calls Try.prog 8 #[.pointer (some ⟨L.b, 0, none⟩), .agg #[.int .i64 room, .slice A xs.length cp], .agg #[.int .i64 0, .int .i64 k0, .int .u32 k1, .int .i64 nd, .int .i64 i, .string t]] wi _
  dsimp only at HW HP HAD HN i0 i1 i2 i3 i4 i5
  obtain ⟨zE, SE, hz0⟩ : ∃ zE SE, putF (facesE xs) room (k0, k1) nd (i, t) = (zE, SE) := ⟨_, _, rfl⟩
  have HSA : Hid (∀ {V : World}, SB w V L n room (facesE xs) → Calls Try.prog 12 #[.pointer (some ⟨L.b, 0, none⟩), .agg #[.int .i64 k0, .int .u32 k1], .int .i64 nd, .agg #[.int .i64 i, .string t]] V fun e w' => e = .returned (.int .i64 zE) ∧ ∃ L', L'.b = L.b ∧ SB w w' L' n room SE ∧ Fr V L w' L') := Lib.hid fun hV => sb_put hV HN.out.2 nd i t hz0
  rw [hz0] at HAD
  clear hz0
  go_enter Try.func8, Try.ntmps8
  go_upto_region 1 with fail
  rw [← HW]; clear HW
  go_upto_region 4 with (go_at_call 17; refine HAD.out.mono ?_; intro e w2 hp; obtain ⟨xs2, A2, n2, rfl, g2, r2, b2⟩ := hp.form; have HG2 := Lib.hid g2; have HR2 := Lib.hid r2; have HB2 := Lib.hid b2; clear hp g2 r2 b2)
  have HAL := Lib.hid ((Below.refl w2.heap.size w2).alloc (Nat.le_refl _) (.cells #[.int .i64 room, .slice A2 xs2.length n2] 30))
  have HY3 := Lib.hid (At.new w2 30 [.int .i64 room, .slice A2 xs2.length n2])
  generalize w2.alloc (.cells #[.int .i64 room, .slice A2 xs2.length n2] 30) = w3 at *
  have HB13 : Hid (Below W1.heap.size W1 w3.drew) := Lib.hid (HB2.out.trans (HAL.out.mono HB2.out.size)).drew
  have HBW3 : Hid (Below wi.heap.size wi w3.drew) := Lib.hid (HB1.out.trans (HB13.out.mono HB1.out.size))
  have HG3 : Hid (Tg w3.drew (fun g => (L.col g = -1 ∧ P g) ∧ g ≠ wi.heap.size + 1 + 1) ⟨room, xs2, A2, n2⟩) := Lib.hid (HG2.out.below (by exact HAL.out.drew))
  have HS3 := Lib.hid (HSB.out.free (tn_below Nil HB13.out))
  have HD3 := Lib.hid (HP.out.1.below HB13.out HP.out.1.lt)
  have HE3 := Lib.hid (HP.out.2.below HB13.out HP.out.2.lt)
  have HY3 : Hid (At w3.drew w2.heap.size 30 [.int .i64 room, .slice A2 xs2.length n2]) := HY3
  have HYC : Hid (L.col w2.heap.size = -1) := Lib.hid (HAH.out _ (by have := HB1.out.size; have := HB2.out.size; omega))
  have HDC : Hid (L.col (wi.heap.size + 1) = -1) := Lib.hid (HAH.out _ (by omega))
  have k0' := HY3.out.cell 0 rfl
  have k1' := HY3.out.cell 1 rfl
  have j1 := HD3.out.cell 1 rfl
  have j2 := HD3.out.cell 2 rfl
  have j3 := HD3.out.cell 3 rfl
  have j4 := HD3.out.cell 4 rfl
  have j5 := HD3.out.cell 5 rfl
  clear c0 c1 i0 i1 i2 i3 i4 i5 HAL HB13
  go_region_law ((go_simp; go_at_call 12; refine (HSA.out HS3.out).mono ?_; rintro e w4 ⟨rfl, L4, hb4, s4, f4⟩; have y4 := f4.at_ HY3.out HYC.out; have x4 := f4.at_ HD3.out HDC.out; have e4 := f4.at_ HE3.out HCR.out; have e0 := e4.1.cell 0 rfl; have e1 := e4.1.cell 1 rfl; have g0 := e4.1.free 0; have g1 := e4.1.free 1; have y40 := y4.1.cell 0 rfl; have y41 := y4.1.cell 1 rfl; have x41 := x4.1.cell 1 rfl; have x42 := x4.1.cell 2 rfl; have x43 := x4.1.cell 3 rfl; have x44 := x4.1.cell 4 rfl; have x45 := x4.1.cell 5 rfl; have HE4 := Lib.hid e4.1; have HS4 := Lib.hid s4; have HF4 := Lib.hid f4; have HL4 := Lib.hid hb4; clear y4 x4 e4 s4 f4 hb4))
  all_goals
    go_wp2_with fail
    change bodyPost _ _ _ _ ⟨Array.setIfInBounds _ 7 (.bool true), []⟩ (pset2 w4 (wi.heap.size + 1 + 1) (.int .i64 room) (.slice A2 xs2.length n2))
    have hA := pset2_at (x := .int .i64 room) (y := .slice A2 xs2.length n2) HE4.out
    have hcl := tdo_close (s := ⟨room, xs2, A2, n2⟩) HN.out.1.szw HBW3.out (by omega) HE3.out.lt HCR.out HS4.out HF4.out HG3.out (pset2_tn w4 (wi.heap.size + 1 + 1) (.int .i64 room) (.slice A2 xs2.length n2))
    generalize pset2 w4 (wi.heap.size + 1 + 1) (.int .i64 room) (.slice A2 xs2.length n2) = w5 at *
    have hr2 : facesE xs2 = SE := HR2.out
    rw [← hr2] at hcl
    exact bodyPost_ret (v := .tuple #[Tv.val ⟨room, xs2, A2, n2⟩, .bool true]) (res_tdo_put (s := ⟨room, xs2, A2, n2⟩) rfl rfl hA) rfl ⟨xs2, A2, n2, L4, rfl, HL4.out, hcl.1, hcl.2.1, hcl.2.2⟩
end Go.Proofs.Ytgclgmfmcgacdaa

/- Proved: a deed, done by the document and by the table, comes out alike: all of a stream are dropped. Conditions: those that the theorems name. -/
namespace Go.Proofs.Ytgclgmfmcgacdaa
open Go.ChangeShapes Go.WideShapes Go.ChangeAt Go.RowKit Go.MuLone

theorem drop_faces (xs : List Ev) (st : Int) : keepF (facesE xs) (fun k => !decide (k.1 = st)) = facesE (keptE xs st false 0) := by
  unfold keepF keptE facesE
  rw [List.filter_map]
  congr 1
  refine List.filter_congr fun x _ => ?_
  simp [keepD]
theorem drop_count (xs : List Ev) (st : Int) : ((facesE xs).filter fun e => decide (e.k.1 = st)).length = xs.length - (keptE xs st false 0).length := by
  unfold facesE keptE
  rw [List.filter_map, List.length_map]
  have h : ∀ l : List Ev, (l.filter fun x => decide (x.e.k.1 = st)).length + (l.filter fun x => keepD st false 0 x.e.k).length = l.length := fun l => by
    induction l with
    | nil => rfl
    | cons a t ih =>
      rw [List.filter_cons, List.filter_cons]
      by_cases e : a.e.k.1 = st
      · simp [keepD, e]; simp [keepD] at ih; omega
      · simp [keepD, e]; simp [keepD] at ih; omega
  have := h xs
  have e : (fun e : Fe => decide (e.k.1 = st)) ∘ Ev.e = fun x : Ev => decide (x.e.k.1 = st) := rfl
  rw [e]
  omega
set_option maxRecDepth 100000 in
set_option maxHeartbeats 3200000 in
theorem tdo_drop {w wi : World} {L : Ly} {n room : Nat} {s : Tv} (h : SB w wi L n room (facesE s.xs)) (P : Nat → Prop) (hP : ∀ g, wi.heap.size ≤ g → P g) (sg : Tg wi (fun g => L.col g = -1 ∧ P g) s) (hr : s.room = room) {d : De} (hd : d.kd = 2) :
    Calls Try.prog 8 #[ptv L.b, s.val, d.val] wi (Done w wi L n room P) := by
  subst hr
  obtain ⟨W1, HW, A1, A2, A3, B1, hs⟩ := tdboxes s d wi
  obtain ⟨room, xs, A, cp⟩ := s
  obtain ⟨kd, ⟨k0, k1⟩, nd, i, t⟩ := d
  have hd : kd = 2 := hd
  subst hd
  have HN := Lib.hid (And.intro h trivial)
  have HB1 := Lib.hid B1
  have sg1 := (sg.there.below B1).mono (d := fun g => (L.col g = -1 ∧ P g) ∧ g ≠ wi.heap.size + 1 + 1) fun g _ e => ⟨e.1, by omega⟩
  have HAD := Lib.hid (rdrop_any sg1 (fun g hg => ⟨⟨h.ahead g (Nat.le_trans B1.size hg), hP g (Nat.le_trans B1.size hg)⟩, by omega⟩) h.sok.few k0 false 0)
  have HAD : Hid (Calls Try.prog 19 #[.agg #[.int .i64 room, .slice A xs.length cp], .int .i64 k0, .bool false, .int .u32 0] W1 _) := HAD
  have HP := Lib.hid (And.intro A2 A3)
  have HSZ : Hid (W1.heap.size = wi.heap.size + 3) := Lib.hid hs
  have HCR : Hid (L.col (wi.heap.size + 1 + 1) = -1) := Lib.hid (h.ahead _ (by omega))
  have HAH : Hid (∀ g, wi.heap.size ≤ g → L.col g = -1) := Lib.hid h.ahead
  have HSB := Lib.hid (h.free (tn_below Nil B1))
  have c0 := A1.cell 0 rfl
  have c1 := A1.cell 1 rfl
  have i0 := A2.cell 0 rfl
  have i1 := A2.cell 1 rfl
  have i2 := A2.cell 2 rfl
  have i3 := A2.cell 3 rfl
  have i4 := A2.cell 4 rfl
  have i5 := A2.cell 5 rfl
  clear h sg hP A1 A2 A3 B1 hs sg1
  show Calls Try.prog 8 #[.pointer (some ⟨L.b, 0, none⟩), .agg #[.int .i64 room, .slice A xs.length cp], .agg #[.int .i64 2, .int .i64 k0, .int .u32 k1, .int .i64 nd, .int .i64 i, .string t]] wi _
  dsimp only at HW HP HAD HN i0 i1 i2 i3 i4 i5
  obtain ⟨ys, hys⟩ : ∃ ys, keptE xs k0 false 0 = ys := ⟨_, rfl⟩
  obtain ⟨M, hM⟩ : ∃ M : Nat, xs.length - ys.length = M := ⟨_, rfl⟩
  have HSA : Hid (∀ {V : World}, SB w V L n room (facesE xs) → Calls Try.prog 15 #[.pointer (some ⟨L.b, 0, none⟩), .int .i64 k0] V fun e w' => e = .returned (.int .i64 M) ∧ SB w w' L n room (facesE ys) ∧ Fr V L w' L) := Lib.hid fun hV => sb_drop hV (by rw [← hM, ← hys]; exact drop_count xs k0) (by rw [← hys]; exact drop_faces xs k0)
  rw [hys, show (⟨room, xs, A, cp⟩ : Tv).xs.length - ys.length = M from hM] at HAD
  clear hM hys
  go_enter Try.func8, Try.ntmps8
  go_upto_region 1 with fail
  rw [← HW]; clear HW
  go_upto_region 12 with (go_at_call 19; refine HAD.out.mono ?_; rintro e w2 ⟨A2, n2, rfl, g2, b2⟩; have HG2 := Lib.hid g2; have HB2 := Lib.hid b2; clear g2 b2)
  have HAL := Lib.hid ((Below.refl w2.heap.size w2).alloc (Nat.le_refl _) (.cells #[.int .i64 room, .slice A2 ys.length n2] 30))
  have HY3 := Lib.hid (At.new w2 30 [.int .i64 room, .slice A2 ys.length n2])
  generalize w2.alloc (.cells #[.int .i64 room, .slice A2 ys.length n2] 30) = w3 at *
  have HB13 : Hid (Below W1.heap.size W1 w3.drew) := Lib.hid (HB2.out.trans (HAL.out.mono HB2.out.size)).drew
  have HBW3 : Hid (Below wi.heap.size wi w3.drew) := Lib.hid (HB1.out.trans (HB13.out.mono HB1.out.size))
  have HG3 : Hid (Tg w3.drew (fun g => (L.col g = -1 ∧ P g) ∧ g ≠ wi.heap.size + 1 + 1) ⟨room, ys, A2, n2⟩) := Lib.hid (HG2.out.below (by exact HAL.out.drew))
  have HS3 := Lib.hid (HSB.out.free (tn_below Nil HB13.out))
  have HD3 := Lib.hid (HP.out.1.below HB13.out HP.out.1.lt)
  have HE3 := Lib.hid (HP.out.2.below HB13.out HP.out.2.lt)
  have HY3 : Hid (At w3.drew w2.heap.size 30 [.int .i64 room, .slice A2 ys.length n2]) := HY3
  have HYC : Hid (L.col w2.heap.size = -1) := Lib.hid (HAH.out _ (by have := HB1.out.size; have := HB2.out.size; omega))
  have HDC : Hid (L.col (wi.heap.size + 1) = -1) := Lib.hid (HAH.out _ (by omega))
  have k0' := HY3.out.cell 0 rfl
  have k1' := HY3.out.cell 1 rfl
  have j1 := HD3.out.cell 1 rfl
  have j2 := HD3.out.cell 2 rfl
  have j3 := HD3.out.cell 3 rfl
  have j4 := HD3.out.cell 4 rfl
  have j5 := HD3.out.cell 5 rfl
  clear c0 c1 i0 i1 i2 i3 i4 i5 HAL HB13
  go_region_law ((go_simp; go_at_call 15; refine (HSA.out HS3.out).mono ?_; rintro e w4 ⟨rfl, s4, f4⟩; have y4 := f4.at_ HY3.out HYC.out; have x4 := f4.at_ HD3.out HDC.out; have e4 := f4.at_ HE3.out HCR.out; have e0 := e4.1.cell 0 rfl; have e1 := e4.1.cell 1 rfl; have g0 := e4.1.free 0; have g1 := e4.1.free 1; have y40 := y4.1.cell 0 rfl; have y41 := y4.1.cell 1 rfl; have x41 := x4.1.cell 1 rfl; have HE4 := Lib.hid e4.1; have HS4 := Lib.hid s4; have HF4 := Lib.hid f4; clear y4 x4 e4 s4 f4))
  all_goals
    go_wp2_with fail
    change bodyPost _ _ _ _ ⟨Array.setIfInBounds _ 7 (.bool true), []⟩ (pset2 w4 (wi.heap.size + 1 + 1) (.int .i64 room) (.slice A2 ys.length n2))
    have hA := pset2_at (x := .int .i64 room) (y := .slice A2 ys.length n2) HE4.out
    have hcl := tdo_close (s := ⟨room, ys, A2, n2⟩) HN.out.1.szw HBW3.out (by omega) HE3.out.lt HCR.out HS4.out HF4.out HG3.out (pset2_tn w4 (wi.heap.size + 1 + 1) (.int .i64 room) (.slice A2 ys.length n2))
    generalize pset2 w4 (wi.heap.size + 1 + 1) (.int .i64 room) (.slice A2 ys.length n2) = w5 at *
    exact bodyPost_ret (v := .tuple #[Tv.val ⟨room, ys, A2, n2⟩, .bool true]) (res_tdo_put (s := ⟨room, ys, A2, n2⟩) rfl rfl hA) rfl ⟨ys, A2, n2, L, rfl, rfl, hcl.1, hcl.2.1, hcl.2.2⟩
end Go.Proofs.Ytgclgmfmcgacdaa

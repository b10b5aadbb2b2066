/- Proved: lemmas of one statement's proof, merged by program: what each part proves stands ahead of it. Conditions: those that the lemmas name. -/
import Derived.Test.YtedecminaopgaaaM19
import Derived.Deep.RegionHeld3

/- Proved: what Saw, Put of package inbound answer, and leave, for every state. Conditions: those that the theorems name. -/
namespace Go.Proofs.Ytedecminaopgaaa
open Go.ChangeShapes Go.WideShapes Go.ChangeAt Go.RowKit

set_option maxRecDepth 100000 in
set_option maxHeartbeats 1600000 in
theorem ib_saw (Y : IbY) (M : IbM) (x : Int) (w : World) (h : Ib w Y M) (hx : U32 x) :
    Calls Try.prog 22 #[ibp Y, .int .u32 x] w (GivesIb w Y (sawM M x) (.int .i64 (sawE M x))) := by
  have HO := Lib.hid (ib_old Y M x w h.m hx)
  have HB := Lib.hid (fun q => or_base_any (some ⟨Y.o, 0, none⟩) M.B Y.v M.L (w.drewN q) (h.m.drewN q).odo)
  have HW := Lib.hid (fun W => within_any x M.B M.n hx h.m.u32 W)
  have HF := Lib.hid (fun q => ib_beyond Y M x (w.drewN q) (h.m.drewN q) hx h.i.fin)
  have HH := Lib.hid (fun W (g : Ib W Y M) => or_has_any (some ⟨Y.o, 0, none⟩) M.B Y.v M.L x W g.m.odo hx)
  have HS := Lib.hid (fun W (g : Ib W Y M) (hi : inZ x M.B M.n = true) => ib_see Y M x W g.m hx g.k64 hi)
  have HI := Lib.hid h
  have c0 := h.m.own.cell 0 rfl
  have c1 := h.m.own.cell 1 rfl
  clear h hx
  by_cases h1 : 0 < ah x M.B
  · obtain ⟨e1, e2⟩ := sw_old h1
    rw [decide_eq_true h1] at HO
    rw [e1, e2]
    clear e1 e2 h1
    go_enter Try.func22, Try.ntmps22
    go_wp2_with fail
    refine HO.out.mono ?_; rintro e w1 ⟨rfl, rfl⟩
    go_wp2_with fail
    go_ret
    exact ⟨rfl, Y, HI.out, .refl _ _⟩
  rw [decide_eq_false h1] at HO
  cases h2 : inZ x M.B M.n
  · obtain ⟨e1, e2⟩ := sw_past h1 h2
    rw [h2] at HW
    rw [e1, e2]
    clear e1 e2 h1 h2
    go_enter Try.func22, Try.ntmps22
    go_wp2_with fail
    refine HO.out.mono ?_; rintro e w1 ⟨rfl, rfl⟩
    go_wp2_with fail
    go_quiet ((first | (go_at_call 36; exact Calls.quiet_of_same ((HB.out _).mono fun _ _ h => ⟨h.1, h.2.symm⟩)) | (go_at_call 44; exact Calls.quiet_of_same ((HW.out _).mono fun _ _ h => ⟨h.1, h.2.symm⟩))))
    go_wp2_with fail
    go_ret
    exact ⟨rfl, Y, HI.out.drewN _, (IbT.refl w Y).drewN_ _⟩
  rw [h2] at HW
  cases h3 : bfZ M x
  · rw [h3] at HF
    cases h4 : hasO M.B M.L x
    · obtain ⟨e1, e2⟩ := sw_new h1 h2 h3 h4
      rw [h4] at HH
      rw [e1, e2]
      have HZ := Lib.hid h2
      clear e1 e2 h1 h2 h3 h4
      go_enter Try.func22, Try.ntmps22
      go_wp2_with fail
      refine HO.out.mono ?_; rintro e w1 ⟨rfl, rfl⟩
      go_wp2_with fail
      go_quiet ((first | (go_at_call 36; exact Calls.quiet_of_same ((HB.out _).mono fun _ _ h => ⟨h.1, h.2.symm⟩)) | (go_at_call 44; exact Calls.quiet_of_same ((HW.out _).mono fun _ _ h => ⟨h.1, h.2.symm⟩)) | (go_at_call 45; exact Calls.quiet_of_same ((HF.out _).mono fun _ _ h => ⟨h.1, h.2.symm⟩))))
      have HI1 := Lib.hid (HI.out.drewN nq)
      have T1 := Lib.hid ((IbT.refl w Y).drewN_ nq)
      clear c0 c1
      generalize w.drewN nq = w1 at *
      have c1 := HI1.out.m.own.cell 1 rfl
      go_wp2_with fail
      refine (HH.out _ HI1.out).mono ?_; rintro e w2 ⟨rfl, q, hw2⟩
      have HI2 := Lib.hid (HI1.out.drewN q)
      have T2 := Lib.hid (T1.out.drewN_ q)
      rw [← hw2] at HI2 T2
      clear hw2 HI1 T1 c1
      go_wp2_with fail
      refine (HS.out _ HI2.out HZ.out).mono ?_; rintro e w3 ⟨rfl, hm, ht⟩
      have HE := Lib.hid (And.intro hm ht)
      clear hm ht
      go_wp2_with fail
      go_ret
      exact ⟨rfl, Y, ⟨HE.out.1, HI2.out.i.see HZ.out⟩, T2.out.trans HE.out.2⟩
    · obtain ⟨e1, e2⟩ := sw_has h1 h2 h3 h4
      rw [h4] at HH
      rw [e1, e2]
      clear e1 e2 h1 h2 h3 h4
      go_enter Try.func22, Try.ntmps22
      go_wp2_with fail
      refine HO.out.mono ?_; rintro e w1 ⟨rfl, rfl⟩
      go_wp2_with fail
      go_quiet ((first | (go_at_call 36; exact Calls.quiet_of_same ((HB.out _).mono fun _ _ h => ⟨h.1, h.2.symm⟩)) | (go_at_call 44; exact Calls.quiet_of_same ((HW.out _).mono fun _ _ h => ⟨h.1, h.2.symm⟩)) | (go_at_call 45; exact Calls.quiet_of_same ((HF.out _).mono fun _ _ h => ⟨h.1, h.2.symm⟩))))
      have HI1 := Lib.hid (HI.out.drewN nq)
      have T1 := Lib.hid ((IbT.refl w Y).drewN_ nq)
      clear c0 c1
      generalize w.drewN nq = w1 at *
      have c1 := HI1.out.m.own.cell 1 rfl
      go_wp2_with fail
      refine (HH.out _ HI1.out).mono ?_; rintro e w2 ⟨rfl, q, hw2⟩
      have HI2 := Lib.hid (HI1.out.drewN q)
      have T2 := Lib.hid (T1.out.drewN_ q)
      rw [← hw2] at HI2 T2
      clear hw2 HI1 T1 c1
      go_wp2_with fail
      go_ret
      exact ⟨rfl, Y, HI2.out, T2.out⟩
  · obtain ⟨e1, e2⟩ := sw_fin h1 h2 h3
    rw [h3] at HF
    rw [e1, e2]
    clear e1 e2 h1 h2 h3
    go_enter Try.func22, Try.ntmps22
    go_wp2_with fail
    refine HO.out.mono ?_; rintro e w1 ⟨rfl, rfl⟩
    go_wp2_with fail
    go_quiet ((first | (go_at_call 36; exact Calls.quiet_of_same ((HB.out _).mono fun _ _ h => ⟨h.1, h.2.symm⟩)) | (go_at_call 44; exact Calls.quiet_of_same ((HW.out _).mono fun _ _ h => ⟨h.1, h.2.symm⟩)) | (go_at_call 45; exact Calls.quiet_of_same ((HF.out _).mono fun _ _ h => ⟨h.1, h.2.symm⟩))))
    go_wp2_with fail
    go_ret
    exact ⟨rfl, Y, HI.out.drewN _, (IbT.refl w Y).drewN_ _⟩
set_option maxRecDepth 100000 in
set_option maxHeartbeats 1600000 in
theorem ib_put (Y : IbY) (M : IbM) (x : Int) (s : ByteArray) (w : World) (h : Ib w Y M) (hx : U32 x) (hs : s.size ≤ 1048576) :
    Calls Try.prog 23 #[ibp Y, .int .u32 x, .string s] w (GivesIb w Y (iputM M x s) (.int .i64 (iputE M x s))) := by
  have HO := Lib.hid (ib_old Y M x w h.m hx)
  have HF := Lib.hid (ib_beyond Y M x w h.m hx h.i.fin)
  have HP := Lib.hid (or_put_any Y.o M.B M.n Y.r Y.v M.L x s w h.m.od hx)
  have HI := Lib.hid h
  have HX := Lib.hid (And.intro hx hs)
  have c1 := h.m.own.cell 1 rfl
  clear h hx hs
  by_cases h1 : 0 < ah x M.B ∨ bfZ M x = false
  · have e1 := ip_go (s := s) h1
    have HN := Lib.hid (fun h3 => ip_no (s := s) h1 h3)
    have HY := Lib.hid (fun h3 => ip_yes (s := s) h1 h3)
    rw [e1]
    have hor : decide (0 < ah x M.B) = true ∨ (decide (0 < ah x M.B) = false ∧ bfZ M x = false) := by
      by_cases a : 0 < ah x M.B
      · exact .inl (decide_eq_true a)
      · exact .inr ⟨decide_eq_false a, h1.resolve_left a⟩
    clear e1 h1
    by_cases h3 : putE M.B M.n M.L x s = 3
    · have HK : Hid (∀ W r' v', Od W Y.o M.B M.n r' v' (putO M.B M.n M.L x s) → (r' = Y.r ∨ ∃ g, r' = some g ∧ w.heap.size ≤ g) → Tn (OdOwn Y.o Y.r) w W → Ibm W { Y with r := r', v := v' } { M with L := putO M.B M.n M.L x s } ∧ IbT w W Y { Y with r := r', v := v' }) := Lib.hid fun W r' v' o hr t => HI.out.m.order_ (B' := M.B) (k' := M.k) o hr t rfl
      rw [HY.out h3]
      have HJ := Lib.hid (HI.out.i.put HX.out.2 h3)
      have HZ : Hid (inZ x M.B M.n = true) := Lib.hid (pt_3 h3).2.1
      have hd0 : (0 : Int) ≤ M.hd ∧ M.hd ≤ 1048576 + 67108864 := by
        have a := HI.out.i.held
        have b := szs_le M.L 1048576 HI.out.i.text
        have c := HI.out.m.rg.size
        have d := HI.out.m.rg.room
        have f := HI.out.m.od.n64
        have g : M.L.length * 1048576 ≤ 64 * 1048576 := Nat.mul_le_mul_right _ f
        omega
      obtain ⟨hd0, hd1⟩ := hd0
      have hs1 : (s.size : Int) ≤ 1048576 := by have := HX.out.2; omega
      have hs0 : (0 : Int) ≤ (s.size : Int) := Int.natCast_nonneg _
      rw [h3] at HP
      rw [h3]
      clear HN HY h3
      rcases hor with h1 | ⟨h1, h2⟩
      · rw [h1] at HO
        clear h1 HF
        go_enter Try.func23, Try.ntmps23
        go_wp2_with fail
        refine HO.out.mono ?_; rintro e w1 ⟨rfl, rfl⟩
        go_wp2_with fail
        refine HP.out.mono ?_; rintro e w1 ⟨r', v', rfl, ho, hr, ht⟩
        have HK1 := Lib.hid (HK.out _ _ _ ho hr ht)
        clear ho hr ht
        go_wp2_with fail
        refine (ib_see { Y with r := r', v := v' } { M with L := putO M.B M.n M.L x s } x w1 HK1.out.1 HX.out.1 HI.out.k64 HZ.out).mono ?_; rintro e w2 ⟨rfl, hm, ht⟩
        have HK2 := Lib.hid (And.intro hm (HK1.out.2.trans ht))
        have c4 := hm.own.cell 4 rfl
        have f4 := hm.own.free 4
        dsimp only [seeM] at c4
        clear hm ht
        go_wp2_with fail
        go_ret
        obtain ⟨a, b⟩ := HK2.out.1.held_ (M.hd + (s.size : Int))
        exact ⟨rfl, _, ⟨a, HJ.out⟩, HK2.out.2.trans b⟩
      · rw [h1] at HO
        rw [h2] at HF
        clear h1 h2
        go_enter Try.func23, Try.ntmps23
        go_wp2_with fail
        refine HO.out.mono ?_; rintro e w1 ⟨rfl, rfl⟩
        go_wp2_with fail
        refine HF.out.mono ?_; rintro e w1 ⟨rfl, rfl⟩
        go_wp2_with fail
        refine HP.out.mono ?_; rintro e w1 ⟨r', v', rfl, ho, hr, ht⟩
        have HK1 := Lib.hid (HK.out _ _ _ ho hr ht)
        clear ho hr ht
        go_wp2_with fail
        refine (ib_see { Y with r := r', v := v' } { M with L := putO M.B M.n M.L x s } x w1 HK1.out.1 HX.out.1 HI.out.k64 HZ.out).mono ?_; rintro e w2 ⟨rfl, hm, ht⟩
        have HK2 := Lib.hid (And.intro hm (HK1.out.2.trans ht))
        have c4 := hm.own.cell 4 rfl
        have f4 := hm.own.free 4
        dsimp only [seeM] at c4
        clear hm ht
        go_wp2_with fail
        go_ret
        obtain ⟨a, b⟩ := HK2.out.1.held_ (M.hd + (s.size : Int))
        exact ⟨rfl, _, ⟨a, HJ.out⟩, HK2.out.2.trans b⟩
    · obtain ⟨e2, e3⟩ := HN.out h3
      rw [e3] at HP
      rw [e2]
      have HK : Hid (∀ W r' v', Od W Y.o M.B M.n r' v' M.L → (r' = Y.r ∨ ∃ g, r' = some g ∧ w.heap.size ≤ g) → Tn (OdOwn Y.o Y.r) w W → Ib W { Y with r := r', v := v' } M ∧ IbT w W Y { Y with r := r', v := v' }) := Lib.hid fun W r' v' o hr t => by
        obtain ⟨a, b⟩ := HI.out.m.order_ (B' := M.B) (k' := M.k) o hr t rfl
        exact ⟨⟨a, HI.out.i⟩, b⟩
      clear e2 e3 HN HY
      generalize putE M.B M.n M.L x s = z at *
      have h3' : (z == 3) = false := by simpa using h3
      clear h3
      rcases hor with h1 | ⟨h1, h2⟩
      · rw [h1] at HO
        clear h1 HF
        go_enter Try.func23, Try.ntmps23
        go_wp2_with fail
        refine HO.out.mono ?_; rintro e w1 ⟨rfl, rfl⟩
        go_wp2_with fail
        refine HP.out.mono ?_; rintro e w1 ⟨r', v', rfl, ho, hr, ht⟩
        have HK1 := Lib.hid (HK.out _ _ _ ho hr ht)
        clear ho hr ht
        go_wp2_with fail
        go_ret
        exact ⟨rfl, _, HK1.out.1, HK1.out.2⟩
      · rw [h1] at HO
        rw [h2] at HF
        clear h1 h2
        go_enter Try.func23, Try.ntmps23
        go_wp2_with fail
        refine HO.out.mono ?_; rintro e w1 ⟨rfl, rfl⟩
        go_wp2_with fail
        refine HF.out.mono ?_; rintro e w1 ⟨rfl, rfl⟩
        go_wp2_with fail
        refine HP.out.mono ?_; rintro e w1 ⟨r', v', rfl, ho, hr, ht⟩
        have HK1 := Lib.hid (HK.out _ _ _ ho hr ht)
        clear ho hr ht
        go_wp2_with fail
        go_ret
        exact ⟨rfl, _, HK1.out.1, HK1.out.2⟩
  · have h2 : ¬ 0 < ah x M.B := fun e => h1 (.inl e)
    have h3 : bfZ M x = true := by
      cases e : bfZ M x
      · exact absurd (.inr e) h1
      · rfl
    obtain ⟨e1, e2⟩ := ip_fin (s := s) h2 h3
    rw [decide_eq_false h2] at HO
    rw [h3] at HF
    rw [e1, e2]
    clear e1 e2 h1 h2 h3 HP
    go_enter Try.func23, Try.ntmps23
    go_wp2_with fail
    refine HO.out.mono ?_; rintro e w1 ⟨rfl, rfl⟩
    go_wp2_with fail
    refine HF.out.mono ?_; rintro e w1 ⟨rfl, rfl⟩
    go_wp2_with fail
    go_ret
    exact ⟨rfl, Y, HI.out, .refl _ _⟩
end Go.Proofs.Ytedecminaopgaaa

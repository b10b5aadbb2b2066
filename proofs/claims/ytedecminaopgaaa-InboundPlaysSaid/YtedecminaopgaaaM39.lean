/- Proved: lemmas of one statement's proof, merged by program: what each part proves stands ahead of it. Conditions: those that the lemmas name. -/
import Derived.Test.YtedecminaopgaaaM34

/- Proved: what the law's 'do' answers of bytes that are read. Conditions: those that the theorem names. -/
namespace Go.Proofs.Ytedecminaopgaaa
open Go.ChangeShapes Go.WideShapes Go.ChangeAt Go.RowKit

set_option maxRecDepth 100000 in
set_option maxHeartbeats 6400000 in
theorem ido_read (c : Cf) (M : IbM) (p : RiP) (S : List Int) (X : List Xb) (Y : IbY) (j : Nat) (kd x : Int) (s : ByteArray) (z : Int) (w : World) (h : BothI w Y c M p S X j) (h0 : kd ≠ 0) (h1 : kd ≠ 1) (h2 : kd ≠ 2) (h3 : kd ≠ 3) :
    Calls Try.prog 10 #[ibp Y, riV c M p, .agg #[.int .i64 kd, .int .u32 x, .string s, .int .i64 z]] w (GivesDo c j Y w) := by
  obtain ⟨W, HW, A1, A2, A3, B1, hsz⟩ := riboxes3 c M p kd x s z w
  have HB := Lib.hid (h.below B1)
  have HA1 := Lib.hid A1
  have HA2 := Lib.hid A2
  have HA3 := Lib.hid A3
  have HB1 := Lib.hid B1
  have HS : Hid (W.heap.size = w.heap.size + 3) := Lib.hid hsz
  have HR := Lib.hid (fun V (g : RiM V M p S X) => ri_Read c M p S X z V g (by have := h.ib.m.rg.size; have := h.ib.m.rg.room; omega))
  have HP := Lib.hid (fun V (g : Ib V Y M) => ib_read Y M z V g)
  have HN : Hid (SvJ (rdM M z) S (j + 1) ∧ (rdM M z).n = M.n ∧ (rdM M z).q = M.q ∧ c.w = M.n ∧ c.q = (M.q : Int)) := Lib.hid ⟨h.sv.read z, (rd_nq M z).1, (rd_nq M z).2, h.cw, h.cq⟩
  have n0 : (kd == 0) = false := by simpa using h0
  have n1 : (kd == 1) = false := by simpa using h1
  have n2 : (kd == 2) = false := by simpa using h2
  have n3 : (kd == 3) = false := by simpa using h3
  have k0 := A2.cell 0 rfl
  have k3 := A2.cell 3 rfl
  clear A1 A2 A3 B1 hsz h h0 h1 h2 h3
  generalize rdM M z = M2 at *
  generalize rdE M z = n at *
  generalize rdS M z = t at *
  have htt : (t.toList == t.toList) = true := by simp
  go_enter Try.func10, Try.ntmps10
  go_upto_region 1 with fail
  change Code.wp _ _ _ _ (((w.alloc (.cells (ri c M p).toArray tI)).alloc (.cells #[.int .i64 kd, .int .u32 x, .string s, .int .i64 z] tD)).alloc (.cells riZ.toArray tI))
  rw [← HW]; clear HW
  go_wp2_with (refine wpi_load rfl _ rfl rfl HA1.out ?_)
  refine (HR.out _ HB.out.ri).mono ?_; rintro e w2 ⟨p', X', rfl, hr, g2⟩
  obtain ⟨V3, hV3⟩ : ∃ V, V = w2.alloc (.cells riZ.toArray tI) := ⟨_, rfl⟩
  have bV : Below w2.heap.size w2 V3 := by rw [hV3]; exact (Below.refl _ _).alloc (Nat.le_refl _) _
  have HA8 : Hid (At V3 w2.heap.size tI riZ) := Lib.hid (by rw [hV3]; exact At.new w2 tI riZ)
  have g3 := g2.trans (bV.mono g2.size)
  have HA4 := Lib.hid (HA2.out.below g3 HA2.out.lt)
  have HA5 := Lib.hid (HA3.out.below g3 HA3.out.lt)
  have HB3 := Lib.hid (HB.out.ib.below g3)
  have HR3 := Lib.hid (hr.below bV)
  have HT3 := Lib.hid (HB1.out.trans (g3.mono HB1.out.size))
  have HSZ : Hid (w.heap.size + 3 ≤ w2.heap.size) := Lib.hid (by have := HS.out; have := g2.size; omega)
  clear g2 g3 bV hr k0 k3
  go_upto_region 15 with (first
    | (refine wpi_store (c := c) (M := M2) (p := p') (b := w2.heap.size) (w := w2.alloc (.cells riZ.toArray tI)) rfl _ _ rfl rfl rfl (by rw [← hV3]; exact HA8.out) rfl ?_; intro w4 ha4 ht4; rw [← hV3] at ht4; have HA9 := Lib.hid ha4; have HT4 := Lib.hid ht4; clear ha4 ht4))
  obtain ⟨b8, hb8⟩ : ∃ b, w2.heap.size = b := ⟨_, rfl⟩
  rw [hb8] at HA9 HT4
  rw [hb8] at HA8
  obtain ⟨b5, hb5⟩ : ∃ b, w.heap.size + 1 = b := ⟨_, rfl⟩
  obtain ⟨b6, hb6⟩ : ∃ b, b5 + 1 = b := ⟨_, rfl⟩
  rw [hb5] at HA4
  rw [show w.heap.size + 2 = b6 by omega] at HA5
  have HBN : Hid (b5 ≠ b8 ∧ b6 ≠ b8 ∧ w.heap.size ≤ b8 ∧ w.heap.size ≤ b6 ∧ b5 ≠ b6) := Lib.hid (by have := HSZ.out; omega)
  have HB4 := Lib.hid (HB3.out.tn_i HA8.out HT4.out)
  have HR4 := Lib.hid (HR3.out.tn HA8.out HT4.out)
  have HA6 := Lib.hid (HA5.out.tn HT4.out HBN.out.2.1)
  have HW4 := Lib.hid (HT4.out.below HT3.out HT3.out.size (fun i hi e => by have e : i = b8 := e; have := HBN.out; omega))
  have HA4b := Lib.hid (HA4.out.tn HT4.out HBN.out.1)
  have k3 := HA4b.out.cell 3 rfl
  rw [hb8, hb5, hb6]
  clear HA8 HA1 HA2 HA3 HB1 hV3 HR HB HA4 HA5 HB3 HR3 HS HT3 hb5 hb6 hb8
  go_wp2_with fail
  refine (HP.out _ HB4.out).mono ?_; rintro e w5 ⟨rfl, Y', hib, ht⟩
  have HI5 := Lib.hid (And.intro hib ht)
  have HA7 := Lib.hid (HB4.out.m.at_stays ht.tn HA6.out tI_not)
  have HR5 := Lib.hid (HB4.out.m.ri_stays ht.tn HR4.out)
  have HA10 := Lib.hid (HB4.out.m.at_stays ht.tn HA9.out tI_not)
  clear hib ht k3
  go_wp2_with (first | (refine wpi_load rfl _ rfl rfl HA10.out ?_) | (refine wpi_store rfl _ _ rfl rfl rfl HA7.out rfl ?_; intro wA haA htA; have HAA := Lib.hid haA; have HTA := Lib.hid htA; clear haA htA))
  have HBF : Hid (BothI wA Y' c M2 p' S X' (j + 1)) := Lib.hid ((BothI.mk HI5.out.1 HR5.out HN.out.1 (HN.out.2.2.2.1.trans HN.out.2.1.symm) (by rw [HN.out.2.2.1]; exact HN.out.2.2.2.2)).tn HA7.out HTA.out)
  have HTF : Hid (IbT w wA Y Y') := Lib.hid (by
    have t6 : IbT w w5 Y Y' := (ibt_below Y HW4.out).trans HI5.out.2
    exact ⟨t6.tn.trans' HTA.out (fun q hq e => by have e : q = b6 := e; have := HBN.out; omega), t6.new, t6.i⟩)
  exact bodyPost_ret (v := .tuple #[riV c M2 p', .bool true]) (res_do rfl rfl HAA.out) rfl ⟨Y', M2, p', S, X', rfl, HBF.out, HTF.out⟩
end Go.Proofs.Ytedecminaopgaaa

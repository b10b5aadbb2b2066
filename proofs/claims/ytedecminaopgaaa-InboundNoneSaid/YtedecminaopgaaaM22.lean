/- Proved: lemmas of one statement's proof, merged by program: what each part proves stands ahead of it. Conditions: those that the lemmas name. -/
import Derived.Test.YtedecminaopgaaaM19
import Derived.Deep.RegionHeld3

/- Proved: what Deliver, Read of package inbound answer, and leave, for every state. Conditions: those that the theorems name. -/
namespace Go.Proofs.Ytedecminaopgaaa
open Go.ChangeShapes Go.WideShapes Go.ChangeAt Go.RowKit

/-- how many places are there of bodies that wait. -/
def ibMs (i : Nat) (w : World) : Nat := match w.cell? ⟨i, 1, none⟩ with
  | some (.pointer (some o)) => (match w.cell? ⟨o.block, 2, none⟩ with | some (.slice _ l _) => l | _ => 0)
  | _ => 0
theorem Ibm.ms {w : World} {Y : IbY} {M : IbM} (h : Ibm w Y M) : ibMs Y.i w = M.L.length := by
  obtain ⟨A, cap, hv⟩ := h.od.form
  have c2 := h.od.own.cell 2 rfl
  unfold ibMs
  rw [h.own.cell 1 rfl]
  dsimp only
  rw [c2, hv]
set_option maxRecDepth 100000 in
set_option maxHeartbeats 1600000 in
theorem ib_deliver (Y : IbY) (M : IbM) (w : World) (h : Ib w Y M) :
    Calls Try.prog 25 #[ibp Y] w (GivesIb w Y (dlM M) (.int .i64 (((dlM M).s.size : Int) - (M.s.size : Int)))) := by
  have HI := Lib.hid h
  obtain ⟨D, hD⟩ : ∃ D, dlM M = D := ⟨_, rfl⟩
  have HD := Lib.hid hD
  rw [hD]
  have hz0 : (0 : Int) ≤ (M.s.size : Int) := Int.natCast_nonneg _
  have hz1 : (M.s.size : Int) ≤ 1048576 := by have a := h.m.rg.size; have b := h.m.rg.room; omega
  obtain ⟨z0, hz⟩ : ∃ z0 : Int, z0 = (M.s.size : Int) := ⟨_, rfl⟩
  rw [← hz] at hz0 hz1
  have HZ := Lib.hid hz
  rw [← hz]
  clear h hD hz
  go_enter Try.func25, Try.ntmps25
  go_wp2_with fail
  go_loopw [3] (fun v wr => ∃ (Y1 : IbY) (M1 : IbM), dlM M1 = D ∧ z0 ≤ (M1.s.size : Int) ∧ Y1.i = Y.i ∧ v = .int .i64 ((M1.s.size : Int) - z0) ∧ Ib wr Y1 M1 ∧ IbT w wr Y Y1) (fun _ wr => ibMs Y.i wr)
  case atStart => exact ⟨Y, M, HD.out, by rw [HZ.out]; exact Int.le_refl _, rfl, by rw [HZ.out]; simp, HI.out, .refl _ _⟩
  case round =>
    obtain ⟨Y1, M1, hdl, hs, hi, rfl, hib, ht⟩ := hrel
    have HB := Lib.hid hib
    have HT := Lib.hid ht
    have HV := Lib.hid (And.intro hdl hi)
    have hm1 : (M1.s.size : Int) ≤ 1048576 := by have a := hib.m.rg.size; have b := hib.m.rg.room; omega
    have hm0 : (0 : Int) ≤ (M1.s.size : Int) := Int.natCast_nonneg _
    have QQ : Hid (Ib wr.drew Y1 M1 ∧ IbT w wr.drew Y Y1) := Lib.hid ⟨hib.drew, ht.below_ (Below.refl _ _).drew⟩
    have c1 := QQ.out.1.m.own.cell 1 rfl
    have c2 := QQ.out.1.m.own.cell 2 rfl
    rw [hi] at c1 c2
    have KP : Hid (∀ W, Ib W Y1 M1 → W.cell? ⟨Y.i, 1, none⟩ = some (.pointer (some ⟨Y1.o, 0, none⟩)) ∧ W.cell? ⟨Y.i, 2, none⟩ = some (.pointer (some ⟨Y1.b, 0, none⟩))) := Lib.hid fun W g => by
      rw [← hi]
      exact ⟨g.m.own.cell 1 rfl, g.m.own.cell 2 rfl⟩
    have HR := Lib.hid (fun W (g : Ib W Y1 M1) => rg_room_any Y1.b M1.q Y1.g M1.s W g.m.rg)
    cases hnx : nxO M1.L ((M1.q : Int) - (M1.s.size : Int))
    · obtain ⟨e1, e2, e3, e4⟩ : nxO M1.L ((M1.q : Int) - (M1.s.size : Int)) = false ∧ nxS M1.L ((M1.q : Int) - (M1.s.size : Int)) = S0 ∧ nxL M1.L ((M1.q : Int) - (M1.s.size : Int)) = M1.L ∧ nxBs M1.B M1.L ((M1.q : Int) - (M1.s.size : Int)) = M1.B := by
        have e' : ¬ nxO M1.L ((M1.q : Int) - (M1.s.size : Int)) = true := by rw [hnx]; decide
        exact ⟨hnx, if_neg e', if_neg e', if_neg e'⟩
      have HNx := Lib.hid (fun W (g : Ib W Y1 M1) => or_next_any Y1.o M1.B M1.n Y1.r Y1.v M1.L ((M1.q : Int) - (M1.s.size : Int)) W g.m.od)
      rw [e1, e2, e3, e4] at HNx
      have HD1 := Lib.hid (dl_no hnx)
      clear e1 e2 e3 e4 hnx hib ht hi hdl
      go_wp2_with fail
      go_region_held3 (fun W => W.cell? ⟨Y.i, 1, none⟩ = some (.pointer (some ⟨Y1.o, 0, none⟩)) ∧ W.cell? ⟨Y.i, 2, none⟩ = some (.pointer (some ⟨Y1.b, 0, none⟩)))
        (first | go_keep | with_reducible exact KP.out _ QQ.out.1 | exact KS.out)
        (first
        | ((with_reducible refine (HR.out _ QQ.out.1).mono ?_); rintro e wq ⟨rfl, q, hq⟩; have QN : Hid (Ib wq Y1 M1 ∧ IbT w wq Y Y1) := Lib.hid (by rw [hq]; exact ⟨QQ.out.1.drewN q, QQ.out.2.drewN_ q⟩); clear hq QQ; have QQ := QN; clear QN)
        | ((with_reducible refine (HNx.out _ QQ.out.1).mono ?_); rintro e wq ⟨v', rfl, ho, t⟩; have QN : Hid (Ib wq { Y1 with r := Y1.r, v := v' } M1 ∧ IbT w wq Y { Y1 with r := Y1.r, v := v' }) := Lib.hid (by obtain ⟨a, b⟩ := QQ.out.1.m.order_ (B' := M1.B) (k' := M1.k) ho (.inl rfl) t rfl; exact ⟨⟨a, QQ.out.1.i⟩, QQ.out.2.trans b⟩); have KS : Hid (wq.cell? ⟨Y.i, 1, none⟩ = some (.pointer (some ⟨Y1.o, 0, none⟩)) ∧ wq.cell? ⟨Y.i, 2, none⟩ = some (.pointer (some ⟨Y1.b, 0, none⟩))) := Lib.hid (by rw [← HV.out.2]; exact ⟨QN.out.1.m.own.cell 1 rfl, QN.out.1.m.own.cell 2 rfl⟩); clear ho t))
      go_wp2_with fail
      go_ret
      have e := HD1.out
      rw [HV.out.1] at e
      rw [e]
      exact ⟨rfl, _, QN.out.1, QN.out.2⟩
    · obtain ⟨hl0, hem, hfit⟩ := nx_len hnx
      obtain ⟨e1, e2, e3, e4⟩ := nx_yes (B := M1.B) hem hfit
      have HNx := Lib.hid (fun W (g : Ib W Y1 M1) => or_next_any Y1.o M1.B M1.n Y1.r Y1.v M1.L ((M1.q : Int) - (M1.s.size : Int)) W g.m.od)
      rw [e1, e2, e3, e4] at HNx
      have HD1 := Lib.hid (dl_yes hnx)
      have HJ := Lib.hid (hib.i.next hnx)
      have HST : Hid (∀ W v', Od W Y1.o (wpl M1.B 1) M1.n Y1.r v' (M1.L.drop 1) → ∀ V, Ib V Y1 M1 → Tn (OdOwn Y1.o Y1.r) V W → Ibm W { Y1 with r := Y1.r, v := v' } { M1 with B := wpl M1.B 1, L := M1.L.drop 1, k := M1.k - 1 } ∧ IbT V W Y1 { Y1 with r := Y1.r, v := v' }) := Lib.hid fun W v' ho V g t => g.m.order_ (B' := wpl M1.B 1) (k' := M1.k - 1) ho (.inl rfl) t (nextM_wpl HJ.out.2)
      obtain ⟨b, hb⟩ : ∃ b, st_ M1.L 0 = b := ⟨_, rfl⟩
      have HBS := Lib.hid hb
      have hb0 : (0 : Int) ≤ (b.size : Int) := Int.natCast_nonneg _
      have hb1 : (b.size : Int) ≤ 1048576 := by
        rw [← hb]
        have := hib.m.rg.room
        omega
      have HFIT : Hid (b.size + M1.s.size ≤ M1.q) := Lib.hid (by rw [← hb]; omega)
      have HPT : Hid (∀ W (g : Option Nat), Rg W Y1.b M1.q g M1.s → Calls Try.prog 51 #[.pointer (some ⟨Y1.b, 0, none⟩), .string b] W (GivesRg W Y1.b M1.q g (.int .i64 (b.size : Int)) (M1.s ++ b))) := Lib.hid fun W g hr => by
        have e := rg_put_any Y1.b M1.q g M1.s b W hr
        have e5 : min b.size (M1.q - M1.s.size) = b.size := by have := HFIT.out; omega
        rw [e5, rg_rest_none] at e
        exact e
      rw [hb] at HNx
      have HLN : Hid ((M1.L.drop 1).length < M1.L.length) := Lib.hid (by rw [List.length_drop]; omega)
      clear e1 e2 e3 e4 hnx hib ht hi hdl hl0 hem hfit hb
      go_wp2_with fail
      go_region_held3 (fun W => W.cell? ⟨Y.i, 1, none⟩ = some (.pointer (some ⟨Y1.o, 0, none⟩)) ∧ W.cell? ⟨Y.i, 2, none⟩ = some (.pointer (some ⟨Y1.b, 0, none⟩)))
        (first | go_keep | with_reducible exact KP.out _ QQ.out.1 | exact KS.out)
        (first
        | ((with_reducible refine (HR.out _ QQ.out.1).mono ?_); rintro e wq ⟨rfl, q, hq⟩; have QN : Hid (Ib wq Y1 M1 ∧ IbT w wq Y Y1) := Lib.hid (by rw [hq]; exact ⟨QQ.out.1.drewN q, QQ.out.2.drewN_ q⟩); clear hq QQ; have QQ := QN; clear QN)
        | ((with_reducible refine (HNx.out _ QQ.out.1).mono ?_); rintro e wq ⟨v', rfl, ho, t⟩; have QN : Hid (Ibm wq { Y1 with r := Y1.r, v := v' } { M1 with B := wpl M1.B 1, L := M1.L.drop 1, k := M1.k - 1 } ∧ IbT w wq Y { Y1 with r := Y1.r, v := v' }) := Lib.hid (by obtain ⟨a, b⟩ := HST.out _ _ ho _ QQ.out.1 t; exact ⟨a, QQ.out.2.trans b⟩); have KS : Hid (wq.cell? ⟨Y.i, 1, none⟩ = some (.pointer (some ⟨Y1.o, 0, none⟩)) ∧ wq.cell? ⟨Y.i, 2, none⟩ = some (.pointer (some ⟨Y1.b, 0, none⟩))) := Lib.hid (by rw [← HV.out.2]; exact ⟨QN.out.1.own.cell 1 rfl, QN.out.1.own.cell 2 rfl⟩); clear ho t))
      have d2 := KS.out.2
      go_wp2_with fail
      refine (HPT.out _ _ QN.out.1.rg).mono ?_; rintro e w5 ⟨rfl, g', hr', ht, hgr⟩
      have HE := Lib.hid (QN.out.1.ring_ hr' ht hgr)
      clear hr' ht hgr
      go_wp2_with fail
      go_roundw
      case rel =>
        have e6 : (nextM M1).s.size = M1.s.size + b.size := by
          show (M1.s ++ st_ M1.L 0).size = _
          rw [rg_append_size, HBS.out]
        refine ⟨_, nextM M1, by rw [← HD1.out]; exact HV.out.1, by rw [e6]; omega, ?_, by rw [e6]; congr 1; omega, ⟨?_, HJ.out.1⟩, QN.out.2.trans HE.out.2⟩
        · exact HV.out.2
        · have a := HE.out.1
          rw [← HBS.out] at a
          exact a
      case measure =>
        have m1 := HE.out.1.ms
        have m2 := HB.out.m.ms
        have m1 : ibMs Y1.i w5 = (M1.L.drop 1).length := m1
        rw [HV.out.2] at m1 m2
        rw [m1, m2]
        exact HLN.out
set_option maxRecDepth 100000 in
set_option maxHeartbeats 1600000 in
theorem ib_read (Y : IbY) (M : IbM) (z : Int) (w : World) (h : Ib w Y M) :
    Calls Try.prog 20 #[ibp Y, .int .i64 z] w (GivesIb w Y (rdM M z) (.tuple #[.string (rdS M z), .int .i64 (rdE M z)])) := by
  have HI := Lib.hid h
  have c2 := h.m.own.cell 2 rfl
  have HLn := Lib.hid (rg_len_any Y.b M.q Y.g M.s w h.m.rg)
  have HE := Lib.hid (ib_ended Y M w h.m)
  have HJ := Lib.hid (h.i.read z)
  have hm0 : (0 : Int) ≤ (M.s.size : Int) := Int.natCast_nonneg _
  have hh : (0 : Int) ≤ M.hd ∧ M.hd ≤ 1048576 + 67108864 ∧ (M.s.size : Int) ≤ M.hd := by
    have a := h.i.held
    have b := szs_le M.L 1048576 h.i.text
    have c := h.m.rg.size
    have d := h.m.rg.room
    have f := h.m.od.n64
    have g : M.L.length * 1048576 ≤ 64 * 1048576 := Nat.mul_le_mul_right _ f
    omega
  obtain ⟨hd0, hd1, hd2⟩ := hh
  clear h
  by_cases h1 : z < 1
  · have e1 : rdE M z = 1 := if_pos h1
    have e2 : rdM M z = M := if_neg (by rw [e1]; decide)
    have e3 : rdS M z = S0 := if_neg (by rw [e1]; decide)
    rw [e1, e2, e3]
    clear e1 e2 e3 HJ
    go_enter Try.func20, Try.ntmps20
    go_wp2_with fail
    go_ret2
    exact ⟨rfl, Y, HI.out, .refl _ _⟩
  by_cases h2 : M.s.size = 0 ∧ endZ M = true
  · have e1 : rdE M z = 13 := by unfold rdE; rw [if_neg h1, if_pos h2]
    have e2 : rdM M z = M := if_neg (by rw [e1]; decide)
    have e3 : rdS M z = S0 := if_neg (by rw [e1]; decide)
    rw [e1, e2, e3]
    rw [h2.2] at HE
    have h4 : (M.s.size : Int) = 0 := by omega
    rw [h4] at HLn
    clear e1 e2 e3 HJ h2 h4 hm0 hd2
    go_enter Try.func20, Try.ntmps20
    go_wp2_with fail
    refine HLn.out.mono ?_; rintro e w1 ⟨rfl, rfl⟩
    go_wp2_with fail
    refine HE.out.mono ?_; rintro e w1 ⟨rfl, q, rfl⟩
    go_wp2_with fail
    go_ret2
    exact ⟨rfl, Y, HI.out.drewN q, (IbT.refl w Y).drewN_ q⟩
  · have e1 : rdE M z = 0 := by unfold rdE; rw [if_neg h1, if_neg h2]
    have e2 : rdM M z = { M with s := M.s.extract (rdK M z) M.s.size, hd := M.hd - (rdK M z : Int) } := if_pos e1
    have e3 : rdS M z = M.s.extract 0 (rdK M z) := if_pos e1
    rw [e2] at HJ
    rw [e1, e2, e3]
    have HT : Hid (∀ W, Ib W Y M → Calls Try.prog 42 #[.pointer (some ⟨Y.b, 0, none⟩), .int .i64 z] W (GivesRg W Y.b M.q Y.g (.string (M.s.extract 0 (rdK M z))) (M.s.extract (rdK M z) M.s.size))) := Lib.hid fun W g => rg_take_any Y.b M.q z Y.g M.s W g.m.rg
    have hk : (rdK M z : Int) ≤ (M.s.size : Int) := by unfold rdK; omega
    have hsz : (M.s.extract 0 (rdK M z)).size = rdK M z := by rw [rg_cut_size]; omega
    have hk0 : (0 : Int) ≤ (rdK M z : Int) := Int.natCast_nonneg _
    have hor : (¬ (M.s.size : Int) = 0) ∨ ((M.s.size : Int) = 0 ∧ endZ M = false) := by
      by_cases a : M.s.size = 0
      · refine .inr ⟨by omega, ?_⟩
        cases e : endZ M
        · rfl
        · exact absurd ⟨a, e⟩ h2
      · exact .inl (by omega)
    clear e1 e2 e3 h2
    generalize rdK M z = k at *
    generalize hs1 : M.s.extract k M.s.size = s1 at *
    generalize M.s.extract 0 k = s0 at *
    subst hsz
    clear hs1
    rcases hor with h2 | ⟨h2, h3⟩
    · have h2' : ((M.s.size : Int) == 0) = false := by simpa using h2
      have HNZ := Lib.hid h2
      generalize hmm : (M.s.size : Int) = m at *
      clear h2 HE hmm
      go_enter Try.func20, Try.ntmps20
      go_wp2_with fail
      refine HLn.out.mono ?_; rintro e w1 ⟨rfl, rfl⟩
      go_wp2_with fail
      refine (HT.out _ HI.out).mono ?_; rintro e w2 ⟨rfl, g', hr', ht, hgr⟩
      have HK := Lib.hid (HI.out.m.ring_ hr' ht hgr)
      have c4 := HK.out.1.own.cell 4 rfl
      have f4 := HK.out.1.own.free 4
      dsimp only at c4
      clear hr' ht hgr
      go_wp2_with fail
      go_ret2
      obtain ⟨a, b⟩ := HK.out.1.held_ (M.hd - (s0.size : Int))
      exact ⟨rfl, _, ⟨a, HJ.out⟩, HK.out.2.trans b⟩
    · rw [h2] at HLn
      rw [h3] at HE
      generalize hmm : (M.s.size : Int) = m at *
      clear h2 h3 hmm
      go_enter Try.func20, Try.ntmps20
      go_wp2_with fail
      refine HLn.out.mono ?_; rintro e w1 ⟨rfl, rfl⟩
      go_wp2_with fail
      refine HE.out.mono ?_; rintro e w1 ⟨rfl, q, hq⟩
      have HI1 := Lib.hid (HI.out.drewN q)
      have T1 := Lib.hid ((IbT.refl w Y).drewN_ q)
      rw [← hq] at HI1 T1
      clear c2 hq
      have c2 := HI1.out.m.own.cell 2 rfl
      go_wp2_with fail
      refine (HT.out _ HI1.out).mono ?_; rintro e w2 ⟨rfl, g', hr', ht, hgr⟩
      have HK := Lib.hid (HI1.out.m.ring_ hr' ht hgr)
      have c4 := HK.out.1.own.cell 4 rfl
      have f4 := HK.out.1.own.free 4
      dsimp only at c4
      clear hr' ht hgr
      go_wp2_with fail
      go_ret2
      obtain ⟨a, b⟩ := HK.out.1.held_ (M.hd - (s0.size : Int))
      exact ⟨rfl, _, ⟨a, HJ.out⟩, T1.out.trans (HK.out.2.trans b)⟩
end Go.Proofs.Ytedecminaopgaaa

/- Proved: lemmas of one statement's proof, merged by program: what each part proves stands ahead of it. Conditions: those that the lemmas name. -/
import Derived.Test.YtedecminaopgaaaM32

/- Proved: what the document's Deliver of what a stream takes answers. Conditions: those that the theorems name. -/
namespace Go.Proofs.Ytedecminaopgaaa
open Go.ChangeShapes Go.WideShapes Go.ChangeAt Go.RowKit

theorem res_rideliver {T : Array Value} {W : World} {b : Nat} {c : Cf} {M : IbM} {p : RiP} {z : Int} (h2 : T.getD 2 undef = .pointer (some ⟨b, 0, none⟩)) (h3 : T.getD 3 undef = .int .i64 z) (h : At W b tI (ri c M p)) : (results Try.f34 T).run Try.prog W = .ok (.tuple #[riV c M p, .int .i64 z]) W := by
  have h2' : T[2]?.getD undef = .pointer (some ⟨b, 0, none⟩) := by simpa using h2
  have h3' : T[3]?.getD undef = .int .i64 z := by simpa using h3
  have hl := ri_out h
  simp [results, Try.results34, h2', h3', hl, asAddr]
/-- the next body is delivered, within a state. -/
theorem At.next4 {W : World} {b : Nat} {c : Cf} {M : IbM} {p : RiP} (h : At W b tI (ri c M p)) (A : Option Addr) (m k : Nat) :
    At ((((W.setCell ⟨b, 11, none⟩ (.int .u32 (wpl M.B 1))).setCell ⟨b, 12, none⟩ (.int .i64 M.n)).setCell ⟨b, 13, none⟩ (.slice A m k)).setCell ⟨b, 15, none⟩ (.string (M.s ++ st_ M.L 0))) b tI (ri c (nextM M) { p with oA := A, om := m, oc := k }) := (((h.set_ 11 _).set_ 12 _).set_ 13 _).set_ 15 _
/-- how many bodies wait. -/
def riMs (b : Nat) (w : World) : Nat := match w.cell? ⟨b, 13, none⟩ with
  | some (.slice _ l _) => l
  | _ => 0
theorem At.rims {w : World} {b : Nat} {c : Cf} {M : IbM} {p : RiP} (h : At w b tI (ri c M p)) : riMs b w = p.om := by
  unfold riMs
  rw [h.cell 13 rfl]
set_option maxRecDepth 100000 in
set_option maxHeartbeats 3200000 in
theorem ri_Deliver (c : Cf) (M : IbM) (p : RiP) (S : List Int) (X : List Xb) (w : World) (h : RiM w M p S X) (hq : c.q = (M.q : Int)) (hB : U32 M.B) (hl : M.L.length ≤ 64) (hs : M.s.size ≤ M.q) (hq2 : M.q ≤ 1048576) :
    Calls Try.prog 34 #[riV c M p] w (GivesRi c (dlM M) S w (.int .i64 (((dlM M).s.size : Int) - (M.s.size : Int)))) := by
  obtain ⟨W, HW, A1, A2, B1, hsz⟩ := riboxes c M p w
  obtain ⟨D, hD⟩ : ∃ D, dlM M = D := ⟨_, rfl⟩
  rw [hD]
  obtain ⟨z0, hz⟩ : ∃ z0 : Int, z0 = (M.s.size : Int) := ⟨_, rfl⟩
  rw [← hz]
  have HD := Lib.hid hD
  have HZ := Lib.hid hz
  have hz0 : 0 ≤ z0 := by omega
  have HR := Lib.hid (h.below B1)
  have HA1 := Lib.hid A1
  have HA2 := Lib.hid A2
  have HB1 := Lib.hid B1
  have HS : Hid (W.heap.size = w.heap.size + 2) := Lib.hid hsz
  have HX := Lib.hid (And.intro hB (And.intro hl hs))
  obtain ⟨b, hb⟩ : ∃ b, w.heap.size = b := ⟨_, rfl⟩
  have HQ := Lib.hid (And.intro hq hq2)
  have HBB := Lib.hid hb
  clear A1 A2 B1 hsz h hB hl hs hD hz hq hq2
  go_enter Try.func34, Try.ntmps34
  go_upto_region 1 with fail
  change Code.wp _ _ _ _ ((w.alloc (.cells (ri c M p).toArray tI)).alloc (.cells riZ.toArray tI))
  rw [← HW]; clear HW
  rw [hb] at HA1 HA2
  clear hb
  go_wp2_with fail
  go_loopw [4] (fun v wr => ∃ (M1 : IbM) (p1 : RiP) (X1 : List Xb), dlM M1 = D ∧ z0 ≤ (M1.s.size : Int) ∧ v = .int .i64 ((M1.s.size : Int) - z0) ∧ U32 M1.B ∧ M1.L.length ≤ 64 ∧ M1.s.size ≤ M1.q ∧ M1.q = M.q ∧ At wr b tI (ri c M1 p1) ∧ At wr (b + 1) tI riZ ∧ RiM wr M1 p1 S X1 ∧ Below w.heap.size w wr) (fun _ wr => riMs b wr)
  case atStart => exact ⟨M, p, X, HD.out, by rw [HZ.out]; exact Int.le_refl _, by rw [HZ.out]; simp, HX.out.1, HX.out.2.1, HX.out.2.2, rfl, HA1.out, HA2.out, HR.out, HB1.out⟩
  case round =>
    obtain ⟨M1, p1, X1, hdl, hs0, rfl, hB, hl, hsq, hq, ha1, ha2, hr, hbel⟩ := hrel
    have HDL := Lib.hid hdl
    have HA3 := Lib.hid ha1
    have HA4 := Lib.hid ha2
    have HR1 := Lib.hid hr
    have HBL := Lib.hid hbel
    have hm1 : (M1.s.size : Int) ≤ 1048576 := by have := HQ.out.2; omega
    have hm0 : (0 : Int) ≤ (M1.s.size : Int) := Int.natCast_nonneg _
    have hcq : c.q = (M1.q : Int) := by rw [HQ.out.1, hq]
    have hcq0 : (0 : Int) ≤ (M1.q : Int) := Int.natCast_nonneg _
    have hcq1 : (M1.q : Int) ≤ 1048576 := by have := HQ.out.2; omega
    have k5 := ha1.cell 5 rfl
    rw [hcq] at k5
    have k11 := ha1.cell 11 rfl
    have k12 := ha1.cell 12 rfl
    have k13 := ha1.cell 13 rfl
    have k15 := ha1.cell 15 rfl
    have HBU := Lib.hid (And.intro hB (And.intro hl (And.intro hsq hq)))
    have HNX : Hid (Calls Try.prog 58 #[.agg #[.int .u32 M1.B, .int .i64 M1.n, .slice p1.oA p1.om p1.oc], .int .i64 ((M1.q : Int) - (M1.s.size : Int))] wr (GivesNt wr (nxBs M1.B M1.L ((M1.q : Int) - (M1.s.size : Int))) M1.n (nxL M1.L ((M1.q : Int) - (M1.s.size : Int))) (nxS M1.L ((M1.q : Int) - (M1.s.size : Int))) (nxO M1.L ((M1.q : Int) - (M1.s.size : Int))))) := Lib.hid (by
      rw [hr.om]
      exact rnext_any M1.B M1.n p1.oA p1.oc M1.L X1 _ wr hr.o (by rw [← hr.om]; exact hr.oc) hr.on hr.rel hB hl)
    clear HR HA1 HA2 HB1 hcq hdl hB hl hsq hq ha1 ha2 hr hbel
    cases hnx : nxO M1.L ((M1.q : Int) - (M1.s.size : Int))
    · obtain ⟨e1, e2, e3, e4⟩ : nxO M1.L ((M1.q : Int) - (M1.s.size : Int)) = false ∧ nxS M1.L ((M1.q : Int) - (M1.s.size : Int)) = S0 ∧ nxL M1.L ((M1.q : Int) - (M1.s.size : Int)) = M1.L ∧ nxBs M1.B M1.L ((M1.q : Int) - (M1.s.size : Int)) = M1.B := by
        have e' : ¬ nxO M1.L ((M1.q : Int) - (M1.s.size : Int)) = true := by rw [hnx]; decide
        exact ⟨hnx, if_neg e', if_neg e', if_neg e'⟩
      rw [e1, e2, e3, e4] at HNX
      have HD1 : Hid (D = M1) := Lib.hid (by rw [← HDL.out]; exact dl_no hnx)
      clear e1 e2 e3 e4 hnx
      go_wp2_with fail
      refine HNX.out.mono ?_; rintro e w3 ⟨A', c', X', rfl, _, _, _, _, g3⟩
      have al : Below w3.heap.size w3 (w3.alloc (.cells #[.int .u32 M1.B, .int .i64 M1.n, .slice A' X'.length c'] 35)) := (Below.refl _ _).alloc (Nat.le_refl _) _
      have g4 := g3.trans (al.mono g3.size)
      have HA5 := Lib.hid (HA3.out.below g4 HA3.out.lt)
      have HA6 := Lib.hid (HA4.out.below g4 HA4.out.lt)
      have HR5 := Lib.hid (HR1.out.below g4)
      have HB5 := Lib.hid (HBL.out.trans (g4.mono HBL.out.size))
      clear al g3 g4 k5 k11 k12 k13 k15
      go_upto_region 3 with fail
      change Code.wp _ _ _ _ (w3.alloc (.cells #[.int .u32 M1.B, .int .i64 M1.n, .slice A' X'.length c'] 35))
      generalize w3.alloc (.cells #[.int .u32 M1.B, .int .i64 M1.n, .slice A' X'.length c'] 35) = w4 at *
      go_wp2_with (first | (refine wpi_load rfl _ rfl rfl HA5.out ?_) | (refine wpi_store rfl _ _ rfl rfl rfl HA6.out rfl ?_; intro wA haA htA; have HAA := Lib.hid haA; have HTA := Lib.hid htA; clear haA htA))
      have hD1 := HD1.out
      subst hD1
      exact bodyPost_ret (v := .tuple #[riV c D p1, .int .i64 ((D.s.size : Int) - z0)]) (res_rideliver rfl rfl HAA.out) rfl ⟨p1, X1, rfl, HR5.out.tn HA6.out HTA.out, HTA.out.below HB5.out HB5.out.size fun i hi e => by have e : i = b + 1 := e; have := HBB.out; omega⟩
    · obtain ⟨hl0, hem, hfit⟩ := nx_len hnx
      obtain ⟨e1, e2, e3, e4⟩ := nx_yes (B := M1.B) hem hfit
      rw [e1, e2, e3, e4] at HNX
      have HD1 : Hid (dlM (nextM M1) = D) := Lib.hid (by rw [← dl_yes hnx]; exact HDL.out)
      have hb0 : (0 : Int) ≤ ((st_ M1.L 0).size : Int) := Int.natCast_nonneg _
      have hb1 : ((st_ M1.L 0).size : Int) ≤ 1048576 := by omega
      have HCN : Hid (X1.length = cntO M1.L ∧ cntO M1.L = cntO (M1.L.drop 1) + 1 ∧ p1.om = X1.length) := Lib.hid ⟨HR1.out.rel.count, cnt_head hl0 hem, HR1.out.om⟩
      have HSZ : Hid ((nextM M1).s.size = M1.s.size + (st_ M1.L 0).size) := Lib.hid (by show (M1.s ++ st_ M1.L 0).size = _; rw [rg_append_size])
      have HFT : Hid ((st_ M1.L 0).size + M1.s.size ≤ M1.q) := Lib.hid (by omega)
      obtain ⟨t, ht⟩ : ∃ t, st_ M1.L 0 = t := ⟨_, rfl⟩
      have HTT := Lib.hid ht
      rw [ht] at HNX hb0 hb1
      clear e1 e2 e3 e4 hnx hl0 hem hfit ht
      go_wp2_with fail
      refine HNX.out.mono ?_; rintro e w3 ⟨A', c', X', rfl, hc', hA', hw', hr', g3⟩
      obtain ⟨V4, hV4⟩ : ∃ V, V = w3.alloc (.cells #[.int .u32 (wpl M1.B 1), .int .i64 M1.n, .slice A' X'.length c'] 35) := ⟨_, rfl⟩
      have bV : Below w3.heap.size w3 V4 := by rw [hV4]; exact (Below.refl _ _).alloc (Nat.le_refl _) _
      have g4 := g3.trans (bV.mono g3.size)
      have HA5 := Lib.hid (HA3.out.below g4 HA3.out.lt)
      have HA6 := Lib.hid (HA4.out.below g4 HA4.out.lt)
      have HB5 := Lib.hid (HBL.out.trans (g4.mono HBL.out.size))
      have HO6 : Hid (At V4 w3.heap.size 35 (roC (wpl M1.B 1) M1.n A' X'.length c')) := Lib.hid (by rw [hV4]; exact At.new w3 35 (roC (wpl M1.B 1) M1.n A' X'.length c'))
      obtain ⟨p', hp'⟩ : ∃ p' : RiP, p' = { p1 with oA := A', om := X'.length, oc := c' } := ⟨_, rfl⟩
      have HR6 : Hid (RiM V4 (nextM M1) p' S X') := Lib.hid (by
        rw [hp']
        have u := HR1.out.below g4
        exact ⟨hw'.below bV, rfl, hc', hA', u.s, u.sc, u.sn, hr'⟩)
      have HPO : Hid (p'.om < p1.om) := Lib.hid (by
        rw [hp']
        show X'.length < p1.om
        have h1 := hr'.count
        have := HCN.out
        omega)
      have hfin := HA5.out.next4 A' X'.length c'
      rw [← hp', HTT.out] at hfin
      have TT : Tn (fun i => i = b) V4 ((((V4.setCell ⟨b, 11, none⟩ (.int .u32 (wpl M1.B 1))).setCell ⟨b, 12, none⟩ (.int .i64 M1.n)).setCell ⟨b, 13, none⟩ (.slice A' X'.length c')).setCell ⟨b, 15, none⟩ (.string (M1.s ++ t))) := (order3_tn V4 b _ _ _).set _ _ (fun _ => rfl)
      have HAE := Lib.hid hfin
      have HAF := Lib.hid (HA6.out.tn TT (show ¬ (b + 1) = b by omega))
      have HRF := Lib.hid (HR6.out.tn HA5.out TT)
      have HBF := Lib.hid (TT.below HB5.out HB5.out.size (fun i hi e => by have e : i = b := e; have := HBB.out; omega))
      clear hfin TT bV g3 g4 hp' hc' hA' hw' hr' k5 k11 k12 k13 k15
      have j11 := HA5.out.cell 11 rfl
      have j12 := HA5.out.cell 12 rfl
      have j13 := HA5.out.cell 13 rfl
      have j15 := HA5.out.cell 15 rfl
      have i11 := HA5.out.free 11
      have i12 := HA5.out.free 12
      have i13 := HA5.out.free 13
      have i15 := HA5.out.free 15
      have o0 := HO6.out.cell 0 rfl
      have o1 := HO6.out.cell 1 rfl
      have o2 := HO6.out.cell 2 rfl
      go_upto_region 3 with fail
      rw [← hV4]
      clear hV4
      go_upto_region 7 with fail
      generalize (((V4.setCell ⟨b, 11, none⟩ (.int .u32 (wpl M1.B 1))).setCell ⟨b, 12, none⟩ (.int .i64 M1.n)).setCell ⟨b, 13, none⟩ (.slice A' X'.length c')).setCell ⟨b, 15, none⟩ (.string (M1.s ++ t)) = w7 at *
      clear j11 j12 j13 j15 i11 i12 i13 i15 o0 o1 o2
      go_wp2_with fail
      go_roundw
      case rel =>
        have hsz := HSZ.out
        rw [HTT.out] at hsz
        have hft := HFT.out
        rw [HTT.out] at hft
        refine ⟨nextM M1, p', X', HD1.out, by rw [hsz]; omega, by rw [hsz]; congr 1; omega, wpl_u32 _ _, ?_, ?_, HBU.out.2.2.2, HAE.out, HAF.out, HRF.out, HBF.out⟩
        · show (M1.L.drop 1).length ≤ 64
          rw [List.length_drop]; have := HBU.out.2.1; omega
        · show (nextM M1).s.size ≤ M1.q
          rw [hsz]; omega
      case measure =>
        rw [HAE.out.rims, HA3.out.rims]
        exact HPO.out
end Go.Proofs.Ytedecminaopgaaa

/- Proved: lemmas of one statement's proof, merged by program: what each part proves stands ahead of it. Conditions: those that the lemmas name. -/
import Derived.Test.YtedecminaopgaaaM27

/- Proved: what the document's saw, Saw of what a stream takes answer. Conditions: those that the theorems name. -/
namespace Go.Proofs.Ytedecminaopgaaa
open Go.ChangeShapes Go.WideShapes Go.ChangeAt Go.RowKit

theorem res_rsaw {T : Array Value} {W : World} {b : Nat} {c : Cf} {M : IbM} {p : RiP} (h2 : T.getD 4 undef = .pointer (some ⟨b, 0, none⟩)) (h : At W b tI (ri c M p)) : (results Try.f56 T).run Try.prog W = .ok (riV c M p) W := by
  have h2' : T[4]?.getD undef = .pointer (some ⟨b, 0, none⟩) := by simpa using h2
  have hl := ri_out h
  simp [results, Try.results56, h2', hl, asAddr]
theorem res_rsaw2 {T : Array Value} {W : World} {b : Nat} {c : Cf} {M : IbM} {p : RiP} {z : Int} (h2 : T.getD 4 undef = .pointer (some ⟨b, 0, none⟩)) (h3 : T.getD 5 undef = .int .i64 z) (h : At W b tI (ri c M p)) : (results Try.f31 T).run Try.prog W = .ok (.tuple #[riV c M p, .int .i64 z]) W := by
  have h2' : T[4]?.getD undef = .pointer (some ⟨b, 0, none⟩) := by simpa using h2
  have h3' : T[5]?.getD undef = .int .i64 z := by simpa using h3
  have hl := ri_out h
  simp [results, Try.results31, h2', h3', hl, asAddr]
set_option maxRecDepth 100000 in
set_option maxHeartbeats 800000 in
theorem ri_saw (c : Cf) (M : IbM) (p : RiP) (S : List Int) (X : List Xb) (x : Int) (w : World) (h : RiM w M p S X) (hs : S.length ≤ 300) :
    Calls Try.prog 56 #[riV c M p, .int .u32 x] w fun e w' => ∃ p', e = .returned (riV c M p') ∧ RiM w' M p' (S ++ [x]) X ∧ Below w.heap.size w w' := by
  obtain ⟨W, HW, A1, A2, B1, hsz⟩ := riboxes c M p w
  have HR := Lib.hid (h.below B1)
  have HA1 := Lib.hid A1
  have HA2 := Lib.hid A2
  have HB1 := Lib.hid B1
  have HS := Lib.hid hsz
  have hlen : p.sm ≤ 300 := by rw [← h.s.1]; exact hs
  have c2 := A1.cell 14 rfl
  have f2 := A1.free 14
  clear A1 A2 B1 hsz h hs
  go_enter Try.func56, Try.ntmps56
  go_upto_region 1 with fail
  change Code.wp _ _ _ _ ((w.alloc (.cells (ri c M p).toArray tI)).alloc (.cells riZ.toArray tI))
  rw [← HW]; clear HW
  go_upto_region 3 with (at_builtin; refine uw_append rfl _ _ rfl W.heap.size _ 0 [] rfl (World.ownsRow_nil W W.heap.size _ _) _ p.sm p.sc S rfl HR.out.s HR.out.sn (by omega) (Nat.le_refl _) ?_; intro v2 W2 ho2 hg2; have HO2 := Lib.hid ho2; have G2 := Lib.hid (below_grown hg2 (Nat.le_refl _) (fun k e => by cases (show (none : Option Nat) = some k from e))); clear ho2 hg2)
  have hb3 := (Below.refl W2.heap.size W2).alloc (Nat.le_refl _) (.cells #[.int .u32 x] 32)
  have HO3 := Lib.hid (HO2.out.alloc (.cells #[.int .u32 x] 32))
  have HC3 := Lib.hid (uw_one W2 x)
  have G3 := Lib.hid (G2.out.trans (hb3.mono G2.out.size))
  have HRB : Hid (∀ q, v2.ownBlock = some q → W.heap.size ≤ q) := Lib.hid fun q e => (HO2.out.lt q e).1
  have hs3 : W.heap.size ≤ (W2.alloc (.cells #[.int .u32 x] 32)).heap.size := G3.out.size
  clear hb3 HO2 c2
  have hbk : W.heap.size = w.heap.size + 2 := HS.out
  go_upto_region 4 with (at_builtin; refine uw_append rfl _ _ rfl _ _ _ ([] ++ S) rfl HO3.out _ 1 1 [x] rfl HC3.out (fun e => nomatch e) (by omega) hs3 ?_; intro v4 W4 ho4 hg4; obtain ⟨A', cc, hv4, e2, e3, e4⟩ := uw_of ho4; subst hv4; have G4 := Lib.hid (G3.out.grown hg4 G3.out.size HRB.out); have HE := Lib.hid (And.intro e2 (And.intro e3 e4)); have f2 : W4.frozen? ⟨w.heap.size, 14, none⟩ = false := (HA1.out.below G4.out HA1.out.lt).free 14; have c2 : W4.cell? ⟨w.heap.size, 14, none⟩ = some (.slice p.sA p.sm p.sc) := (HA1.out.below G4.out HA1.out.lt).cell 14 rfl; clear ho4 hg4 e2 e3 e4)
  obtain ⟨p', hp'⟩ : ∃ p' : RiP, p' = { p with sA := A', sm := p.sm + 1, sc := cc } := ⟨_, rfl⟩
  have HA5 : Hid (At (W4.setCell ⟨w.heap.size, 14, none⟩ (.slice A' (p.sm + 1) cc)) w.heap.size tI (ri c M p')) := Lib.hid (by
    rw [hp']
    exact (HA1.out.below G4.out HA1.out.lt).set_ 14 (.slice A' (p.sm + 1) cc))
  have HB5 : Hid (At (W4.setCell ⟨w.heap.size, 14, none⟩ (.slice A' (p.sm + 1) cc)) (w.heap.size + 1) tI riZ) := Lib.hid ((HA2.out.below G4.out HA2.out.lt).far (p := ⟨w.heap.size, 14, none⟩) (by show w.heap.size + 1 ≠ w.heap.size; omega) _)
  have HM5 : Hid (RiM (W4.setCell ⟨w.heap.size, 14, none⟩ (.slice A' (p.sm + 1) cc)) M p' (S ++ [x]) X) := Lib.hid (by
    have h4 := HR.out.below G4.out
    have q : RiM W4 M p' (S ++ [x]) X := by
      have e := HE.out
      rw [Nat.zero_add, List.nil_append] at e
      rw [hp']
      exact ⟨h4.o, h4.om, h4.oc, h4.on, e.2.2, e.1, e.2.1, h4.rel⟩
    exact q.tn (HA1.out.below G4.out HA1.out.lt) ((Tn.refl (fun i => i = w.heap.size) W4).set _ _ (fun _ => rfl)))
  have HT5 : Hid (Below w.heap.size w (W4.setCell ⟨w.heap.size, 14, none⟩ (.slice A' (p.sm + 1) cc))) := Lib.hid (pset_below (HB1.out.trans (G4.out.mono HB1.out.size)) (Nat.le_refl _) (Nat.le_refl _))
  clear hp' f2 c2 HO3 HC3 G3 hs3 HRB G2 HE
  generalize W4.setCell ⟨w.heap.size, 14, none⟩ (.slice A' (p.sm + 1) cc) = W5 at *
  go_wp2_with (first | (refine wpi_load rfl _ rfl rfl HA5.out ?_) | (refine wpi_store rfl _ _ rfl rfl rfl HB5.out rfl ?_; intro W6 ha6 ht6; have HA6 := Lib.hid ha6; have HT6 := Lib.hid ht6; clear ha6 ht6))
  exact bodyPost_ret (v := riV c M p') (res_rsaw rfl HA6.out) rfl ⟨p', rfl, HM5.out.tn HB5.out HT6.out, HT6.out.below HT5.out HT5.out.size fun i hi e => by omega⟩
/-- those that were seen. -/
def sawS (M : IbM) (S : List Int) (x : Int) : List Int := if sawE M x = 3 then S ++ [x] else S
theorem saws_no {M : IbM} {S : List Int} {x z : Int} (h : sawE M x = z) (hz : z ≠ 3) : sawS M S x = S := if_neg (by rw [h]; exact hz)
theorem saws_yes {M : IbM} {S : List Int} {x : Int} (h : sawE M x = 3) : sawS M S x = S ++ [x] := if_pos h
set_option maxRecDepth 100000 in
set_option maxHeartbeats 1600000 in
theorem ri_Saw (c : Cf) (M : IbM) (p : RiP) (S : List Int) (X : List Xb) (x : Int) (w : World) (h : RiM w M p S X) (hs : S.length ≤ 300) (hc : c.w = M.n) (hB : U32 M.B) (hx : U32 x) (hf : U32 M.fi) (hl : M.L.length ≤ 64) :
    Calls Try.prog 31 #[riV c M p, .int .u32 x] w fun e w' => ∃ p', e = .returned (.tuple #[riV c M p', .int .i64 (sawE M x)]) ∧ RiM w' M p' (sawS M S x) X ∧ Below w.heap.size w w' := by
  obtain ⟨W, HW, A1, A2, B1, hsz⟩ := riboxes c M p w
  have HR := Lib.hid (h.below B1)
  have HA1 := Lib.hid A1
  have HA2 := Lib.hid A2
  have HB1 := Lib.hid B1
  have HS : Hid (w.heap.size ≤ w.heap.size + 1 ∧ W.heap.size = w.heap.size + 2) := Lib.hid ⟨by omega, hsz⟩
  have HL := Lib.hid (fun W => rless_any x M.B hx hB W)
  have HI := Lib.hid (fun W => rwithin_any x M.B M.n hx hB W)
  rw [← hc] at HI
  have HF := Lib.hid (ri_behind c M p x W hx hf)
  have HH : Hid (∀ V, RiM V M p S X → Calls Try.prog 40 #[.agg #[.int .u32 M.B, .int .i64 M.n, .slice p.oA p.om p.oc], .int .u32 x] V fun e w' => e = .returned (.bool (hasO M.B M.L x)) ∧ Below V.heap.size V w') := Lib.hid fun V g => by
    rw [g.om]
    exact rhas23_any M.B M.n p.oA p.oc M.L X x V g.o g.rel hB hx hl
  have HSW := Lib.hid (fun V (g : RiM V M p S X) => ri_saw c M p S X x V g hs)
  have k0 := A1.cell 0 rfl
  have k1 := A1.cell 1 rfl
  have k2 := A1.cell 2 rfl
  have k3 := A1.cell 3 rfl
  have k4 := A1.cell 4 rfl
  have k5 := A1.cell 5 rfl
  have k6 := A1.cell 6 rfl
  have k7 := A1.cell 7 rfl
  have k8 := A1.cell 8 rfl
  have k9 := A1.cell 9 rfl
  have k10 := A1.cell 10 rfl
  have k11 := A1.cell 11 rfl
  have k12 := A1.cell 12 rfl
  have k13 := A1.cell 13 rfl
  have k14 := A1.cell 14 rfl
  have k15 := A1.cell 15 rfl
  have k16 := A1.cell 16 rfl
  have k17 := A1.cell 17 rfl
  have hcc := hc
  clear A1 A2 B1 hsz h hs hc hB hx hf hl
  by_cases h1 : 0 < ah x M.B
  · have e1 := (sw_old h1).1
    have e2 := saws_no (S := S) e1 (by decide)
    rw [decide_eq_true h1] at HL
    rw [e1, e2]
    clear e1 e2 h1 hcc
    go_enter Try.func31, Try.ntmps31
    go_upto_region 1 with fail
    change Code.wp _ _ _ _ ((w.alloc (.cells (ri c M p).toArray tI)).alloc (.cells riZ.toArray tI))
    rw [← HW]; clear HW
    go_wp2_with fail
    refine (HL.out _).mono ?_; rintro e w1 ⟨rfl, rfl⟩
    go_wp2_with (first | (refine wpi_load rfl _ rfl rfl HA1.out ?_) | (refine wpi_store rfl _ _ rfl rfl rfl HA2.out rfl ?_; intro W6 ha6 ht6; have HA6 := Lib.hid ha6; have HT6 := Lib.hid ht6; clear ha6 ht6))
    exact bodyPost_ret (v := .tuple #[riV c M p, .int .i64 0]) (res_rsaw2 rfl rfl HA6.out) rfl ⟨p, rfl, HR.out.tn HA2.out HT6.out, HT6.out.below HB1.out HB1.out.size fun i hi e => by have := HS.out; omega⟩
  rw [decide_eq_false h1] at HL
  cases h2 : inZ x M.B M.n
  · have e1 := (sw_past h1 h2).1
    have e2 := saws_no (S := S) e1 (by decide)
    rw [hcc, h2] at HI
    rw [← hcc] at HI
    rw [e1, e2]
    clear e1 e2 h1 h2 hcc
    go_enter Try.func31, Try.ntmps31
    go_upto_region 1 with fail
    change Code.wp _ _ _ _ ((w.alloc (.cells (ri c M p).toArray tI)).alloc (.cells riZ.toArray tI))
    rw [← HW]; clear HW
    go_wp2_with fail
    refine (HL.out _).mono ?_; rintro e w1 ⟨rfl, rfl⟩
    go_wp2_with fail
    refine (HI.out _).mono ?_; rintro e w1 ⟨rfl, rfl⟩
    go_wp2_with (first | (refine wpi_load rfl _ rfl rfl HA1.out ?_) | (refine wpi_store rfl _ _ rfl rfl rfl HA2.out rfl ?_; intro W6 ha6 ht6; have HA6 := Lib.hid ha6; have HT6 := Lib.hid ht6; clear ha6 ht6))
    exact bodyPost_ret (v := .tuple #[riV c M p, .int .i64 1]) (res_rsaw2 rfl rfl HA6.out) rfl ⟨p, rfl, HR.out.tn HA2.out HT6.out, HT6.out.below HB1.out HB1.out.size fun i hi e => by have := HS.out; omega⟩
  rw [hcc, h2] at HI
  rw [← hcc] at HI
  cases h3 : bfZ M x
  · rw [h3] at HF
    cases h4 : hasO M.B M.L x
    · have e1 := (sw_new h1 h2 h3 h4).1
      have e2 := saws_yes (S := S) e1
      rw [h4] at HH
      rw [e1, e2]
      clear e1 e2 h1 h2 h3 h4 hcc
      go_enter Try.func31, Try.ntmps31
      go_upto_region 1 with fail
      change Code.wp _ _ _ _ ((w.alloc (.cells (ri c M p).toArray tI)).alloc (.cells riZ.toArray tI))
      rw [← HW]; clear HW
      go_wp2_with fail
      refine (HL.out _).mono ?_; rintro e w1 ⟨rfl, rfl⟩
      go_wp2_with fail
      refine (HI.out _).mono ?_; rintro e w1 ⟨rfl, rfl⟩
      go_wp2_with fail
      refine HF.out.mono ?_; rintro e w2 ⟨rfl, g2⟩
      have HA3 := Lib.hid (HA1.out.below g2 HA1.out.lt)
      have HA4 := Lib.hid (HA2.out.below g2 HA2.out.lt)
      have HR2 := Lib.hid (HR.out.below g2)
      have HB2 := Lib.hid (HB1.out.trans (g2.mono HB1.out.size))
      clear g2 k0 k1 k2 k3 k4 k5 k6 k7 k8 k9 k10 k11 k12 k13 k14 k15 k16 k17
      have k11 := HA3.out.cell 11 rfl
      have k12 := HA3.out.cell 12 rfl
      have k13 := HA3.out.cell 13 rfl
      go_wp2_with fail
      refine (HH.out _ HR2.out).mono ?_; rintro e w3 ⟨rfl, g3⟩
      have HA5 := Lib.hid (HA3.out.below g3 HA3.out.lt)
      have HB5 := Lib.hid (HA4.out.below g3 HA4.out.lt)
      have HR3 := Lib.hid (HR2.out.below g3)
      have HB3 := Lib.hid (HB2.out.trans (g3.mono HB2.out.size))
      clear g3 k11 k12 k13
      go_wp2_with (refine wpi_load rfl _ rfl rfl HA5.out ?_)
      refine (HSW.out _ HR3.out).mono ?_; rintro e w4 ⟨p', rfl, hr4, g4⟩
      have HR4 := Lib.hid hr4
      have HB7 := Lib.hid (HB5.out.below g4 HB5.out.lt)
      have HB4 := Lib.hid (HB3.out.trans (g4.mono HB3.out.size))
      clear g4 hr4
      go_wp2_with (refine wpi_store rfl _ _ rfl rfl rfl HB7.out rfl ?_; intro W6 ha6 ht6; have HA6 := Lib.hid ha6; have HT6 := Lib.hid ht6; clear ha6 ht6)
      exact bodyPost_ret (v := .tuple #[riV c M p', .int .i64 3]) (res_rsaw2 rfl rfl HA6.out) rfl ⟨p', rfl, HR4.out.tn HB7.out HT6.out, HT6.out.below HB4.out HB4.out.size fun i hi e => by have := HS.out; omega⟩
    · have e1 := (sw_has h1 h2 h3 h4).1
      have e2 := saws_no (S := S) e1 (by decide)
      rw [h4] at HH
      rw [e1, e2]
      clear e1 e2 h1 h2 h3 h4 hcc
      go_enter Try.func31, Try.ntmps31
      go_upto_region 1 with fail
      change Code.wp _ _ _ _ ((w.alloc (.cells (ri c M p).toArray tI)).alloc (.cells riZ.toArray tI))
      rw [← HW]; clear HW
      go_wp2_with fail
      refine (HL.out _).mono ?_; rintro e w1 ⟨rfl, rfl⟩
      go_wp2_with fail
      refine (HI.out _).mono ?_; rintro e w1 ⟨rfl, rfl⟩
      go_wp2_with fail
      refine HF.out.mono ?_; rintro e w2 ⟨rfl, g2⟩
      have HA3 := Lib.hid (HA1.out.below g2 HA1.out.lt)
      have HA4 := Lib.hid (HA2.out.below g2 HA2.out.lt)
      have HR2 := Lib.hid (HR.out.below g2)
      have HB2 := Lib.hid (HB1.out.trans (g2.mono HB1.out.size))
      clear g2 k0 k1 k2 k3 k4 k5 k6 k7 k8 k9 k10 k11 k12 k13 k14 k15 k16 k17
      have k11 := HA3.out.cell 11 rfl
      have k12 := HA3.out.cell 12 rfl
      have k13 := HA3.out.cell 13 rfl
      go_wp2_with fail
      refine (HH.out _ HR2.out).mono ?_; rintro e w3 ⟨rfl, g3⟩
      have HA5 := Lib.hid (HA3.out.below g3 HA3.out.lt)
      have HB5 := Lib.hid (HA4.out.below g3 HA4.out.lt)
      have HR3 := Lib.hid (HR2.out.below g3)
      have HB3 := Lib.hid (HB2.out.trans (g3.mono HB2.out.size))
      clear g3 k11 k12 k13
      go_wp2_with (first | (refine wpi_load rfl _ rfl rfl HA5.out ?_) | (refine wpi_store rfl _ _ rfl rfl rfl HB5.out rfl ?_; intro W6 ha6 ht6; have HA6 := Lib.hid ha6; have HT6 := Lib.hid ht6; clear ha6 ht6))
      exact bodyPost_ret (v := .tuple #[riV c M p, .int .i64 2]) (res_rsaw2 rfl rfl HA6.out) rfl ⟨p, rfl, HR3.out.tn HB5.out HT6.out, HT6.out.below HB3.out HB3.out.size fun i hi e => by have := HS.out; omega⟩
  · have e1 := (sw_fin h1 h2 h3).1
    have e2 := saws_no (S := S) e1 (by decide)
    rw [h3] at HF
    rw [e1, e2]
    clear e1 e2 h1 h2 h3 hcc
    go_enter Try.func31, Try.ntmps31
    go_upto_region 1 with fail
    change Code.wp _ _ _ _ ((w.alloc (.cells (ri c M p).toArray tI)).alloc (.cells riZ.toArray tI))
    rw [← HW]; clear HW
    go_wp2_with fail
    refine (HL.out _).mono ?_; rintro e w1 ⟨rfl, rfl⟩
    go_wp2_with fail
    refine (HI.out _).mono ?_; rintro e w1 ⟨rfl, rfl⟩
    go_wp2_with fail
    refine HF.out.mono ?_; rintro e w2 ⟨rfl, g2⟩
    have HA3 := Lib.hid (HA1.out.below g2 HA1.out.lt)
    have HA4 := Lib.hid (HA2.out.below g2 HA2.out.lt)
    have HR2 := Lib.hid (HR.out.below g2)
    have HB2 := Lib.hid (HB1.out.trans (g2.mono HB1.out.size))
    clear g2 k0 k1 k2 k3 k4 k5 k6 k7 k8 k9 k10 k11 k12 k13 k14 k15 k16 k17
    go_wp2_with (first | (refine wpi_load rfl _ rfl rfl HA3.out ?_) | (refine wpi_store rfl _ _ rfl rfl rfl HA4.out rfl ?_; intro W6 ha6 ht6; have HA6 := Lib.hid ha6; have HT6 := Lib.hid ht6; clear ha6 ht6))
    exact bodyPost_ret (v := .tuple #[riV c M p, .int .i64 1]) (res_rsaw2 rfl rfl HA6.out) rfl ⟨p, rfl, HR2.out.tn HA4.out HT6.out, HT6.out.below HB2.out HB2.out.size fun i hi e => by have := HS.out; omega⟩
end Go.Proofs.Ytedecminaopgaaa

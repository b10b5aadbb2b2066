/- Proved: lemmas of one statement's proof, merged by program: what each part proves stands ahead of it. Conditions: those that the lemmas name. -/
import Derived.Test.YtedecminaopgaaaM29
import Derived.Lib.MinMax

/- Proved: what the document's Fin, Read, New of what a stream takes answer. Conditions: those that the theorems name. -/
namespace Go.Proofs.Ytedecminaopgaaa
open Go.ChangeShapes Go.WideShapes Go.ChangeAt Go.RowKit

theorem res_rifin {T : Array Value} {W : World} {b : Nat} {c : Cf} {M : IbM} {p : RiP} {z : Int} (h2 : T.getD 4 undef = .pointer (some ⟨b, 0, none⟩)) (h3 : T.getD 5 undef = .int .i64 z) (h : At W b tI (ri c M p)) : (results Try.f33 T).run Try.prog W = .ok (.tuple #[riV c M p, .int .i64 z]) W := by
  have h2' : T[4]?.getD undef = .pointer (some ⟨b, 0, none⟩) := by simpa using h2
  have h3' : T[5]?.getD undef = .int .i64 z := by simpa using h3
  have hl := ri_out h
  simp [results, Try.results33, h2', h3', hl, asAddr]
theorem res_riread {T : Array Value} {W : World} {b : Nat} {c : Cf} {M : IbM} {p : RiP} {s : ByteArray} {z : Int} (h2 : T.getD 4 undef = .pointer (some ⟨b, 0, none⟩)) (h3 : T.getD 5 undef = .string s) (h4 : T.getD 6 undef = .int .i64 z) (h : At W b tI (ri c M p)) : (results Try.f35 T).run Try.prog W = .ok (.tuple #[riV c M p, .string s, .int .i64 z]) W := by
  have h2' : T[4]?.getD undef = .pointer (some ⟨b, 0, none⟩) := by simpa using h2
  have h3' : T[5]?.getD undef = .string s := by simpa using h3
  have h4' : T[6]?.getD undef = .int .i64 z := by simpa using h4
  have hl := ri_out h
  simp [results, Try.results35, h2', h3', h4', hl, asAddr]
theorem res_rinew {T : Array Value} {W : World} {b : Nat} {c : Cf} {M : IbM} {p : RiP} (h2 : T.getD 2 undef = .pointer (some ⟨b, 0, none⟩)) (h : At W b tI (ri c M p)) : (results Try.f9 T).run Try.prog W = .ok (riV c M p) W := by
  have h2' : T[2]?.getD undef = .pointer (some ⟨b, 0, none⟩) := by simpa using h2
  have hl := ri_out h
  simp [results, Try.results9, h2', hl, asAddr]
/-- the Fin's number within a state is another one. -/
theorem At.fin2 {W : World} {b : Nat} {c : Cf} {M : IbM} {p : RiP} (h : At W b tI (ri c M p)) (x : Int) :
    At ((W.setCell ⟨b, 17, none⟩ (.bool true)).setCell ⟨b, 16, none⟩ (.int .u32 x)) b tI (ri c { M with fi := x, hf := true } p) := (h.set_ 17 _).set_ 16 _
set_option maxRecDepth 100000 in
set_option maxHeartbeats 1600000 in
theorem ri_Fin (c : Cf) (M : IbM) (p : RiP) (S : List Int) (X : List Xb) (x : Int) (w : World) (h : RiM w M p S X) (hc : c.w = M.n) (hn : M.n ≤ 64) (hB : U32 M.B) (hx : U32 x) (hl : M.L.length ≤ 64) :
    Calls Try.prog 33 #[riV c M p, .int .u32 x] w (GivesRi c (finM M x) S w (.int .i64 (finE M x))) := by
  obtain ⟨W, HW, A1, A2, B1, hsz⟩ := riboxes c M p w
  have HR := Lib.hid (h.below B1)
  have HA1 := Lib.hid A1
  have HA2 := Lib.hid A2
  have HB1 := Lib.hid B1
  have HS : Hid (W.heap.size = w.heap.size + 2) := Lib.hid hsz
  have HAh := Lib.hid (fun V => rahead_any M.B x hB hx V)
  have HLs := Lib.hid (fun (y : Int) (hy : U32 y) V => rless_any y x hy hx V)
  have k3 := A1.cell 3 rfl
  have k11 := A1.cell 11 rfl
  have hcn := HS
  have HIn : Hid (inZ x M.B (M.n + 1) = (decide (0 ≤ ah M.B x) && decide (ah M.B x < M.n + 1))) := Lib.hid rfl
  rw [hc] at k3
  have HX := Lib.hid (And.intro hc (And.intro hn (And.intro hB (And.intro hx hl))))
  clear A1 A2 B1 hsz h hcn
  obtain ⟨q, hq⟩ : ∃ q, ah M.B x = q := ⟨_, rfl⟩
  rw [hq] at HAh HIn
  have HQ := Lib.hid hq
  clear hq hc hn hB hx hl
  by_cases h1 : q < 0
  · obtain ⟨e1, e2⟩ := fn_past (M := M) (x := x) (by rw [HIn.out, decide_eq_false (by omega)]; rfl)
    rw [e1, e2]
    clear e1 e2
    go_enter Try.func33, Try.ntmps33
    go_upto_region 1 with fail
    change Code.wp _ _ _ _ ((w.alloc (.cells (ri c M p).toArray tI)).alloc (.cells riZ.toArray tI))
    rw [← HW]; clear HW
    go_wp2_with fail
    refine (HAh.out _).mono ?_; rintro e w1 ⟨rfl, rfl⟩
    go_wp2_with (first | (refine wpi_load rfl _ rfl rfl HA1.out ?_) | (refine wpi_store rfl _ _ rfl rfl rfl HA2.out rfl ?_; intro wA haA htA; have HAA := Lib.hid haA; have HTA := Lib.hid htA; clear haA htA))
    exact bodyPost_ret (v := .tuple #[riV c M p, .int .i64 2]) (res_rifin rfl rfl HAA.out) rfl ⟨p, X, rfl, HR.out.tn HA2.out HTA.out, HTA.out.below HB1.out HB1.out.size fun i hi e => by have e : i = w.heap.size + 1 := e; omega⟩
  by_cases h2 : M.n < q
  · obtain ⟨e1, e2⟩ := fn_past (M := M) (x := x) (by rw [HIn.out, (decide_eq_false (by omega) : decide (q < M.n + 1) = false), Bool.and_false])
    rw [e1, e2]
    clear e1 e2
    go_enter Try.func33, Try.ntmps33
    go_upto_region 1 with fail
    change Code.wp _ _ _ _ ((w.alloc (.cells (ri c M p).toArray tI)).alloc (.cells riZ.toArray tI))
    rw [← HW]; clear HW
    go_wp2_with fail
    refine (HAh.out _).mono ?_; rintro e w1 ⟨rfl, rfl⟩
    go_wp2_with (first | (refine wpi_load rfl _ rfl rfl HA1.out ?_) | (refine wpi_store rfl _ _ rfl rfl rfl HA2.out rfl ?_; intro wA haA htA; have HAA := Lib.hid haA; have HTA := Lib.hid htA; clear haA htA))
    exact bodyPost_ret (v := .tuple #[riV c M p, .int .i64 2]) (res_rifin rfl rfl HAA.out) rfl ⟨p, X, rfl, HR.out.tn HA2.out HTA.out, HTA.out.below HB1.out HB1.out.size fun i hi e => by have e : i = w.heap.size + 1 := e; omega⟩
  have hin : inZ x M.B (M.n + 1) = true := by rw [HIn.out, decide_eq_true (by omega), decide_eq_true (by omega)]; rfl
  obtain ⟨m, rfl⟩ := Int.eq_ofNat_of_zero_le (show 0 ≤ q by omega)
  have HXW := Lib.hid (in_wpl HX.out.2.2.1 HX.out.2.2.2.1 HQ.out)
  have HWF : Hid (wfZ M.L (ah M.B x).toNat = true ↔ ∃ y ∈ X, ¬ 0 < ah y.1 x) := Lib.hid (by
    rw [HQ.out]
    have e := HR.out.rel.wf HX.out.2.2.2.2 (p := m) (by have := HX.out.2.1; omega)
    rw [← HXW.out] at e
    exact e)
  have HFW := Lib.hid (fun e => fn_wait (M := M) (x := x) hin e)
  have HFU := Lib.hid (fun e a b => fn_unlike (M := M) (x := x) hin e a b)
  have HFS := Lib.hid (fun e a => fn_set (M := M) (x := x) hin e a)
  have HU : Hid (∀ y ∈ X, U32 y.1) := Lib.hid fun y hy => by
    obtain ⟨i, _, e, _, _⟩ := (HR.out.rel.all y.1 y.2).1 hy
    rw [e]; exact wpl_u32 _ _
  have k13 := HA1.out.cell 13 rfl
  have k16 := HA1.out.cell 16 rfl
  have k17 := HA1.out.cell 17 rfl
  have f16 := HA1.out.free 16
  have f17 := HA1.out.free 17
  rw [HR.out.om] at k13
  have hxl : (X.length : Int) ≤ 64 := by have := HR.out.rel.few HX.out.2.2.2.2; omega
  obtain ⟨l, hll⟩ : ∃ l, X.length = l := ⟨_, rfl⟩
  rw [hll] at k13 hxl
  have HLL := Lib.hid hll
  clear hin hll
  go_enter Try.func33, Try.ntmps33
  go_upto_region 1 with fail
  change Code.wp _ _ _ _ ((w.alloc (.cells (ri c M p).toArray tI)).alloc (.cells riZ.toArray tI))
  rw [← HW]; clear HW
  go_wp2_with fail
  refine (HAh.out _).mono ?_; rintro e w1 ⟨rfl, rfl⟩
  go_wp2_with fail
  clear h1 h2 k3 k11
  go_loopw [7] (fun i wr => ∃ j : Nat, j ≤ l ∧ i = .int .i64 j ∧ (∀ t y, t < j → X[t]? = some y → 0 < ah y.1 x) ∧ wr = W) (fun i _ => l - (intOf i).toNat)
  case atStart => exact ⟨0, by omega, rfl, fun t y ht => absurd ht (by omega), rfl⟩
  case round =>
    obtain ⟨j, hj, rfl, hall, rfl⟩ := hrel
    have HAL := Lib.hid hall
    clear hall
    have hj0 : (0 : Int) ≤ (j : Int) := Int.natCast_nonneg _
    by_cases hlt : j < l
    · obtain ⟨y, hy⟩ : ∃ y, X[j]? = some y := ⟨_, List.getElem?_eq_getElem (by rw [HLL.out]; exact hlt)⟩
      obtain ⟨g, o, hA, _, d0, d1⟩ := Bw.at_ HR.out.o hy
      have hlt' : (j : Int) < (l : Int) := by omega
      rw [hA] at k13
      have HY := Lib.hid hy
      have HL1 := Lib.hid (fun V => HLs.out y.1 (HU.out y (List.mem_of_getElem? hy)) V)
      clear hy d1 hA
      obtain ⟨y0, y1⟩ := y
      dsimp only at d0 HY HL1
      by_cases hy0 : 0 < ah y0 x
      · rw [decide_eq_true hy0] at HL1
        have HYL := Lib.hid hy0
        clear hy0
        go_wp2_with fail
        refine (HL1.out _).mono ?_; rintro e w1 ⟨rfl, rfl⟩
        go_wp2_with fail
        go_roundw
        case rel =>
          refine ⟨j + 1, by omega, by go_num, fun t y ht hy => ?_, trivial⟩
          rcases Nat.lt_or_ge t j with e | e
          · exact HAL.out t y e hy
          · obtain rfl : t = j := by omega
            rw [HY.out] at hy
            injection hy with hy
            rw [← hy]; exact HYL.out
        case measure => simp [intOf]; omega
      · rw [decide_eq_false hy0] at HL1
        obtain ⟨e1, e2⟩ := HFW.out (HWF.out.2 ⟨(y0, y1), List.mem_of_getElem? HY.out, by show ah y0 x ≤ 0; omega⟩)
        have HEE := Lib.hid (And.intro e1 e2)
        clear hy0 e1 e2
        go_wp2_with fail
        refine (HL1.out _).mono ?_; rintro e w1 ⟨rfl, rfl⟩
        go_wp2_with (first | (refine wpi_load rfl _ rfl rfl HA1.out ?_) | (refine wpi_store rfl _ _ rfl rfl rfl HA2.out rfl ?_; intro wA haA htA; have HAA := Lib.hid haA; have HTA := Lib.hid htA; clear haA htA))
        exact bodyPost_ret (v := .tuple #[riV c M p, .int .i64 2]) (res_rifin rfl rfl HAA.out) rfl (by rw [HEE.out.1, HEE.out.2]; exact ⟨p, X, rfl, HR.out.tn HA2.out HTA.out, HTA.out.below HB1.out HB1.out.size fun i hi e => by have e : i = w.heap.size + 1 := e; omega⟩)
    · obtain rfl : j = l := by omega
      have hwf : wfZ M.L (ah M.B x).toNat = false := by
        cases e : wfZ M.L (ah M.B x).toNat
        · rfl
        · obtain ⟨y, hy, hn⟩ := HWF.out.1 e
          obtain ⟨t, ht, e2⟩ := List.mem_iff_getElem.1 hy
          have := HAL.out t y (by have := HLL.out; omega) (by rw [List.getElem?_eq_getElem ht, e2])
          omega
      have hltj : ¬ (j : Int) < (j : Int) := by omega
      by_cases h3 : M.hf = true ∧ M.fi ≠ x
      · obtain ⟨e1, e2⟩ := HFU.out hwf h3.1 h3.2
        have HEE := Lib.hid (And.intro e1 e2)
        rw [h3.1] at k17
        have h4 : (M.fi == x) = false := by simpa using h3.2
        have h5 : (M.fi != x) = true := by unfold bne; rw [h4]; rfl
        clear e1 e2 h3 hwf
        go_wp2_with (first | (refine wpi_load rfl _ rfl rfl HA1.out ?_) | (refine wpi_store rfl _ _ rfl rfl rfl HA2.out rfl ?_; intro wA haA htA; have HAA := Lib.hid haA; have HTA := Lib.hid htA; clear haA htA))
        exact bodyPost_ret (v := .tuple #[riV c M p, .int .i64 16]) (res_rifin rfl rfl HAA.out) rfl (by rw [HEE.out.1, HEE.out.2]; exact ⟨p, X, rfl, HR.out.tn HA2.out HTA.out, HTA.out.below HB1.out HB1.out.size fun i hi e => by have e : i = w.heap.size + 1 := e; omega⟩)
      · obtain ⟨e1, e2⟩ := HFS.out hwf h3
        have HEE : Hid (finE M x = 0 ∧ finM M x = { M with fi := x, hf := true }) := Lib.hid (And.intro e1 e2)
        have h4 : M.hf = false ∨ (M.hf = true ∧ M.fi = x) := by
          cases e : M.hf
          · exact .inl rfl
          · exact .inr ⟨rfl, Classical.byContradiction fun q => h3 ⟨e, q⟩⟩
        obtain ⟨M', hM'⟩ : ∃ M' : IbM, M' = { M with fi := x, hf := true } := ⟨_, rfl⟩
        have HM' := Lib.hid hM'
        have HA7 : Hid (At ((wr.setCell ⟨w.heap.size, 17, none⟩ (.bool true)).setCell ⟨w.heap.size, 16, none⟩ (.int .u32 x)) w.heap.size tI (ri c M' p)) := Lib.hid (by rw [hM']; exact HA1.out.fin2 x)
        have TT : Tn (fun i => i = w.heap.size) wr ((wr.setCell ⟨w.heap.size, 17, none⟩ (.bool true)).setCell ⟨w.heap.size, 16, none⟩ (.int .u32 x)) := ((Tn.refl (fun i => i = w.heap.size) wr).set ⟨w.heap.size, 17, none⟩ _ (fun _ => rfl)).set ⟨w.heap.size, 16, none⟩ _ (fun _ => rfl)
        have HB7 := Lib.hid (HA2.out.tn TT (show ¬ (w.heap.size + 1) = w.heap.size by omega))
        have HR7 : Hid (RiM ((wr.setCell ⟨w.heap.size, 17, none⟩ (.bool true)).setCell ⟨w.heap.size, 16, none⟩ (.int .u32 x)) M' p S X) := Lib.hid (by
          have r := HR.out.tn HA1.out TT
          rw [hM']
          exact ⟨r.o, r.om, r.oc, r.on, r.s, r.sc, r.sn, r.rel⟩)
        have HT7 := Lib.hid (TT.below HB1.out HB1.out.size (fun i hi e => by have e : i = w.heap.size := e; omega))
        rw [← hM'] at HEE
        clear e1 e2 h3 hwf hM' TT
        rcases h4 with h4 | ⟨h4, h5⟩
        · rw [h4] at k17
          clear h4
          go_upto_region 13 with fail
          generalize (wr.setCell ⟨w.heap.size, 17, none⟩ (.bool true)).setCell ⟨w.heap.size, 16, none⟩ (.int .u32 x) = w7 at *
          go_wp2_with (first | (refine wpi_load rfl _ rfl rfl HA7.out ?_) | (refine wpi_store rfl _ _ rfl rfl rfl HB7.out rfl ?_; intro wA haA htA; have HAA := Lib.hid haA; have HTA := Lib.hid htA; clear haA htA))
          exact bodyPost_ret (v := .tuple #[riV c M' p, .int .i64 0]) (res_rifin rfl rfl HAA.out) rfl (by rw [HEE.out.1, HEE.out.2]; exact ⟨p, X, rfl, HR7.out.tn HB7.out HTA.out, HTA.out.below HT7.out HT7.out.size fun i hi e => by have e : i = w.heap.size + 1 := e; omega⟩)
        · rw [h4] at k17
          have h6 : (M.fi == x) = true := by simpa using h5
          have h7 : (M.fi != x) = false := by unfold bne; rw [h6]; rfl
          clear h4 h5
          go_upto_region 13 with fail
          generalize (wr.setCell ⟨w.heap.size, 17, none⟩ (.bool true)).setCell ⟨w.heap.size, 16, none⟩ (.int .u32 x) = w7 at *
          go_wp2_with (first | (refine wpi_load rfl _ rfl rfl HA7.out ?_) | (refine wpi_store rfl _ _ rfl rfl rfl HB7.out rfl ?_; intro wA haA htA; have HAA := Lib.hid haA; have HTA := Lib.hid htA; clear haA htA))
          exact bodyPost_ret (v := .tuple #[riV c M' p, .int .i64 0]) (res_rifin rfl rfl HAA.out) rfl (by rw [HEE.out.1, HEE.out.2]; exact ⟨p, X, rfl, HR7.out.tn HB7.out HTA.out, HTA.out.below HT7.out HT7.out.size fun i hi e => by have e : i = w.heap.size + 1 := e; omega⟩)
end Go.Proofs.Ytedecminaopgaaa

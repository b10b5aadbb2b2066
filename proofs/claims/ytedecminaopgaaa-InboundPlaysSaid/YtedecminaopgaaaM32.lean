/- Proved: lemmas of one statement's proof, merged by program: what each part proves stands ahead of it. Conditions: those that the lemmas name. -/
import Derived.Test.YtedecminaopgaaaM31

/- Proved: what the document's Read, New of what a stream takes answer. Conditions: those that the theorems name. -/
namespace Go.Proofs.Ytedecminaopgaaa
open Go.ChangeShapes Go.WideShapes Go.ChangeAt Go.RowKit

/-- A state, a text and a number come back. -/
def GivesRi3 (c : Cf) (M : IbM) (S : List Int) (W : World) (s : ByteArray) (v : Value) (e : Ending) (w' : World) : Prop :=
  ∃ p X, e = .returned (.tuple #[riV c M p, .string s, v]) ∧ RiM w' M p S X ∧ Below W.heap.size W w'
set_option maxRecDepth 100000 in
set_option maxHeartbeats 1600000 in
theorem ri_Read (c : Cf) (M : IbM) (p : RiP) (S : List Int) (X : List Xb) (z : Int) (w : World) (h : RiM w M p S X) (hs : M.s.size ≤ 1048576) :
    Calls Try.prog 35 #[riV c M p, .int .i64 z] w (GivesRi3 c (rdM M z) S w (rdS M z) (.int .i64 (rdE M z))) := by
  obtain ⟨W, HW, A1, A2, B1, hsz⟩ := riboxes c M p w
  have HR := Lib.hid (h.below B1)
  have HA1 := Lib.hid A1
  have HA2 := Lib.hid A2
  have HB1 := Lib.hid B1
  have HS : Hid (W.heap.size = w.heap.size + 2) := Lib.hid hsz
  have HE := Lib.hid (fun V => ri_ended c M p V)
  have k15 := A1.cell 15 rfl
  have f15 := A1.free 15
  clear A1 A2 B1 hsz h
  by_cases h1 : z < 1
  · have e1 : rdE M z = 1 := if_pos h1
    have e2 : rdM M z = M := if_neg (by rw [e1]; decide)
    have e3 : rdS M z = S0 := if_neg (by rw [e1]; decide)
    rw [e1, e2, e3]
    clear e1 e2 e3 HE hs
    go_enter Try.func35, Try.ntmps35
    go_upto_region 1 with fail
    change Code.wp _ _ _ _ ((w.alloc (.cells (ri c M p).toArray tI)).alloc (.cells riZ.toArray tI))
    rw [← HW]; clear HW
    go_wp2_with (first | (refine wpi_load rfl _ rfl rfl HA1.out ?_) | (refine wpi_store rfl _ _ rfl rfl rfl HA2.out rfl ?_; intro wA haA htA; have HAA := Lib.hid haA; have HTA := Lib.hid htA; clear haA htA))
    exact bodyPost_ret (v := .tuple #[riV c M p, .string S0, .int .i64 1]) (res_riread rfl rfl rfl HAA.out) rfl ⟨p, X, rfl, HR.out.tn HA2.out HTA.out, HTA.out.below HB1.out HB1.out.size fun i hi e => by have e : i = w.heap.size + 1 := e; omega⟩
  have hsame := em_same M.s
  cases he : emB M.s
  · have he1 : M.s.toList.isEmpty = false := he
    rw [he] at hsame
    have hpos := em_pos he
    have hz : ¬ (M.s.size = 0 ∧ endZ M = true) := fun q => by omega
    have e1 : rdE M z = 0 := by unfold rdE; rw [if_neg h1, if_neg hz]
    have e2 : rdM M z = { M with s := M.s.extract (rdK M z) M.s.size, hd := M.hd - (rdK M z : Int) } := if_pos e1
    have e3 : rdS M z = M.s.extract 0 (rdK M z) := if_pos e1
    have hk : min z (M.s.size : Int) = (rdK M z : Int) := by unfold rdK; omega
    have hk1 : (rdK M z : Int) ≤ (M.s.size : Int) := by omega
    obtain ⟨M', hM'⟩ : ∃ M' : IbM, M' = { M with s := M.s.extract (rdK M z) M.s.size, hd := M.hd - (rdK M z : Int) } := ⟨_, rfl⟩
    rw [e1, e2, e3, ← hM']
    have hM2 : M' = { M with s := M'.s, hd := M'.hd } := by rw [hM']
    have hMs : M'.s = M.s.extract (rdK M z) M.s.size := by rw [hM']
    have HM2 := Lib.hid hM2
    clear e1 e2 e3 hM' hM2 he hz
    generalize rdK M z = k at *
    have hk0 : (0 : Int) ≤ (k : Int) := Int.natCast_nonneg _
    obtain ⟨t, ht⟩ : ∃ t, M.s = t := ⟨_, rfl⟩
    rw [ht] at k15 hsame he1 hpos hk hk1 hMs hs ⊢
    have hsl1 : ∀ W, (Instr.slice 9 (Value.string t) none (some (Value.int .i64 (k : Int))) none).run Try.prog W = .ok (Value.string (t.extract 0 k)) W := fun W => by
      rw [run_slice_string_to_if W 9 t .i64 (k : Int) Try.underlying9, if_pos ⟨by omega, by omega⟩]; rfl
    have hsl2 : ∀ W, (Instr.slice 9 (Value.string t) (some (Value.int .i64 (k : Int))) none none).run Try.prog W = .ok (Value.string (t.extract k t.size)) W := fun W => by
      rw [run_slice_string_from_if W 9 t .i64 _ Try.underlying9, if_pos ⟨by omega, by omega⟩]; rfl
    rw [← hMs] at hsl2
    have HA7 : Hid (At (W.setCell ⟨w.heap.size, 15, none⟩ (.string M'.s)) w.heap.size tI (ri c M' p)) := Lib.hid (by
      have a := HA1.out.set_ 15 (.string M'.s)
      rw [HM2.out]
      exact a)
    have TT : Tn (fun i => i = w.heap.size) W (W.setCell ⟨w.heap.size, 15, none⟩ (.string M'.s)) := (Tn.refl (fun i => i = w.heap.size) W).set _ _ (fun _ => rfl)
    have HB7 := Lib.hid (HA2.out.tn TT (show ¬ (w.heap.size + 1) = w.heap.size by omega))
    have HR7 : Hid (RiM (W.setCell ⟨w.heap.size, 15, none⟩ (.string M'.s)) M' p S X) := Lib.hid (by
      have r := HR.out.tn HA1.out TT
      rw [HM2.out]
      exact ⟨r.o, r.om, r.oc, r.on, r.s, r.sc, r.sn, r.rel⟩)
    have HT7 := Lib.hid (TT.below HB1.out HB1.out.size (fun i hi e => by have e : i = w.heap.size := e; omega))
    clear TT hMs ht HE
    go_enter Try.func35, Try.ntmps35
    go_upto_region 1 with fail
    change Code.wp _ _ _ _ ((w.alloc (.cells (ri c M p).toArray tI)).alloc (.cells riZ.toArray tI))
    rw [← HW]; clear HW
    go_upto_region 7 with fail
    generalize W.setCell ⟨w.heap.size, 15, none⟩ (.string M'.s) = w7 at *
    clear k15 f15
    go_wp2_with (first | (refine wpi_load rfl _ rfl rfl HA7.out ?_) | (refine wpi_store rfl _ _ rfl rfl rfl HB7.out rfl ?_; intro wA haA htA; have HAA := Lib.hid haA; have HTA := Lib.hid htA; clear haA htA))
    exact bodyPost_ret (v := .tuple #[riV c M' p, .string (t.extract 0 k), .int .i64 0]) (res_riread rfl rfl rfl HAA.out) rfl ⟨p, X, rfl, HR7.out.tn HB7.out HTA.out, HTA.out.below HT7.out HT7.out.size fun i hi e => by have e : i = w.heap.size + 1 := e; omega⟩
  · have he1 : M.s.toList.isEmpty = true := he
    rw [he] at hsame
    have hS := em_is.1 he
    have h0 : M.s.size = 0 := by rw [hS]; rfl
    cases hn : endZ M
    · have hz : ¬ (M.s.size = 0 ∧ endZ M = true) := fun q => by rw [hn] at q; cases q.2
      have e1 : rdE M z = 0 := by unfold rdE; rw [if_neg h1, if_neg hz]
      have hk : rdK M z = 0 := by unfold rdK; omega
      have hx : M.s.extract 0 M.s.size = M.s := rg_rest_none _
      have hx0 : M.s.extract 0 0 = S0 := by
        have : (M.s.extract 0 0).size = 0 := by rw [rg_cut_size]; omega
        exact size_zero this
      have e2 : LikeM M (rdM M z) := by
        rw [show rdM M z = { M with s := M.s.extract (rdK M z) M.s.size, hd := M.hd - (rdK M z : Int) } from if_pos e1, hk]
        exact ⟨rfl, rfl, hx.symm, rfl, rfl, rfl⟩
      have e3 : rdS M z = S0 := by rw [show rdS M z = M.s.extract 0 (rdK M z) from if_pos e1, hk, hx0]
      have HL := Lib.hid e2
      have HE0 := Lib.hid (fun V => HE.out V)
      rw [hn] at HE0
      rw [e1, e3]
      clear e1 e2 e3 hn hk hx hx0 hz HE he hS h0
      go_enter Try.func35, Try.ntmps35
      go_upto_region 1 with fail
      change Code.wp _ _ _ _ ((w.alloc (.cells (ri c M p).toArray tI)).alloc (.cells riZ.toArray tI))
      rw [← HW]; clear HW
      go_wp2_with (first | (refine wpi_load rfl _ rfl rfl HA1.out ?_) | (refine wpi_store rfl _ _ rfl rfl rfl HA2.out rfl ?_; intro wA haA htA; have HAA := Lib.hid haA; have HTA := Lib.hid htA; clear haA htA))
      refine (HE0.out _).mono ?_; rintro e w2 ⟨rfl, g2⟩
      have HA3 := Lib.hid (HA1.out.below g2 HA1.out.lt)
      have HA4 := Lib.hid (HA2.out.below g2 HA2.out.lt)
      have HR2 := Lib.hid (HR.out.below g2)
      have HB2 := Lib.hid (HB1.out.trans (g2.mono HB1.out.size))
      clear g2
      go_wp2_with (first | (refine wpi_load rfl _ rfl rfl HA3.out ?_) | (refine wpi_store rfl _ _ rfl rfl rfl HA4.out rfl ?_; intro wA haA htA; have HAA := Lib.hid haA; have HTA := Lib.hid htA; clear haA htA))
      exact bodyPost_ret (v := .tuple #[riV c M p, .string S0, .int .i64 0]) (res_riread rfl rfl rfl HAA.out) rfl ⟨p, X, by rw [HL.out.val], HL.out.mem (HR2.out.tn HA4.out HTA.out), HTA.out.below HB2.out HB2.out.size fun i hi e => by have e : i = w.heap.size + 1 := e; omega⟩
    · have e1 : rdE M z = 13 := by unfold rdE; rw [if_neg h1, if_pos ⟨h0, hn⟩]
      have e2 : rdM M z = M := if_neg (by rw [e1]; decide)
      have e3 : rdS M z = S0 := if_neg (by rw [e1]; decide)
      have HE0 := Lib.hid (fun V => HE.out V)
      rw [hn] at HE0
      rw [e1, e2, e3]
      clear e1 e2 e3 hn HE he hS h0
      go_enter Try.func35, Try.ntmps35
      go_upto_region 1 with fail
      change Code.wp _ _ _ _ ((w.alloc (.cells (ri c M p).toArray tI)).alloc (.cells riZ.toArray tI))
      rw [← HW]; clear HW
      go_wp2_with (first | (refine wpi_load rfl _ rfl rfl HA1.out ?_) | (refine wpi_store rfl _ _ rfl rfl rfl HA2.out rfl ?_; intro wA haA htA; have HAA := Lib.hid haA; have HTA := Lib.hid htA; clear haA htA))
      refine (HE0.out _).mono ?_; rintro e w2 ⟨rfl, g2⟩
      have HA3 := Lib.hid (HA1.out.below g2 HA1.out.lt)
      have HA4 := Lib.hid (HA2.out.below g2 HA2.out.lt)
      have HR2 := Lib.hid (HR.out.below g2)
      have HB2 := Lib.hid (HB1.out.trans (g2.mono HB1.out.size))
      clear g2
      go_wp2_with (first | (refine wpi_load rfl _ rfl rfl HA3.out ?_) | (refine wpi_store rfl _ _ rfl rfl rfl HA4.out rfl ?_; intro wA haA htA; have HAA := Lib.hid haA; have HTA := Lib.hid htA; clear haA htA))
      exact bodyPost_ret (v := .tuple #[riV c M p, .string S0, .int .i64 13]) (res_riread rfl rfl rfl HAA.out) rfl ⟨p, X, rfl, HR2.out.tn HA4.out HTA.out, HTA.out.below HB2.out HB2.out.size fun i hi e => by have e : i = w.heap.size + 1 := e; omega⟩
set_option maxRecDepth 100000 in
set_option maxHeartbeats 1600000 in
theorem ri_New (c : Cf) (M : IbM) (w : World) (h1 : M.B = 0) (h2 : M.n = c.w) (h3 : M.s = S0) (h4 : M.fi = 0) (h5 : M.hf = false) (h6 : M.L = []) :
    Calls Try.prog 9 #[c.val] w fun e w' => e = .returned (riV c M ⟨none, 0, 0, none, 0, 0⟩) ∧ RiM w' M ⟨none, 0, 0, none, 0, 0⟩ [] [] ∧ Below w.heap.size w w' := by
  have HV : Hid (∀ w' : World, RiM w' M ⟨none, 0, 0, none, 0, 0⟩ [] []) := Lib.hid fun w' => ⟨Tw.nil _ _ _, rfl, Nat.le_refl _, fun _ => rfl, Uw.nil _ _, Nat.le_refl _, fun _ => rfl, by rw [h6]; exact Rel.nil _⟩
  obtain ⟨a0, a1, a2, a3, a4, a5, a6, a7, a8, a9, a10⟩ := c
  have HC : Hid (riV ⟨a0, a1, a2, a3, a4, a5, a6, a7, a8, a9, a10⟩ M ⟨none, 0, 0, none, 0, 0⟩ = .agg #[.int .i64 a0, .int .i64 a1, .int .i64 a2, .int .i64 a3, .int .i64 a4, .int .i64 a5, .int .i64 a6, .int .i64 a7, .int .i64 a8, .int .i64 a9, .int .i64 a10, .int .u32 0, .int .i64 a3, .slice none 0 0, .slice none 0 0, .string S0, .int .u32 0, .bool false]) := Lib.hid (by
    unfold riV ri
    rw [h1, h2, h3, h4, h5])
  have k0 : ∀ W : World, True := fun _ => trivial
  obtain ⟨W, HW⟩ : ∃ W, W = (w.alloc (.cells #[.int .i64 a0, .int .i64 a1, .int .i64 a2, .int .i64 a3, .int .i64 a4, .int .i64 a5, .int .i64 a6, .int .i64 a7, .int .i64 a8, .int .i64 a9, .int .i64 a10] 23)).alloc (.cells riZ.toArray tI) := ⟨_, rfl⟩
  have A1 : At W w.heap.size 23 [.int .i64 a0, .int .i64 a1, .int .i64 a2, .int .i64 a3, .int .i64 a4, .int .i64 a5, .int .i64 a6, .int .i64 a7, .int .i64 a8, .int .i64 a9, .int .i64 a10] := by
    rw [HW]
    exact (At.new w 23 [.int .i64 a0, .int .i64 a1, .int .i64 a2, .int .i64 a3, .int .i64 a4, .int .i64 a5, .int .i64 a6, .int .i64 a7, .int .i64 a8, .int .i64 a9, .int .i64 a10]).alloc _
  have A2 : At W (w.heap.size + 1) tI riZ := by
    rw [HW]
    have h := At.new (w.alloc (.cells #[.int .i64 a0, .int .i64 a1, .int .i64 a2, .int .i64 a3, .int .i64 a4, .int .i64 a5, .int .i64 a6, .int .i64 a7, .int .i64 a8, .int .i64 a9, .int .i64 a10] 23)) tI riZ
    simpa using h
  have HB1 : Hid (Below w.heap.size w W) := Lib.hid (by rw [HW]; exact ((Below.refl _ _).alloc (Nat.le_refl _) _).alloc (by simp) _)
  have HA2 := Lib.hid A2
  have k0 := A1.cell 0 rfl
  have k1 := A1.cell 1 rfl
  have k2 := A1.cell 2 rfl
  have k3 := A1.cell 3 rfl
  have k4 := A1.cell 4 rfl
  have k5 := A1.cell 5 rfl
  have k6 := A1.cell 6 rfl
  have k7 := A1.cell 7 rfl
  have k8 := A1.cell 8 rfl
  have k9 := A1.cell 9 rfl
  have k10 := A1.cell 10 rfl
  clear A1 A2 h1 h2 h3 h4 h5 h6
  unfold Cf.val
  dsimp only
  go_enter Try.func9, Try.ntmps9
  go_upto_region 1 with fail
  change Code.wp _ _ _ _ ((w.alloc (.cells #[.int .i64 a0, .int .i64 a1, .int .i64 a2, .int .i64 a3, .int .i64 a4, .int .i64 a5, .int .i64 a6, .int .i64 a7, .int .i64 a8, .int .i64 a9, .int .i64 a10] 23)).alloc (.cells riZ.toArray tI))
  rw [← HW]; clear HW
  go_wp2_with (refine wpi_store (c := ⟨a0, a1, a2, a3, a4, a5, a6, a7, a8, a9, a10⟩) (M := M) (p := ⟨none, 0, 0, none, 0, 0⟩) rfl _ _ rfl rfl (by rw [HC.out]; rfl) HA2.out rfl ?_; intro wA haA htA; have HAA := Lib.hid haA; have HTA := Lib.hid htA; clear haA htA)
  exact bodyPost_ret (v := riV ⟨a0, a1, a2, a3, a4, a5, a6, a7, a8, a9, a10⟩ M ⟨none, 0, 0, none, 0, 0⟩) (res_rinew rfl HAA.out) rfl ⟨rfl, HV.out _, HTA.out.below HB1.out HB1.out.size fun i hi e => by have e : i = w.heap.size + 1 := e; omega⟩
end Go.Proofs.Ytedecminaopgaaa

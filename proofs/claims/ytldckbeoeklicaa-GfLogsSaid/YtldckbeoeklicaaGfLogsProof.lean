/- Proved: for every two bytes the law GfLogs answers true (a product's log is the sum of the logs going round at 255; logs and powers undo each other), and its arguments read afterwards as before. Conditions: none. -/
import Derived.Test.YtldckbeoeklicaaRows
import Derived.Test.YtldckbeoeklicaaCalls
import Derived.WalkKit
import Derived.ProofKit
import Derived.OpenShut
namespace Go.Proofs.Ytldckbeoeklicaa.gfLogs
open Go.ChangeShapes Go.WideShapes Go.ChangeAt Go.RowKit
set_option linter.unusedVariables false      -- a walk need not use every 'w<i>' (that an integer argument fits its kind)

theorem own : ownKnob Try.prog.godebug = none := by kernel_rfl

/-! ### the walk -/
theorem exp_lg (a : Nat) (h0 : a ≠ 0) (ha : a < 256) (w : World) :
    Calls Try.prog 17 #[.int .i64 (lg a : Nat)] w fun e w' => e = .returned (.int .u8 a) ∧ w = w' := by
  have h := exp_any (lg a : Nat) w
  rw [gexp_nat, pw_lg a h0 ha] at h
  exact h
theorem exp_sum (a b : Nat) (ha0 : a ≠ 0) (ha : a < 256) (hb0 : b ≠ 0) (hb : b < 256) (w : World) :
    Calls Try.prog 17 #[.int .i64 ((lg a : Int) + (lg b : Int))] w fun e w' => e = .returned (.int .u8 (gmul a b : Nat)) ∧ w = w' := by
  have h := exp_any ((lg a + lg b : Nat) : Int) w
  rw [gexp_nat, ← gmul_lg a b ha0 ha hb0 hb] at h
  exact h
theorem log_prod (a b : Nat) (ha0 : a ≠ 0) (ha : a < 256) (hb0 : b ≠ 0) (hb : b < 256) (w : World) :
    Calls Try.prog 15 #[.int .u8 (gmul a b : Nat)] w fun e w' => e = .returned (.tuple #[.int .i64 (((lg a : Int) + (lg b : Int)) % 255), .int .i64 0]) ∧ Grown w w' := by
  have h := log_any (gmul a b) (gmul_ne a b ha0 ha hb0 hb) (gmul_lt b ha) w
  rw [lg_gmul a b ha0 ha hb0 hb] at h
  exact h
set_option maxHeartbeats 800000 in
theorem walkN (a b : Nat) (ha0 : a ≠ 0) (ha : a < 256) (hb0 : b ≠ 0) (hb : b < 256) (w : World) :
    Calls Try.prog 6 #[.int .u8 a, .int .u8 b] w fun e w' => e = .returned (.bool true) ∧ Grown w w' := by
  have hna : ((a : Int) == 0) = false := by simpa using ha0
  have hnb : ((b : Int) == 0) = false := by simpa using hb0
  have hla := lg_lt a ha0 ha
  have hlb := lg_lt b hb0 hb
  have L1 := Lib.hid (log_any a ha0 ha)
  have L2 := Lib.hid (log_any b hb0 hb)
  have L3 := Lib.hid (log_prod a b ha0 ha hb0 hb)
  have E1 := Lib.hid (exp_lg a ha0 ha)
  have E2 := Lib.hid (exp_sum a b ha0 ha hb0 hb)
  clear ha0 hb0
  generalize lg a = x at *
  generalize lg b = y at *
  go_enter Try.func6, Try.ntmps6
  go_wp2_with fail
  refine (L1.out _).mono ?_; rintro e w1 ⟨rfl, g1⟩
  go_wp2_with fail
  refine (L2.out _).mono ?_; rintro e w2 ⟨rfl, g2⟩
  go_wp2_with fail
  refine (mul_any a b ha hb _).mono ?_; rintro e w3 ⟨rfl, rfl⟩
  go_wp2_with fail
  refine (L3.out _).mono ?_; rintro e w3 ⟨rfl, g3⟩
  have G := Lib.hid (grown_trans (grown_trans g1 g2) g3)
  clear g1 g2 g3
  go_wp2_with fail
  refine (E1.out _).mono ?_; rintro e w4 ⟨rfl, rfl⟩
  go_wp2_with fail
  refine (E2.out _).mono ?_; rintro e w4 ⟨rfl, rfl⟩
  go_wp2_with fail
  refine (mul_any a b ha hb _).mono ?_; rintro e w4 ⟨rfl, rfl⟩
  go_wp2_with fail
  refine (awake_any _).mono ?_; rintro e w4 ⟨rfl, g4⟩
  go_wp2_with fail
  go_ret
  exact ⟨rfl, grown_trans G.out g4⟩
theorem mul_zl (b : Nat) (hb : b < 256) (w : World) : Calls Try.prog 12 #[.int .u8 0, .int .u8 b] w fun e w' => e = .returned (.int .u8 0) ∧ w = w' := by
  have h := mul_any 0 b (by decide) hb w
  rw [gmul_zero_left b hb] at h
  exact h
theorem mul_zr (a : Nat) (ha : a < 256) (w : World) : Calls Try.prog 12 #[.int .u8 a, .int .u8 0] w fun e w' => e = .returned (.int .u8 0) ∧ w = w' := by
  have h := mul_any a 0 ha (by decide) w
  rw [gmul_zero a ha] at h
  exact h
set_option maxHeartbeats 400000 in
theorem walkZ (b : Nat) (hb : b < 256) (w : World) :
    Calls Try.prog 6 #[.int .u8 0, .int .u8 b] w fun e w' => e = .returned (.bool true) ∧ Grown w w' := by
  go_enter Try.func6, Try.ntmps6
  go_wp2_with fail
  refine (mul_zl b hb _).mono ?_; rintro e w1 ⟨rfl, rfl⟩
  go_wp2_with fail
  refine (awake_any _).mono ?_; rintro e w4 ⟨rfl, g4⟩
  go_wp2_with fail
  go_ret
  exact ⟨rfl, g4⟩
set_option maxHeartbeats 400000 in
theorem walkY (a : Nat) (h0 : a ≠ 0) (ha : a < 256) (w : World) :
    Calls Try.prog 6 #[.int .u8 a, .int .u8 0] w fun e w' => e = .returned (.bool true) ∧ Grown w w' := by
  have hna : ((a : Int) == 0) = false := by simpa using h0
  clear h0
  go_enter Try.func6, Try.ntmps6
  go_wp2_with fail
  refine (mul_zr a ha _).mono ?_; rintro e w1 ⟨rfl, rfl⟩
  go_wp2_with fail
  refine (awake_any _).mono ?_; rintro e w4 ⟨rfl, g4⟩
  go_wp2_with fail
  go_ret
  exact ⟨rfl, g4⟩
theorem walk (a0 : Int) (a1 : Int) (w0 : (Lit.int .u8 a0).wf = true) (w1 : (Lit.int .u8 a1).wf = true) (w : World) :
    Calls Try.prog 6 #[.int .u8 a0, .int .u8 a1] w fun e w' => e = .returned (.bool true) ∧ Grown w w' := by
  have b0 := bounds_u8 w0
  have b1 := bounds_u8 w1
  obtain ⟨a, rfl⟩ := Int.eq_ofNat_of_zero_le b0.1
  obtain ⟨b, rfl⟩ := Int.eq_ofNat_of_zero_le b1.1
  by_cases ha0 : a = 0
  · subst ha0; exact walkZ b (by omega) w
  · by_cases hb0 : b = 0
    · subst hb0; exact walkY a ha0 (by omega) w
    · exact walkN a b ha0 (by omega) hb0 (by omega) w

/-! ### THE ROW's STEP: WRITTEN OUT: LEAVE IT -/
set_option maxRecDepth 100000 in
theorem lifted (os : Os) (started : os.Started) (H : Type) (enc : TypeId × Value → H) :
    ReturnsInHanded {} Try.checked os 6 .any (Rows.gfLogsSpec.pre6 enc Try.prog Try.f6 Rows.gfLogsRow.domain false) (Rows.gfLogsSpec.post enc Try.prog Try.f6 false true false false) := by
  refine returnsInHanded_of_change (C := Try.checked) own started (by kernel_rfl) Try.func6
    (ChangeSpec.witness6 (enc := enc) (C := Try.checked) false ⟨#[], #[.int .u8 0, .int .u8 0], []⟩ 8 (by kernel_rfl) (by kernel_rfl) (by kernel_rfl) (by kernel_rfl)) ?_
  intro W base args ds gs before hval0 hW hcnd _
  have hval : ∀ (j : Nat) t v, Try.f6.params[j]? = some t → args[j]? = some v → Value.okWide Try.prog W .any base t v := hval0
  have hW' := hW
  obtain ⟨p, q, hA0, hV, rfl, hfz, hnd⟩ := hW
  have hA : DataW.TrodAll enc Try.prog W 0 (fun _ => true) true Try.f6.params.toList args.toList ds p := hA0
  rw [Try.params6] at hA hval
  obtain ⟨v0, vs0, d0, ds0, p0, q0, hargs, rfl, rfl, h0, r0⟩ := trodAll_cons hA
  obtain ⟨v1, vs1, d1, ds1, p1, q1, rfl, rfl, rfl, h1, r1⟩ := trodAll_cons r0
  obtain ⟨rfl, rfl, rfl⟩ := trodAll_nil r1
  obtain rfl : args = #[v0, v1] := by cases args; simp_all
  obtain ⟨rfl, rfl⟩ := trodVars_none hV
  obtain ⟨a0, rfl, rfl, rfl, w0⟩ := open_int Try.underlying5 (hval 0 5 v0 rfl rfl) h0
  obtain ⟨a1, rfl, rfl, rfl, w1⟩ := open_int Try.underlying5 (hval 1 5 v1 rfl rfl) h1
  clear hA0 hval0
  simp only [List.append_nil] at hW'
  refine (walk a0 a1 w0 w1 W).mono fun e W' ⟨he, hg⟩ => ?_
  subst he
  exact ⟨_, rfl, post_of_same (pa := []) (pv := []) hW' (fun _ _ _ => (trodAll_cons_mk (shut_bool Try.underlying4 _) trodAll_mk0)) (fun sp _ => (trodAll_cons_mk (shut_int Try.underlying5 w0) (trodAll_cons_mk (shut_int Try.underlying5 w1) trodAll_mk0))) (fun _ _ => rfl) rfl
    (hg.frame _) hg.2.1 (ok_one (by kernel_rfl) rfl (okWide_bool_mk Try.underlying4 _))⟩

theorem over : Rows.gfLogsRow.holds Try.pinned (OpenSpec.ofChange Rows.gfLogsSpec) :=
  OpenClaim.holds_of_wide 6 Try.f6 rfl rfl rfl rfl rfl rfl rfl ⟨rfl, rfl, rfl, rfl, rfl⟩ rfl rfl rfl rfl rfl (by kernel_rfl) Try.func6 (by kernel_rfl)
    (of_decide_eq_true (by kernel_rfl)) (by unfold Func.isWrapper; first | (rw [if_pos (by decide +kernel)]; kernel_rfl) | (rw [if_neg (by decide +kernel)]; exact ⟨rfl, rfl⟩))
    (fun os started H enc _ => lifted os started H enc)

/-- ████ THE STATEMENT ████ -/
theorem proved : Rows.GfLogsSaid :=
  over
#print axioms proved
end Go.Proofs.Ytldckbeoeklicaa.gfLogs

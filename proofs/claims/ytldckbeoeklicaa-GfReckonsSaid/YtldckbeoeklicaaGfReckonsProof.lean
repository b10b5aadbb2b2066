/- Proved: for every two bytes the law GfReckons answers true (sum, product, quotient and inverse of the program are those of the document, or its errors), and its arguments read afterwards as before. Conditions: none. -/
import Derived.Test.YtldckbeoeklicaaRows
import Derived.Test.YtldckbeoeklicaaCalls
import Derived.WalkKit
import Derived.ProofKit
import Derived.OpenShut
namespace Go.Proofs.Ytldckbeoeklicaa.gfReckons
open Go.ChangeShapes Go.WideShapes Go.ChangeAt Go.RowKit
set_option linter.unusedVariables false      -- a walk need not use every 'w<i>' (that an integer argument fits its kind)

theorem own : ownKnob Try.prog.godebug = none := by kernel_rfl

/-! ### the walk -/
def iv (a : Nat) : Nat := if a = 0 then 0 else ginv a
def ie (a : Nat) : Nat := if a = 0 then 1 else 0
def dv (a b : Nat) : Nat := if b = 0 then 0 else gmul a (ginv b)
theorem inv_all (a : Nat) (ha : a < 256) (w : World) :
    Calls Try.prog 7 #[.int .u8 a] w fun e w' => e = .returned (.tuple #[.int .u8 (iv a : Nat), .int .i64 (ie a : Nat)]) ∧ Grown w w' := by
  by_cases h : a = 0
  · subst h; exact inv_zero w
  · unfold iv ie; rw [if_neg h, if_neg h]; exact inv_any a h ha w
theorem rinv_all (a : Nat) (ha : a < 256) (w : World) :
    Calls Try.prog 8 #[.int .u8 a] w fun e w' => e = .returned (.tuple #[.int .u8 (iv a : Nat), .int .i64 (ie a : Nat)]) ∧ w = w' := by
  by_cases h : a = 0
  · subst h; exact rinv_zero w
  · unfold iv ie; rw [if_neg h, if_neg h]; exact rinv_any a h ha w
theorem div_all (a b : Nat) (ha : a < 256) (hb : b < 256) (w : World) :
    Calls Try.prog 9 #[.int .u8 a, .int .u8 b] w fun e w' => e = .returned (.tuple #[.int .u8 (dv a b : Nat), .int .i64 (ie b : Nat)]) ∧ Grown w w' := by
  by_cases h : b = 0
  · subst h; exact div_zero a w
  · unfold dv ie; rw [if_neg h, if_neg h]; exact div_any a b ha h hb w
theorem rdiv_all (a b : Nat) (ha : a < 256) (hb : b < 256) (w : World) :
    Calls Try.prog 10 #[.int .u8 a, .int .u8 b] w fun e w' => e = .returned (.tuple #[.int .u8 (dv a b : Nat), .int .i64 (ie b : Nat)]) ∧ w = w' := by
  by_cases h : b = 0
  · subst h; exact rdiv_zero a w
  · unfold dv ie; rw [if_neg h, if_neg h]; exact rdiv_any a b ha h hb w
set_option maxHeartbeats 400000 in
theorem walkN (a b : Nat) (ha : a < 256) (hb : b < 256) (w : World) :
    Calls Try.prog 3 #[.int .u8 a, .int .u8 b] w fun e w' => e = .returned (.bool true) ∧ Grown w w' := by
  have hx : (((a ^^^ b : Nat) : Int) == bits BinOp.xor IntKind.u8 (a : Int) (b : Int)) = true := by
    rw [u8_xor_nat a b ha hb]; simp
  go_enter Try.func3, Try.ntmps3
  go_wp2_with fail
  refine (inv_all a ha _).mono ?_; rintro e w1 ⟨rfl, g1⟩
  go_wp2_with fail
  refine (rinv_all a ha _).mono ?_; rintro e w2 ⟨rfl, rfl⟩
  go_wp2_with fail
  refine (div_all a b ha hb _).mono ?_; rintro e w2 ⟨rfl, g2⟩
  go_wp2_with fail
  refine (rdiv_all a b ha hb _).mono ?_; rintro e w3 ⟨rfl, rfl⟩
  have G := Lib.hid (grown_trans g1 g2)
  clear g1 g2
  go_wp2_with fail
  refine (add_any a b ha hb _).mono ?_; rintro e w3 ⟨rfl, rfl⟩
  go_wp2_with fail
  refine (mul_any a b ha hb _).mono ?_; rintro e w3 ⟨rfl, rfl⟩
  go_wp2_with fail
  refine (prod_any a b ha hb _).mono ?_; rintro e w3 ⟨rfl, rfl⟩
  go_wp2_with fail
  refine (awake_any _).mono ?_; rintro e w4 ⟨rfl, g3⟩
  go_wp2_with fail
  go_ret
  exact ⟨rfl, grown_trans G.out g3⟩
theorem walk (a0 : Int) (a1 : Int) (w0 : (Lit.int .u8 a0).wf = true) (w1 : (Lit.int .u8 a1).wf = true) (w : World) :
    Calls Try.prog 3 #[.int .u8 a0, .int .u8 a1] w fun e w' => e = .returned (.bool true) ∧ Grown w w' := by
  have b0 := bounds_u8 w0
  have b1 := bounds_u8 w1
  obtain ⟨a, rfl⟩ := Int.eq_ofNat_of_zero_le b0.1
  obtain ⟨b, rfl⟩ := Int.eq_ofNat_of_zero_le b1.1
  exact walkN a b (by omega) (by omega) w

/-! ### THE ROW's STEP: WRITTEN OUT: LEAVE IT -/
set_option maxRecDepth 100000 in
theorem lifted (os : Os) (started : os.Started) (H : Type) (enc : TypeId × Value → H) :
    ReturnsInHanded {} Try.checked os 3 .any (Rows.gfReckonsSpec.pre6 enc Try.prog Try.f3 Rows.gfReckonsRow.domain false) (Rows.gfReckonsSpec.post enc Try.prog Try.f3 false true false false) := by
  refine returnsInHanded_of_change (C := Try.checked) own started (by kernel_rfl) Try.func3
    (ChangeSpec.witness6 (enc := enc) (C := Try.checked) false ⟨#[], #[.int .u8 0, .int .u8 0], []⟩ 8 (by kernel_rfl) (by kernel_rfl) (by kernel_rfl) (by kernel_rfl)) ?_
  intro W base args ds gs before hval0 hW hcnd _
  have hval : ∀ (j : Nat) t v, Try.f3.params[j]? = some t → args[j]? = some v → Value.okWide Try.prog W .any base t v := hval0
  have hW' := hW
  obtain ⟨p, q, hA0, hV, rfl, hfz, hnd⟩ := hW
  have hA : DataW.TrodAll enc Try.prog W 0 (fun _ => true) true Try.f3.params.toList args.toList ds p := hA0
  rw [Try.params3] at hA hval
  obtain ⟨v0, vs0, d0, ds0, p0, q0, hargs, rfl, rfl, h0, r0⟩ := trodAll_cons hA
  obtain ⟨v1, vs1, d1, ds1, p1, q1, rfl, rfl, rfl, h1, r1⟩ := trodAll_cons r0
  obtain ⟨rfl, rfl, rfl⟩ := trodAll_nil r1
  obtain rfl : args = #[v0, v1] := by cases args; simp_all
  obtain ⟨rfl, rfl⟩ := trodVars_none hV
  obtain ⟨a0, rfl, rfl, rfl, w0⟩ := open_int Try.underlying5 (hval 0 5 v0 rfl rfl) h0
  obtain ⟨a1, rfl, rfl, rfl, w1⟩ := open_int Try.underlying5 (hval 1 5 v1 rfl rfl) h1
  clear hA0 hval0
  simp only [List.append_nil] at hW'
  refine (walk a0 a1 w0 w1 W).mono fun e W' ⟨he, hg⟩ => ?_
  subst he
  exact ⟨_, rfl, post_of_same (pa := []) (pv := []) hW' (fun _ _ _ => (trodAll_cons_mk (shut_bool Try.underlying4 _) trodAll_mk0)) (fun sp _ => (trodAll_cons_mk (shut_int Try.underlying5 w0) (trodAll_cons_mk (shut_int Try.underlying5 w1) trodAll_mk0))) (fun _ _ => rfl) rfl
    (hg.frame _) hg.2.1 (ok_one (by kernel_rfl) rfl (okWide_bool_mk Try.underlying4 _))⟩

theorem over : Rows.gfReckonsRow.holds Try.pinned (OpenSpec.ofChange Rows.gfReckonsSpec) :=
  OpenClaim.holds_of_wide 3 Try.f3 rfl rfl rfl rfl rfl rfl rfl ⟨rfl, rfl, rfl, rfl, rfl⟩ rfl rfl rfl rfl rfl (by kernel_rfl) Try.func3 (by kernel_rfl)
    (of_decide_eq_true (by kernel_rfl)) (by unfold Func.isWrapper; first | (rw [if_pos (by decide +kernel)]; kernel_rfl) | (rw [if_neg (by decide +kernel)]; exact ⟨rfl, rfl⟩))
    (fun os started H enc _ => lifted os started H enc)

/-- ████ THE STATEMENT ████ -/
theorem proved : Rows.GfReckonsSaid :=
  over
#print axioms proved
end Go.Proofs.Ytldckbeoeklicaa.gfReckons

/- Proved: what each function of package credit answers. Conditions: those that the theorems name. -/
import Derived.Test.YtgappggllplblaaObj
import Derived.Test.YtgappggllplblaaSerMath
import Derived.Laws.StructEq
import Derived.Deep.RegionHeld3
import Derived.Deep.QuietTactic
import Derived.Deep.DeepCutAuto
import Derived.BigQuiet
import Derived.WalkSpells
import Derived.StillTailTactics
namespace Go.Proofs.Ytgappggllplblaa
open Go.ChangeShapes Go.WideShapes Go.ChangeAt Go.RowKit

/-- may an edge be n past base? -/
def mayB (n : Int) : Bool := decide (0 ≤ n) && decide (n ≤ 65535)
theorem may_iff (n : Int) : mayB n = true ↔ 0 ≤ n ∧ n ≤ 65535 := by unfold mayB; simp
theorem cr_may (n : Int) (w : World) : Calls Try.prog 11 #[.int .i64 n] w fun e w' => e = .returned (.bool (mayB n)) ∧ w = w' := by
  unfold mayB
  by_cases h : 0 ≤ n
  · rw [decide_eq_true h, Bool.true_and]
    go_enter Try.func11, Try.ntmps11
    go_wp2_with fail
    go_ret
    exact ⟨rfl, rfl⟩
  · rw [decide_eq_false h, Bool.false_and]
    go_enter Try.func11, Try.ntmps11
    go_wp2_with fail
    go_ret
    exact ⟨rfl, rfl⟩
/-- base and n, going round. -/
def pl (b n : Int) : Int := (b + n % 4294967296) % 4294967296
theorem pl_u32 (b n : Int) : U32 (pl b n) := by unfold U32 pl; omega
theorem cr_edge (b n : Int) (w : World) : Calls Try.prog 12 #[.int .u32 b, .int .i64 n] w fun e w' => e = .returned (.agg #[.int .u32 (pl b n)]) ∧ Below w.heap.size w w' := by
  unfold pl
  go_enter Try.func12, Try.ntmps12
  go_wp2_with fail
  refine bodyPost_ret (v := .agg #[.int .u32 ((b + n % 4294967296) % 4294967296)]) (by simp [results, Try.results12, go_sem]) rfl ⟨rfl, ?_⟩
  exact (Below.refl _ _).alloc (Nat.le_refl _) _
theorem cr_further (a b : Int) (ha : U32 a) (hb : U32 b) (w : World) : Calls Try.prog 14 #[.agg #[.int .u32 a], .agg #[.int .u32 b]] w fun e w' => e = .returned (.agg #[.int .u32 (maxZ a b)]) ∧ Below w.heap.size w w' := by
  have HM := Lib.hid (fun w => smax_any a b ha hb w)
  clear ha hb
  generalize maxZ a b = m at *
  go_enter Try.func14, Try.ntmps14
  go_wp2_with fail
  refine (HM.out _).mono ?_; rintro e w1 ⟨rfl, rfl⟩
  go_wp2_with fail
  refine bodyPost_ret (v := .agg #[.int .u32 m]) ?_ rfl ⟨rfl, ?_⟩
  · have c0 := (At.new ((w.alloc (.cells #[.int .u32 a] 39)).alloc (.cells #[.int .u32 b] 39)) 39 [.int .u32 m]).cell 0 rfl
    simp only [World.size_alloc] at c0
    simp [results, Try.results14, c0, go_sem]
  · exact (((Below.refl _ _).alloc (Nat.le_refl _) _).alloc (by simp) _).alloc (by simp; omega) _
/-- Block b is an edge that stands at a. -/
def Ce (w : World) (b : Nat) (a : Int) : Prop := At w b 39 [.int .u32 a] ∧ U32 a
/-- is one granted; and where the edge stands then. -/
def grB (a base n : Int) : Bool := mayB n && decide (0 < ah a (pl base n))
def grA (a base n : Int) : Int := if grB a base n = true then pl base n else a
theorem grA_u32 {a : Int} (h : U32 a) (base n : Int) : U32 (grA a base n) := by
  unfold grA; split
  · exact pl_u32 _ _
  · exact h
theorem ah_self (a : Int) : ah a a = 0 := by unfold ah; omega

/-! ### New -/
set_option maxRecDepth 100000 in
theorem cr_new (B n : Int) (w : World) (h : mayB n = true) :
    Calls Try.prog 6 #[.int .u32 B, .int .i64 n] w fun e w' => ∃ b, e = .returned (.tuple #[.pointer (some ⟨b, 0, none⟩), .int .i64 0]) ∧ Ce w' b (pl B n) ∧ w.heap.size ≤ b ∧ Below w.heap.size w w' := by
  have HM := Lib.hid (fun w => cr_may n w)
  rw [h] at HM
  have HE := Lib.hid (fun w => cr_edge B n w)
  have HU := Lib.hid (pl_u32 B n)
  generalize pl B n = a at *
  clear h
  go_enter Try.func6, Try.ntmps6
  go_wp2_with fail
  refine (HM.out _).mono ?_; rintro e w1 ⟨rfl, rfl⟩
  go_wp2_with fail
  refine (HE.out _).mono ?_; rintro e w2 ⟨rfl, g2⟩
  have G2 := Lib.hid g2
  clear g2
  go_wp2_with fail
  go_ret2
  exact ⟨_, rfl, ⟨At.new _ _ [.int .u32 a], HU.out⟩, G2.out.size, G2.out.alloc G2.out.size _⟩
set_option maxRecDepth 100000 in
theorem cr_new_bad (B n : Int) (w : World) (h : mayB n = false) :
    Calls Try.prog 6 #[.int .u32 B, .int .i64 n] w fun e w' => e = .returned (.tuple #[.pointer none, .int .i64 1]) ∧ w = w' := by
  have HM := Lib.hid (fun w => cr_may n w)
  rw [h] at HM
  clear h
  go_enter Try.func6, Try.ntmps6
  go_wp2_with fail
  refine (HM.out _).mono ?_; rintro e w1 ⟨rfl, rfl⟩
  go_wp2_with fail
  go_ret2
  exact ⟨rfl, rfl⟩

/-! ### At, Lets -/
theorem cr_at {w : World} {b : Nat} {a : Int} (h : Ce w b a) :
    Calls Try.prog 9 #[.pointer (some ⟨b, 0, none⟩)] w fun e w' => e = .returned (.int .u32 a) ∧ w = w' := by
  have c0 := h.1.cell 0 rfl
  clear h
  go_enter Try.func9, Try.ntmps9
  go_wp2_with fail
  go_ret
  exact ⟨rfl, rfl⟩
theorem cr_at_nil (w : World) :
    Calls Try.prog 9 #[.pointer none] w fun e w' => e = .returned (.int .u32 0) ∧ w = w' := by
  go_enter Try.func9, Try.ntmps9
  go_wp2_with fail
  go_ret
  exact ⟨rfl, rfl⟩
theorem cr_lets {w : World} {b : Nat} {a x : Int} (h : Ce w b a) (hx : U32 x) :
    Calls Try.prog 10 #[.pointer (some ⟨b, 0, none⟩), .int .u32 x] w fun e w' => e = .returned (.bool (decide (0 < ah x a))) ∧ w = w' := by
  have HL := Lib.hid (fun w => less_any x a hx h.2 w)
  have c0 := h.1.cell 0 rfl
  clear h hx
  generalize decide (0 < ah x a) = s at *
  go_enter Try.func10, Try.ntmps10
  go_wp2_with fail
  refine (HL.out _).mono ?_; rintro e w1 ⟨rfl, rfl⟩
  go_wp2_with fail
  go_ret
  exact ⟨rfl, rfl⟩
theorem cr_lets_nil (x : Int) (w : World) :
    Calls Try.prog 10 #[.pointer none, .int .u32 x] w fun e w' => e = .returned (.bool false) ∧ w = w' := by
  go_enter Try.func10, Try.ntmps10
  go_wp2_with fail
  go_ret
  exact ⟨rfl, rfl⟩

/-! ### Grant -/
theorem cr_grant_nil (x n : Int) (w : World) :
    Calls Try.prog 8 #[.pointer none, .int .u32 x, .int .i64 n] w fun e w' => e = .returned (.bool false) ∧ w = w' := by
  go_enter Try.func8, Try.ntmps8
  go_wp2_with fail
  go_ret
  exact ⟨rfl, rfl⟩
theorem cr_same (a b : Int) (w : World) : (binOp .eql 39 (.agg #[.int .u32 a]) (.agg #[.int .u32 b])).run Try.prog w = .ok (.bool (a == b)) w := by
  rw [run_eql_struct, run_equalIn_agg w _ 39 _ _ (by kernel_rfl) (by kernel_rfl)]
  simp [go_sem, Try.underlying39]
  by_cases h : a = b <;> simp [h]
set_option maxRecDepth 100000 in
set_option maxHeartbeats 1600000 in
theorem cr_grant {w : World} {b : Nat} {a : Int} (h : Ce w b a) (base n : Int) :
    Calls Try.prog 8 #[.pointer (some ⟨b, 0, none⟩), .int .u32 base, .int .i64 n] w fun e w' => e = .returned (.bool (grB a base n)) ∧ Ce w' b (grA a base n) ∧ w.grownBy w' (some b) := by
  have HM := Lib.hid (fun w => cr_may n w)
  cases hm : mayB n
  · rw [hm] at HM
    have e1 : grB a base n = false := by unfold grB; rw [hm]; rfl
    have e2 : grA a base n = a := by unfold grA; rw [e1]; rfl
    rw [e1, e2]
    have HH := Lib.hid h
    clear hm e1 e2 h
    go_enter Try.func8, Try.ntmps8
    go_wp2_with fail
    refine (HM.out _).mono ?_; rintro e w1 ⟨rfl, rfl⟩
    go_wp2_with fail
    go_ret
    exact ⟨rfl, HH.out, grown_refl _ _⟩
  · rw [hm] at HM
    have HE := Lib.hid (fun w => cr_edge base n w)
    have HF := Lib.hid (fun w => cr_further a (pl base n) h.2 (pl_u32 _ _) w)
    have HH := Lib.hid h
    have ES := cr_same (maxZ a (pl base n)) a
    have HA : Hid (∀ W, Below w.heap.size w W → At W b 39 [.int .u32 a]) := Lib.hid fun W g => h.1.below g h.1.lt
    have KP : Hid (∀ W, Below w.heap.size w W → W.cell? ⟨b, 0, none⟩ = some (.int .u32 a)) := Lib.hid fun W g => (HA.out W g).cell 0 rfl
    have QQ : Hid (Below w.heap.size w w.drew) := Lib.hid (Below.refl w.heap.size w).drew
    have hg : (maxZ a (pl base n) == a) = !grB a base n := by
      unfold grB maxZ
      rw [hm, Bool.true_and]
      by_cases q : 0 < ah a (pl base n)
      · have : pl base n ≠ a := by intro e; rw [e, ah_self] at q; omega
        simp [q, this]
      · simp [q]
    have HG : Hid ((grB a base n = true → grA a base n = maxZ a (pl base n)) ∧ (grB a base n = false → grA a base n = a)) := Lib.hid (by
      refine ⟨fun q => ?_, fun q => ?_⟩
      · have q' := q
        unfold grB at q'
        rw [hm, Bool.true_and] at q'
        have : 0 < ah a (pl base n) := of_decide_eq_true q'
        unfold grA maxZ; rw [if_pos q, if_pos this]
      · unfold grA; rw [if_neg (by rw [q]; decide)])
    have hMU : U32 (maxZ a (pl base n)) := by
      unfold maxZ; split
      · exact pl_u32 _ _
      · exact h.2
    have k0 := KP.out _ QQ.out
    have KB : Hid (Below w.heap.size w (w.alloc (.cells #[.int .u32 0] 39)).drew) := Lib.hid ((Below.refl w.heap.size w).alloc (Nat.le_refl _) _).drew
    have XB : Hid (At (w.alloc (.cells #[.int .u32 0] 39)).drew w.heap.size 39 [.int .u32 0]) := Lib.hid (At.new w _ _)
    have KA : (w.alloc (.cells #[.int .u32 0] 39)).drew.cell? ⟨b, 0, none⟩ = some (.int .u32 a) := KP.out _ ((Below.refl w.heap.size w).alloc (Nat.le_refl _) _).drew
    clear hm h
    generalize maxZ a (pl base n) = M at *
    generalize grB a base n = s at *
    generalize grA a base n = r at *
    have HMU : Hid (U32 M) := Lib.hid hMU
    clear hMU
    go_enter Try.func8, Try.ntmps8
    go_upto_region 3 with (refine (HM.out _).mono ?_; rintro e w1 ⟨rfl, rfl⟩)
    go_cut [7] (fun v wx => ∃ g, v = .pointer (some ⟨g, 0, none⟩) ∧ At wx g 39 [.int .u32 M] ∧ w.heap.size ≤ g ∧ Below w.heap.size w wx)
    case first =>
      go_region_held3 (fun w' => w'.cell? ⟨b, 0, none⟩ = some (.int .u32 a))
        (first | go_keep | with_reducible exact KP.out _ QQ.out | with_reducible exact KP.out _ (QQ.out.alloc QQ.out.size _) | exact KA | with_reducible exact KP.out _ (QQ.out.setCell HX.out.2 _))
        (first
        | ((with_reducible refine (HE.out _).mono ?_); rintro e wq ⟨rfl, gq⟩; (first | (have HY : Hid (At wq _ 39 [.int .u32 0] ∧ w.heap.size ≤ _) := Lib.hid ⟨HX.out.1.below gq HX.out.1.lt, HX.out.2⟩; have QN := Lib.hid (QQ.out.trans (gq.mono QQ.out.size)); clear z0 y0 HX; have HX := HY; clear HY; have z0 := HX.out.1.cell 0 rfl; have y0 := HX.out.1.free 0) | (have QN := Lib.hid (QQ.out.trans (gq.mono QQ.out.size))) | (have QN := Lib.hid ((QQ.out.alloc QQ.out.size _).trans (gq.mono (QQ.out.alloc QQ.out.size _).size)); have HX := Lib.hid (And.intro ((At.new _ 39 [.int .u32 0]).below gq (by simp)) QQ.out.size); have z0 := HX.out.1.cell 0 rfl; have y0 := HX.out.1.free 0) | (have QN := Lib.hid (KB.out.trans (gq.mono KB.out.size)); have HX := Lib.hid (And.intro (XB.out.below gq XB.out.lt) (Nat.le_refl w.heap.size)); have z0 := HX.out.1.cell 0 rfl; have y0 := HX.out.1.free 0)); clear gq QQ; have QQ := QN; clear QN)
        | ((with_reducible refine (HF.out _).mono ?_); rintro e wq ⟨rfl, gq⟩; (first | (have HY : Hid (At wq _ 39 [.int .u32 0] ∧ w.heap.size ≤ _) := Lib.hid ⟨HX.out.1.below gq HX.out.1.lt, HX.out.2⟩; have QN := Lib.hid (QQ.out.trans (gq.mono QQ.out.size)); clear z0 y0 HX; have HX := HY; clear HY; have z0 := HX.out.1.cell 0 rfl; have y0 := HX.out.1.free 0) | (have QN := Lib.hid (QQ.out.trans (gq.mono QQ.out.size))) | (have QN := Lib.hid ((QQ.out.alloc QQ.out.size _).trans (gq.mono (QQ.out.alloc QQ.out.size _).size)); have HX := Lib.hid (And.intro ((At.new _ 39 [.int .u32 0]).below gq (by simp)) QQ.out.size); have z0 := HX.out.1.cell 0 rfl; have y0 := HX.out.1.free 0) | (have QN := Lib.hid (KB.out.trans (gq.mono KB.out.size)); have HX := Lib.hid (And.intro (XB.out.below gq XB.out.lt) (Nat.le_refl w.heap.size)); have z0 := HX.out.1.cell 0 rfl; have y0 := HX.out.1.free 0)); clear gq QQ; have QQ := QN; clear QN))
      all_goals
        go_wp2_with fail
        go_meet
        first
          | exact ⟨_, rfl, At.new _ _ [.int .u32 M], QQ.out.size, QQ.out.alloc QQ.out.size _⟩
          | exact ⟨_, rfl, HX.out.1.set_ 0 _, HX.out.2, QQ.out.setCell HX.out.2 _⟩
    case rest =>
      obtain ⟨g, rfl, hx, hgg, hbel⟩ := hcut
      rename World => w5
      have HX := Lib.hid (And.intro hx hgg)
      have HB := Lib.hid hbel
      have HP := HA.out _ hbel
      have HPH := Lib.hid HP
      have c0 := hx.cell 0 rfl
      have c1 := HP.cell 0 rfl
      have f1 := HP.free 0
      clear hx hgg hbel HP k0 KA KB XB KP HA HE HF HM QQ
      cases s
      · have e := HG.out.2 rfl
        subst e
        go_wp2_with fail
        go_quiet (fail)
        go_wp2_with fail
        go_ret
        refine ⟨rfl, ⟨?_, HH.out.2⟩, ?_⟩
        · exact HPH.out
        · exact grown_trans2 (grown_below HB.out _) (grown_drewN _ _ _)
      · have e := HG.out.1 rfl
        subst e
        go_wp2_with fail
        go_quiet (fail)
        go_wp2_with fail
        go_ret
        refine ⟨rfl, ⟨?_, HMU.out⟩, ?_⟩
        · exact HPH.out.set_ 0 _
        · exact grown_trans2 (grown_trans2 (grown_below HB.out _) (grown_drewN _ _ _)) (grown_set _ ⟨b, 0, none⟩ _)
end Go.Proofs.Ytgappggllplblaa

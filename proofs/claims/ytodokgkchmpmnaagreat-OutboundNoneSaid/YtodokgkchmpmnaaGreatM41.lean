/- Proved: lemmas of one statement's proof, merged by program: what each part proves stands ahead of it. Conditions: those that the lemmas name. -/
import Derived.Test.YtodokgkchmpmnaaGreatM22
import Derived.Test.YtodokgkchmpmnaaGreatM27
import Derived.Laws.StructEq
import Derived.Deep.RegionHeld3
import Derived.Deep.QuietTactic
import Derived.Deep.DeepCutAuto
import Derived.BigQuiet
import Derived.WalkSpells
import Derived.StillTailTactics

/- Proved: what each function of package credit answers. Conditions: those that the theorems name. -/
namespace Go.Proofs.YtodokgkchmpmnaaGreat
open Go.ChangeShapes Go.WideShapes Go.ChangeAt Go.RowKit

/-- may an edge be n past base? -/
def mayB (n : Int) : Bool := decide (0 ≤ n) && decide (n ≤ 65535)
theorem may_iff (n : Int) : mayB n = true ↔ 0 ≤ n ∧ n ≤ 65535 := by unfold mayB; simp
theorem cr_may (n : Int) (w : World) : Calls Tryz.prog 56 #[.int .i64 n] w fun e w' => e = .returned (.bool (mayB n)) ∧ w = w' := by
  unfold mayB
  by_cases h : 0 ≤ n
  · rw [decide_eq_true h, Bool.true_and]
    go_enter Tryz.func56, Tryz.ntmps56
    go_wp2_with fail
    go_ret
    exact ⟨rfl, rfl⟩
  · rw [decide_eq_false h, Bool.false_and]
    go_enter Tryz.func56, Tryz.ntmps56
    go_wp2_with fail
    go_ret
    exact ⟨rfl, rfl⟩
/-- base and n, going round. -/
def cpl (b n : Int) : Int := (b + n % 4294967296) % 4294967296
theorem pl_u32 (b n : Int) : U32 (cpl b n) := by unfold U32 cpl; omega
theorem cr_edge (b n : Int) (w : World) : Calls Tryz.prog 58 #[.int .u32 b, .int .i64 n] w fun e w' => e = .returned (.agg #[.int .u32 (cpl b n)]) ∧ Below w.heap.size w w' := by
  unfold cpl
  go_enter Tryz.func58, Tryz.ntmps58
  go_wp2_with fail
  refine bodyPost_ret (v := .agg #[.int .u32 ((b + n % 4294967296) % 4294967296)]) (by simp [results, Tryz.results58, go_sem]) rfl ⟨rfl, ?_⟩
  exact (Below.refl _ _).alloc (Nat.le_refl _) _
theorem cr_further (a b : Int) (ha : U32 a) (hb : U32 b) (w : World) : Calls Tryz.prog 57 #[.agg #[.int .u32 a], .agg #[.int .u32 b]] w fun e w' => e = .returned (.agg #[.int .u32 (maxZ a b)]) ∧ Below w.heap.size w w' := by
  have HM := Lib.hid (fun w => smax_any a b ha hb w)
  clear ha hb
  generalize maxZ a b = m at *
  go_enter Tryz.func57, Tryz.ntmps57
  go_wp2_with fail
  refine (HM.out _).mono ?_; rintro e w1 ⟨rfl, rfl⟩
  go_wp2_with fail
  refine bodyPost_ret (v := .agg #[.int .u32 m]) ?_ rfl ⟨rfl, ?_⟩
  · have c0 := (At.new ((w.alloc (.cells #[.int .u32 a] 111)).alloc (.cells #[.int .u32 b] 111)) 111 [.int .u32 m]).cell 0 rfl
    simp only [World.size_alloc] at c0
    simp [results, Tryz.results57, c0, go_sem]
  · exact (((Below.refl _ _).alloc (Nat.le_refl _) _).alloc (by simp) _).alloc (by simp; omega) _
/-- Block b is an edge that stands at a. -/
def Ce (w : World) (b : Nat) (a : Int) : Prop := At w b 111 [.int .u32 a] ∧ U32 a
/-- is one granted; and where the edge stands then. -/
def grB (a base n : Int) : Bool := mayB n && decide (0 < ah a (cpl base n))
def grA (a base n : Int) : Int := if grB a base n = true then cpl base n else a
theorem ah_self (a : Int) : ah a a = 0 := by unfold ah; omega

/-! ### New -/
set_option maxRecDepth 100000 in
theorem cr_new (B n : Int) (w : World) (h : mayB n = true) :
    Calls Tryz.prog 64 #[.int .u32 B, .int .i64 n] w fun e w' => ∃ b, e = .returned (.tuple #[.pointer (some ⟨b, 0, none⟩), .int .i64 0]) ∧ Ce w' b (cpl B n) ∧ w.heap.size ≤ b ∧ Below w.heap.size w w' := by
  have HM := Lib.hid (fun w => cr_may n w)
  rw [h] at HM
  have HE := Lib.hid (fun w => cr_edge B n w)
  have HU := Lib.hid (pl_u32 B n)
  generalize cpl B n = a at *
  clear h
  go_enter Tryz.func64, Tryz.ntmps64
  go_wp2_with fail
  refine (HM.out _).mono ?_; rintro e w1 ⟨rfl, rfl⟩
  go_wp2_with fail
  refine (HE.out _).mono ?_; rintro e w2 ⟨rfl, g2⟩
  have G2 := Lib.hid g2
  clear g2
  go_wp2_with fail
  go_ret2
  exact ⟨_, rfl, ⟨At.new _ _ [.int .u32 a], HU.out⟩, G2.out.size, G2.out.alloc G2.out.size _⟩
/-! ### At, Lets -/
theorem cr_lets {w : World} {b : Nat} {a x : Int} (h : Ce w b a) (hx : U32 x) :
    Calls Tryz.prog 45 #[.pointer (some ⟨b, 0, none⟩), .int .u32 x] w fun e w' => e = .returned (.bool (decide (0 < ah x a))) ∧ w = w' := by
  have HL := Lib.hid (fun w => less_any x a hx h.2 w)
  have c0 := h.1.cell 0 rfl
  clear h hx
  generalize decide (0 < ah x a) = s at *
  go_enter Tryz.func45, Tryz.ntmps45
  go_wp2_with fail
  refine (HL.out _).mono ?_; rintro e w1 ⟨rfl, rfl⟩
  go_wp2_with fail
  go_ret
  exact ⟨rfl, rfl⟩
/-! ### Grant -/
theorem cr_same (a b : Int) (w : World) : (binOp .eql 111 (.agg #[.int .u32 a]) (.agg #[.int .u32 b])).run Tryz.prog w = .ok (.bool (a == b)) w := by
  rw [run_eql_struct, run_equalIn_agg w _ 111 _ _ (by kernel_rfl) (by kernel_rfl)]
  simp [go_sem, Tryz.underlying111]
  by_cases h : a = b <;> simp [h]
set_option maxRecDepth 100000 in
set_option maxHeartbeats 1600000 in
theorem cr_grant {w : World} {b : Nat} {a : Int} (h : Ce w b a) (base n : Int) :
    Calls Tryz.prog 34 #[.pointer (some ⟨b, 0, none⟩), .int .u32 base, .int .i64 n] w fun e w' => e = .returned (.bool (grB a base n)) ∧ Ce w' b (grA a base n) ∧ w.grownBy w' (some b) := by
  have HM := Lib.hid (fun w => cr_may n w)
  cases hm : mayB n
  · rw [hm] at HM
    have e1 : grB a base n = false := by unfold grB; rw [hm]; rfl
    have e2 : grA a base n = a := by unfold grA; rw [e1]; rfl
    rw [e1, e2]
    have HH := Lib.hid h
    clear hm e1 e2 h
    go_enter Tryz.func34, Tryz.ntmps34
    go_wp2_with fail
    refine (HM.out _).mono ?_; rintro e w1 ⟨rfl, rfl⟩
    go_wp2_with fail
    go_ret
    exact ⟨rfl, HH.out, grown_refl _ _⟩
  · rw [hm] at HM
    have HE := Lib.hid (fun w => cr_edge base n w)
    have HF := Lib.hid (fun w => cr_further a (cpl base n) h.2 (pl_u32 _ _) w)
    have HH := Lib.hid h
    have ES := cr_same (maxZ a (cpl base n)) a
    have HA : Hid (∀ W, Below w.heap.size w W → At W b 111 [.int .u32 a]) := Lib.hid fun W g => h.1.below g h.1.lt
    have KP : Hid (∀ W, Below w.heap.size w W → W.cell? ⟨b, 0, none⟩ = some (.int .u32 a)) := Lib.hid fun W g => (HA.out W g).cell 0 rfl
    have QQ : Hid (Below w.heap.size w w.drew) := Lib.hid (Below.refl w.heap.size w).drew
    have hg : (maxZ a (cpl base n) == a) = !grB a base n := by
      unfold grB maxZ
      rw [hm, Bool.true_and]
      by_cases q : 0 < ah a (cpl base n)
      · have : cpl base n ≠ a := by intro e; rw [e, ah_self] at q; omega
        simp [q, this]
      · simp [q]
    have HG : Hid ((grB a base n = true → grA a base n = maxZ a (cpl base n)) ∧ (grB a base n = false → grA a base n = a)) := Lib.hid (by
      refine ⟨fun q => ?_, fun q => ?_⟩
      · have q' := q
        unfold grB at q'
        rw [hm, Bool.true_and] at q'
        have : 0 < ah a (cpl base n) := of_decide_eq_true q'
        unfold grA maxZ; rw [if_pos q, if_pos this]
      · unfold grA; rw [if_neg (by rw [q]; decide)])
    have hMU : U32 (maxZ a (cpl base n)) := by
      unfold maxZ; split
      · exact pl_u32 _ _
      · exact h.2
    have k0 := KP.out _ QQ.out
    have KB : Hid (Below w.heap.size w (w.alloc (.cells #[.int .u32 0] 111)).drew) := Lib.hid ((Below.refl w.heap.size w).alloc (Nat.le_refl _) _).drew
    have XB : Hid (At (w.alloc (.cells #[.int .u32 0] 111)).drew w.heap.size 111 [.int .u32 0]) := Lib.hid (At.new w _ _)
    have KA : (w.alloc (.cells #[.int .u32 0] 111)).drew.cell? ⟨b, 0, none⟩ = some (.int .u32 a) := KP.out _ ((Below.refl w.heap.size w).alloc (Nat.le_refl _) _).drew
    clear hm h
    generalize maxZ a (cpl base n) = M at *
    generalize grB a base n = s at *
    generalize grA a base n = r at *
    have HMU : Hid (U32 M) := Lib.hid hMU
    clear hMU
    go_enter Tryz.func34, Tryz.ntmps34
    go_upto_region 3 with (refine (HM.out _).mono ?_; rintro e w1 ⟨rfl, rfl⟩)
    go_cut [7] (fun v wx => ∃ g, v = .pointer (some ⟨g, 0, none⟩) ∧ At wx g 111 [.int .u32 M] ∧ w.heap.size ≤ g ∧ Below w.heap.size w wx)
    case first =>
      go_region_held3 (fun w' => w'.cell? ⟨b, 0, none⟩ = some (.int .u32 a))
        (first | go_keep | with_reducible exact KP.out _ QQ.out | with_reducible exact KP.out _ (QQ.out.alloc QQ.out.size _) | exact KA | with_reducible exact KP.out _ (QQ.out.setCell HX.out.2 _))
        (first
        | ((with_reducible refine (HE.out _).mono ?_); rintro e wq ⟨rfl, gq⟩; (first | (have HY : Hid (At wq _ 111 [.int .u32 0] ∧ w.heap.size ≤ _) := Lib.hid ⟨HX.out.1.below gq HX.out.1.lt, HX.out.2⟩; have QN := Lib.hid (QQ.out.trans (gq.mono QQ.out.size)); clear z0 y0 HX; have HX := HY; clear HY; have z0 := HX.out.1.cell 0 rfl; have y0 := HX.out.1.free 0) | (have QN := Lib.hid (QQ.out.trans (gq.mono QQ.out.size))) | (have QN := Lib.hid ((QQ.out.alloc QQ.out.size _).trans (gq.mono (QQ.out.alloc QQ.out.size _).size)); have HX := Lib.hid (And.intro ((At.new _ 111 [.int .u32 0]).below gq (by simp)) QQ.out.size); have z0 := HX.out.1.cell 0 rfl; have y0 := HX.out.1.free 0) | (have QN := Lib.hid (KB.out.trans (gq.mono KB.out.size)); have HX := Lib.hid (And.intro (XB.out.below gq XB.out.lt) (Nat.le_refl w.heap.size)); have z0 := HX.out.1.cell 0 rfl; have y0 := HX.out.1.free 0)); clear gq QQ; have QQ := QN; clear QN)
        | ((with_reducible refine (HF.out _).mono ?_); rintro e wq ⟨rfl, gq⟩; (first | (have HY : Hid (At wq _ 111 [.int .u32 0] ∧ w.heap.size ≤ _) := Lib.hid ⟨HX.out.1.below gq HX.out.1.lt, HX.out.2⟩; have QN := Lib.hid (QQ.out.trans (gq.mono QQ.out.size)); clear z0 y0 HX; have HX := HY; clear HY; have z0 := HX.out.1.cell 0 rfl; have y0 := HX.out.1.free 0) | (have QN := Lib.hid (QQ.out.trans (gq.mono QQ.out.size))) | (have QN := Lib.hid ((QQ.out.alloc QQ.out.size _).trans (gq.mono (QQ.out.alloc QQ.out.size _).size)); have HX := Lib.hid (And.intro ((At.new _ 111 [.int .u32 0]).below gq (by simp)) QQ.out.size); have z0 := HX.out.1.cell 0 rfl; have y0 := HX.out.1.free 0) | (have QN := Lib.hid (KB.out.trans (gq.mono KB.out.size)); have HX := Lib.hid (And.intro (XB.out.below gq XB.out.lt) (Nat.le_refl w.heap.size)); have z0 := HX.out.1.cell 0 rfl; have y0 := HX.out.1.free 0)); clear gq QQ; have QQ := QN; clear QN))
      all_goals
        go_wp2_with fail
        go_meet
        first
          | exact ⟨_, rfl, At.new _ _ [.int .u32 M], QQ.out.size, QQ.out.alloc QQ.out.size _⟩
          | exact ⟨_, rfl, HX.out.1.set_ 0 _, HX.out.2, QQ.out.setCell HX.out.2 _⟩
    case rest =>
      obtain ⟨g, rfl, hx, hgg, hbel⟩ := hcut
      rename World => w5
      have HX := Lib.hid (And.intro hx hgg)
      have HB := Lib.hid hbel
      have HP := HA.out _ hbel
      have HPH := Lib.hid HP
      have c0 := hx.cell 0 rfl
      have c1 := HP.cell 0 rfl
      have f1 := HP.free 0
      clear hx hgg hbel HP k0 KA KB XB KP HA HE HF HM QQ
      cases s
      · have e := HG.out.2 rfl
        subst e
        go_wp2_with fail
        go_quiet (fail)
        go_wp2_with fail
        go_ret
        refine ⟨rfl, ⟨?_, HH.out.2⟩, ?_⟩
        · exact HPH.out
        · exact grown_trans2 (grown_below HB.out _) (grown_drewN _ _ _)
      · have e := HG.out.1 rfl
        subst e
        go_wp2_with fail
        go_quiet (fail)
        go_wp2_with fail
        go_ret
        refine ⟨rfl, ⟨?_, HMU.out⟩, ?_⟩
        · exact HPH.out.set_ 0 _
        · exact grown_trans2 (grown_trans2 (grown_below HB.out _) (grown_drewN _ _ _)) (grown_set _ ⟨b, 0, none⟩ _)
end Go.Proofs.YtodokgkchmpmnaaGreat

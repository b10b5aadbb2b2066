/- Proved: the walk of the law on fairness, its long way. Conditions: those that the theorems name. -/
import Derived.Test.YtplbdeaoeocgkaaDrFair
namespace Go.Proofs.Ytplbdeaoeocgkaa
open Go.ChangeShapes Go.WideShapes Go.ChangeAt Go.RowKit

def F6 (w : World) (b : Nat) (w1 w2 Q : Int) (v1 v2 : Value) (l1 l2 : List Int) (f : Int) (wr : World) : Prop :=
  ∃ L kl R, SB w wr b L Q 16 (fW w1 w2) R ∧ BX w1 w2 wr L w.heap.size ∧ kl w.heap.size = 9 ∧ (∀ j, wr.heap.size ≤ j → kl j = 9) ∧ Zr wr (Kc L kl w.heap.size 1) v1 l1 ∧ Zr wr (Kc L kl w.heap.size 2) v2 l2 ∧ Phi Q w1 w2 R f ∧ 1 < lenR R 1 ∧ 1 < lenR R 2 ∧ R ≠ []
theorem f_cases (w1 w2 A C : Int) (x : It) (h1 : 1 ≤ x.2) (h2 : x.2 ≤ 16) :
    (∃ A2 C2, x.1 = 1 ∧ A + x.2 = A2 ∧ C2 = C ∧ (A ≤ A2 ∧ A2 ≤ A + 16) ∧ (C ≤ C2 ∧ C2 ≤ C + 16) ∧ A * w2 - C * w1 + gain w1 w2 x = A2 * w2 - C2 * w1) ∨
    (∃ A2 C2, x.1 = 2 ∧ A2 = A ∧ C + x.2 = C2 ∧ (A ≤ A2 ∧ A2 ≤ A + 16) ∧ (C ≤ C2 ∧ C2 ≤ C + 16) ∧ A * w2 - C * w1 + gain w1 w2 x = A2 * w2 - C2 * w1) ∨
    (∃ A2 C2, A2 = A ∧ C2 = C ∧ (x.1 == 1) = false ∧ (x.1 == 2) = false ∧ (A ≤ A2 ∧ A2 ≤ A + 16) ∧ (C ≤ C2 ∧ C2 ≤ C + 16) ∧ A * w2 - C * w1 + gain w1 w2 x = A2 * w2 - C2 * w1) := by
  rcases gain_cases (w1 := w1) (w2 := w2) (A := A) (C := C) (x := x) with ⟨a, e⟩ | ⟨_, a, e⟩ | ⟨a, b, e⟩
  · exact Or.inl ⟨_, _, a, rfl, rfl, by omega, by omega, e⟩
  · exact Or.inr (Or.inl ⟨_, _, a, rfl, rfl, by omega, by omega, e⟩)
  · exact Or.inr (Or.inr ⟨_, _, rfl, rfl, by simpa using a, by simpa using b, by omega, by omega, e⟩)
set_option maxRecDepth 100000 in
set_option maxHeartbeats 1600000 in
theorem dr_fair_main (A : Option Addr) (m c : Nat) (l : List Nat) (w1 w2 Q : Int) (w : World) (hm : (m : Int) ≤ 120) (hl : Bs w A m l) (h1 : 1 ≤ w1 ∧ w1 ≤ 255) (h2 : 1 ≤ w2 ∧ w2 ≤ 255) (hq : 1 ≤ Q ∧ Q ≤ 255) :
    Calls Try.prog 4 #[.agg #[.int .u8 w1, .int .u8 w2], .int .u8 Q, .slice A m c] w fun e w' => e = .returned (.bool true) ∧ Below w.heap.size w w' := by
  have HL := Lib.hid hl
  have HF := Lib.hid (f_add w1 w2 h1 h2)
  have HM := Lib.hid (f_most hq h1 h2)
  have HN := At.new w 43 [.int .u8 w1, .int .u8 w2]
  have x0 := HN.cell 0 rfl
  have x1 := HN.cell 1 rfl
  have HB := Lib.hid HN
  have HBL : Hid (Below w.heap.size w (w.alloc (.cells #[.int .u8 w1, .int .u8 w2] 43))) := Lib.hid ((Below.refl _ _).alloc (Nat.le_refl _) _)
  have HBZ : Hid (w.heap.size < (w.alloc (.cells #[.int .u8 w1, .int .u8 w2] 43)).heap.size) := Lib.hid (by simp)
  have H12 := Lib.hid (And.intro h1 h2)
  obtain ⟨h1a, h1b⟩ := h1
  obtain ⟨h2a, h2b⟩ := h2
  obtain ⟨hqa, hqb⟩ := hq
  have q0 : decide ((120 : Int) < (m : Int)) = false := decide_eq_false (by omega)
  have q1 : (w1 == 0) = false := by simp; omega
  have q2 : (w2 == 0) = false := by simp; omega
  have q3 : (Q == 0) = false := by simp; omega
  clear hl HN
  go_enter Try.func4, Try.ntmps4
  go_wp2_with fail
  generalize w.alloc (.cells #[.int .u8 w1, .int .u8 w2] 43) = wa at *
  refine (sb_new HBL.out Q 16 (by omega) (by decide)).mono ?_; rintro e wn ⟨b, L0, rfl, r0, hc0, hb0⟩
  have R0 := Lib.hid r0
  have B0 : Hid (BX w1 w2 wn L0 w.heap.size) := Lib.hid ⟨HB.out.below hb0 HB.out.lt, hc0 _ HBZ.out⟩
  clear r0 hc0 hb0 HB HBL HBZ x0 x1
  have x0 := B0.out.1.cell 0 rfl
  have x1 := B0.out.1.cell 1 rfl
  go_wp2_with fail
  refine (sb_add_as R0.out (i64s 1) w1 HF.out.1.1 HF.out.1.2).mono ?_; rintro e wn1 ⟨rfl, L1, r1, f1⟩
  have R1 := Lib.hid r1
  have B1 : Hid (BX w1 w2 wn1 L1 w.heap.size) := Lib.hid (f1.at_ B0.out.1 B0.out.2)
  clear r1 f1 R0 B0 x0 x1
  have x0 := B1.out.1.cell 0 rfl
  have x1 := B1.out.1.cell 1 rfl
  go_wp2_with fail
  refine (sb_add_as R1.out (i64s 2) w2 HF.out.2.1.1 HF.out.2.1.2).mono ?_; rintro e wn2 ⟨rfl, L2, r2, f2⟩
  have R2 := Lib.hid r2
  have B2 : Hid (BX w1 w2 wn2 L2 w.heap.size) := Lib.hid (f2.at_ B1.out.1 B1.out.2)
  clear r2 f2 R1 B1 x0 x1
  go_wp2_with fail
  refine (sb_add_as R2.out (i64s 3) 1 HF.out.2.2.1 HF.out.2.2.2).mono ?_; rintro e wn3 ⟨rfl, L3, r3, f3⟩
  have HS1 : Hid (F1 w b w1 w2 Q m (.int .i64 ((0 : Nat) : Int)) wn3) := Lib.hid ⟨0, by omega, rfl, L3, [], r3, f3.at_ B2.out.1 B2.out.2, rfl, Or.inl ⟨rfl, rfl⟩⟩
  clear r3 f3 R2 B2 HF
  go_wp2_with fail
  go_loopw [9] (fun i wr => F1 w b w1 w2 Q m i wr) (fun i _ => m - (intOf i).toNat)
  case atStart => exact HS1.out
  case round =>
    obtain ⟨k, hk, rfl, L, R, r, bx, hwt, hph⟩ := hrel
    have R5 := Lib.hid r
    have B5 := Lib.hid bx
    have HWP := Lib.hid (And.intro hwt hph)
    clear r bx hwt hph HS1
    by_cases hlt : k < m
    · obtain ⟨ad, rfl, had, hac⟩ := HL.out.at_ hlt
      have hac' : wr.cell? (ad.add k) = some (.int .u8 (l.getD k 0 : Nat)) := (R5.out.bel.cell (by rw [add_block]; exact had)).trans hac
      have hv := HL.out.lt k
      have HAC := Lib.hid hac
      have HAD := Lib.hid had
      clear hac had
      generalize l.getD k 0 = v at *
      obtain ⟨p, hp⟩ : ∃ p : Nat, p = v % 16 := ⟨_, rfl⟩
      obtain ⟨q, hq⟩ : ∃ q : Nat, q = v / 16 := ⟨_, rfl⟩
      have hp1 : (v : Int) % 16 = (p : Int) := by omega
      have hq1 : (v : Int) / 16 = (q : Int) := by omega
      have hlt' : (k : Int) < (m : Int) := by omega
      have hk0 : (0 : Int) ≤ (k : Int) := Int.natCast_nonneg _
      have hp0 : (0 : Int) ≤ (p : Int) := Int.natCast_nonneg _
      have hp2 : (p : Int) ≤ 15 := by omega
      have hq0 : (0 : Int) ≤ (q : Int) := Int.natCast_nonneg _
      have hq2 : (q : Int) ≤ 15 := by omega
      have hv1 : (v : Int) ≤ 255 := by omega
      have hv0 : (0 : Int) ≤ (v : Int) := Int.natCast_nonneg _
      have HNP := Lib.hid (f1_push R5.out.ok HWP.out.1 (by omega) HWP.out.2 (x := (p : Int) + 1) (y := (q : Int) + 1) (by omega) (by omega))
      clear hp hq hv
      go_wp2_with fail
      refine (sb_push_as R5.out (1, (p : Int) + 1) (i64s 1) (by decide) (by show (p : Int) + 1 ≤ 16; omega) HNP.out.1 rfl).mono ?_; rintro e w6 ⟨rfl, L6, r6, f6⟩
      have R6 := Lib.hid r6
      have B6 : Hid (BX w1 w2 w6 L6 w.heap.size) := Lib.hid (f6.at_ B5.out.1 B5.out.2)
      have hac6 : w6.cell? (ad.add k) = some (.int .u8 (v : Nat)) := (R6.out.bel.cell (by rw [add_block]; exact HAD.out)).trans HAC.out
      clear r6 f6 R5 B5 hac'
      go_wp2_with fail
      refine (sb_push_as R6.out (2, (q : Int) + 1) (i64s 2) (by decide) (by show (q : Int) + 1 ≤ 16; omega) HNP.out.2.1 rfl).mono ?_; rintro e w7 ⟨rfl, L7, r7, f7⟩
      have HN1 : Hid (∃ L R, SB w w7 b L Q 16 (fW w1 w2) R ∧ BX w1 w2 w7 L w.heap.size ∧ waitR R = 2 * (k + 1) ∧ ((k + 1 = 0 ∧ R = []) ∨ (0 < k + 1 ∧ Phi Q w1 w2 R 0))) := Lib.hid ⟨L7, _, r7, f7.at_ B6.out.1 B6.out.2, HNP.out.2.2.1, Or.inr ⟨by omega, HNP.out.2.2.2⟩⟩
      clear r7 f7 R6 B6 hac6
      go_wp2_with fail
      go_roundw
      case rel => exact ⟨k + 1, by omega, by go_num, HN1.out⟩
      case measure => simp [intOf]; omega
    · obtain rfl : k = m := by omega
      have HS2 : Hid (F2 w b w1 w2 Q (.slice none 0 0) (.slice none 0 0) (.int .i64 0) (.int .i64 0) (.int .i64 0) wr) := Lib.hid ⟨0, by omega, rfl, 0, 0, [], [], rfl, rfl, L, fun _ => 9, R, R5.out, B5.out, rfl, fun _ _ => rfl, Zr.nil _ _, Zr.nil _ _, Rcs.start _ _ _, by
        rcases HWP.out.2 with ⟨_, e⟩ | ⟨_, e⟩
        · exact Or.inl e
        · refine Or.inr ?_
          rw [Int.zero_mul, Int.zero_mul]
          exact e⟩
      clear R5 B5 HWP hk hlt HL
      go_wp2_with fail
      go_loopw [10, 11, 12, 13, 14] (fun v1 v2 va vb vi wr => F2 w b w1 w2 Q v1 v2 va vb vi wr) (fun _ _ _ _ vi _ => 400 - (intOf vi).toNat)
      case atStart => exact HS2.out
      case round =>
        clear HS2
        obtain ⟨i, hi, rfl, A1, C1, l1, l2, rfl, rfl, L, kl, R, r, bx, h9, hkf, z1, z2, rc, hph⟩ := hrel
        have R5 := Lib.hid r
        have HBX := Lib.hid (And.intro bx (And.intro h9 hkf))
        have Z1 := Lib.hid z1
        have Z2 := Lib.hid z2
        have RC := Lib.hid rc
        have HPH := Lib.hid hph
        obtain ⟨D1, c1, e1⟩ := z1.len
        obtain ⟨D2, c2, e2⟩ := z2.len
        rw [rc.n1] at e1
        rw [rc.n2] at e2
        subst e1 e2
        clear r bx h9 hkf z1 z2 rc hph
        have hi0 : (0 : Int) ≤ (i : Int) := Int.natCast_nonneg _
        by_cases hgo : 1 < lenR R 1 ∧ 1 < lenR R 2 ∧ i < 400
        · obtain ⟨g1, g2, g3⟩ := hgo
          have hlt' : (i : Int) < 400 := by omega
          have hG1 : (1 : Int) < ((lenR R 1 : Nat) : Int) := by omega
          have hG2 : (1 : Int) < ((lenR R 2 : Nat) : Int) := by omega
          have HG := Lib.hid (And.intro g1 g2)
          go_wp2_with fail
          refine (sb_len R5.out (i64s 1)).mono ?_; rintro e w6 ⟨rfl, rfl⟩
          go_wp2_with fail
          refine (sb_len R5.out (i64s 2)).mono ?_; rintro e w6 ⟨rfl, rfl⟩
          have HPS := Lib.hid (phi_some HG.out.1 HPH.out)
          obtain ⟨r7, hr7, hr7t⟩ : ∃ r7 : Nat, (i : Int) % 7 = (r7 : Int) ∧ (i : Int).tmod 7 = (r7 : Int) := ⟨i % 7, by omega, by rw [Int.tmod_eq_emod_of_nonneg (by omega)]; omega⟩
          clear g1 g2
          have HST : Hid (∀ wq Lq, Fr wr L wq Lq → ∀ Rq, SB w wq b Lq Q 16 (fW w1 w2) Rq → Phi Q w1 w2 Rq (A1 * w2 - C1 * w1) → 1 < lenR Rq 1 → 1 < lenR Rq 2 → Rq ≠ [] → F6 w b w1 w2 Q (.slice D1 i c1) (.slice D2 i c2) l1 l2 (A1 * w2 - C1 * w1) wq) := Lib.hid fun wq Lq f Rq r p a1 a2 ne => ⟨Lq, kl, Rq, r, f.at_ HBX.out.1.1 HBX.out.1.2, HBX.out.2.1, fun j hj => HBX.out.2.2 j (Nat.le_trans f.tn.size hj), zr_fr Z1.out f, zr_fr Z2.out f, p, a1, a2, ne⟩
          have h400 : (i : Int) ≤ 400 := by omega
          cases hb7 : ((r7 : Int) == 3)
          case' false =>
            have H6 := Lib.hid (HST.out wr L ⟨fun _ _ => rfl, Tn.refl _ _⟩ R R5.out HPS.out.2 HG.out.1 HG.out.2 HPS.out.1)
            clear HST HPS R5 HBX HPH HG Z1 Z2
            go_wp2_with fail
            generalize wr = w7 at *
          case' true =>
            obtain ⟨r16, hr16, hr16t, hr16b⟩ : ∃ r16 : Nat, (i : Int) % 16 = (r16 : Int) ∧ (i : Int).tmod 16 = (r16 : Int) ∧ (r16 : Int) ≤ 15 := ⟨i % 16, by omega, by rw [Int.tmod_eq_emod_of_nonneg (by omega)]; omega, by omega⟩
            have hr160 : (0 : Int) ≤ (r16 : Int) := Int.natCast_nonneg _
            go_wp2_with fail
            refine (sb_push R5.out (x := (3, (r16 : Int) + 1)) (i64s 3) (by decide) (fun _ => by show (r16 : Int) + 1 ≤ 16; omega)).mono ?_; rintro e w7 ⟨rfl, L7, r7, f7⟩
            have H6 := Lib.hid (HST.out w7 L7 f7 _ r7 (HPS.out.2.push _) (by rw [lenR_push_other R5.out.ok (by decide) (by show (r16 : Int) + 1 ≤ 16; omega) (by show (1 : Int) ≠ 3; decide)]; exact HG.out.1) (by rw [lenR_push_other R5.out.ok (by decide) (by show (r16 : Int) + 1 ≤ 16; omega) (by show (2 : Int) ≠ 3; decide)]; exact HG.out.2) (fun e => by
              have e1 := lenR_push_other R5.out.ok (by decide) (x := (3, (r16 : Int) + 1)) (id := 1) (by show (r16 : Int) + 1 ≤ 16; omega) (by show (1 : Int) ≠ 3; decide)
              rw [e] at e1
              have e2 := HG.out.1
              have e3 : lenR [] 1 = 0 := rfl
              omega))
            clear HST HPS R5 HBX HPH HG Z1 Z2 r7 f7
            go_wp2_with fail
          all_goals
            obtain ⟨L6, kl6, R6, r6, bx6, k96, kf6, z16, z26, p6, g16, g26, ne6⟩ := H6.out
            have NX := Lib.hid (sb_next r6 ne6)
            have G6 := Lib.hid (And.intro r6.ok (And.intro g16 (And.intro g26 p6)))
            have HB6 := Lib.hid (And.intro bx6 (And.intro k96 kf6))
            have Z16 := Lib.hid z16
            have Z26 := Lib.hid z26
            clear r6 bx6 k96 kf6 z16 z26 p6 g16 g26 ne6 H6
            refine NX.out.mono ?_; rintro e w8 ⟨x, S, rfl, hg, L8, r8, f8⟩
            have hgo := f2_goes G6.out.1 G6.out.2.1 G6.out.2.2.1 G6.out.2.2.2 hg
            have HP8 := Lib.hid (And.intro hgo.1 hgo.2.1)
            have hx1 := hgo.2.2.1
            have hx2 := hgo.2.2.2
            have hal : Below w8.heap.size w8 (w8.alloc (.cells #[.int .i64 x.1, .int .i64 x.2] 35)) := (Below.refl _ _).alloc (Nat.le_refl _) _
            have fr := Fr.below L8 hal
            have hb8 := f8.at_ HB6.out.1.1 HB6.out.1.2
            have R8 := Lib.hid (r8.below hal)
            have B8 := Lib.hid (fr.at_ hb8.1 hb8.2)
            have K8 := Lib.hid HB6.out.2.1
            have KF8 : Hid (∀ j, (w8.alloc (.cells #[.int .i64 x.1, .int .i64 x.2] 35)).heap.size ≤ j → kl6 j = 9) := Lib.hid fun j hj => HB6.out.2.2 j (Nat.le_trans f8.tn.size (Nat.le_trans hal.size hj))
            have Z18 := Lib.hid (zr_fr (zr_fr Z16.out f8) fr)
            have Z28 := Lib.hid (zr_fr (zr_fr Z26.out f8) fr)
            have HX := At.new w8 35 [.int .i64 x.1, .int .i64 x.2]
            have x0 := HX.cell 0 rfl
            have x1 := HX.cell 1 rfl
            have hA0 := RC.out.a.1
            have hA1 := RC.out.a.2
            have hC0 := RC.out.c.1
            have hC1 := RC.out.c.2
            have HFC := Lib.hid (f_cases w1 w2 A1 C1 x hx1 hx2)
            clear hgo hal fr hb8 r8 f8 hg HX G6 HB6 Z16 Z26 NX
            obtain ⟨xi, xz⟩ := x
            dsimp only at *
            rcases HFC.out with ⟨A2, C2, rfl, hA, rfl, hP⟩ | ⟨A2, C2, rfl, rfl, hC, hP⟩ | ⟨A2, C2, rfl, rfl, hn1, hn2, hP⟩
            all_goals
              clear HFC
              have HP := Lib.hid hP
              have HP9 : Hid (Phi Q w1 w2 S (A2 * w2 - C2 * w1) ∧ NearF Q w1 w2 (A2 * w2 - C2 * w1)) := Lib.hid (by rw [← HP.out.2.2]; exact HP8.out)
              have hA20 : 0 ≤ A2 := by have := HP.out.1.1; omega
              have hC20 : 0 ≤ C2 := by have := HP.out.2.1.1; omega
              have hA21 : A2 ≤ 6416 := by have := HP.out.1.2; omega
              have hC21 : C2 ≤ 6416 := by have := HP.out.2.1.2; omega
              clear hP HP8
              go_upto_region 25 with fail
              clear x0 x1
              generalize w8.alloc _ = w9 at *
              obtain ⟨w10, ga, ca, hr1, kl10, r10, b10, k10, kf10, z1a, z2a⟩ := f_put R8.out B8.out K8.out KF8.out Z18.out Z28.out (by decide) (by decide) (by rw [RC.out.n1]; omega) A2
              obtain ⟨w11, gb, cb, hr2, kl11, r11, b11, k11, kf11, z2b, z1b⟩ := f_put r10 b10 k10 kf10 z2a z1a (by decide) (by decide) (by rw [RC.out.n2]; omega) C2
              rw [RC.out.n1] at hr1 z1b
              rw [RC.out.n2] at hr2 z2b
              have HNEW : Hid (F3 w b w1 w2 Q (.slice (some ⟨ga, 0, none⟩) (i + 1) ca) (.slice (some ⟨gb, 0, none⟩) (i + 1) cb) (i + 1) A2 C2 (l1 ++ [A2]) (l2 ++ [C2]) w11) := Lib.hid ⟨L8, kl11, S, r11, b11, k11, kf11, z1b, z2b, RC.out.next (by omega) HP.out.1 HP.out.2.1 HP9.out.2, Or.inr HP9.out.1⟩
              clear r10 b10 k10 kf10 z1a z2a r11 b11 k11 kf11 z2b z1b R8 B8 K8 KF8 Z18 Z28 HP HP9
              go_upto_region 26 with (at_builtin; refine Lib.wpList_append_run _ rfl _ _ _ _ rfl _ _ rfl rfl _ _ hr1 ?_)
              clear hr1
              go_wp2_with (at_builtin; refine Lib.wpList_append_run _ rfl _ _ _ _ rfl _ _ rfl rfl _ _ hr2 ?_)
              go_roundw
              case rel => exact ⟨i + 1, by omega, by go_num, A2, C2, _, _, rfl, rfl, HNEW.out⟩
              case measure => simp [intOf]; omega
        · have HBW := Lib.hid R5.out.bel
          have HXA := Lib.hid HBX.out.1.1
          have hm0 := HM.out.1.1
          have hm1 := HM.out.1.2
          have hm2 := HM.out.2.1
          have hm3 := HM.out.2.2
          have hwm1 : IntKind.i64.wrap ((Q + 32) * w1) = (Q + 32) * w1 := IntWalk.i64_in _ (by omega)
          have hwm2 : IntKind.i64.wrap ((Q + 32) * w1 * w2) = (Q + 32) * w1 * w2 := IntWalk.i64_in _ (by omega)
          have HRM : Hid (∀ j k, j < i → k < i → _) := Lib.hid fun j k hj hk => RC.out.room H12.out.1 H12.out.2 hj hk
          have x0 := HXA.out.cell 0 rfl
          have x1 := HXA.out.cell 1 rfl
          clear HBX HPH
          have hgo2 : ¬ (1 : Int) < ((lenR R 1 : Nat) : Int) ∨ ((1 : Int) < ((lenR R 1 : Nat) : Int) ∧ ¬ (1 : Int) < ((lenR R 2 : Nat) : Int)) ∨ ((1 : Int) < ((lenR R 1 : Nat) : Int) ∧ (1 : Int) < ((lenR R 2 : Nat) : Int) ∧ ¬ (i : Int) < 400) := by omega
          clear hgo
          have hi4 : (i : Int) ≤ 400 := by omega
          rcases hgo2 with hG1 | ⟨hG1, hG2⟩ | ⟨hG1, hG2, hG3⟩
          all_goals
            go_wp2_with fail
            refine (sb_len R5.out (i64s 1)).mono ?_; rintro e w6 ⟨rfl, rfl⟩
            go_wp2_with (refine (sb_len R5.out (i64s 2)).mono ?_; rintro e w6 ⟨rfl, rfl⟩)
            generalize (Q + 32) * w1 * w2 = M at *
            clear x0 x1 hwm1 hwm2 R5
            generalize wr = W0 at *
            go_loopw [18] (fun v wq => F5 W0 i v wq) (fun v _ => i - (intOf v).toNat)
            case atStart => exact ⟨0, by omega, rfl, Below.refl _ _⟩
            case round =>
              obtain ⟨j, hj, rfl, hbq⟩ := hrel
              have HBQ := Lib.hid hbq
              clear hbq
              have hj0 : (0 : Int) ≤ (j : Int) := Int.natCast_nonneg _
              by_cases hlt : j < i
              · have hlt' : (j : Int) < (i : Int) := by omega
                go_wp2_with fail
                go_loopw [19] (fun v wx => F5 W0 j v wx) (fun v _ => j - (intOf v).toNat)
                case atStart => exact ⟨0, by omega, rfl, HBQ.out⟩
                case round =>
                  obtain ⟨k, hk, rfl, hbx⟩ := hrel
                  have HBX := Lib.hid hbx
                  have hk0 : (0 : Int) ≤ (k : Int) := Int.natCast_nonneg _
                  by_cases hlk : k < j
                  · have hlk' : (k : Int) < (j : Int) := by omega
                    have hlk2 : (k : Int) < (i : Int) := by omega
                    obtain ⟨a1, cp1, ei1, _, hg1, _, hx1⟩ := Z1.out.form (by rw [RC.out.n1]; omega)
                    obtain ⟨a2, cp2, ei2, _, hg2, _, hx2⟩ := Z2.out.form (by rw [RC.out.n2]; omega)
                    have hd1 : D1 = some ⟨a1, 0, none⟩ := by injection ei1
                    have hd2 : D2 = some ⟨a2, 0, none⟩ := by injection ei2
                    have y1 := (hbx.cell (p := ⟨a1, j, none⟩) hg1).trans (hx1 j (by rw [RC.out.n1]; exact hlt))
                    have z1 := (hbx.cell (p := ⟨a1, k, none⟩) hg1).trans (hx1 k (by rw [RC.out.n1]; omega))
                    have y2 := (hbx.cell (p := ⟨a2, j, none⟩) hg2).trans (hx2 j (by rw [RC.out.n2]; exact hlt))
                    have z2 := (hbx.cell (p := ⟨a2, k, none⟩) hg2).trans (hx2 k (by rw [RC.out.n2]; omega))
                    have x0 := (hbx.cell (p := ⟨w.heap.size, 0, none⟩) HXA.out.lt).trans (HXA.out.cell 0 rfl)
                    have x1 := (hbx.cell (p := ⟨w.heap.size, 1, none⟩) HXA.out.lt).trans (HXA.out.cell 1 rfl)
                    have hrm := HRM.out j k hlt (by omega)
                    have hra := RC.out.all j hlt
                    have hrb := RC.out.all k (by omega)
                    clear ei1 ei2 hx1 hx2 hbx
                    subst hd1
                    subst hd2
                    generalize l1.getD j 0 = p1 at *
                    generalize l1.getD k 0 = q1 at *
                    generalize l2.getD j 0 = p2 at *
                    generalize l2.getD k 0 = q2 at *
                    obtain ⟨⟨hp10, hp11⟩, ⟨hp20, hp21⟩, _⟩ := hra
                    obtain ⟨⟨hq10, hq11⟩, ⟨hq20, hq21⟩, _⟩ := hrb
                    obtain ⟨⟨hd1, hd2⟩, ⟨he1, he2⟩, he3, he4⟩ := hrm
                    have hwa : IntKind.i64.wrap ((p1 - q1) * w2) = (p1 - q1) * w2 := IntWalk.i64_in _ (by omega)
                    have hwb : IntKind.i64.wrap ((p2 - q2) * w1) = (p2 - q2) * w1 := IntWalk.i64_in _ (by omega)
                    have hwc : IntKind.i64.wrap ((p1 - q1) * w2 - (p2 - q2) * w1) = (p1 - q1) * w2 - (p2 - q2) * w1 := IntWalk.i64_in _ (by omega)
                    have HSZ := Lib.hid (fun W => dr_size ((p1 - q1) * w2 - (p2 - q2) * w1) W (by omega))
                    have hab := absI_le ⟨hd1, hd2⟩
                    have hdec : decide (M < absI ((p1 - q1) * w2 - (p2 - q2) * w1)) = false := decide_eq_false (by omega)
                    go_wp2_with fail
                    go_quiet ((go_at_call 16; exact Calls.quiet_of_same ((HSZ.out _).mono fun _ _ h => ⟨h.1, h.2.symm⟩)))
                    have HB1 : Hid (Below W0.heap.size W0 (wr.drewN nq)) := Lib.hid (HBX.out.grown (grown_drewN wr nq none) HBX.out.size (by simp))
                    clear y1 y2 z1 z2 x0 x1
                    generalize wr.drewN nq = w7 at *
                    go_wp2_with fail
                    go_roundw
                    case rel => exact ⟨k + 1, by omega, by go_num, HB1.out⟩
                    case measure => simp [intOf]; omega
                  · obtain rfl : k = j := by omega
                    clear hbx
                    go_wp2_with fail
                    go_roundw
                    case rel => exact ⟨k + 1, by omega, by go_num, HBX.out⟩
                    case measure => simp [intOf]; omega
              · obtain rfl : j = i := by omega
                go_wp2_with fail
                refine (dr_awake _).mono ?_; rintro e w9 ⟨rfl, b9⟩
                have HB8 := Lib.hid (HBW.out.trans (HBQ.out.mono HBW.out.size))
                have HB9 := Lib.hid (HB8.out.trans (b9.mono HB8.out.size))
                clear b9
                go_wp2_with fail
                go_ret
                exact ⟨rfl, HB9.out⟩
set_option maxRecDepth 100000 in
theorem dr_fair_walk (A : Option Addr) (m c : Nat) (l : List Nat) (w1 w2 Q : Int) (w : World) (hl : Bs w A m l) (h1 : 0 ≤ w1 ∧ w1 ≤ 255) (h2 : 0 ≤ w2 ∧ w2 ≤ 255) (hq : 0 ≤ Q ∧ Q ≤ 255) :
    Calls Try.prog 4 #[.agg #[.int .u8 w1, .int .u8 w2], .int .u8 Q, .slice A m c] w fun e w' => e = .returned (.bool true) ∧ Below w.heap.size w w' := by
  by_cases h : (120 : Int) < (m : Int) ∨ w1 = 0 ∨ w2 = 0 ∨ Q = 0
  · exact dr_fair_no A m c w1 w2 Q w h1 h2 hq h
  · exact dr_fair_main A m c l w1 w2 Q w (by omega) hl (by omega) (by omega) (by omega)
end Go.Proofs.Ytplbdeaoeocgkaa

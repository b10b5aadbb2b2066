/- Proved: lemmas of one statement's proof, merged by program: what each part proves stands ahead of it. Conditions: those that the lemmas name. -/
import Derived.Test.YtmnbkghihdbepaaM36

/- Proved: the walk of the law that plays what is to be said. Conditions: those that the theorems name. -/
namespace Go.Proofs.Ytmnbkghihdbepaa
open Go.ChangeShapes Go.WideShapes Go.ChangeAt Go.RowKit

set_option maxRecDepth 100000 in
set_option maxHeartbeats 6400000 in
theorem ct_play_main (A : Option Addr) (m c : Nat) (ds : List Ed) (w : World) (hm : (m : Int) ≤ 60) (hd : Eds w A m ds) :
    Calls Try.prog 3 #[.slice A m c] w fun e w' => e = .returned (.bool true) ∧ Below w.heap.size w w' := by
  have HL := Lib.hid hd
  clear hd
  go_enter Try.func3, Try.ntmps3
  go_wp2_with fail
  refine (cb_new w w (Tn.refl _ _)).mono ?_; rintro e w1 ⟨L, rfl, r1, _, _⟩
  have R0 : Hid (MidC w L.b [] [] none 0 w1) := Lib.hid ⟨L, rfl, r1, Cl.nil _ _ _, Nat.le_refl _, fun _ => rfl⟩
  clear r1
  generalize L.b = b at *
  go_wp2_with fail
  go_loopw [4, 5] (fun x i wr => ∃ k : Nat, k ≤ m ∧ i = .int .i64 k ∧ ∃ S A1 c1, x = .slice A1 S.length c1 ∧ MidC w b S S A1 c1 wr ∧ S.length ≤ k) (fun _ i _ => m - (intOf i).toNat)
  case atStart => exact ⟨0, by omega, rfl, _, _, _, rfl, R0.out, Nat.le_refl _⟩
  case round =>
    obtain ⟨k, hk, rfl, S, A1, c1, rfl, hmc, hsl⟩ := hrel
    have HM := Lib.hid hmc
    have HSL := Lib.hid hsl
    have HSF : Hid (S.length ≤ 60000) := Lib.hid (by omega)
    clear R0 hmc hsl
    by_cases hlt : k < m
    · obtain ⟨ad, rfl, hx, hcs⟩ := HL.out.at_ hlt
      have hlt' : (k : Int) < (m : Int) := by omega
      have hk0 : (0 : Int) ≤ (k : Int) := Int.natCast_nonneg _
      have HCS := Lib.hid hcs
      have HIN := Lib.hid hx
      clear hcs hx
      generalize ed_ ds k = d at *
      obtain ⟨kd, d⟩ := d
      dsimp only at HIN
      obtain ⟨dd, hdd⟩ : ∃ dd, dd = d := ⟨_, rfl⟩
      have HDD := Lib.hid hdd
      have hsz1 : dd.body.size = d.body.size := by rw [hdd]
      have hsz2 : dd.has.size = d.has.size := by rw [hdd]
      have hck := HCS.out _ HM.out.bel
      rw [← hdd] at HIN
      obtain ⟨x0, x1, x2, x3, x4, x5, x6, x7, x8, x9⟩ := d
      have hck : EdAt wr (ad.add (k * 11)) ⟨kd, ⟨x0, x1, x2, x3, x4, x5, x6, x7, x8, x9⟩⟩ := hck
      have dk : wr.cell? (ad.add (k * 11)) = some (.int .i64 kd) := hck.k
      have d0 : wr.cell? ⟨(ad.add (k * 11)).block, (ad.add (k * 11)).off + 1, none⟩ = some (.int .i64 x0) := hck.d 0 _ rfl
      have d1 : wr.cell? ⟨(ad.add (k * 11)).block, (ad.add (k * 11)).off + 2, none⟩ = some (.int .i64 x1) := hck.d 1 _ rfl
      have d2 : wr.cell? ⟨(ad.add (k * 11)).block, (ad.add (k * 11)).off + 3, none⟩ = some (.int .u32 x2) := hck.d 2 _ rfl
      have d3 : wr.cell? ⟨(ad.add (k * 11)).block, (ad.add (k * 11)).off + 4, none⟩ = some (.int .i64 x3) := hck.d 3 _ rfl
      have d4 : wr.cell? ⟨(ad.add (k * 11)).block, (ad.add (k * 11)).off + 5, none⟩ = some (.int .i64 x4) := hck.d 4 _ rfl
      have d5 : wr.cell? ⟨(ad.add (k * 11)).block, (ad.add (k * 11)).off + 6, none⟩ = some (.int .i64 x5) := hck.d 5 _ rfl
      have d6 : wr.cell? ⟨(ad.add (k * 11)).block, (ad.add (k * 11)).off + 7, none⟩ = some (.int .i64 x6) := hck.d 6 _ rfl
      have d7 : wr.cell? ⟨(ad.add (k * 11)).block, (ad.add (k * 11)).off + 8, none⟩ = some (.int .i64 x7) := hck.d 7 _ rfl
      have d8 : wr.cell? ⟨(ad.add (k * 11)).block, (ad.add (k * 11)).off + 9, none⟩ = some (.string x8) := hck.d 8 _ rfl
      have d9 : wr.cell? ⟨(ad.add (k * 11)).block, (ad.add (k * 11)).off + 10, none⟩ = some (.string x9) := hck.d 9 _ rfl
      clear hck hsz1 hsz2
      by_cases hbig : (1100 : Int) < (x9.size : Int)
      · clear hdd
        go_wp2_with fail
        go_roundw
        case rel => exact ⟨k + 1, by omega, by go_num, S, A1, c1, rfl, HM.out, by have := HSL.out; omega⟩
        case measure => simp [intOf]; omega
      · by_cases hbig2 : (100 : Int) < (x8.size : Int)
        · clear hdd
          go_wp2_with fail
          go_roundw
          case rel => exact ⟨k + 1, by omega, by go_num, S, A1, c1, rfl, HM.out, by have := HSL.out; omega⟩
          case measure => simp [intOf]; omega
        · by_cases hk0' : kd = 0
          · subst hk0'
            have hask := fun (W : World) (A3 : Option Addr) (cp3 : Nat) (h : MidC w b S (askS S dd) A3 cp3 W) => mc_ask h HSF.out dd HIN.out rfl
            have hdoc := mc_ask_doc HM.out HSF.out dd HIN.out.1
            have hle := askS_len S dd
            generalize askS S dd = S2 at *
            generalize refE dd = z at *
            rw [show dd.val = (.agg #[.int .i64 x0, .int .i64 x1, .int .u32 x2, .int .i64 x3, .int .i64 x4, .int .i64 x5, .int .i64 x6, .int .i64 x7, .string x8, .string x9]) by rw [HDD.out]; rfl] at hask hdoc
            have HASK := Lib.hid hask
            have HDOC := Lib.hid hdoc
            have HLE : Hid (S2.length ≤ S.length + 1) := Lib.hid hle
            clear hask hdoc hle hdd
            go_wp2_with fail
            refine HDOC.out.mono ?_; rintro e w4 ⟨A3, cp3, rfl, h4, _⟩
            have HM4 := Lib.hid h4
            have hck : EdAt w4 (ad.add (k * 11)) ⟨0, ⟨x0, x1, x2, x3, x4, x5, x6, x7, x8, x9⟩⟩ := HCS.out _ h4.bel
            clear h4 HDOC dk d0 d1 d2 d3 d4 d5 d6 d7 d8 d9
            have d0 : w4.cell? ⟨(ad.add (k * 11)).block, (ad.add (k * 11)).off + 1, none⟩ = some (.int .i64 x0) := hck.d 0 _ rfl
            have d1 : w4.cell? ⟨(ad.add (k * 11)).block, (ad.add (k * 11)).off + 2, none⟩ = some (.int .i64 x1) := hck.d 1 _ rfl
            have d2 : w4.cell? ⟨(ad.add (k * 11)).block, (ad.add (k * 11)).off + 3, none⟩ = some (.int .u32 x2) := hck.d 2 _ rfl
            have d3 : w4.cell? ⟨(ad.add (k * 11)).block, (ad.add (k * 11)).off + 4, none⟩ = some (.int .i64 x3) := hck.d 3 _ rfl
            have d4 : w4.cell? ⟨(ad.add (k * 11)).block, (ad.add (k * 11)).off + 5, none⟩ = some (.int .i64 x4) := hck.d 4 _ rfl
            have d5 : w4.cell? ⟨(ad.add (k * 11)).block, (ad.add (k * 11)).off + 6, none⟩ = some (.int .i64 x5) := hck.d 5 _ rfl
            have d6 : w4.cell? ⟨(ad.add (k * 11)).block, (ad.add (k * 11)).off + 7, none⟩ = some (.int .i64 x6) := hck.d 6 _ rfl
            have d7 : w4.cell? ⟨(ad.add (k * 11)).block, (ad.add (k * 11)).off + 8, none⟩ = some (.int .i64 x7) := hck.d 7 _ rfl
            have d8 : w4.cell? ⟨(ad.add (k * 11)).block, (ad.add (k * 11)).off + 9, none⟩ = some (.string x8) := hck.d 8 _ rfl
            have d9 : w4.cell? ⟨(ad.add (k * 11)).block, (ad.add (k * 11)).off + 10, none⟩ = some (.string x9) := hck.d 9 _ rfl
            clear hck
            go_wp2_with fail
            refine (HASK.out _ _ _ HM4.out).mono ?_; rintro e w5 ⟨rfl, h5⟩
            have HM5 := Lib.hid h5
            clear h5 HASK HM4 d0 d1 d2 d3 d4 d5 d6 d7 d8 d9
            have hzz : (z != z) = false := by simp
            have hnn : (((S2.length : Nat) : Int) != ((S2.length : Nat) : Int)) = false := by simp
            go_wp2_with fail
            refine (mc_len HM5.out).mono ?_; rintro e w6 ⟨rfl, rfl⟩
            go_wp2_with fail
            go_roundw
            case rel => exact ⟨k + 1, by omega, by go_num, S2, A3, cp3, rfl, HM5.out, by have := HSL.out; have := HLE.out; omega⟩
            case measure => simp [intOf]; omega
          · by_cases hk1 : kd = 1
            · subst hk1
              have HMX := Lib.hid HM.out
              clear d0 d1 d2 d3 d4 d5 d6 d7 hdd hk0' HIN HDD
              rcases S with _ | ⟨y, S⟩
              · have hnext := mc_next_none HM.out
                have HNX := Lib.hid hnext
                clear hnext
                rw [show ([] : List Dg).length = 0 from rfl]
                go_upto_region 22 with fail
                clear dk d8 d9 hbig hbig2
                go_wp2_with fail
                refine HNX.out.mono ?_; rintro e w4 ⟨rfl, g4⟩
                have al : Below w4.heap.size w4 (w4.alloc (.cells #[.int .i64 0, .int .i64 0, .int .u32 0, .int .i64 0, .int .i64 0, .int .i64 0, .int .i64 0, .int .i64 0, .string ⟨#[]⟩, .string ⟨#[]⟩] 29)) := (Below.refl _ _).alloc (Nat.le_refl _) _
                have HM5 := Lib.hid ((HM.out.below g4).below al)
                clear g4 al HMX HNX HM
                rw [show dgZ.val = (.agg #[.int .i64 0, .int .i64 0, .int .u32 0, .int .i64 0, .int .i64 0, .int .i64 0, .int .i64 0, .int .i64 0, .string ⟨#[]⟩, .string ⟨#[]⟩] : Value) from rfl]
                go_upto_region 23 with fail
                generalize w4.alloc (.cells #[.int .i64 0, .int .i64 0, .int .u32 0, .int .i64 0, .int .i64 0, .int .i64 0, .int .i64 0, .int .i64 0, .string ⟨#[]⟩, .string ⟨#[]⟩] 29) = w5 at *
                generalize w4.heap.size = yb at *
                go_quiet (fail)
                generalize hw6 : w5.drewN _ = w6
                have HM6 : Hid (MidC w b [] [] A1 c1 w6) := Lib.hid (by rw [← hw6]; exact HM5.out.below (below_drewN (Below.refl _ _) _))
                clear hw6 HM5
                go_wp2_with fail
                refine (mc_len HM6.out).mono ?_; rintro e w7 ⟨rfl, rfl⟩
                rw [show ((([] : List Dg).length : Nat) : Int) = 0 from rfl]
                go_wp2_with fail
                go_roundw
                case rel => exact ⟨k + 1, by omega, by go_num, [], A1, c1, rfl, HM6.out, Nat.zero_le _⟩
                case measure => simp [intOf]; omega
              · have hnext := mc_next HM.out (by have := HSF.out; rw [List.length_cons] at this; omega)
                have hne : ∀ W : World, (binOp .neq 29 y.val y.val).run Try.prog W = .ok (.bool false) W := fun W => by
                  have := neq_dg y y W
                  rw [eqB_refl] at this
                  exact this
                obtain ⟨g, o, hA, _, _, hcy⟩ : ∃ g o, A1 = some ⟨g, o, none⟩ ∧ True ∧ True ∧ ∀ W, MidC w b S (y :: S) A1 c1 W → ∀ i v, y.cells[i]? = some v → W.cell? ⟨g, o + i, none⟩ = some v := by
                  obtain ⟨L, _, _, hx, _⟩ := HM.out
                  obtain ⟨g, o, e, _⟩ := hx.dg (k := 0) rfl
                  refine ⟨g, o, e, trivial, trivial, fun W hW i v hi => ?_⟩
                  obtain ⟨L', _, _, hx', _⟩ := hW
                  obtain ⟨g', o', e', _, _, hc'⟩ := hx'.dg (k := 0) rfl
                  rw [e] at e'
                  injection e' with e'
                  injection e' with e1 e2
                  subst e1; subst e2
                  have := hc' i v hi
                  rwa [Nat.zero_mul, Nat.add_zero] at this
                subst hA
                have HNX := Lib.hid hnext
                have HCY := Lib.hid hcy
                have HNE := Lib.hid hne
                have HSL1 : Hid (S.length + 1 ≤ k) := Lib.hid HSL.out
                have HY : Hid (∀ W : World, At (W.alloc (.cells y.cells.toArray 29)) W.heap.size 29 y.cells) := Lib.hid fun W => At.new W 29 y.cells
                rw [show (y :: S).length = S.length + 1 from rfl]
                clear hnext hcy hne HSL HSF
                obtain ⟨y0, y1, y2, y3, y4, y5, y6, y7, y8, y9⟩ := y
                unfold Dg.val at HNX HNE
                unfold Dg.cells at HCY HY
                dsimp only at HNX HNE HCY HY
                go_upto_region 22 with fail
                clear dk d8 d9 hbig hbig2
                go_wp2_with fail
                refine HNX.out.mono ?_; rintro e w4 ⟨rfl, h4⟩
                have al : Below w4.heap.size w4 (w4.alloc (.cells #[.int .i64 y0, .int .i64 y1, .int .u32 y2, .int .i64 y3, .int .i64 y4, .int .i64 y5, .int .i64 y6, .int .i64 y7, .string y8, .string y9] 29)) := (Below.refl _ _).alloc (Nat.le_refl _) _
                have HX5 : Hid (At (w4.alloc (.cells #[.int .i64 y0, .int .i64 y1, .int .u32 y2, .int .i64 y3, .int .i64 y4, .int .i64 y5, .int .i64 y6, .int .i64 y7, .string y8, .string y9] 29)) w4.heap.size 29 [.int .i64 y0, .int .i64 y1, .int .u32 y2, .int .i64 y3, .int .i64 y4, .int .i64 y5, .int .i64 y6, .int .i64 y7, .string y8, .string y9]) := Lib.hid (HY.out w4)
                have HM5 := Lib.hid (h4.below al)
                clear h4 al HMX HNX HM HY
                go_upto_region 23 with fail
                generalize w4.alloc (.cells #[.int .i64 y0, .int .i64 y1, .int .u32 y2, .int .i64 y3, .int .i64 y4, .int .i64 y5, .int .i64 y6, .int .i64 y7, .string y8, .string y9] 29) = w5 at *
                generalize w4.heap.size = yb at *
                have p0 : w5.cell? ⟨yb, 0, none⟩ = some (.int .i64 y0) := HX5.out.cell 0 rfl
                have p1 : w5.cell? ⟨yb, 1, none⟩ = some (.int .i64 y1) := HX5.out.cell 1 rfl
                have p2 : w5.cell? ⟨yb, 2, none⟩ = some (.int .u32 y2) := HX5.out.cell 2 rfl
                have p3 : w5.cell? ⟨yb, 3, none⟩ = some (.int .i64 y3) := HX5.out.cell 3 rfl
                have p4 : w5.cell? ⟨yb, 4, none⟩ = some (.int .i64 y4) := HX5.out.cell 4 rfl
                have p5 : w5.cell? ⟨yb, 5, none⟩ = some (.int .i64 y5) := HX5.out.cell 5 rfl
                have p6 : w5.cell? ⟨yb, 6, none⟩ = some (.int .i64 y6) := HX5.out.cell 6 rfl
                have p7 : w5.cell? ⟨yb, 7, none⟩ = some (.int .i64 y7) := HX5.out.cell 7 rfl
                have p8 : w5.cell? ⟨yb, 8, none⟩ = some (.string y8) := HX5.out.cell 8 rfl
                have p9 : w5.cell? ⟨yb, 9, none⟩ = some (.string y9) := HX5.out.cell 9 rfl
                have q0 : w5.cell? ⟨g, o, none⟩ = some (.int .i64 y0) := HCY.out _ HM5.out 0 _ rfl
                have q1 : w5.cell? ⟨g, o + 1, none⟩ = some (.int .i64 y1) := HCY.out _ HM5.out 1 _ rfl
                have q2 : w5.cell? ⟨g, o + 2, none⟩ = some (.int .u32 y2) := HCY.out _ HM5.out 2 _ rfl
                have q3 : w5.cell? ⟨g, o + 3, none⟩ = some (.int .i64 y3) := HCY.out _ HM5.out 3 _ rfl
                have q4 : w5.cell? ⟨g, o + 4, none⟩ = some (.int .i64 y4) := HCY.out _ HM5.out 4 _ rfl
                have q5 : w5.cell? ⟨g, o + 5, none⟩ = some (.int .i64 y5) := HCY.out _ HM5.out 5 _ rfl
                have q6 : w5.cell? ⟨g, o + 6, none⟩ = some (.int .i64 y6) := HCY.out _ HM5.out 6 _ rfl
                have q7 : w5.cell? ⟨g, o + 7, none⟩ = some (.int .i64 y7) := HCY.out _ HM5.out 7 _ rfl
                have q8 : w5.cell? ⟨g, o + 8, none⟩ = some (.string y8) := HCY.out _ HM5.out 8 _ rfl
                have q9 : w5.cell? ⟨g, o + 9, none⟩ = some (.string y9) := HCY.out _ HM5.out 9 _ rfl
                have hne := HNE.out
                have hs0 : (0 : Int) < (S.length : Int) + 1 := by omega
                obtain ⟨A3, hrun, h6⟩ := mc_rest HM5.out
                have H6 : Hid (∀ W, Below w5.heap.size w5 W → MidC w b S S A3 (c1 - 1) W) := Lib.hid fun W hW => h6.below hW
                have hcp : S.length + 1 ≤ c1 := HM5.out.few.1
                have HRUN := Lib.hid hrun
                clear h6 HM5 HX5 HCY HNE hrun
                generalize hN : S.length = n at *
                have HN := Lib.hid hN
                clear hN
                go_quiet (fail)
                generalize hw6 : w5.drewN _ = w6
                have HM6 : Hid (MidC w b S S A3 (c1 - 1) w6) := Lib.hid (by rw [← hw6]; exact H6.out _ (below_drewN (Below.refl _ _) _))
                clear hw6 H6 p0 p1 p2 p3 p4 p5 p6 p7 p8 p9 q0 q1 q2 q3 q4 q5 q6 q7 q8 q9
                have hrun := HRUN.out
                go_wp2_with fail
                refine (mc_len HM6.out).mono ?_; rintro e w7 ⟨rfl, rfl⟩
                rw [HN.out]
                have hnn : ((n : Int) != (n : Int)) = false := by simp
                go_wp2_with fail
                go_roundw
                case rel => exact ⟨k + 1, by omega, by go_num, S, A3, c1 - 1, by rw [HN.out], HM6.out, by have := HSL1.out; have := HN.out; omega⟩
                case measure => simp [intOf]; omega
            · by_cases hk2 : kd = 2
              · subst hk2
                have hu : U32 (x2 : Int) := by have := HIN.out.1; rw [HDD.out] at this; have : x2 < 4294967296 := this; unfold U32; omega
                have hask := fun (W : World) (A3 : Option Addr) (cp3 : Nat) (h : MidC w b S (keepS (cleanU x1 (x2 : Int)) S) A3 cp3 W) => mc_clean h HSF.out x1 (x2 : Int) hu rfl
                have hdoc := fun (W : World) (h : Below wr.heap.size wr W) => mc_clean_doc (HM.out.below h) HSF.out x1 (x2 : Int) hu
                have hle := keepS_len (cleanU x1 (x2 : Int)) S
                generalize keepS (cleanU x1 (x2 : Int)) S = S2 at *
                generalize hzq : ((S.length - S2.length : Nat) : Int) = z at *
                have HASK := Lib.hid hask
                have HDOC := Lib.hid hdoc
                have HLE : Hid (S2.length ≤ S.length) := Lib.hid hle
                clear hask hdoc hle hdd hk0' hk1 hu hzq
                have KP : Hid (∀ W, Below w.heap.size w W → W.cell? ⟨(ad.add (k * 11)).block, (ad.add (k * 11)).off + 2, none⟩ = some (.int .i64 x1) ∧ W.cell? ⟨(ad.add (k * 11)).block, (ad.add (k * 11)).off + 3, none⟩ = some (.int .u32 x2)) := Lib.hid fun W hW => by
                  have hck : EdAt W (ad.add (k * 11)) ⟨2, ⟨x0, x1, x2, x3, x4, x5, x6, x7, x8, x9⟩⟩ := HCS.out _ hW
                  exact ⟨hck.d 1 _ rfl, hck.d 2 _ rfl⟩
                go_upto_region 28 with fail
                clear dk d0 d1 d2 d3 d4 d5 d6 d7 d8 d9
                have QQ : Hid (Below wr.heap.size wr wr.drew) := Lib.hid (Below.refl _ _).drew
                obtain ⟨d1, d2⟩ := KP.out _ (HM.out.below QQ.out).bel
                go_region_held3 (fun W => W.cell? ⟨(ad.add (k * 11)).block, (ad.add (k * 11)).off + 2, none⟩ = some (.int .i64 x1) ∧ W.cell? ⟨(ad.add (k * 11)).block, (ad.add (k * 11)).off + 3, none⟩ = some (.int .u32 x2))
                  (first | go_keep | with_reducible exact KS.out)
                  (((with_reducible refine (HDOC.out _ QQ.out).mono ?_); rintro e w4 ⟨A3, cp3, rfl, h4, _⟩; have HM4 := Lib.hid h4; have KS := Lib.hid (KP.out _ h4.bel); clear h4))
                clear d1 d2 KS QQ HDOC
                go_upto_region 30 with fail
                have QQ : Hid (Below w4.heap.size w4 w4.drew) := Lib.hid (Below.refl _ _).drew
                have HM4' := Lib.hid (HM4.out.below QQ.out)
                obtain ⟨d1, d2⟩ := KP.out _ HM4'.out.bel
                have hzz : (z != z) = false := by simp
                go_region_held3 (fun W => W.cell? ⟨(ad.add (k * 11)).block, (ad.add (k * 11)).off + 2, none⟩ = some (.int .i64 x1) ∧ W.cell? ⟨(ad.add (k * 11)).block, (ad.add (k * 11)).off + 3, none⟩ = some (.int .u32 x2))
                  (first | go_keep | with_reducible exact KS.out)
                  (((with_reducible refine (HASK.out _ _ _ HM4'.out).mono ?_); rintro e w5 ⟨rfl, h5⟩; have HM5 := Lib.hid h5; have KS := Lib.hid (KP.out _ h5.bel); clear h5))
                clear d1 d2 KS QQ HASK HM4 HM4' KP
                have hnn : (((S2.length : Nat) : Int) != ((S2.length : Nat) : Int)) = false := by simp
                go_wp2_with fail
                refine (mc_len HM5.out).mono ?_; rintro e w6 ⟨rfl, rfl⟩
                go_wp2_with fail
                go_roundw
                case rel => exact ⟨k + 1, by omega, by go_num, S2, A3, cp3, rfl, HM5.out, by have := HSL.out; have := HLE.out; omega⟩
                case measure => simp [intOf]; omega
              · skip
                have hask := fun (W : World) (A3 : Option Addr) (cp3 : Nat) (h : MidC w b S (keepS (dropU x1) S) A3 cp3 W) => mc_drop h HSF.out x1 rfl
                have hdoc := mc_drop_doc HM.out HSF.out x1
                have hle := keepS_len (dropU x1) S
                generalize keepS (dropU x1) S = S2 at *
                have HASK := Lib.hid hask
                have HDOC := Lib.hid hdoc
                have HLE : Hid (S2.length ≤ S.length) := Lib.hid hle
                have e0 : (kd == 0) = false := beq_eq_false_iff_ne.2 hk0'
                have e1 : (kd == 1) = false := beq_eq_false_iff_ne.2 hk1
                have e2 : (kd == 2) = false := beq_eq_false_iff_ne.2 hk2
                clear hask hdoc hle hdd hk0' hk1 hk2
                go_wp2_with fail
                refine HDOC.out.mono ?_; rintro e w4 ⟨A3, cp3, rfl, h4, _⟩
                have HM4 := Lib.hid h4
                have hck : EdAt w4 (ad.add (k * 11)) ⟨kd, ⟨x0, x1, x2, x3, x4, x5, x6, x7, x8, x9⟩⟩ := HCS.out _ h4.bel
                clear h4 HDOC dk d0 d1 d2 d3 d4 d5 d6 d7 d8 d9
                have d1 : w4.cell? ⟨(ad.add (k * 11)).block, (ad.add (k * 11)).off + 2, none⟩ = some (.int .i64 x1) := hck.d 1 _ rfl
                clear hck
                generalize hzq : ((S.length - S2.length : Nat) : Int) = z at *
                clear hzq
                go_wp2_with fail
                refine (HASK.out _ _ _ HM4.out).mono ?_; rintro e w5 ⟨rfl, h5⟩
                have HM5 := Lib.hid h5
                clear h5 HASK HM4 d1
                have hzz : (z != z) = false := by simp
                have hnn : (((S2.length : Nat) : Int) != ((S2.length : Nat) : Int)) = false := by simp
                go_wp2_with fail
                refine (mc_len HM5.out).mono ?_; rintro e w6 ⟨rfl, rfl⟩
                go_wp2_with fail
                go_roundw
                case rel => exact ⟨k + 1, by omega, by go_num, S2, A3, cp3, rfl, HM5.out, by have := HSL.out; have := HLE.out; omega⟩
                case measure => simp [intOf]; omega
    · obtain rfl : k = m := by omega
      go_wp2_with fail
      refine (ct_awake_any _).mono ?_; rintro e w3 ⟨rfl, g3⟩
      have R4 := Lib.hid (HM.out.below g3)
      clear g3
      go_wp2_with fail
      go_ret
      exact ⟨rfl, R4.out.bel⟩
end Go.Proofs.Ytmnbkghihdbepaa

/- Proved: what ControlPlays answers, for every slice of deeds. Conditions: those that the theorems name. -/
namespace Go.Proofs.Ytmnbkghihdbepaa
open Go.ChangeShapes Go.WideShapes Go.ChangeAt Go.RowKit

set_option maxRecDepth 100000 in
theorem ct_play_walk (A : Option Addr) (m c : Nat) (ds : List Ed) (w : World) (hd : Eds w A m ds) :
    Calls Try.prog 3 #[.slice A m c] w fun e w' => e = .returned (.bool true) ∧ Below w.heap.size w w' := by
  by_cases hm : (m : Int) ≤ 60
  · exact ct_play_main A m c ds w hm hd
  · have h' : (60 : Int) < (m : Int) := by omega
    clear hd hm
    go_enter Try.func3, Try.ntmps3
    go_wp2_with fail
    refine (ct_awake_any _).mono ?_; rintro e w2 ⟨rfl, g2⟩
    have G2 := Lib.hid g2
    clear g2
    go_wp2_with fail
    go_ret
    exact ⟨rfl, G2.out⟩
end Go.Proofs.Ytmnbkghihdbepaa

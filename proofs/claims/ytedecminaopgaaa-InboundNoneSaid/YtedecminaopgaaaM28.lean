/- Proved: lemmas of one statement's proof, merged by program: what each part proves stands ahead of it. Conditions: those that the lemmas name. -/
import Derived.Test.YtedecminaopgaaaM27

/- Proved: the first calls of the laws of package inbound. Conditions: those that the theorem names. -/
namespace Go.Proofs.Ytedecminaopgaaa
open Go.ChangeShapes Go.WideShapes Go.ChangeAt Go.RowKit

set_option maxRecDepth 100000 in
set_option maxHeartbeats 6400000 in
theorem ib_awake_any (w : World) :
    Calls Try.prog 8 #[] w fun e w' => e = .returned (.bool true) ∧ Below w.heap.size w w' := by
  have sabc : (ibabc.toList == ibabc.toList) = true := by simp
  have sd : (ibd.toList == ibd.toList) = true := by simp
  have HP := Lib.hid (fun W => cf_rplain W)
  have HN := Lib.hid (fun W (g : Below w.heap.size w W) => ix_new w W plainC 3 g (by decide) (by decide) (by decide))
  rw [ia0] at HN
  have HB := Lib.hid (fun W => ib_new_bad ⟨0, 0, 0, 0, 0, 0, 0, 0, 0, 0, 0⟩ 3 W (by decide))
  unfold Cf.val at HB
  dsimp only at HB
  unfold GivesCf at HP
  generalize plainC.val = pv at *
  go_enter Try.func8, Try.ntmps8
  go_wp2_with fail
  refine (HP.out _).mono ?_; rintro e w1 ⟨rfl, g1⟩
  have G1 := Lib.hid g1
  clear g1
  go_wp2_with fail
  refine (HN.out _ G1.out).mono ?_; rintro e w2 ⟨i, rfl, r2, _⟩
  have R2 := Lib.hid r2
  clear r2 G1
  go_wp2_with fail
  refine (HB.out _).mono ?_; rintro e w3 ⟨rfl, g3⟩
  have R3 := Lib.hid (R2.out.below g3)
  clear g3 R2
  go_wp2_with fail
  refine (ix_saw R3.out 2 3 ⟨by decide, by decide⟩ ia1).mono ?_; rintro e w4 ⟨rfl, r4, _⟩
  have R4 := Lib.hid r4
  clear r4 R3
  go_wp2_with fail
  refine (ix_saw R4.out 4 1 ⟨by decide, by decide⟩ ia2).mono ?_; rintro e w5 ⟨rfl, r5, _⟩
  have R5 := Lib.hid r5
  clear r5 R4
  go_wp2_with fail
  refine (ix_lacks R5.out [0, 1, 2] ia3).mono ?_; rintro e w6 ⟨A, cc, rfl, hc, hA, hu, g6⟩
  have R6 := Lib.hid (R5.out.below g6)
  have U6 := Lib.hid hu
  clear hu g6 R5 hc hA
  dsimp only [List.length_cons, List.length_nil, Nat.reduceAdd]
  go_wp2_with fail
  refine (ix_put R6.out 0 3 ibab ⟨by decide, by decide⟩ (by decide) ia4).mono ?_; rintro e w7 ⟨rfl, r7, k7⟩
  have R7 := Lib.hid r7
  have U7 := Lib.hid (k7 _ _ _ U6.out)
  clear r7 k7 R6 U6
  go_wp2_with fail
  refine (ix_put R7.out 1 3 ibcd ⟨by decide, by decide⟩ (by decide) ia5).mono ?_; rintro e w8 ⟨rfl, r8, k8⟩
  have R8 := Lib.hid r8
  have U8 := Lib.hid (k8 _ _ _ U7.out)
  clear r8 k8 R7 U7
  go_wp2_with fail
  refine (ix_deliver R8.out 4 ia6).mono ?_; rintro e w9 ⟨rfl, r9, k9⟩
  have R9 := Lib.hid r9
  have U9 := Lib.hid (k9 _ _ _ U8.out)
  clear r9 k9 R8 U8
  go_wp2_with fail
  refine (ix_read R9.out 3 0 ibabc ia7).mono ?_; rintro e w10 ⟨rfl, r10, k10⟩
  have R10 := Lib.hid r10
  have U10 := Lib.hid (k10 _ _ _ U9.out)
  clear r10 k10 R9 U9
  go_wp2_with fail
  refine (ix_fin R10.out 1 2 ⟨by decide, by decide⟩ ia8).mono ?_; rintro e w11 ⟨rfl, r11, k11⟩
  have R11 := Lib.hid r11
  have U11 := Lib.hid (k11 _ _ _ U10.out)
  clear r11 k11 R10 U10
  go_wp2_with fail
  refine (ix_fin R11.out 2 0 ⟨by decide, by decide⟩ ia9).mono ?_; rintro e w12 ⟨rfl, r12, k12⟩
  have R12 := Lib.hid r12
  have U12 := Lib.hid (k12 _ _ _ U11.out)
  clear r12 k12 R11 U11
  go_wp2_with fail
  refine (ix_ended R12.out true ia10).mono ?_; rintro e w13 ⟨rfl, g13⟩
  have R13 := Lib.hid (R12.out.below g13)
  have U13 := Lib.hid (U12.out.below g13)
  clear g13 R12 U12
  go_wp2_with fail
  refine (ix_ack R13.out 3 4 ia11).mono ?_; rintro e w14 ⟨rfl, g14⟩
  have R14 := Lib.hid (R13.out.below g14)
  have U14 := Lib.hid (U13.out.below g14)
  clear g14 R13 U13
  go_wp2_with fail
  refine (ix_read R14.out 9 0 ibd ia12).mono ?_; rintro e w15 ⟨rfl, r15, k15⟩
  have R15 := Lib.hid r15
  have U15 := Lib.hid (k15 _ _ _ U14.out)
  clear r15 k15 R14 U14
  go_wp2_with fail
  refine (ix_read R15.out 9 13 S0 ia13).mono ?_; rintro e w16 ⟨rfl, r16, k16⟩
  have R16 := Lib.hid r16
  have U16 := Lib.hid (k16 _ _ _ U15.out)
  clear r16 k16 R15 U15
  go_wp2_with fail
  refine (ix_read R16.out 0 1 S0 ia14).mono ?_; rintro e w17 ⟨rfl, r17, k17⟩
  have al : Below w17.heap.size w17 (w17.alloc (.cells #[.int .u32 0, .int .u32 1, .int .u32 2] 32)) := (Below.refl _ _).alloc (Nat.le_refl _) _
  have R17 := Lib.hid (r17.below al)
  have U17 := Lib.hid ((k17 _ _ _ U16.out).below al)
  have V17 : Hid (Uw (w17.alloc (.cells #[.int .u32 0, .int .u32 1, .int .u32 2] 32)) (some ⟨w17.heap.size, 0, none⟩) 3 [0, 1, 2]) := Lib.hid (uw_new w17 [0, 1, 2])
  clear r17 k17 al R16 U16
  go_wp2_with fail
  refine (ri_numbers _ _ 3 _ _ [0, 1, 2] _ U17.out V17.out (by decide)).mono ?_; rintro e w18 ⟨rfl, g18⟩
  have R18 := Lib.hid (R17.out.below g18)
  clear g18 R17 U17 V17
  go_wp2_with fail
  refine (ix_saw R18.out 2 1 ⟨by decide, by decide⟩ ia15).mono ?_; rintro e w19 ⟨rfl, r19, _⟩
  have R19 := Lib.hid r19
  clear r19 R18
  go_wp2_with fail
  refine (ix_saw R19.out 1 0 ⟨by decide, by decide⟩ ia16).mono ?_; rintro e w20 ⟨rfl, r20, _⟩
  have R20 := Lib.hid r20
  clear r20 R19
  go_wp2_with fail
  refine (ix_held R20.out 0 rfl).mono ?_; rintro e w21 ⟨rfl, rfl⟩
  go_wp2_with fail
  go_ret
  exact ⟨rfl, R20.out.bel⟩
end Go.Proofs.Ytedecminaopgaaa

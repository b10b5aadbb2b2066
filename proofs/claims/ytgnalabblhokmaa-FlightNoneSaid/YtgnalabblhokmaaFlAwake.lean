/- Proved: what the first calls of the laws of package flight answer. Conditions: those that the theorems name. -/
import Derived.Test.YtgnalabblhokmaaFlLaw
import Derived.Test.YtgnalabblhokmaaBitOf
namespace Go.Proofs.Ytgnalabblhokmaa
open Go.ChangeShapes Go.WideShapes Go.ChangeAt Go.RowKit

set_option maxRecDepth 100000 in
set_option maxHeartbeats 4000000 in
theorem fl_awake_any (w : World) :
    Calls Try.prog 12 #[] w fun e w' => e = .returned (.bool true) ∧ Below w.heap.size w w' := by
  have HN := Lib.hid (fbo_new w w 4294967295 2 (Below.refl _ _) ⟨by decide, by decide⟩ (by decide) (by decide))
  go_enter Try.func12, Try.ntmps12
  go_wp2_with fail
  refine HN.out.mono ?_; rintro e w1 ⟨b, rfl, r1⟩
  have R1 := Lib.hid r1
  clear r1 HN
  go_wp2_with fail
  refine (fl_new_bad 0 0 _ (Or.inl (by decide))).mono ?_; rintro e w2 ⟨rfl, rfl⟩
  go_wp2_with fail
  refine (fbo_add R1.out flx 3 5 (by decide +kernel) (by decide) (by decide) (by decide) (by decide)).mono ?_; rintro e w3 ⟨rfl, r3, _⟩
  have R3 : Hid (FB w w3 b (2 : Nat) 0 [⟨flx, 3, 5⟩]) := Lib.hid r3
  clear r3 R1
  go_wp2_with fail
  refine (fbo_add R3.out fly 4 7 (by decide +kernel) (by decide) (by decide) (by decide) (by decide)).mono ?_; rintro e w4 ⟨rfl, r4, _⟩
  have R4 : Hid (FB w w4 b (2 : Nat) 1 [⟨flx, 3, 5⟩, ⟨fly, 4, 7⟩]) := Lib.hid r4
  clear r4 R3
  go_wp2_with fail
  refine (fbo_full R4.out flz 4 7 (by decide +kernel) (by decide) (by decide) (by decide) (by decide)).mono ?_; rintro e w5 ⟨rfl, r5, _⟩
  have R5 := Lib.hid (r5.below ((Below.refl _ w5).alloc (Nat.le_refl _) (.cells #[.int .i64 1] 3))).1
  have HI := Lib.hid (is_zone w5 1)
  clear r5 R4
  go_wp2_with fail
  refine (rof_any _ _ _ _ _ HI.out (by decide)).mono ?_; rintro e w6 ⟨rfl, k6⟩
  have R6 := Lib.hid (R5.out.below k6).1
  clear k6 R5 HI
  go_wp2_with fail
  refine (fbo_wants R6.out 4294967295 (ofS [1]) 2 [(4294967295, 0)] fl_wants (by decide) (by decide)).mono ?_; rintro e w7 ⟨A7, c7, rfl, s7, r7, _⟩
  have R7 := Lib.hid r7
  have S7 := Lib.hid s7
  clear s7 r7 R6
  go_wp2_with fail
  refine (fbo_due R7.out 9 3 _ _ fl_due1).mono ?_; rintro e w8 ⟨A8, c8, rfl, u8, r8, q8⟩
  have R8 := Lib.hid r8
  have S8 := Lib.hid (q8.1 _ _ _ S7.out)
  have U8 := Lib.hid u8
  clear u8 r8 q8 R7 S7
  go_wp2_with fail
  refine (fbo_due R8.out 9 3 _ _ fl_due2).mono ?_; rintro e w9 ⟨A9, c9, rfl, _, r9, q9⟩
  have R9 := Lib.hid r9
  have S9 := Lib.hid (q9.1 _ _ _ S8.out)
  have U9 := Lib.hid (q9.2 _ _ _ U8.out)
  clear r9 q9 R8 S8 U8
  go_wp2_with fail
  refine (fbo_ack R9.out 0 ⟨by decide, by decide⟩ 1 fl_ack1).mono ?_; rintro e wa ⟨rfl, ra, qa⟩
  have RA : Hid (FB w wa b (2 : Nat) 1 [⟨fly, 4, 7⟩]) := Lib.hid ra
  have SA := Lib.hid (qa.1 _ _ _ S9.out)
  have UA := Lib.hid (qa.2 _ _ _ U9.out)
  clear ra qa R9 S9 U9
  go_wp2_with fail
  refine (fbo_body RA.out 0 _ _ fl_body2).mono ?_; rintro e wb ⟨rfl, rb, qb⟩
  have B2 : Below wb.heap.size wb (wb.alloc (.cells #[.int .u32 4294967295, .int .i64 0] 56)) := (Below.refl _ wb).alloc (Nat.le_refl _) _
  have RC := Lib.hid (rb.below B2).1
  have SC := Lib.hid ((qb.1 _ _ _ SA.out).below B2)
  have UC := Lib.hid ((qb.2 _ _ _ UA.out).below B2)
  have SL := Lib.hid (sn_one wb 4294967295 0)
  clear rb qb B2 RA SA UA
  go_wp2_with fail
  refine (rsame22 A7 (some ⟨wb.heap.size, 0, none⟩) 1 c7 1 _ _ SC.out SL.out (by decide)).mono ?_; rintro e wd ⟨rfl, kd⟩
  have D2 : Below wd.heap.size wd (wd.alloc (.cells #[.int .u32 4294967295] 22)) := (Below.refl _ wd).alloc (Nat.le_refl _) _
  have RD := Lib.hid ((RC.out.below kd).1.below D2).1
  have UD := Lib.hid ((UC.out.below kd).below D2)
  have UL := Lib.hid (uw_one wd 4294967295)
  clear kd D2 RC SC UC SL
  go_wp2_with fail
  refine (fsame15 A8 (some ⟨wd.heap.size, 0, none⟩) 1 c8 1 _ _ UD.out UL.out (by decide)).mono ?_; rintro e we ⟨rfl, ke⟩
  have RE := Lib.hid (RD.out.below ke).1
  clear ke RD UD UL
  go_wp2_with fail
  refine (fbo_base RE.out).mono ?_; rintro e wf ⟨rfl, rfl⟩
  rw [show fb 1 [(⟨fly, 4, 7⟩ : Bl)].length = 0 by decide]
  go_wp2_with fail
  refine (fbo_next RE.out).mono ?_; rintro e wf ⟨rfl, rfl⟩
  go_wp2_with fail
  refine (fbo_len RE.out).mono ?_; rintro e wf ⟨rfl, rfl⟩
  rw [show ([(⟨fly, 4, 7⟩ : Bl)].length : Int) = 1 by decide]
  go_wp2_with fail
  refine (fbo_ack RE.out 9 ⟨by decide, by decide⟩ 0 fl_ack2).mono ?_; rintro e wg ⟨rfl, rg, _⟩
  have RG := Lib.hid rg
  clear rg RE
  go_wp2_with fail
  go_ret
  exact ⟨rfl, RG.out.bel⟩
end Go.Proofs.Ytgnalabblhokmaa

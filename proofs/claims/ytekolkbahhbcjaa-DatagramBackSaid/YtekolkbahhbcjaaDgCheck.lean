/- Proved: what Check and Size of package datagram answer. Conditions: those that the theorems name. -/
import Derived.Test.YtekolkbahhbcjaaDgChecked
namespace Go.Proofs.Ytekolkbahhbcjaa
open Go.ChangeShapes Go.WideShapes Go.ChangeAt Go.RowKit

set_option maxHeartbeats 1600000 in
theorem dcheck_any (d : Dg) (w : World) (hb : d.body.size ≤ maxLen) : Calls Try.prog 11 #[d.val] w (GivesZ w (chk d)) := by
  have HC := Lib.hid (fun w => checked_any d w hb)
  unfold layT at HC
  generalize grpOf d.kind = g at *
  generalize chk d = z at *
  obtain ⟨a0, a1, a2, a3, a4, a5, a6, a7, a8, a9⟩ := d
  unfold Dg.val at HC ⊢
  simp only at HC ⊢
  clear hb
  by_cases h : z = 0
  · rw [if_pos h] at HC
    unfold layV at HC
    clear h
    go_enter Try.func11, Try.ntmps11
    go_wp2_with fail
    refine (HC.out _).mono ?_; rintro e w1 ⟨rfl, g1⟩
    have B1 : Hid (Below w.heap.size w w1) := Lib.hid (((Below.refl _ _).alloc (Nat.le_refl _) _).trans (g1.mono (by simp)))
    clear g1
    go_wp2_with fail
    go_ret
    exact ⟨rfl, B1.out.alloc B1.out.size _⟩
  · rw [if_neg h] at HC
    unfold layNone at HC
    clear h
    go_enter Try.func11, Try.ntmps11
    go_wp2_with fail
    refine (HC.out _).mono ?_; rintro e w1 ⟨rfl, g1⟩
    have B1 : Hid (Below w.heap.size w w1) := Lib.hid (((Below.refl _ _).alloc (Nat.le_refl _) _).trans (g1.mono (by simp)))
    clear g1
    go_wp2_with fail
    go_ret
    exact ⟨rfl, B1.out.alloc B1.out.size _⟩
theorem sizeT_ok {d : Dg} (h : chk d = 0) : sizeT d = 12 + (grpSz (grpOf d.kind) : Nat) + (d.body.size : Nat) := by
  obtain ⟨_, _, h3, h4⟩ := chk_zero h
  unfold sizeT
  rw [if_pos h, fullS_size, headS_size, ownS_size h3 h4]
  omega
theorem sizeT_no {d : Dg} (h : chk d ≠ 0) : sizeT d = 0 := if_neg h
theorem body_le {d : Dg} (h : chk d = 0) : d.body.size ≤ 1024 := by
  obtain ⟨_, _, h3, h4⟩ := chk_zero h
  generalize grpOf d.kind = g at *
  cases g with
  | shard => exact (shardE_zero (show shardE d = 0 from h3)).2.2.2
  | _ => rw [sub_body h4 (by simp)]; decide
theorem grpSz_le (g : Grp) : grpSz g ≤ 32 := by cases g <;> decide
set_option maxHeartbeats 1600000 in
theorem dsize_any (d : Dg) (w : World) (hb : d.body.size ≤ maxLen) : Calls Try.prog 13 #[d.val] w (GivesZ w (sizeT d)) := by
  have HC := Lib.hid (fun w => checked_any d w hb)
  unfold layT at HC
  by_cases h : chk d = 0
  · have hb := body_le h
    have HS := Lib.hid (sizeT_ok h)
    generalize sizeT d = sz at *
    rw [if_pos h, h] at HC
    have hg := grpSz_le (grpOf d.kind)
    unfold layV at HC
    generalize grpOf d.kind = g at *
    clear h
    obtain ⟨a0, a1, a2, a3, a4, a5, a6, a7, a8, a9⟩ := d
    unfold Dg.val at HC ⊢
    simp only at HC hb HS ⊢
    have hg2 : (grpSz g : Int) ≤ 32 := by omega
    have hg3 : (0 : Int) ≤ (grpSz g : Int) := by omega
    have hb2 : (a9.size : Int) ≤ 1024 := by omega
    clear hg hb
    generalize grpSz g = gs at *
    go_enter Try.func13, Try.ntmps13
    go_wp2_with fail
    refine (HC.out _).mono ?_; rintro e w1 ⟨rfl, g1⟩
    have D1 := (At.new w 24 [.int .i64 a0, .int .i64 a1, .int .u32 (a2 : Nat), .int .i64 a3, .int .i64 a4, .int .i64 a5, .int .i64 a6, .int .i64 a7, .string a8, .string a9]).below g1 (by simp)
    have hc := D1.cell 9 rfl
    have hlt := D1.lt
    have B1 : Hid (Below w.heap.size w w1) := Lib.hid (((Below.refl _ _).alloc (Nat.le_refl _) _).trans (g1.mono (by simp)))
    clear g1 D1
    go_wp2_with fail
    go_ret
    exact ⟨ret_int (by rw [HS.out]), B1.out.alloc B1.out.size _⟩
  · have h1 : (chk d != 0) = true := by simpa using h
    rw [if_neg h] at HC
    rw [sizeT_no h]
    unfold layNone at HC
    generalize chk d = z at *
    obtain ⟨a0, a1, a2, a3, a4, a5, a6, a7, a8, a9⟩ := d
    unfold Dg.val at HC ⊢
    simp only at HC ⊢
    clear hb h
    go_enter Try.func13, Try.ntmps13
    go_wp2_with fail
    refine (HC.out _).mono ?_; rintro e w1 ⟨rfl, g1⟩
    have B1 : Hid (Below w.heap.size w w1) := Lib.hid (((Below.refl _ _).alloc (Nat.le_refl _) _).trans (g1.mono (by simp)))
    clear g1
    go_wp2_with fail
    go_ret
    exact ⟨rfl, B1.out.alloc B1.out.size _⟩
end Go.Proofs.Ytekolkbahhbcjaa

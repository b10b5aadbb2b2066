/- Proved: what the document's shard, own and Check answer. Conditions: those that the theorems name. -/
import Derived.Test.YtekolkbahhbcjaaDgReadP
namespace Go.Proofs.Ytekolkbahhbcjaa
open Go.ChangeShapes Go.WideShapes Go.ChangeAt Go.RowKit

set_option maxRecDepth 100000 in
set_option maxHeartbeats 3200000 in
theorem rshard_k1 (a0 a1 : Int) (a2 : Nat) (a3 a4 a5 a6 a7 : Int) (a8 a9 : ByteArray) (w : World)  (h : a4 < 1) : Calls Try.prog 22 #[Dg.val ⟨a0, a1, a2, a3, a4, a5, a6, a7, a8, a9⟩] w (GivesZ w 2) := by
  unfold Dg.val
  simp only
  go_enter Try.func22, Try.ntmps22
  go_wp2_with fail
  go_ret
  exact ⟨rfl, (Below.refl _ _).alloc (Nat.le_refl _) _⟩
set_option maxRecDepth 100000 in
set_option maxHeartbeats 3200000 in
theorem rshard_k2 (a0 a1 : Int) (a2 : Nat) (a3 a4 a5 a6 a7 : Int) (a8 a9 : ByteArray) (w : World) (k1 : 1 ≤ a4) (h : 32 < a4) : Calls Try.prog 22 #[Dg.val ⟨a0, a1, a2, a3, a4, a5, a6, a7, a8, a9⟩] w (GivesZ w 2) := by
  unfold Dg.val
  simp only
  go_enter Try.func22, Try.ntmps22
  go_wp2_with fail
  go_ret
  exact ⟨rfl, (Below.refl _ _).alloc (Nat.le_refl _) _⟩
set_option maxRecDepth 100000 in
set_option maxHeartbeats 3200000 in
theorem rshard_n1 (a0 a1 : Int) (a2 : Nat) (a3 a4 a5 a6 a7 : Int) (a8 a9 : ByteArray) (w : World) (k1 : 1 ≤ a4) (k2 : a4 ≤ 32) (h : a5 < a4) : Calls Try.prog 22 #[Dg.val ⟨a0, a1, a2, a3, a4, a5, a6, a7, a8, a9⟩] w (GivesZ w 2) := by
  unfold Dg.val
  simp only
  go_enter Try.func22, Try.ntmps22
  go_wp2_with fail
  go_ret
  exact ⟨rfl, (Below.refl _ _).alloc (Nat.le_refl _) _⟩
set_option maxRecDepth 100000 in
set_option maxHeartbeats 3200000 in
theorem rshard_n2 (a0 a1 : Int) (a2 : Nat) (a3 a4 a5 a6 a7 : Int) (a8 a9 : ByteArray) (w : World) (k1 : 1 ≤ a4) (k2 : a4 ≤ 32) (n1 : a4 ≤ a5) (h : 255 < a5) : Calls Try.prog 22 #[Dg.val ⟨a0, a1, a2, a3, a4, a5, a6, a7, a8, a9⟩] w (GivesZ w 2) := by
  unfold Dg.val
  simp only
  go_enter Try.func22, Try.ntmps22
  go_wp2_with fail
  go_ret
  exact ⟨rfl, (Below.refl _ _).alloc (Nat.le_refl _) _⟩
set_option maxRecDepth 100000 in
set_option maxHeartbeats 3200000 in
theorem rshard_i1 (a0 a1 : Int) (a2 : Nat) (a3 a4 a5 a6 a7 : Int) (a8 a9 : ByteArray) (w : World) (k1 : 1 ≤ a4) (k2 : a4 ≤ 32) (n1 : a4 ≤ a5) (n2 : a5 ≤ 255) (h : a3 < 0) : Calls Try.prog 22 #[Dg.val ⟨a0, a1, a2, a3, a4, a5, a6, a7, a8, a9⟩] w (GivesZ w 2) := by
  unfold Dg.val
  simp only
  go_enter Try.func22, Try.ntmps22
  go_wp2_with fail
  go_ret
  exact ⟨rfl, (Below.refl _ _).alloc (Nat.le_refl _) _⟩
set_option maxRecDepth 100000 in
set_option maxHeartbeats 3200000 in
theorem rshard_i2 (a0 a1 : Int) (a2 : Nat) (a3 a4 a5 a6 a7 : Int) (a8 a9 : ByteArray) (w : World) (k1 : 1 ≤ a4) (k2 : a4 ≤ 32) (n1 : a4 ≤ a5) (n2 : a5 ≤ 255) (i1 : 0 ≤ a3) (h : a5 ≤ a3) : Calls Try.prog 22 #[Dg.val ⟨a0, a1, a2, a3, a4, a5, a6, a7, a8, a9⟩] w (GivesZ w 2) := by
  unfold Dg.val
  simp only
  go_enter Try.func22, Try.ntmps22
  go_wp2_with fail
  go_ret
  exact ⟨rfl, (Below.refl _ _).alloc (Nat.le_refl _) _⟩
set_option maxRecDepth 100000 in
set_option maxHeartbeats 3200000 in
theorem rshard_half (a0 a1 : Int) (a2 : Nat) (a3 a4 a5 a6 a7 : Int) (a8 a9 : ByteArray) (w : World) (k1 : 1 ≤ a4) (k2 : a4 ≤ 32) (n1 : a4 ≤ a5) (n2 : a5 ≤ 255) (i1 : 0 ≤ a3) (i2 : a3 < a5) (h4 : ¬ (a3 < a4 ↔ a0 = 1)) : Calls Try.prog 22 #[Dg.val ⟨a0, a1, a2, a3, a4, a5, a6, a7, a8, a9⟩] w (GivesZ w 2) := by
  have hx : (decide (a3 < a4) == (a0 == 1)) = false := by
    by_cases p : a3 < a4 <;> by_cases q : a0 = 1 <;> simp [p, q] at h4 ⊢
  clear h4
  unfold Dg.val
  simp only
  go_enter Try.func22, Try.ntmps22
  go_wp2_with fail
  go_ret
  exact ⟨rfl, (Below.refl _ _).alloc (Nat.le_refl _) _⟩
set_option maxRecDepth 100000 in
set_option maxHeartbeats 3200000 in
theorem rshard_l1 (a0 a1 : Int) (a2 : Nat) (a3 a4 a5 a6 a7 : Int) (a8 a9 : ByteArray) (w : World) (k1 : 1 ≤ a4) (k2 : a4 ≤ 32) (n1 : a4 ≤ a5) (n2 : a5 ≤ 255) (i1 : 0 ≤ a3) (i2 : a3 < a5) (h4 : a3 < a4 ↔ a0 = 1) (l1 : a6 < 1) : Calls Try.prog 22 #[Dg.val ⟨a0, a1, a2, a3, a4, a5, a6, a7, a8, a9⟩] w (GivesZ w 2) := by
  have hx : (decide (a3 < a4) == (a0 == 1)) = true := by
    by_cases p : a3 < a4 <;> by_cases q : a0 = 1 <;> simp [p, q] at h4 ⊢
  clear h4
  unfold Dg.val
  simp only
  go_enter Try.func22, Try.ntmps22
  go_wp2_with fail
  go_ret
  exact ⟨rfl, (Below.refl _ _).alloc (Nat.le_refl _) _⟩
set_option maxRecDepth 100000 in
set_option maxHeartbeats 3200000 in
theorem rshard_l2 (a0 a1 : Int) (a2 : Nat) (a3 a4 a5 a6 a7 : Int) (a8 a9 : ByteArray) (w : World) (k1 : 1 ≤ a4) (k2 : a4 ≤ 32) (n1 : a4 ≤ a5) (n2 : a5 ≤ 255) (i1 : 0 ≤ a3) (i2 : a3 < a5) (h4 : a3 < a4 ↔ a0 = 1) (l1 : 1 ≤ a6) (l2 : 32768 < a6) : Calls Try.prog 22 #[Dg.val ⟨a0, a1, a2, a3, a4, a5, a6, a7, a8, a9⟩] w (GivesZ w 2) := by
  have hx : (decide (a3 < a4) == (a0 == 1)) = true := by
    by_cases p : a3 < a4 <;> by_cases q : a0 = 1 <;> simp [p, q] at h4 ⊢
  clear h4
  unfold Dg.val
  simp only
  go_enter Try.func22, Try.ntmps22
  go_wp2_with fail
  go_ret
  exact ⟨rfl, (Below.refl _ _).alloc (Nat.le_refl _) _⟩
set_option maxRecDepth 100000 in
set_option maxHeartbeats 3200000 in
theorem rshard_b1 (a0 a1 : Int) (a2 : Nat) (a3 a4 a5 a6 a7 : Int) (a8 a9 : ByteArray) (w : World) (k1 : 1 ≤ a4) (k2 : a4 ≤ 32) (n1 : a4 ≤ a5) (n2 : a5 ≤ 255) (i1 : 0 ≤ a3) (i2 : a3 < a5) (h4 : a3 < a4 ↔ a0 = 1) (l1 : 1 ≤ a6) (l2 : a6 ≤ 32768) (hs : ¬ (a9.size : Int) = sizeZ a6 a4) : Calls Try.prog 22 #[Dg.val ⟨a0, a1, a2, a3, a4, a5, a6, a7, a8, a9⟩] w (GivesZ w 3) := by
  have hx : (decide (a3 < a4) == (a0 == 1)) = true := by
    by_cases p : a3 < a4 <;> by_cases q : a0 = 1 <;> simp [p, q] at h4 ⊢
  clear h4
  have HQ : Hid (∀ w, Calls Try.prog 35 #[.int .i64 a6, .int .i64 a4] w fun e w' => e = .returned (.int .i64 (sizeZ a6 a4)) ∧ w' = w) := Lib.hid fun w => (rsize_any a6 a4 w (by simp [Lit.wf, IntKind.min, IntKind.max, IntKind.signed, IntKind.bits]; omega)).mono fun _ _ h => ⟨h.1, h.2.symm⟩
  generalize sizeZ a6 a4 = Q at *
  have hne : ((a9.size : Int) != Q) = true := by simp [hs]
  have hne2 : ((a9.size : Int) == Q) = false := by simp [hs]
  clear hs
  unfold Dg.val
  simp only
  go_enter Try.func22, Try.ntmps22
  go_wp2_with fail
  go_quiet ((go_at_call 35; exact Calls.quiet_of_same (HQ.out _)))
  go_wp2_with fail
  go_ret
  exact ⟨rfl, below_drewN ((Below.refl _ _).alloc (Nat.le_refl _) _) _⟩
set_option maxRecDepth 100000 in
set_option maxHeartbeats 3200000 in
theorem rshard_b2 (a0 a1 : Int) (a2 : Nat) (a3 a4 a5 a6 a7 : Int) (a8 a9 : ByteArray) (w : World) (k1 : 1 ≤ a4) (k2 : a4 ≤ 32) (n1 : a4 ≤ a5) (n2 : a5 ≤ 255) (i1 : 0 ≤ a3) (i2 : a3 < a5) (h4 : a3 < a4 ↔ a0 = 1) (l1 : 1 ≤ a6) (l2 : a6 ≤ 32768) (hs : (a9.size : Int) = sizeZ a6 a4) (hl : ¬ a9.size ≤ 1024) : Calls Try.prog 22 #[Dg.val ⟨a0, a1, a2, a3, a4, a5, a6, a7, a8, a9⟩] w (GivesZ w 3) := by
  have hx : (decide (a3 < a4) == (a0 == 1)) = true := by
    by_cases p : a3 < a4 <;> by_cases q : a0 = 1 <;> simp [p, q] at h4 ⊢
  clear h4
  have HQ : Hid (∀ w, Calls Try.prog 35 #[.int .i64 a6, .int .i64 a4] w fun e w' => e = .returned (.int .i64 (sizeZ a6 a4)) ∧ w' = w) := Lib.hid fun w => (rsize_any a6 a4 w (by simp [Lit.wf, IntKind.min, IntKind.max, IntKind.signed, IntKind.bits]; omega)).mono fun _ _ h => ⟨h.1, h.2.symm⟩
  generalize sizeZ a6 a4 = Q at *
  have hne : ((a9.size : Int) != Q) = false := by simp [hs]
  have hne2 : ((a9.size : Int) == Q) = true := by simp [hs]
  have hl2 : (1024 : Int) < (a9.size : Int) := by omega
  clear hs hl
  unfold Dg.val
  simp only
  go_enter Try.func22, Try.ntmps22
  go_wp2_with fail
  go_quiet ((go_at_call 35; exact Calls.quiet_of_same (HQ.out _)))
  go_wp2_with fail
  go_ret
  exact ⟨rfl, below_drewN ((Below.refl _ _).alloc (Nat.le_refl _) _) _⟩
set_option maxRecDepth 100000 in
set_option maxHeartbeats 3200000 in
theorem rshard_b3 (a0 a1 : Int) (a2 : Nat) (a3 a4 a5 a6 a7 : Int) (a8 a9 : ByteArray) (w : World) (k1 : 1 ≤ a4) (k2 : a4 ≤ 32) (n1 : a4 ≤ a5) (n2 : a5 ≤ 255) (i1 : 0 ≤ a3) (i2 : a3 < a5) (h4 : a3 < a4 ↔ a0 = 1) (l1 : 1 ≤ a6) (l2 : a6 ≤ 32768) (hs : (a9.size : Int) = sizeZ a6 a4) (hl : a9.size ≤ 1024) : Calls Try.prog 22 #[Dg.val ⟨a0, a1, a2, a3, a4, a5, a6, a7, a8, a9⟩] w (GivesZ w 0) := by
  have hx : (decide (a3 < a4) == (a0 == 1)) = true := by
    by_cases p : a3 < a4 <;> by_cases q : a0 = 1 <;> simp [p, q] at h4 ⊢
  clear h4
  have HQ : Hid (∀ w, Calls Try.prog 35 #[.int .i64 a6, .int .i64 a4] w fun e w' => e = .returned (.int .i64 (sizeZ a6 a4)) ∧ w' = w) := Lib.hid fun w => (rsize_any a6 a4 w (by simp [Lit.wf, IntKind.min, IntKind.max, IntKind.signed, IntKind.bits]; omega)).mono fun _ _ h => ⟨h.1, h.2.symm⟩
  generalize sizeZ a6 a4 = Q at *
  have hne : ((a9.size : Int) != Q) = false := by simp [hs]
  have hne2 : ((a9.size : Int) == Q) = true := by simp [hs]
  have hl2 : (a9.size : Int) ≤ 1024 := by omega
  clear hs hl
  unfold Dg.val
  simp only
  go_enter Try.func22, Try.ntmps22
  go_wp2_with fail
  go_quiet ((go_at_call 35; exact Calls.quiet_of_same (HQ.out _)))
  go_wp2_with fail
  go_ret
  exact ⟨rfl, below_drewN ((Below.refl _ _).alloc (Nat.le_refl _) _) _⟩
theorem rshard_any (d : Dg) (w : World) : Calls Try.prog 22 #[d.val] w (GivesZ w (shardE d)) := by
  obtain ⟨a0, a1, a2, a3, a4, a5, a6, a7, a8, a9⟩ := d
  unfold shardE
  simp only
  by_cases k1 : 1 ≤ a4
  · by_cases k2 : a4 ≤ 32
    · by_cases n1 : a4 ≤ a5
      · by_cases n2 : a5 ≤ 255
        · by_cases i1 : 0 ≤ a3
          · by_cases i2 : a3 < a5
            · rw [if_neg (fun q => q ⟨k1, k2, n1, n2, i1, i2⟩)]
              by_cases h4 : a3 < a4 ↔ a0 = 1
              · by_cases l1 : 1 ≤ a6
                · by_cases l2 : a6 ≤ 32768
                  · rw [if_neg (fun q => q ⟨h4, l1, l2⟩)]
                    by_cases hs : (a9.size : Int) = sizeZ a6 a4
                    · by_cases hl : a9.size ≤ 1024
                      · rw [if_neg (fun q => q ⟨hs, hl⟩)]
                        exact rshard_b3 _ _ _ _ _ _ _ _ _ _ w k1 k2 n1 n2 i1 i2 h4 l1 l2 hs hl
                      · rw [if_pos (fun q => hl q.2)]
                        exact rshard_b2 _ _ _ _ _ _ _ _ _ _ w k1 k2 n1 n2 i1 i2 h4 l1 l2 hs hl
                    · rw [if_pos (fun q => hs q.1)]
                      exact rshard_b1 _ _ _ _ _ _ _ _ _ _ w k1 k2 n1 n2 i1 i2 h4 l1 l2 hs
                  · rw [if_pos (fun q => l2 q.2.2)]
                    exact rshard_l2 _ _ _ _ _ _ _ _ _ _ w k1 k2 n1 n2 i1 i2 h4 l1 (by omega)
                · rw [if_pos (fun q => l1 q.2.1)]
                  exact rshard_l1 _ _ _ _ _ _ _ _ _ _ w k1 k2 n1 n2 i1 i2 h4 (by omega)
              · rw [if_pos (fun q => h4 q.1)]
                exact rshard_half _ _ _ _ _ _ _ _ _ _ w k1 k2 n1 n2 i1 i2 h4
            · rw [if_pos (fun q => i2 q.2.2.2.2.2)]
              exact rshard_i2 _ _ _ _ _ _ _ _ _ _ w k1 k2 n1 n2 i1 (by omega)
          · rw [if_pos (fun q => i1 q.2.2.2.2.1)]
            exact rshard_i1 _ _ _ _ _ _ _ _ _ _ w k1 k2 n1 n2 (by omega)
        · rw [if_pos (fun q => n2 q.2.2.2.1)]
          exact rshard_n2 _ _ _ _ _ _ _ _ _ _ w k1 k2 n1 (by omega)
      · rw [if_pos (fun q => n1 q.2.2.1)]
        exact rshard_n1 _ _ _ _ _ _ _ _ _ _ w k1 k2 (by omega)
    · rw [if_pos (fun q => k2 q.2.1)]
      exact rshard_k2 _ _ _ _ _ _ _ _ _ _ w k1 (by omega)
  · rw [if_pos (fun q => k1 q.1)]
    exact rshard_k1 _ _ _ _ _ _ _ _ _ _ w (by omega)
end Go.Proofs.Ytekolkbahhbcjaa

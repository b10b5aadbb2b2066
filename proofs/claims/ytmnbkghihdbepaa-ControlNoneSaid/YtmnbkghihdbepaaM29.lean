/- Proved: lemmas of one statement's proof, merged by program: what each part proves stands ahead of it. Conditions: those that the lemmas name. -/
import Derived.Test.YtmnbkghihdbepaaM28

/- Proved: what the document's shard, own and Check answer. Conditions: those that the theorems name. -/
namespace Go.Proofs.Ytmnbkghihdbepaa
open Go.ChangeShapes Go.WideShapes Go.ChangeAt Go.RowKit

set_option maxRecDepth 100000 in
set_option maxHeartbeats 3200000 in
theorem rshard_k1 (a0 a1 : Int) (a2 : Nat) (a3 a4 a5 a6 a7 : Int) (a8 a9 : ByteArray) (w : World)  (h : a4 < 1) : Calls Try.prog 26 #[Dg.val ⟨a0, a1, a2, a3, a4, a5, a6, a7, a8, a9⟩] w (GivesZ w 2) := by
  unfold Dg.val
  simp only
  go_enter Try.func26, Try.ntmps26
  go_wp2_with fail
  go_ret
  exact ⟨rfl, (Below.refl _ _).alloc (Nat.le_refl _) _⟩
set_option maxRecDepth 100000 in
set_option maxHeartbeats 3200000 in
theorem rshard_k2 (a0 a1 : Int) (a2 : Nat) (a3 a4 a5 a6 a7 : Int) (a8 a9 : ByteArray) (w : World) (k1 : 1 ≤ a4) (h : 32 < a4) : Calls Try.prog 26 #[Dg.val ⟨a0, a1, a2, a3, a4, a5, a6, a7, a8, a9⟩] w (GivesZ w 2) := by
  unfold Dg.val
  simp only
  go_enter Try.func26, Try.ntmps26
  go_wp2_with fail
  go_ret
  exact ⟨rfl, (Below.refl _ _).alloc (Nat.le_refl _) _⟩
set_option maxRecDepth 100000 in
set_option maxHeartbeats 3200000 in
theorem rshard_n1 (a0 a1 : Int) (a2 : Nat) (a3 a4 a5 a6 a7 : Int) (a8 a9 : ByteArray) (w : World) (k1 : 1 ≤ a4) (k2 : a4 ≤ 32) (h : a5 < a4) : Calls Try.prog 26 #[Dg.val ⟨a0, a1, a2, a3, a4, a5, a6, a7, a8, a9⟩] w (GivesZ w 2) := by
  unfold Dg.val
  simp only
  go_enter Try.func26, Try.ntmps26
  go_wp2_with fail
  go_ret
  exact ⟨rfl, (Below.refl _ _).alloc (Nat.le_refl _) _⟩
set_option maxRecDepth 100000 in
set_option maxHeartbeats 3200000 in
theorem rshard_n2 (a0 a1 : Int) (a2 : Nat) (a3 a4 a5 a6 a7 : Int) (a8 a9 : ByteArray) (w : World) (k1 : 1 ≤ a4) (k2 : a4 ≤ 32) (n1 : a4 ≤ a5) (h : 255 < a5) : Calls Try.prog 26 #[Dg.val ⟨a0, a1, a2, a3, a4, a5, a6, a7, a8, a9⟩] w (GivesZ w 2) := by
  unfold Dg.val
  simp only
  go_enter Try.func26, Try.ntmps26
  go_wp2_with fail
  go_ret
  exact ⟨rfl, (Below.refl _ _).alloc (Nat.le_refl _) _⟩
set_option maxRecDepth 100000 in
set_option maxHeartbeats 3200000 in
theorem rshard_i1 (a0 a1 : Int) (a2 : Nat) (a3 a4 a5 a6 a7 : Int) (a8 a9 : ByteArray) (w : World) (k1 : 1 ≤ a4) (k2 : a4 ≤ 32) (n1 : a4 ≤ a5) (n2 : a5 ≤ 255) (h : a3 < 0) : Calls Try.prog 26 #[Dg.val ⟨a0, a1, a2, a3, a4, a5, a6, a7, a8, a9⟩] w (GivesZ w 2) := by
  unfold Dg.val
  simp only
  go_enter Try.func26, Try.ntmps26
  go_wp2_with fail
  go_ret
  exact ⟨rfl, (Below.refl _ _).alloc (Nat.le_refl _) _⟩
set_option maxRecDepth 100000 in
set_option maxHeartbeats 3200000 in
theorem rshard_i2 (a0 a1 : Int) (a2 : Nat) (a3 a4 a5 a6 a7 : Int) (a8 a9 : ByteArray) (w : World) (k1 : 1 ≤ a4) (k2 : a4 ≤ 32) (n1 : a4 ≤ a5) (n2 : a5 ≤ 255) (i1 : 0 ≤ a3) (h : a5 ≤ a3) : Calls Try.prog 26 #[Dg.val ⟨a0, a1, a2, a3, a4, a5, a6, a7, a8, a9⟩] w (GivesZ w 2) := by
  unfold Dg.val
  simp only
  go_enter Try.func26, Try.ntmps26
  go_wp2_with fail
  go_ret
  exact ⟨rfl, (Below.refl _ _).alloc (Nat.le_refl _) _⟩
set_option maxRecDepth 100000 in
set_option maxHeartbeats 3200000 in
theorem rshard_half (a0 a1 : Int) (a2 : Nat) (a3 a4 a5 a6 a7 : Int) (a8 a9 : ByteArray) (w : World) (k1 : 1 ≤ a4) (k2 : a4 ≤ 32) (n1 : a4 ≤ a5) (n2 : a5 ≤ 255) (i1 : 0 ≤ a3) (i2 : a3 < a5) (h4 : ¬ (a3 < a4 ↔ a0 = 1)) : Calls Try.prog 26 #[Dg.val ⟨a0, a1, a2, a3, a4, a5, a6, a7, a8, a9⟩] w (GivesZ w 2) := by
  have hx : (decide (a3 < a4) == (a0 == 1)) = false := by
    by_cases p : a3 < a4 <;> by_cases q : a0 = 1 <;> simp [p, q] at h4 ⊢
  clear h4
  unfold Dg.val
  simp only
  go_enter Try.func26, Try.ntmps26
  go_wp2_with fail
  go_ret
  exact ⟨rfl, (Below.refl _ _).alloc (Nat.le_refl _) _⟩
set_option maxRecDepth 100000 in
set_option maxHeartbeats 3200000 in
theorem rshard_l1 (a0 a1 : Int) (a2 : Nat) (a3 a4 a5 a6 a7 : Int) (a8 a9 : ByteArray) (w : World) (k1 : 1 ≤ a4) (k2 : a4 ≤ 32) (n1 : a4 ≤ a5) (n2 : a5 ≤ 255) (i1 : 0 ≤ a3) (i2 : a3 < a5) (h4 : a3 < a4 ↔ a0 = 1) (l1 : a6 < 1) : Calls Try.prog 26 #[Dg.val ⟨a0, a1, a2, a3, a4, a5, a6, a7, a8, a9⟩] w (GivesZ w 2) := by
  have hx : (decide (a3 < a4) == (a0 == 1)) = true := by
    by_cases p : a3 < a4 <;> by_cases q : a0 = 1 <;> simp [p, q] at h4 ⊢
  clear h4
  unfold Dg.val
  simp only
  go_enter Try.func26, Try.ntmps26
  go_wp2_with fail
  go_ret
  exact ⟨rfl, (Below.refl _ _).alloc (Nat.le_refl _) _⟩
set_option maxRecDepth 100000 in
set_option maxHeartbeats 3200000 in
theorem rshard_l2 (a0 a1 : Int) (a2 : Nat) (a3 a4 a5 a6 a7 : Int) (a8 a9 : ByteArray) (w : World) (k1 : 1 ≤ a4) (k2 : a4 ≤ 32) (n1 : a4 ≤ a5) (n2 : a5 ≤ 255) (i1 : 0 ≤ a3) (i2 : a3 < a5) (h4 : a3 < a4 ↔ a0 = 1) (l1 : 1 ≤ a6) (l2 : 32768 < a6) : Calls Try.prog 26 #[Dg.val ⟨a0, a1, a2, a3, a4, a5, a6, a7, a8, a9⟩] w (GivesZ w 2) := by
  have hx : (decide (a3 < a4) == (a0 == 1)) = true := by
    by_cases p : a3 < a4 <;> by_cases q : a0 = 1 <;> simp [p, q] at h4 ⊢
  clear h4
  unfold Dg.val
  simp only
  go_enter Try.func26, Try.ntmps26
  go_wp2_with fail
  go_ret
  exact ⟨rfl, (Below.refl _ _).alloc (Nat.le_refl _) _⟩
set_option maxRecDepth 100000 in
set_option maxHeartbeats 3200000 in
theorem rshard_b1 (a0 a1 : Int) (a2 : Nat) (a3 a4 a5 a6 a7 : Int) (a8 a9 : ByteArray) (w : World) (k1 : 1 ≤ a4) (k2 : a4 ≤ 32) (n1 : a4 ≤ a5) (n2 : a5 ≤ 255) (i1 : 0 ≤ a3) (i2 : a3 < a5) (h4 : a3 < a4 ↔ a0 = 1) (l1 : 1 ≤ a6) (l2 : a6 ≤ 32768) (hs : ¬ (a9.size : Int) = sizeZ a6 a4) : Calls Try.prog 26 #[Dg.val ⟨a0, a1, a2, a3, a4, a5, a6, a7, a8, a9⟩] w (GivesZ w 3) := by
  have hx : (decide (a3 < a4) == (a0 == 1)) = true := by
    by_cases p : a3 < a4 <;> by_cases q : a0 = 1 <;> simp [p, q] at h4 ⊢
  clear h4
  have HQ : Hid (∀ w, Calls Try.prog 33 #[.int .i64 a6, .int .i64 a4] w fun e w' => e = .returned (.int .i64 (sizeZ a6 a4)) ∧ w' = w) := Lib.hid fun w => (rsize_any a6 a4 w (by simp [Lit.wf, IntKind.min, IntKind.max, IntKind.signed, IntKind.bits]; omega)).mono fun _ _ h => ⟨h.1, h.2.symm⟩
  generalize sizeZ a6 a4 = Q at *
  have hne : ((a9.size : Int) != Q) = true := by simp [hs]
  have hne2 : ((a9.size : Int) == Q) = false := by simp [hs]
  clear hs
  unfold Dg.val
  simp only
  go_enter Try.func26, Try.ntmps26
  go_wp2_with fail
  go_quiet ((go_at_call 33; exact Calls.quiet_of_same (HQ.out _)))
  go_wp2_with fail
  go_ret
  exact ⟨rfl, below_drewN ((Below.refl _ _).alloc (Nat.le_refl _) _) _⟩
set_option maxRecDepth 100000 in
set_option maxHeartbeats 3200000 in
theorem rshard_b2 (a0 a1 : Int) (a2 : Nat) (a3 a4 a5 a6 a7 : Int) (a8 a9 : ByteArray) (w : World) (k1 : 1 ≤ a4) (k2 : a4 ≤ 32) (n1 : a4 ≤ a5) (n2 : a5 ≤ 255) (i1 : 0 ≤ a3) (i2 : a3 < a5) (h4 : a3 < a4 ↔ a0 = 1) (l1 : 1 ≤ a6) (l2 : a6 ≤ 32768) (hs : (a9.size : Int) = sizeZ a6 a4) (hl : ¬ a9.size ≤ 1024) : Calls Try.prog 26 #[Dg.val ⟨a0, a1, a2, a3, a4, a5, a6, a7, a8, a9⟩] w (GivesZ w 3) := by
  have hx : (decide (a3 < a4) == (a0 == 1)) = true := by
    by_cases p : a3 < a4 <;> by_cases q : a0 = 1 <;> simp [p, q] at h4 ⊢
  clear h4
  have HQ : Hid (∀ w, Calls Try.prog 33 #[.int .i64 a6, .int .i64 a4] w fun e w' => e = .returned (.int .i64 (sizeZ a6 a4)) ∧ w' = w) := Lib.hid fun w => (rsize_any a6 a4 w (by simp [Lit.wf, IntKind.min, IntKind.max, IntKind.signed, IntKind.bits]; omega)).mono fun _ _ h => ⟨h.1, h.2.symm⟩
  generalize sizeZ a6 a4 = Q at *
  have hne : ((a9.size : Int) != Q) = false := by simp [hs]
  have hne2 : ((a9.size : Int) == Q) = true := by simp [hs]
  have hl2 : (1024 : Int) < (a9.size : Int) := by omega
  clear hs hl
  unfold Dg.val
  simp only
  go_enter Try.func26, Try.ntmps26
  go_wp2_with fail
  go_quiet ((go_at_call 33; exact Calls.quiet_of_same (HQ.out _)))
  go_wp2_with fail
  go_ret
  exact ⟨rfl, below_drewN ((Below.refl _ _).alloc (Nat.le_refl _) _) _⟩
set_option maxRecDepth 100000 in
set_option maxHeartbeats 3200000 in
theorem rshard_b3 (a0 a1 : Int) (a2 : Nat) (a3 a4 a5 a6 a7 : Int) (a8 a9 : ByteArray) (w : World) (k1 : 1 ≤ a4) (k2 : a4 ≤ 32) (n1 : a4 ≤ a5) (n2 : a5 ≤ 255) (i1 : 0 ≤ a3) (i2 : a3 < a5) (h4 : a3 < a4 ↔ a0 = 1) (l1 : 1 ≤ a6) (l2 : a6 ≤ 32768) (hs : (a9.size : Int) = sizeZ a6 a4) (hl : a9.size ≤ 1024) : Calls Try.prog 26 #[Dg.val ⟨a0, a1, a2, a3, a4, a5, a6, a7, a8, a9⟩] w (GivesZ w 0) := by
  have hx : (decide (a3 < a4) == (a0 == 1)) = true := by
    by_cases p : a3 < a4 <;> by_cases q : a0 = 1 <;> simp [p, q] at h4 ⊢
  clear h4
  have HQ : Hid (∀ w, Calls Try.prog 33 #[.int .i64 a6, .int .i64 a4] w fun e w' => e = .returned (.int .i64 (sizeZ a6 a4)) ∧ w' = w) := Lib.hid fun w => (rsize_any a6 a4 w (by simp [Lit.wf, IntKind.min, IntKind.max, IntKind.signed, IntKind.bits]; omega)).mono fun _ _ h => ⟨h.1, h.2.symm⟩
  generalize sizeZ a6 a4 = Q at *
  have hne : ((a9.size : Int) != Q) = false := by simp [hs]
  have hne2 : ((a9.size : Int) == Q) = true := by simp [hs]
  have hl2 : (a9.size : Int) ≤ 1024 := by omega
  clear hs hl
  unfold Dg.val
  simp only
  go_enter Try.func26, Try.ntmps26
  go_wp2_with fail
  go_quiet ((go_at_call 33; exact Calls.quiet_of_same (HQ.out _)))
  go_wp2_with fail
  go_ret
  exact ⟨rfl, below_drewN ((Below.refl _ _).alloc (Nat.le_refl _) _) _⟩
theorem rshard_any (d : Dg) (w : World) : Calls Try.prog 26 #[d.val] w (GivesZ w (shardE d)) := by
  obtain ⟨a0, a1, a2, a3, a4, a5, a6, a7, a8, a9⟩ := d
  unfold shardE
  simp only
  by_cases k1 : 1 ≤ a4
  · by_cases k2 : a4 ≤ 32
    · by_cases n1 : a4 ≤ a5
      · by_cases n2 : a5 ≤ 255
        · by_cases i1 : 0 ≤ a3
          · by_cases i2 : a3 < a5
            · rw [if_neg (fun q => q ⟨k1, k2, n1, n2, i1, i2⟩)]
              by_cases h4 : a3 < a4 ↔ a0 = 1
              · by_cases l1 : 1 ≤ a6
                · by_cases l2 : a6 ≤ 32768
                  · rw [if_neg (fun q => q ⟨h4, l1, l2⟩)]
                    by_cases hs : (a9.size : Int) = sizeZ a6 a4
                    · by_cases hl : a9.size ≤ 1024
                      · rw [if_neg (fun q => q ⟨hs, hl⟩)]
                        exact rshard_b3 _ _ _ _ _ _ _ _ _ _ w k1 k2 n1 n2 i1 i2 h4 l1 l2 hs hl
                      · rw [if_pos (fun q => hl q.2)]
                        exact rshard_b2 _ _ _ _ _ _ _ _ _ _ w k1 k2 n1 n2 i1 i2 h4 l1 l2 hs hl
                    · rw [if_pos (fun q => hs q.1)]
                      exact rshard_b1 _ _ _ _ _ _ _ _ _ _ w k1 k2 n1 n2 i1 i2 h4 l1 l2 hs
                  · rw [if_pos (fun q => l2 q.2.2)]
                    exact rshard_l2 _ _ _ _ _ _ _ _ _ _ w k1 k2 n1 n2 i1 i2 h4 l1 (by omega)
                · rw [if_pos (fun q => l1 q.2.1)]
                  exact rshard_l1 _ _ _ _ _ _ _ _ _ _ w k1 k2 n1 n2 i1 i2 h4 (by omega)
              · rw [if_pos (fun q => h4 q.1)]
                exact rshard_half _ _ _ _ _ _ _ _ _ _ w k1 k2 n1 n2 i1 i2 h4
            · rw [if_pos (fun q => i2 q.2.2.2.2.2)]
              exact rshard_i2 _ _ _ _ _ _ _ _ _ _ w k1 k2 n1 n2 i1 (by omega)
          · rw [if_pos (fun q => i1 q.2.2.2.2.1)]
            exact rshard_i1 _ _ _ _ _ _ _ _ _ _ w k1 k2 n1 n2 (by omega)
        · rw [if_pos (fun q => n2 q.2.2.2.1)]
          exact rshard_n2 _ _ _ _ _ _ _ _ _ _ w k1 k2 n1 (by omega)
      · rw [if_pos (fun q => n1 q.2.2.1)]
        exact rshard_n1 _ _ _ _ _ _ _ _ _ _ w k1 k2 (by omega)
    · rw [if_pos (fun q => k2 q.2.1)]
      exact rshard_k2 _ _ _ _ _ _ _ _ _ _ w k1 (by omega)
  · rw [if_pos (fun q => k1 q.1)]
    exact rshard_k1 _ _ _ _ _ _ _ _ _ _ w (by omega)
end Go.Proofs.Ytmnbkghihdbepaa

/- Proved: what the document's own and Check answer. Conditions: those that the theorems name. -/
namespace Go.Proofs.Ytmnbkghihdbepaa
open Go.ChangeShapes Go.WideShapes Go.ChangeAt Go.RowKit

/-- the error of other fields that are not zero. -/
def fmE (b : Bool) : Int := if b = true then 0 else 5
set_option maxRecDepth 100000 in
set_option maxHeartbeats 3200000 in
theorem rown_shard (a0 a1 : Int) (a2 : Nat) (a3 a4 a5 a6 a7 : Int) (a8 a9 : ByteArray) (w : World) (h : a0 = 1 ∨ a0 = 2) : Calls Try.prog 27 #[Dg.val ⟨a0, a1, a2, a3, a4, a5, a6, a7, a8, a9⟩] w (GivesD w ⟨a0, a1, a2, a3, a4, a5, a6, 0, S0, a9⟩) := by
  unfold Dg.val
  simp only
  rcases h with rfl | rfl
  all_goals
    go_enter Try.func27, Try.ntmps27
    go_wp2_with fail
    refine bodyPost_ret (v := Dg.val ⟨_, a1, a2, a3, a4, a5, a6, 0, S0, a9⟩) (by simp [results, Try.results27, Dg.val, go_sem]; rfl) rfl ⟨rfl, ?_⟩
    exact (((Below.refl _ _).alloc (Nat.le_refl _) _).alloc (by simp) _).alloc (by simp; omega) _
set_option maxRecDepth 100000 in
set_option maxHeartbeats 3200000 in
theorem rown_hav (a0 a1 : Int) (a2 : Nat) (a3 a4 a5 a6 a7 : Int) (a8 a9 : ByteArray) (w : World) (h : a0 = 3) : Calls Try.prog 27 #[Dg.val ⟨a0, a1, a2, a3, a4, a5, a6, a7, a8, a9⟩] w (GivesD w ⟨a0, a1, a2, 0, 0, 0, 0, 0, a8, S0⟩) := by
  unfold Dg.val
  simp only
  subst h
  all_goals
    go_enter Try.func27, Try.ntmps27
    go_wp2_with fail
    refine bodyPost_ret (v := Dg.val ⟨_, a1, a2, 0, 0, 0, 0, 0, a8, S0⟩) (by simp [results, Try.results27, Dg.val, go_sem]; rfl) rfl ⟨rfl, ?_⟩
    exact (((Below.refl _ _).alloc (Nat.le_refl _) _).alloc (by simp) _).alloc (by simp; omega) _
set_option maxRecDepth 100000 in
set_option maxHeartbeats 3200000 in
theorem rown_cred (a0 a1 : Int) (a2 : Nat) (a3 a4 a5 a6 a7 : Int) (a8 a9 : ByteArray) (w : World) (h : a0 = 4) : Calls Try.prog 27 #[Dg.val ⟨a0, a1, a2, a3, a4, a5, a6, a7, a8, a9⟩] w (GivesD w ⟨a0, a1, a2, 0, 0, 0, 0, a7, S0, S0⟩) := by
  unfold Dg.val
  simp only
  subst h
  all_goals
    go_enter Try.func27, Try.ntmps27
    go_wp2_with fail
    refine bodyPost_ret (v := Dg.val ⟨_, a1, a2, 0, 0, 0, 0, a7, S0, S0⟩) (by simp [results, Try.results27, Dg.val, go_sem] <;> rfl) rfl ⟨rfl, ?_⟩
    exact (((Below.refl _ _).alloc (Nat.le_refl _) _).alloc (by simp) _).alloc (by simp; omega) _
set_option maxRecDepth 100000 in
set_option maxHeartbeats 3200000 in
theorem rown_bare (a0 a1 : Int) (a2 : Nat) (a3 a4 a5 a6 a7 : Int) (a8 a9 : ByteArray) (w : World) (h : ¬ (a0 = 1 ∨ a0 = 2 ∨ a0 = 3 ∨ a0 = 4)) : Calls Try.prog 27 #[Dg.val ⟨a0, a1, a2, a3, a4, a5, a6, a7, a8, a9⟩] w (GivesD w ⟨a0, a1, a2, 0, 0, 0, 0, 0, S0, S0⟩) := by
  have e1 : (a0 == 1) = false := by rw [beq_eq_false_iff_ne]; omega
  have e2 : (a0 == 2) = false := by rw [beq_eq_false_iff_ne]; omega
  have e3 : (a0 == 3) = false := by rw [beq_eq_false_iff_ne]; omega
  have e4 : (a0 == 4) = false := by rw [beq_eq_false_iff_ne]; omega
  clear h
  unfold Dg.val
  simp only
  all_goals
    go_enter Try.func27, Try.ntmps27
    go_wp2_with fail
    refine bodyPost_ret (v := Dg.val ⟨a0, a1, a2, 0, 0, 0, 0, 0, S0, S0⟩) (by simp [results, Try.results27, Dg.val, go_sem]; rfl) rfl ⟨rfl, ?_⟩
    exact (((Below.refl _ _).alloc (Nat.le_refl _) _).alloc (by simp) _).alloc (by simp; omega) _
theorem rown_any (d : Dg) (w : World) : Calls Try.prog 27 #[d.val] w (GivesD w (d.own (grpOf d.kind))) := by
  obtain ⟨a0, a1, a2, a3, a4, a5, a6, a7, a8, a9⟩ := d
  unfold grpOf
  simp only
  by_cases h1 : a0 = 1 ∨ a0 = 2
  · rw [if_pos h1]
    exact rown_shard _ _ _ _ _ _ _ _ _ _ w h1
  · rw [if_neg h1]
    by_cases h3 : a0 = 3
    · rw [if_pos h3]
      exact rown_hav _ _ _ _ _ _ _ _ _ _ w h3
    · rw [if_neg h3]
      by_cases h4 : a0 = 4
      · rw [if_pos h4]
        exact rown_cred _ _ _ _ _ _ _ _ _ _ w h4
      · rw [if_neg h4]
        exact rown_bare _ _ _ _ _ _ _ _ _ _ w (by omega)
theorem own_eqB (g : Grp) (d : Dg) : (d.own g).eqB d = (d.without g).eqB d.common := by
  rw [Bool.eq_iff_iff, eqB_iff, eqB_iff, own_iff]
set_option maxRecDepth 100000 in
set_option maxHeartbeats 3200000 in
theorem rcheck_k1 (a0 a1 : Int) (a2 : Nat) (a3 a4 a5 a6 a7 : Int) (a8 a9 : ByteArray) (w : World) (h : a0 < 1) : Calls Try.prog 17 #[Dg.val ⟨a0, a1, a2, a3, a4, a5, a6, a7, a8, a9⟩] w (GivesZ w 1) := by
  unfold Dg.val
  simp only
  go_enter Try.func17, Try.ntmps17
  go_wp2_with fail
  go_ret
  exact ⟨rfl, (Below.refl _ _).alloc (Nat.le_refl _) _⟩
set_option maxRecDepth 100000 in
set_option maxHeartbeats 3200000 in
theorem rcheck_k2 (a0 a1 : Int) (a2 : Nat) (a3 a4 a5 a6 a7 : Int) (a8 a9 : ByteArray) (w : World) (h0 : 1 ≤ a0) (h : 6 < a0) : Calls Try.prog 17 #[Dg.val ⟨a0, a1, a2, a3, a4, a5, a6, a7, a8, a9⟩] w (GivesZ w 1) := by
  unfold Dg.val
  simp only
  go_enter Try.func17, Try.ntmps17
  go_wp2_with fail
  go_ret
  exact ⟨rfl, (Below.refl _ _).alloc (Nat.le_refl _) _⟩
set_option maxRecDepth 100000 in
set_option maxHeartbeats 3200000 in
theorem rcheck_s1 (a0 a1 : Int) (a2 : Nat) (a3 a4 a5 a6 a7 : Int) (a8 a9 : ByteArray) (w : World) (h0 : 1 ≤ a0) (h1 : a0 ≤ 6) (h : a1 < 0) : Calls Try.prog 17 #[Dg.val ⟨a0, a1, a2, a3, a4, a5, a6, a7, a8, a9⟩] w (GivesZ w 2) := by
  unfold Dg.val
  simp only
  go_enter Try.func17, Try.ntmps17
  go_wp2_with fail
  go_ret
  exact ⟨rfl, (Below.refl _ _).alloc (Nat.le_refl _) _⟩
set_option maxRecDepth 100000 in
set_option maxHeartbeats 3200000 in
theorem rcheck_s2 (a0 a1 : Int) (a2 : Nat) (a3 a4 a5 a6 a7 : Int) (a8 a9 : ByteArray) (w : World) (h0 : 1 ≤ a0) (h1 : a0 ≤ 6) (h2 : 0 ≤ a1) (h : 255 < a1) : Calls Try.prog 17 #[Dg.val ⟨a0, a1, a2, a3, a4, a5, a6, a7, a8, a9⟩] w (GivesZ w 2) := by
  unfold Dg.val
  simp only
  go_enter Try.func17, Try.ntmps17
  go_wp2_with fail
  go_ret
  exact ⟨rfl, (Below.refl _ _).alloc (Nat.le_refl _) _⟩
set_option maxRecDepth 100000 in
set_option maxHeartbeats 3200000 in
theorem rcheck_hav (a0 a1 : Int) (a2 : Nat) (a3 a4 a5 a6 a7 : Int) (a8 a9 : ByteArray) (w : World) (h : a0 = 3) (s1 : 0 ≤ a1) (s2 : a1 ≤ 255) (hn : ¬ a8.size = 32) : Calls Try.prog 17 #[Dg.val ⟨a0, a1, a2, a3, a4, a5, a6, a7, a8, a9⟩] w (GivesZ w 5) := by
  have e : ((a8.size : Int) != 32) = true := by simp; omega
  have e2 : ((a8.size : Int) == 32) = false := by rw [beq_eq_false_iff_ne]; omega
  subst h
  clear hn
  unfold Dg.val
  simp only
  go_enter Try.func17, Try.ntmps17
  go_wp2_with fail
  go_ret
  exact ⟨rfl, (Below.refl _ _).alloc (Nat.le_refl _) _⟩
set_option maxRecDepth 100000 in
set_option maxHeartbeats 3200000 in
theorem rcheck_c1 (a0 a1 : Int) (a2 : Nat) (a3 a4 a5 a6 a7 : Int) (a8 a9 : ByteArray) (w : World) (h : a0 = 4) (s1 : 0 ≤ a1) (s2 : a1 ≤ 255) (hn : a7 < 0) : Calls Try.prog 17 #[Dg.val ⟨a0, a1, a2, a3, a4, a5, a6, a7, a8, a9⟩] w (GivesZ w 2) := by
  subst h
  unfold Dg.val
  simp only
  go_enter Try.func17, Try.ntmps17
  go_wp2_with fail
  go_ret
  exact ⟨rfl, (Below.refl _ _).alloc (Nat.le_refl _) _⟩
set_option maxRecDepth 100000 in
set_option maxHeartbeats 3200000 in
theorem rcheck_c2 (a0 a1 : Int) (a2 : Nat) (a3 a4 a5 a6 a7 : Int) (a8 a9 : ByteArray) (w : World) (h : a0 = 4) (s1 : 0 ≤ a1) (s2 : a1 ≤ 255) (hn : 0 ≤ a7) (hm : 65535 < a7) : Calls Try.prog 17 #[Dg.val ⟨a0, a1, a2, a3, a4, a5, a6, a7, a8, a9⟩] w (GivesZ w 2) := by
  subst h
  unfold Dg.val
  simp only
  go_enter Try.func17, Try.ntmps17
  go_wp2_with fail
  go_ret
  exact ⟨rfl, (Below.refl _ _).alloc (Nat.le_refl _) _⟩
set_option maxRecDepth 100000 in
set_option maxHeartbeats 3200000 in
theorem rcheck_e1 (a0 a1 : Int) (a2 : Nat) (a3 a4 a5 a6 a7 : Int) (a8 a9 : ByteArray) (w : World) (h : a0 = 1) (s1 : 0 ≤ a1) (s2 : a1 ≤ 255) (hz : shardE ⟨a0, a1, a2, a3, a4, a5, a6, a7, a8, a9⟩ ≠ 0) : Calls Try.prog 17 #[Dg.val ⟨a0, a1, a2, a3, a4, a5, a6, a7, a8, a9⟩] w (GivesZ w (shardE ⟨a0, a1, a2, a3, a4, a5, a6, a7, a8, a9⟩)) := by
  have HS := Lib.hid (fun w => rshard_any ⟨a0, a1, a2, a3, a4, a5, a6, a7, a8, a9⟩ w)
  have h3a : (shardE ⟨a0, a1, a2, a3, a4, a5, a6, a7, a8, a9⟩ == 0) = false := by rw [beq_eq_false_iff_ne]; exact hz
  generalize shardE ⟨a0, a1, a2, a3, a4, a5, a6, a7, a8, a9⟩ = z at *
  unfold Dg.val at HS
  simp only at HS
  subst h
  clear hz
  unfold Dg.val
  simp only
  go_enter Try.func17, Try.ntmps17
  go_wp2_with fail
  refine (HS.out _).mono ?_; rintro e w1 ⟨rfl, g1⟩
  have B1 : Hid (Below w.heap.size w w1) := Lib.hid (((Below.refl _ _).alloc (Nat.le_refl _) _).trans (g1.mono (by simp)))
  clear g1
  go_wp2_with fail
  go_quiet (fail)
  go_wp2_with fail
  go_ret
  exact ⟨rfl, below_drewN B1.out _⟩
set_option maxRecDepth 100000 in
set_option maxHeartbeats 3200000 in
theorem rcheck_e2 (a0 a1 : Int) (a2 : Nat) (a3 a4 a5 a6 a7 : Int) (a8 a9 : ByteArray) (w : World) (h : a0 = 2) (s1 : 0 ≤ a1) (s2 : a1 ≤ 255) (hz : shardE ⟨a0, a1, a2, a3, a4, a5, a6, a7, a8, a9⟩ ≠ 0) : Calls Try.prog 17 #[Dg.val ⟨a0, a1, a2, a3, a4, a5, a6, a7, a8, a9⟩] w (GivesZ w (shardE ⟨a0, a1, a2, a3, a4, a5, a6, a7, a8, a9⟩)) := by
  have HS := Lib.hid (fun w => rshard_any ⟨a0, a1, a2, a3, a4, a5, a6, a7, a8, a9⟩ w)
  have h3a : (shardE ⟨a0, a1, a2, a3, a4, a5, a6, a7, a8, a9⟩ == 0) = false := by rw [beq_eq_false_iff_ne]; exact hz
  generalize shardE ⟨a0, a1, a2, a3, a4, a5, a6, a7, a8, a9⟩ = z at *
  unfold Dg.val at HS
  simp only at HS
  subst h
  clear hz
  unfold Dg.val
  simp only
  go_enter Try.func17, Try.ntmps17
  go_wp2_with fail
  refine (HS.out _).mono ?_; rintro e w1 ⟨rfl, g1⟩
  have B1 : Hid (Below w.heap.size w w1) := Lib.hid (((Below.refl _ _).alloc (Nat.le_refl _) _).trans (g1.mono (by simp)))
  clear g1
  go_wp2_with fail
  go_quiet (fail)
  go_wp2_with fail
  go_ret
  exact ⟨rfl, below_drewN B1.out _⟩
set_option maxRecDepth 100000 in
set_option maxHeartbeats 3200000 in
theorem rcheck_f1 (a0 a1 : Int) (a2 : Nat) (a3 a4 a5 a6 a7 : Int) (a8 a9 : ByteArray) (w : World) (h : a0 = 1) (s1 : 0 ≤ a1) (s2 : a1 ≤ 255) (hz : shardE ⟨a0, a1, a2, a3, a4, a5, a6, a7, a8, a9⟩ = 0) (b : Bool) (hb : (Dg.own (grpOf a0) ⟨a0, a1, a2, a3, a4, a5, a6, a7, a8, a9⟩).eqB ⟨a0, a1, a2, a3, a4, a5, a6, a7, a8, a9⟩ = b) : Calls Try.prog 17 #[Dg.val ⟨a0, a1, a2, a3, a4, a5, a6, a7, a8, a9⟩] w (GivesZ w (fmE b)) := by
  have HO := Lib.hid (fun w => rown_any ⟨a0, a1, a2, a3, a4, a5, a6, a7, a8, a9⟩ w)
  have HQ := Lib.hid (fun W => neq_dg (Dg.own (grpOf a0) ⟨a0, a1, a2, a3, a4, a5, a6, a7, a8, a9⟩) ⟨a0, a1, a2, a3, a4, a5, a6, a7, a8, a9⟩ W)
  simp only at HO
  rw [hb] at HQ
  generalize Dg.own (grpOf a0) ⟨a0, a1, a2, a3, a4, a5, a6, a7, a8, a9⟩ = X at *
  obtain ⟨b0, b1, b2, b3, b4, b5, b6, b7, b8, b9⟩ := X
  have HS := Lib.hid (fun w => rshard_any ⟨a0, a1, a2, a3, a4, a5, a6, a7, a8, a9⟩ w)
  rw [hz] at HS
  unfold Dg.val at HS
  simp only at HS
  subst h
  clear hz
  have hq : ∀ W, (binOp .neq 29 (.agg #[.int .i64 b0, .int .i64 b1, .int .u32 (b2 : Nat), .int .i64 b3, .int .i64 b4, .int .i64 b5, .int .i64 b6, .int .i64 b7, .string b8, .string b9]) (.agg #[.int .i64 1, .int .i64 a1, .int .u32 (a2 : Nat), .int .i64 a3, .int .i64 a4, .int .i64 a5, .int .i64 a6, .int .i64 a7, .string a8, .string a9])).run Try.prog W = .ok (.bool (!b)) W := HQ.out
  unfold GivesD Dg.val at HO
  simp only at HO
  clear hb HQ
  unfold Dg.val
  simp only
  go_enter Try.func17, Try.ntmps17
  go_wp2_with fail
  refine (HS.out _).mono ?_; rintro e w1 ⟨rfl, g1⟩
  have B1 : Hid (Below w.heap.size w w1) := Lib.hid (((Below.refl _ _).alloc (Nat.le_refl _) _).trans (g1.mono (by simp)))
  have D1 := Lib.hid ((At.new w 29 [.int .i64 1, .int .i64 a1, .int .u32 (a2 : Nat), .int .i64 a3, .int .i64 a4, .int .i64 a5, .int .i64 a6, .int .i64 a7, .string a8, .string a9]).below g1 (by simp))
  clear g1
  go_wp2_with fail
  have KP : Hid (∀ w6, Below w1.heap.size w1 w6 → w6.cell? ⟨w.heap.size, 0, none⟩ = some (.int .i64 1) ∧ w6.cell? ⟨w.heap.size, 1, none⟩ = some (.int .i64 a1) ∧ w6.cell? ⟨w.heap.size, 2, none⟩ = some (.int .u32 (a2 : Nat)) ∧ w6.cell? ⟨w.heap.size, 3, none⟩ = some (.int .i64 a3) ∧ w6.cell? ⟨w.heap.size, 4, none⟩ = some (.int .i64 a4) ∧ w6.cell? ⟨w.heap.size, 5, none⟩ = some (.int .i64 a5) ∧ w6.cell? ⟨w.heap.size, 6, none⟩ = some (.int .i64 a6) ∧ w6.cell? ⟨w.heap.size, 7, none⟩ = some (.int .i64 a7) ∧ w6.cell? ⟨w.heap.size, 8, none⟩ = some (.string a8) ∧ w6.cell? ⟨w.heap.size, 9, none⟩ = some (.string a9)) := Lib.hid fun w6 h => by
    have d := D1.out.below h D1.out.lt
    exact ⟨d.cell 0 rfl, d.cell 1 rfl, d.cell 2 rfl, d.cell 3 rfl, d.cell 4 rfl, d.cell 5 rfl, d.cell 6 rfl, d.cell 7 rfl, d.cell 8 rfl, d.cell 9 rfl⟩
  have BA : Hid (∀ w6, Below w1.drew.heap.size w1.drew w6 → Below w1.heap.size w1 w6) := Lib.hid fun w6 h => (Below.refl w1.heap.size w1).drew.trans h
  obtain ⟨k0, k1, k2, k3, k4, k5, k6, k7, k8, k9⟩ := KP.out w1.drew (BA.out _ (Below.refl _ _))
  go_region_held3 (fun w' => w'.cell? ⟨w.heap.size, 0, none⟩ = some (.int .i64 1) ∧ w'.cell? ⟨w.heap.size, 1, none⟩ = some (.int .i64 a1) ∧ w'.cell? ⟨w.heap.size, 2, none⟩ = some (.int .u32 (a2 : Nat)) ∧ w'.cell? ⟨w.heap.size, 3, none⟩ = some (.int .i64 a3) ∧ w'.cell? ⟨w.heap.size, 4, none⟩ = some (.int .i64 a4) ∧ w'.cell? ⟨w.heap.size, 5, none⟩ = some (.int .i64 a5) ∧ w'.cell? ⟨w.heap.size, 6, none⟩ = some (.int .i64 a6) ∧ w'.cell? ⟨w.heap.size, 7, none⟩ = some (.int .i64 a7) ∧ w'.cell? ⟨w.heap.size, 8, none⟩ = some (.string a8) ∧ w'.cell? ⟨w.heap.size, 9, none⟩ = some (.string a9))
    (first | go_keep | exact KP.out _ (BA.out _ (Below.refl _ _)) | exact KP.out _ Q1.out)
    (((with_reducible refine (HO.out _).mono ?_); rintro e w2 ⟨rfl, g2⟩; have Q1 := Lib.hid (BA.out _ g2); clear g2))
  cases b with
  | true =>
    go_wp2_with fail
    go_ret
    exact ⟨rfl, B1.out.trans (Q1.out.mono B1.out.size)⟩
  | false =>
    go_wp2_with fail
    go_ret
    exact ⟨rfl, B1.out.trans (Q1.out.mono B1.out.size)⟩
set_option maxRecDepth 100000 in
set_option maxHeartbeats 3200000 in
theorem rcheck_f2 (a0 a1 : Int) (a2 : Nat) (a3 a4 a5 a6 a7 : Int) (a8 a9 : ByteArray) (w : World) (h : a0 = 2) (s1 : 0 ≤ a1) (s2 : a1 ≤ 255) (hz : shardE ⟨a0, a1, a2, a3, a4, a5, a6, a7, a8, a9⟩ = 0) (b : Bool) (hb : (Dg.own (grpOf a0) ⟨a0, a1, a2, a3, a4, a5, a6, a7, a8, a9⟩).eqB ⟨a0, a1, a2, a3, a4, a5, a6, a7, a8, a9⟩ = b) : Calls Try.prog 17 #[Dg.val ⟨a0, a1, a2, a3, a4, a5, a6, a7, a8, a9⟩] w (GivesZ w (fmE b)) := by
  have HO := Lib.hid (fun w => rown_any ⟨a0, a1, a2, a3, a4, a5, a6, a7, a8, a9⟩ w)
  have HQ := Lib.hid (fun W => neq_dg (Dg.own (grpOf a0) ⟨a0, a1, a2, a3, a4, a5, a6, a7, a8, a9⟩) ⟨a0, a1, a2, a3, a4, a5, a6, a7, a8, a9⟩ W)
  simp only at HO
  rw [hb] at HQ
  generalize Dg.own (grpOf a0) ⟨a0, a1, a2, a3, a4, a5, a6, a7, a8, a9⟩ = X at *
  obtain ⟨b0, b1, b2, b3, b4, b5, b6, b7, b8, b9⟩ := X
  have HS := Lib.hid (fun w => rshard_any ⟨a0, a1, a2, a3, a4, a5, a6, a7, a8, a9⟩ w)
  rw [hz] at HS
  unfold Dg.val at HS
  simp only at HS
  subst h
  clear hz
  have hq : ∀ W, (binOp .neq 29 (.agg #[.int .i64 b0, .int .i64 b1, .int .u32 (b2 : Nat), .int .i64 b3, .int .i64 b4, .int .i64 b5, .int .i64 b6, .int .i64 b7, .string b8, .string b9]) (.agg #[.int .i64 2, .int .i64 a1, .int .u32 (a2 : Nat), .int .i64 a3, .int .i64 a4, .int .i64 a5, .int .i64 a6, .int .i64 a7, .string a8, .string a9])).run Try.prog W = .ok (.bool (!b)) W := HQ.out
  unfold GivesD Dg.val at HO
  simp only at HO
  clear hb HQ
  unfold Dg.val
  simp only
  go_enter Try.func17, Try.ntmps17
  go_wp2_with fail
  refine (HS.out _).mono ?_; rintro e w1 ⟨rfl, g1⟩
  have B1 : Hid (Below w.heap.size w w1) := Lib.hid (((Below.refl _ _).alloc (Nat.le_refl _) _).trans (g1.mono (by simp)))
  have D1 := Lib.hid ((At.new w 29 [.int .i64 2, .int .i64 a1, .int .u32 (a2 : Nat), .int .i64 a3, .int .i64 a4, .int .i64 a5, .int .i64 a6, .int .i64 a7, .string a8, .string a9]).below g1 (by simp))
  clear g1
  go_wp2_with fail
  have KP : Hid (∀ w6, Below w1.heap.size w1 w6 → w6.cell? ⟨w.heap.size, 0, none⟩ = some (.int .i64 2) ∧ w6.cell? ⟨w.heap.size, 1, none⟩ = some (.int .i64 a1) ∧ w6.cell? ⟨w.heap.size, 2, none⟩ = some (.int .u32 (a2 : Nat)) ∧ w6.cell? ⟨w.heap.size, 3, none⟩ = some (.int .i64 a3) ∧ w6.cell? ⟨w.heap.size, 4, none⟩ = some (.int .i64 a4) ∧ w6.cell? ⟨w.heap.size, 5, none⟩ = some (.int .i64 a5) ∧ w6.cell? ⟨w.heap.size, 6, none⟩ = some (.int .i64 a6) ∧ w6.cell? ⟨w.heap.size, 7, none⟩ = some (.int .i64 a7) ∧ w6.cell? ⟨w.heap.size, 8, none⟩ = some (.string a8) ∧ w6.cell? ⟨w.heap.size, 9, none⟩ = some (.string a9)) := Lib.hid fun w6 h => by
    have d := D1.out.below h D1.out.lt
    exact ⟨d.cell 0 rfl, d.cell 1 rfl, d.cell 2 rfl, d.cell 3 rfl, d.cell 4 rfl, d.cell 5 rfl, d.cell 6 rfl, d.cell 7 rfl, d.cell 8 rfl, d.cell 9 rfl⟩
  have BA : Hid (∀ w6, Below w1.drew.heap.size w1.drew w6 → Below w1.heap.size w1 w6) := Lib.hid fun w6 h => (Below.refl w1.heap.size w1).drew.trans h
  obtain ⟨k0, k1, k2, k3, k4, k5, k6, k7, k8, k9⟩ := KP.out w1.drew (BA.out _ (Below.refl _ _))
  go_region_held3 (fun w' => w'.cell? ⟨w.heap.size, 0, none⟩ = some (.int .i64 2) ∧ w'.cell? ⟨w.heap.size, 1, none⟩ = some (.int .i64 a1) ∧ w'.cell? ⟨w.heap.size, 2, none⟩ = some (.int .u32 (a2 : Nat)) ∧ w'.cell? ⟨w.heap.size, 3, none⟩ = some (.int .i64 a3) ∧ w'.cell? ⟨w.heap.size, 4, none⟩ = some (.int .i64 a4) ∧ w'.cell? ⟨w.heap.size, 5, none⟩ = some (.int .i64 a5) ∧ w'.cell? ⟨w.heap.size, 6, none⟩ = some (.int .i64 a6) ∧ w'.cell? ⟨w.heap.size, 7, none⟩ = some (.int .i64 a7) ∧ w'.cell? ⟨w.heap.size, 8, none⟩ = some (.string a8) ∧ w'.cell? ⟨w.heap.size, 9, none⟩ = some (.string a9))
    (first | go_keep | exact KP.out _ (BA.out _ (Below.refl _ _)) | exact KP.out _ Q1.out)
    (((with_reducible refine (HO.out _).mono ?_); rintro e w2 ⟨rfl, g2⟩; have Q1 := Lib.hid (BA.out _ g2); clear g2))
  cases b with
  | true =>
    go_wp2_with fail
    go_ret
    exact ⟨rfl, B1.out.trans (Q1.out.mono B1.out.size)⟩
  | false =>
    go_wp2_with fail
    go_ret
    exact ⟨rfl, B1.out.trans (Q1.out.mono B1.out.size)⟩
set_option maxRecDepth 100000 in
set_option maxHeartbeats 3200000 in
theorem rcheck_f3 (a0 a1 : Int) (a2 : Nat) (a3 a4 a5 a6 a7 : Int) (a8 a9 : ByteArray) (w : World) (h : a0 = 3) (s1 : 0 ≤ a1) (s2 : a1 ≤ 255) (hn : a8.size = 32) (b : Bool) (hb : (Dg.own (grpOf a0) ⟨a0, a1, a2, a3, a4, a5, a6, a7, a8, a9⟩).eqB ⟨a0, a1, a2, a3, a4, a5, a6, a7, a8, a9⟩ = b) : Calls Try.prog 17 #[Dg.val ⟨a0, a1, a2, a3, a4, a5, a6, a7, a8, a9⟩] w (GivesZ w (fmE b)) := by
  have HO := Lib.hid (fun w => rown_any ⟨a0, a1, a2, a3, a4, a5, a6, a7, a8, a9⟩ w)
  have HQ := Lib.hid (fun W => neq_dg (Dg.own (grpOf a0) ⟨a0, a1, a2, a3, a4, a5, a6, a7, a8, a9⟩) ⟨a0, a1, a2, a3, a4, a5, a6, a7, a8, a9⟩ W)
  simp only at HO
  rw [hb] at HQ
  generalize Dg.own (grpOf a0) ⟨a0, a1, a2, a3, a4, a5, a6, a7, a8, a9⟩ = X at *
  obtain ⟨b0, b1, b2, b3, b4, b5, b6, b7, b8, b9⟩ := X
  have e : ((a8.size : Int) != 32) = false := by rw [hn]; rfl
  have e2 : ((a8.size : Int) == 32) = true := by rw [hn]; rfl
  subst h
  clear hn
  have hq : ∀ W, (binOp .neq 29 (.agg #[.int .i64 b0, .int .i64 b1, .int .u32 (b2 : Nat), .int .i64 b3, .int .i64 b4, .int .i64 b5, .int .i64 b6, .int .i64 b7, .string b8, .string b9]) (.agg #[.int .i64 3, .int .i64 a1, .int .u32 (a2 : Nat), .int .i64 a3, .int .i64 a4, .int .i64 a5, .int .i64 a6, .int .i64 a7, .string a8, .string a9])).run Try.prog W = .ok (.bool (!b)) W := HQ.out
  unfold GivesD Dg.val at HO
  simp only at HO
  clear hb HQ
  unfold Dg.val
  simp only
  go_enter Try.func17, Try.ntmps17
  go_wp2_with fail
  have B1 := Lib.hid ((Below.refl w.heap.size w).alloc (Nat.le_refl _) (.cells #[.int .i64 3, .int .i64 a1, .int .u32 (a2 : Nat), .int .i64 a3, .int .i64 a4, .int .i64 a5, .int .i64 a6, .int .i64 a7, .string a8, .string a9] 29))
  have D1 : Hid (At (w.alloc (.cells #[.int .i64 3, .int .i64 a1, .int .u32 (a2 : Nat), .int .i64 a3, .int .i64 a4, .int .i64 a5, .int .i64 a6, .int .i64 a7, .string a8, .string a9] 29)) w.heap.size 29 [.int .i64 3, .int .i64 a1, .int .u32 (a2 : Nat), .int .i64 a3, .int .i64 a4, .int .i64 a5, .int .i64 a6, .int .i64 a7, .string a8, .string a9]) := Lib.hid (At.new w 29 [.int .i64 3, .int .i64 a1, .int .u32 (a2 : Nat), .int .i64 a3, .int .i64 a4, .int .i64 a5, .int .i64 a6, .int .i64 a7, .string a8, .string a9])
  generalize w.alloc (.cells #[.int .i64 3, .int .i64 a1, .int .u32 (a2 : Nat), .int .i64 a3, .int .i64 a4, .int .i64 a5, .int .i64 a6, .int .i64 a7, .string a8, .string a9] 29) = w1 at *
  have KP : Hid (∀ w6, Below w1.heap.size w1 w6 → w6.cell? ⟨w.heap.size, 0, none⟩ = some (.int .i64 3) ∧ w6.cell? ⟨w.heap.size, 1, none⟩ = some (.int .i64 a1) ∧ w6.cell? ⟨w.heap.size, 2, none⟩ = some (.int .u32 (a2 : Nat)) ∧ w6.cell? ⟨w.heap.size, 3, none⟩ = some (.int .i64 a3) ∧ w6.cell? ⟨w.heap.size, 4, none⟩ = some (.int .i64 a4) ∧ w6.cell? ⟨w.heap.size, 5, none⟩ = some (.int .i64 a5) ∧ w6.cell? ⟨w.heap.size, 6, none⟩ = some (.int .i64 a6) ∧ w6.cell? ⟨w.heap.size, 7, none⟩ = some (.int .i64 a7) ∧ w6.cell? ⟨w.heap.size, 8, none⟩ = some (.string a8) ∧ w6.cell? ⟨w.heap.size, 9, none⟩ = some (.string a9)) := Lib.hid fun w6 h => by
    have d := D1.out.below h D1.out.lt
    exact ⟨d.cell 0 rfl, d.cell 1 rfl, d.cell 2 rfl, d.cell 3 rfl, d.cell 4 rfl, d.cell 5 rfl, d.cell 6 rfl, d.cell 7 rfl, d.cell 8 rfl, d.cell 9 rfl⟩
  have BA : Hid (∀ w6, Below w1.drew.heap.size w1.drew w6 → Below w1.heap.size w1 w6) := Lib.hid fun w6 h => (Below.refl w1.heap.size w1).drew.trans h
  obtain ⟨k0, k1, k2, k3, k4, k5, k6, k7, k8, k9⟩ := KP.out w1.drew (BA.out _ (Below.refl _ _))
  go_region_held3 (fun w' => w'.cell? ⟨w.heap.size, 0, none⟩ = some (.int .i64 3) ∧ w'.cell? ⟨w.heap.size, 1, none⟩ = some (.int .i64 a1) ∧ w'.cell? ⟨w.heap.size, 2, none⟩ = some (.int .u32 (a2 : Nat)) ∧ w'.cell? ⟨w.heap.size, 3, none⟩ = some (.int .i64 a3) ∧ w'.cell? ⟨w.heap.size, 4, none⟩ = some (.int .i64 a4) ∧ w'.cell? ⟨w.heap.size, 5, none⟩ = some (.int .i64 a5) ∧ w'.cell? ⟨w.heap.size, 6, none⟩ = some (.int .i64 a6) ∧ w'.cell? ⟨w.heap.size, 7, none⟩ = some (.int .i64 a7) ∧ w'.cell? ⟨w.heap.size, 8, none⟩ = some (.string a8) ∧ w'.cell? ⟨w.heap.size, 9, none⟩ = some (.string a9))
    (first | go_keep | exact KP.out _ (BA.out _ (Below.refl _ _)) | exact KP.out _ Q1.out)
    (((with_reducible refine (HO.out _).mono ?_); rintro e w2 ⟨rfl, g2⟩; have Q1 := Lib.hid (BA.out _ g2); clear g2))
  cases b with
  | true =>
    go_wp2_with fail
    go_ret
    exact ⟨rfl, B1.out.trans (Q1.out.mono B1.out.size)⟩
  | false =>
    go_wp2_with fail
    go_ret
    exact ⟨rfl, B1.out.trans (Q1.out.mono B1.out.size)⟩
set_option maxRecDepth 100000 in
set_option maxHeartbeats 3200000 in
theorem rcheck_f4 (a0 a1 : Int) (a2 : Nat) (a3 a4 a5 a6 a7 : Int) (a8 a9 : ByteArray) (w : World) (h : a0 = 4) (s1 : 0 ≤ a1) (s2 : a1 ≤ 255) (hn : 0 ≤ a7) (hm : a7 ≤ 65535) (b : Bool) (hb : (Dg.own (grpOf a0) ⟨a0, a1, a2, a3, a4, a5, a6, a7, a8, a9⟩).eqB ⟨a0, a1, a2, a3, a4, a5, a6, a7, a8, a9⟩ = b) : Calls Try.prog 17 #[Dg.val ⟨a0, a1, a2, a3, a4, a5, a6, a7, a8, a9⟩] w (GivesZ w (fmE b)) := by
  have HO := Lib.hid (fun w => rown_any ⟨a0, a1, a2, a3, a4, a5, a6, a7, a8, a9⟩ w)
  have HQ := Lib.hid (fun W => neq_dg (Dg.own (grpOf a0) ⟨a0, a1, a2, a3, a4, a5, a6, a7, a8, a9⟩) ⟨a0, a1, a2, a3, a4, a5, a6, a7, a8, a9⟩ W)
  simp only at HO
  rw [hb] at HQ
  generalize Dg.own (grpOf a0) ⟨a0, a1, a2, a3, a4, a5, a6, a7, a8, a9⟩ = X at *
  obtain ⟨b0, b1, b2, b3, b4, b5, b6, b7, b8, b9⟩ := X
  subst h
  have hq : ∀ W, (binOp .neq 29 (.agg #[.int .i64 b0, .int .i64 b1, .int .u32 (b2 : Nat), .int .i64 b3, .int .i64 b4, .int .i64 b5, .int .i64 b6, .int .i64 b7, .string b8, .string b9]) (.agg #[.int .i64 4, .int .i64 a1, .int .u32 (a2 : Nat), .int .i64 a3, .int .i64 a4, .int .i64 a5, .int .i64 a6, .int .i64 a7, .string a8, .string a9])).run Try.prog W = .ok (.bool (!b)) W := HQ.out
  unfold GivesD Dg.val at HO
  simp only at HO
  clear hb HQ
  unfold Dg.val
  simp only
  go_enter Try.func17, Try.ntmps17
  go_wp2_with fail
  have B1 := Lib.hid ((Below.refl w.heap.size w).alloc (Nat.le_refl _) (.cells #[.int .i64 4, .int .i64 a1, .int .u32 (a2 : Nat), .int .i64 a3, .int .i64 a4, .int .i64 a5, .int .i64 a6, .int .i64 a7, .string a8, .string a9] 29))
  have D1 : Hid (At (w.alloc (.cells #[.int .i64 4, .int .i64 a1, .int .u32 (a2 : Nat), .int .i64 a3, .int .i64 a4, .int .i64 a5, .int .i64 a6, .int .i64 a7, .string a8, .string a9] 29)) w.heap.size 29 [.int .i64 4, .int .i64 a1, .int .u32 (a2 : Nat), .int .i64 a3, .int .i64 a4, .int .i64 a5, .int .i64 a6, .int .i64 a7, .string a8, .string a9]) := Lib.hid (At.new w 29 [.int .i64 4, .int .i64 a1, .int .u32 (a2 : Nat), .int .i64 a3, .int .i64 a4, .int .i64 a5, .int .i64 a6, .int .i64 a7, .string a8, .string a9])
  generalize w.alloc (.cells #[.int .i64 4, .int .i64 a1, .int .u32 (a2 : Nat), .int .i64 a3, .int .i64 a4, .int .i64 a5, .int .i64 a6, .int .i64 a7, .string a8, .string a9] 29) = w1 at *
  have KP : Hid (∀ w6, Below w1.heap.size w1 w6 → w6.cell? ⟨w.heap.size, 0, none⟩ = some (.int .i64 4) ∧ w6.cell? ⟨w.heap.size, 1, none⟩ = some (.int .i64 a1) ∧ w6.cell? ⟨w.heap.size, 2, none⟩ = some (.int .u32 (a2 : Nat)) ∧ w6.cell? ⟨w.heap.size, 3, none⟩ = some (.int .i64 a3) ∧ w6.cell? ⟨w.heap.size, 4, none⟩ = some (.int .i64 a4) ∧ w6.cell? ⟨w.heap.size, 5, none⟩ = some (.int .i64 a5) ∧ w6.cell? ⟨w.heap.size, 6, none⟩ = some (.int .i64 a6) ∧ w6.cell? ⟨w.heap.size, 7, none⟩ = some (.int .i64 a7) ∧ w6.cell? ⟨w.heap.size, 8, none⟩ = some (.string a8) ∧ w6.cell? ⟨w.heap.size, 9, none⟩ = some (.string a9)) := Lib.hid fun w6 h => by
    have d := D1.out.below h D1.out.lt
    exact ⟨d.cell 0 rfl, d.cell 1 rfl, d.cell 2 rfl, d.cell 3 rfl, d.cell 4 rfl, d.cell 5 rfl, d.cell 6 rfl, d.cell 7 rfl, d.cell 8 rfl, d.cell 9 rfl⟩
  have BA : Hid (∀ w6, Below w1.drew.heap.size w1.drew w6 → Below w1.heap.size w1 w6) := Lib.hid fun w6 h => (Below.refl w1.heap.size w1).drew.trans h
  obtain ⟨k0, k1, k2, k3, k4, k5, k6, k7, k8, k9⟩ := KP.out w1.drew (BA.out _ (Below.refl _ _))
  go_region_held3 (fun w' => w'.cell? ⟨w.heap.size, 0, none⟩ = some (.int .i64 4) ∧ w'.cell? ⟨w.heap.size, 1, none⟩ = some (.int .i64 a1) ∧ w'.cell? ⟨w.heap.size, 2, none⟩ = some (.int .u32 (a2 : Nat)) ∧ w'.cell? ⟨w.heap.size, 3, none⟩ = some (.int .i64 a3) ∧ w'.cell? ⟨w.heap.size, 4, none⟩ = some (.int .i64 a4) ∧ w'.cell? ⟨w.heap.size, 5, none⟩ = some (.int .i64 a5) ∧ w'.cell? ⟨w.heap.size, 6, none⟩ = some (.int .i64 a6) ∧ w'.cell? ⟨w.heap.size, 7, none⟩ = some (.int .i64 a7) ∧ w'.cell? ⟨w.heap.size, 8, none⟩ = some (.string a8) ∧ w'.cell? ⟨w.heap.size, 9, none⟩ = some (.string a9))
    (first | go_keep | exact KP.out _ (BA.out _ (Below.refl _ _)) | exact KP.out _ Q1.out)
    (((with_reducible refine (HO.out _).mono ?_); rintro e w2 ⟨rfl, g2⟩; have Q1 := Lib.hid (BA.out _ g2); clear g2))
  cases b with
  | true =>
    go_wp2_with fail
    go_ret
    exact ⟨rfl, B1.out.trans (Q1.out.mono B1.out.size)⟩
  | false =>
    go_wp2_with fail
    go_ret
    exact ⟨rfl, B1.out.trans (Q1.out.mono B1.out.size)⟩
set_option maxRecDepth 100000 in
set_option maxHeartbeats 3200000 in
theorem rcheck_f5 (a0 a1 : Int) (a2 : Nat) (a3 a4 a5 a6 a7 : Int) (a8 a9 : ByteArray) (w : World) (h : a0 = 5) (s1 : 0 ≤ a1) (s2 : a1 ≤ 255) (b : Bool) (hb : (Dg.own (grpOf a0) ⟨a0, a1, a2, a3, a4, a5, a6, a7, a8, a9⟩).eqB ⟨a0, a1, a2, a3, a4, a5, a6, a7, a8, a9⟩ = b) : Calls Try.prog 17 #[Dg.val ⟨a0, a1, a2, a3, a4, a5, a6, a7, a8, a9⟩] w (GivesZ w (fmE b)) := by
  have HO := Lib.hid (fun w => rown_any ⟨a0, a1, a2, a3, a4, a5, a6, a7, a8, a9⟩ w)
  have HQ := Lib.hid (fun W => neq_dg (Dg.own (grpOf a0) ⟨a0, a1, a2, a3, a4, a5, a6, a7, a8, a9⟩) ⟨a0, a1, a2, a3, a4, a5, a6, a7, a8, a9⟩ W)
  simp only at HO
  rw [hb] at HQ
  generalize Dg.own (grpOf a0) ⟨a0, a1, a2, a3, a4, a5, a6, a7, a8, a9⟩ = X at *
  obtain ⟨b0, b1, b2, b3, b4, b5, b6, b7, b8, b9⟩ := X
  subst h
  have hq : ∀ W, (binOp .neq 29 (.agg #[.int .i64 b0, .int .i64 b1, .int .u32 (b2 : Nat), .int .i64 b3, .int .i64 b4, .int .i64 b5, .int .i64 b6, .int .i64 b7, .string b8, .string b9]) (.agg #[.int .i64 5, .int .i64 a1, .int .u32 (a2 : Nat), .int .i64 a3, .int .i64 a4, .int .i64 a5, .int .i64 a6, .int .i64 a7, .string a8, .string a9])).run Try.prog W = .ok (.bool (!b)) W := HQ.out
  unfold GivesD Dg.val at HO
  simp only at HO
  clear hb HQ
  unfold Dg.val
  simp only
  go_enter Try.func17, Try.ntmps17
  go_wp2_with fail
  have B1 := Lib.hid ((Below.refl w.heap.size w).alloc (Nat.le_refl _) (.cells #[.int .i64 5, .int .i64 a1, .int .u32 (a2 : Nat), .int .i64 a3, .int .i64 a4, .int .i64 a5, .int .i64 a6, .int .i64 a7, .string a8, .string a9] 29))
  have D1 : Hid (At (w.alloc (.cells #[.int .i64 5, .int .i64 a1, .int .u32 (a2 : Nat), .int .i64 a3, .int .i64 a4, .int .i64 a5, .int .i64 a6, .int .i64 a7, .string a8, .string a9] 29)) w.heap.size 29 [.int .i64 5, .int .i64 a1, .int .u32 (a2 : Nat), .int .i64 a3, .int .i64 a4, .int .i64 a5, .int .i64 a6, .int .i64 a7, .string a8, .string a9]) := Lib.hid (At.new w 29 [.int .i64 5, .int .i64 a1, .int .u32 (a2 : Nat), .int .i64 a3, .int .i64 a4, .int .i64 a5, .int .i64 a6, .int .i64 a7, .string a8, .string a9])
  generalize w.alloc (.cells #[.int .i64 5, .int .i64 a1, .int .u32 (a2 : Nat), .int .i64 a3, .int .i64 a4, .int .i64 a5, .int .i64 a6, .int .i64 a7, .string a8, .string a9] 29) = w1 at *
  have KP : Hid (∀ w6, Below w1.heap.size w1 w6 → w6.cell? ⟨w.heap.size, 0, none⟩ = some (.int .i64 5) ∧ w6.cell? ⟨w.heap.size, 1, none⟩ = some (.int .i64 a1) ∧ w6.cell? ⟨w.heap.size, 2, none⟩ = some (.int .u32 (a2 : Nat)) ∧ w6.cell? ⟨w.heap.size, 3, none⟩ = some (.int .i64 a3) ∧ w6.cell? ⟨w.heap.size, 4, none⟩ = some (.int .i64 a4) ∧ w6.cell? ⟨w.heap.size, 5, none⟩ = some (.int .i64 a5) ∧ w6.cell? ⟨w.heap.size, 6, none⟩ = some (.int .i64 a6) ∧ w6.cell? ⟨w.heap.size, 7, none⟩ = some (.int .i64 a7) ∧ w6.cell? ⟨w.heap.size, 8, none⟩ = some (.string a8) ∧ w6.cell? ⟨w.heap.size, 9, none⟩ = some (.string a9)) := Lib.hid fun w6 h => by
    have d := D1.out.below h D1.out.lt
    exact ⟨d.cell 0 rfl, d.cell 1 rfl, d.cell 2 rfl, d.cell 3 rfl, d.cell 4 rfl, d.cell 5 rfl, d.cell 6 rfl, d.cell 7 rfl, d.cell 8 rfl, d.cell 9 rfl⟩
  have BA : Hid (∀ w6, Below w1.drew.heap.size w1.drew w6 → Below w1.heap.size w1 w6) := Lib.hid fun w6 h => (Below.refl w1.heap.size w1).drew.trans h
  obtain ⟨k0, k1, k2, k3, k4, k5, k6, k7, k8, k9⟩ := KP.out w1.drew (BA.out _ (Below.refl _ _))
  go_region_held3 (fun w' => w'.cell? ⟨w.heap.size, 0, none⟩ = some (.int .i64 5) ∧ w'.cell? ⟨w.heap.size, 1, none⟩ = some (.int .i64 a1) ∧ w'.cell? ⟨w.heap.size, 2, none⟩ = some (.int .u32 (a2 : Nat)) ∧ w'.cell? ⟨w.heap.size, 3, none⟩ = some (.int .i64 a3) ∧ w'.cell? ⟨w.heap.size, 4, none⟩ = some (.int .i64 a4) ∧ w'.cell? ⟨w.heap.size, 5, none⟩ = some (.int .i64 a5) ∧ w'.cell? ⟨w.heap.size, 6, none⟩ = some (.int .i64 a6) ∧ w'.cell? ⟨w.heap.size, 7, none⟩ = some (.int .i64 a7) ∧ w'.cell? ⟨w.heap.size, 8, none⟩ = some (.string a8) ∧ w'.cell? ⟨w.heap.size, 9, none⟩ = some (.string a9))
    (first | go_keep | exact KP.out _ (BA.out _ (Below.refl _ _)) | exact KP.out _ Q1.out)
    (((with_reducible refine (HO.out _).mono ?_); rintro e w2 ⟨rfl, g2⟩; have Q1 := Lib.hid (BA.out _ g2); clear g2))
  cases b with
  | true =>
    go_wp2_with fail
    go_ret
    exact ⟨rfl, B1.out.trans (Q1.out.mono B1.out.size)⟩
  | false =>
    go_wp2_with fail
    go_ret
    exact ⟨rfl, B1.out.trans (Q1.out.mono B1.out.size)⟩
set_option maxRecDepth 100000 in
set_option maxHeartbeats 3200000 in
theorem rcheck_f6 (a0 a1 : Int) (a2 : Nat) (a3 a4 a5 a6 a7 : Int) (a8 a9 : ByteArray) (w : World) (h : a0 = 6) (s1 : 0 ≤ a1) (s2 : a1 ≤ 255) (b : Bool) (hb : (Dg.own (grpOf a0) ⟨a0, a1, a2, a3, a4, a5, a6, a7, a8, a9⟩).eqB ⟨a0, a1, a2, a3, a4, a5, a6, a7, a8, a9⟩ = b) : Calls Try.prog 17 #[Dg.val ⟨a0, a1, a2, a3, a4, a5, a6, a7, a8, a9⟩] w (GivesZ w (fmE b)) := by
  have HO := Lib.hid (fun w => rown_any ⟨a0, a1, a2, a3, a4, a5, a6, a7, a8, a9⟩ w)
  have HQ := Lib.hid (fun W => neq_dg (Dg.own (grpOf a0) ⟨a0, a1, a2, a3, a4, a5, a6, a7, a8, a9⟩) ⟨a0, a1, a2, a3, a4, a5, a6, a7, a8, a9⟩ W)
  simp only at HO
  rw [hb] at HQ
  generalize Dg.own (grpOf a0) ⟨a0, a1, a2, a3, a4, a5, a6, a7, a8, a9⟩ = X at *
  obtain ⟨b0, b1, b2, b3, b4, b5, b6, b7, b8, b9⟩ := X
  subst h
  have hq : ∀ W, (binOp .neq 29 (.agg #[.int .i64 b0, .int .i64 b1, .int .u32 (b2 : Nat), .int .i64 b3, .int .i64 b4, .int .i64 b5, .int .i64 b6, .int .i64 b7, .string b8, .string b9]) (.agg #[.int .i64 6, .int .i64 a1, .int .u32 (a2 : Nat), .int .i64 a3, .int .i64 a4, .int .i64 a5, .int .i64 a6, .int .i64 a7, .string a8, .string a9])).run Try.prog W = .ok (.bool (!b)) W := HQ.out
  unfold GivesD Dg.val at HO
  simp only at HO
  clear hb HQ
  unfold Dg.val
  simp only
  go_enter Try.func17, Try.ntmps17
  go_wp2_with fail
  have B1 := Lib.hid ((Below.refl w.heap.size w).alloc (Nat.le_refl _) (.cells #[.int .i64 6, .int .i64 a1, .int .u32 (a2 : Nat), .int .i64 a3, .int .i64 a4, .int .i64 a5, .int .i64 a6, .int .i64 a7, .string a8, .string a9] 29))
  have D1 : Hid (At (w.alloc (.cells #[.int .i64 6, .int .i64 a1, .int .u32 (a2 : Nat), .int .i64 a3, .int .i64 a4, .int .i64 a5, .int .i64 a6, .int .i64 a7, .string a8, .string a9] 29)) w.heap.size 29 [.int .i64 6, .int .i64 a1, .int .u32 (a2 : Nat), .int .i64 a3, .int .i64 a4, .int .i64 a5, .int .i64 a6, .int .i64 a7, .string a8, .string a9]) := Lib.hid (At.new w 29 [.int .i64 6, .int .i64 a1, .int .u32 (a2 : Nat), .int .i64 a3, .int .i64 a4, .int .i64 a5, .int .i64 a6, .int .i64 a7, .string a8, .string a9])
  generalize w.alloc (.cells #[.int .i64 6, .int .i64 a1, .int .u32 (a2 : Nat), .int .i64 a3, .int .i64 a4, .int .i64 a5, .int .i64 a6, .int .i64 a7, .string a8, .string a9] 29) = w1 at *
  have KP : Hid (∀ w6, Below w1.heap.size w1 w6 → w6.cell? ⟨w.heap.size, 0, none⟩ = some (.int .i64 6) ∧ w6.cell? ⟨w.heap.size, 1, none⟩ = some (.int .i64 a1) ∧ w6.cell? ⟨w.heap.size, 2, none⟩ = some (.int .u32 (a2 : Nat)) ∧ w6.cell? ⟨w.heap.size, 3, none⟩ = some (.int .i64 a3) ∧ w6.cell? ⟨w.heap.size, 4, none⟩ = some (.int .i64 a4) ∧ w6.cell? ⟨w.heap.size, 5, none⟩ = some (.int .i64 a5) ∧ w6.cell? ⟨w.heap.size, 6, none⟩ = some (.int .i64 a6) ∧ w6.cell? ⟨w.heap.size, 7, none⟩ = some (.int .i64 a7) ∧ w6.cell? ⟨w.heap.size, 8, none⟩ = some (.string a8) ∧ w6.cell? ⟨w.heap.size, 9, none⟩ = some (.string a9)) := Lib.hid fun w6 h => by
    have d := D1.out.below h D1.out.lt
    exact ⟨d.cell 0 rfl, d.cell 1 rfl, d.cell 2 rfl, d.cell 3 rfl, d.cell 4 rfl, d.cell 5 rfl, d.cell 6 rfl, d.cell 7 rfl, d.cell 8 rfl, d.cell 9 rfl⟩
  have BA : Hid (∀ w6, Below w1.drew.heap.size w1.drew w6 → Below w1.heap.size w1 w6) := Lib.hid fun w6 h => (Below.refl w1.heap.size w1).drew.trans h
  obtain ⟨k0, k1, k2, k3, k4, k5, k6, k7, k8, k9⟩ := KP.out w1.drew (BA.out _ (Below.refl _ _))
  go_region_held3 (fun w' => w'.cell? ⟨w.heap.size, 0, none⟩ = some (.int .i64 6) ∧ w'.cell? ⟨w.heap.size, 1, none⟩ = some (.int .i64 a1) ∧ w'.cell? ⟨w.heap.size, 2, none⟩ = some (.int .u32 (a2 : Nat)) ∧ w'.cell? ⟨w.heap.size, 3, none⟩ = some (.int .i64 a3) ∧ w'.cell? ⟨w.heap.size, 4, none⟩ = some (.int .i64 a4) ∧ w'.cell? ⟨w.heap.size, 5, none⟩ = some (.int .i64 a5) ∧ w'.cell? ⟨w.heap.size, 6, none⟩ = some (.int .i64 a6) ∧ w'.cell? ⟨w.heap.size, 7, none⟩ = some (.int .i64 a7) ∧ w'.cell? ⟨w.heap.size, 8, none⟩ = some (.string a8) ∧ w'.cell? ⟨w.heap.size, 9, none⟩ = some (.string a9))
    (first | go_keep | exact KP.out _ (BA.out _ (Below.refl _ _)) | exact KP.out _ Q1.out)
    (((with_reducible refine (HO.out _).mono ?_); rintro e w2 ⟨rfl, g2⟩; have Q1 := Lib.hid (BA.out _ g2); clear g2))
  cases b with
  | true =>
    go_wp2_with fail
    go_ret
    exact ⟨rfl, B1.out.trans (Q1.out.mono B1.out.size)⟩
  | false =>
    go_wp2_with fail
    go_ret
    exact ⟨rfl, B1.out.trans (Q1.out.mono B1.out.size)⟩
theorem rcheck10_any (d : Dg) (w : World) : Calls Try.prog 17 #[d.val] w (GivesZ w (chk d)) := by
  by_cases h1 : 1 ≤ d.kind ∧ d.kind ≤ 6
  · by_cases h2 : 0 ≤ d.stream ∧ d.stream ≤ 255
    · have hok : grpE (grpOf d.kind) d = 0 → chk d = fmE ((d.own (grpOf d.kind)).eqB d) := fun h3 => by
        rw [own_eqB]
        cases h4 : (d.without (grpOf d.kind)).eqB d.common with
        | true => exact chk_ok h1 h2 h3 h4
        | false => exact chk_form h1 h2 h3 h4
      have hno : grpE (grpOf d.kind) d ≠ 0 → chk d = grpE (grpOf d.kind) d := fun h3 => chk_grp h1 h2 h3
      obtain ⟨a0, a1, a2, a3, a4, a5, a6, a7, a8, a9⟩ := d
      simp only at h1 h2 hok hno
      rcases (show a0 = 1 ∨ a0 = 2 ∨ a0 = 3 ∨ a0 = 4 ∨ a0 = 5 ∨ a0 = 6 by omega) with h | h | h | h | h | h
      · have hg : grpOf a0 = .shard := by rw [h]; rfl
        rw [hg] at hok hno
        by_cases hz : shardE ⟨a0, a1, a2, a3, a4, a5, a6, a7, a8, a9⟩ = 0
        · rw [hok hz, ← hg]
          exact rcheck_f1 _ _ _ _ _ _ _ _ _ _ w h h2.1 h2.2 hz _ rfl
        · rw [hno hz]
          exact rcheck_e1 _ _ _ _ _ _ _ _ _ _ w h h2.1 h2.2 hz
      · have hg : grpOf a0 = .shard := by rw [h]; rfl
        rw [hg] at hok hno
        by_cases hz : shardE ⟨a0, a1, a2, a3, a4, a5, a6, a7, a8, a9⟩ = 0
        · rw [hok hz, ← hg]
          exact rcheck_f2 _ _ _ _ _ _ _ _ _ _ w h h2.1 h2.2 hz _ rfl
        · rw [hno hz]
          exact rcheck_e2 _ _ _ _ _ _ _ _ _ _ w h h2.1 h2.2 hz
      · have hg : grpOf a0 = .hav := by rw [h]; rfl
        rw [hg] at hok hno
        by_cases hn : a8.size = 32
        · rw [hok (if_pos hn), ← hg]
          exact rcheck_f3 _ _ _ _ _ _ _ _ _ _ w h h2.1 h2.2 hn _ rfl
        · have q : grpE .hav ⟨a0, a1, a2, a3, a4, a5, a6, a7, a8, a9⟩ = 5 := if_neg hn
          rw [hno (by rw [q]; decide), q]
          exact rcheck_hav _ _ _ _ _ _ _ _ _ _ w h h2.1 h2.2 hn
      · have hg : grpOf a0 = .cred := by rw [h]; rfl
        rw [hg] at hok hno
        by_cases hn : 0 ≤ a7
        · by_cases hm : a7 ≤ 65535
          · rw [hok (if_pos ⟨hn, hm⟩), ← hg]
            exact rcheck_f4 _ _ _ _ _ _ _ _ _ _ w h h2.1 h2.2 hn hm _ rfl
          · have q : grpE .cred ⟨a0, a1, a2, a3, a4, a5, a6, a7, a8, a9⟩ = 2 := if_neg (fun r => hm r.2)
            rw [hno (by rw [q]; decide), q]
            exact rcheck_c2 _ _ _ _ _ _ _ _ _ _ w h h2.1 h2.2 hn (by omega)
        · have q : grpE .cred ⟨a0, a1, a2, a3, a4, a5, a6, a7, a8, a9⟩ = 2 := if_neg (fun r => hn r.1)
          rw [hno (by rw [q]; decide), q]
          exact rcheck_c1 _ _ _ _ _ _ _ _ _ _ w h h2.1 h2.2 (by omega)
      · have hg : grpOf a0 = .bare := by rw [h]; rfl
        rw [hg] at hok
        rw [hok rfl, ← hg]
        exact rcheck_f5 _ _ _ _ _ _ _ _ _ _ w h h2.1 h2.2 _ rfl
      · have hg : grpOf a0 = .bare := by rw [h]; rfl
        rw [hg] at hok
        rw [hok rfl, ← hg]
        exact rcheck_f6 _ _ _ _ _ _ _ _ _ _ w h h2.1 h2.2 _ rfl
    · rw [chk_stream h1 h2]
      obtain ⟨a0, a1, a2, a3, a4, a5, a6, a7, a8, a9⟩ := d
      simp only at h1 h2
      by_cases h3 : a1 < 0
      · exact rcheck_s1 _ _ _ _ _ _ _ _ _ _ w h1.1 h1.2 h3
      · exact rcheck_s2 _ _ _ _ _ _ _ _ _ _ w h1.1 h1.2 (by omega) (by omega)
  · rw [chk_kind h1]
    obtain ⟨a0, a1, a2, a3, a4, a5, a6, a7, a8, a9⟩ := d
    simp only at h1
    by_cases h3 : a0 < 1
    · exact rcheck_k1 _ _ _ _ _ _ _ _ _ _ w h3
    · exact rcheck_k2 _ _ _ _ _ _ _ _ _ _ w (by omega) (by omega)
end Go.Proofs.Ytmnbkghihdbepaa

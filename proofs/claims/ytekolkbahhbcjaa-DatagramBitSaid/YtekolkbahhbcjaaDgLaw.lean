/- Proved: what one, few and awake of the law package answer. Conditions: those that the theorems name. -/
import Derived.Test.YtekolkbahhbcjaaDgRefR
import Derived.Test.YtekolkbahhbcjaaByt
namespace Go.Proofs.Ytekolkbahhbcjaa
open Go.ChangeShapes Go.WideShapes Go.ChangeAt Go.RowKit

/-- is a datagram not too great? -/
def fewB (d : Dg) : Bool := decide ((d.body.size : Int) ≤ 1100 ∧ (d.has.size : Int) ≤ 100)
set_option maxHeartbeats 400000 in
theorem few_yes (d : Dg) (w : World) (h1 : (d.body.size : Int) ≤ 1100) (h2 : (d.has.size : Int) ≤ 100) : Calls Try.prog 7 #[d.val] w fun e w' => e = .returned (.bool true) ∧ Below w.heap.size w w' := by
  obtain ⟨a0, a1, a2, a3, a4, a5, a6, a7, a8, a9⟩ := d
  unfold Dg.val
  simp only at h1 h2 ⊢
  go_enter Try.func7, Try.ntmps7
  go_wp2_with fail
  go_ret
  exact ⟨rfl, (Below.refl _ _).alloc (Nat.le_refl _) _⟩
set_option maxHeartbeats 400000 in
theorem few_no (d : Dg) (w : World) (h : ¬ ((d.body.size : Int) ≤ 1100 ∧ (d.has.size : Int) ≤ 100)) : Calls Try.prog 7 #[d.val] w fun e w' => e = .returned (.bool false) ∧ Below w.heap.size w w' := by
  obtain ⟨a0, a1, a2, a3, a4, a5, a6, a7, a8, a9⟩ := d
  unfold Dg.val
  simp only at h ⊢
  by_cases h1 : (a9.size : Int) ≤ 1100
  · have h2 : decide ((a8.size : Int) ≤ 100) = false := decide_eq_false (fun q => h ⟨h1, q⟩)
    clear h
    go_enter Try.func7, Try.ntmps7
    go_wp2_with fail
    go_ret
    exact ⟨rfl, (Below.refl _ _).alloc (Nat.le_refl _) _⟩
  · have h2 : decide ((a9.size : Int) ≤ 1100) = false := decide_eq_false h1
    clear h h1
    go_enter Try.func7, Try.ntmps7
    go_wp2_with fail
    go_ret
    exact ⟨rfl, (Below.refl _ _).alloc (Nat.le_refl _) _⟩
/-- A value comes back; nothing that was there has turned. -/
def GivesV (W : World) (v : Value) (e : Ending) (w' : World) : Prop := e = .returned v ∧ Below W.heap.size W w'
set_option maxHeartbeats 400000 in
theorem one_any (w : World) : Calls Try.prog 16 #[] w (GivesV w (.agg #[.int .i64 1, .int .i64 3, .int .u32 7, .int .i64 1, .int .i64 2, .int .i64 3, .int .i64 5, .int .i64 0, .string ⟨#[]⟩, .string ⟨#[97, 98, 99]⟩])) := by
  go_enter Try.func16, Try.ntmps16
  go_wp2_with fail
  exact bodyPost_ret (v := .agg #[.int .i64 1, .int .i64 3, .int .u32 7, .int .i64 1, .int .i64 2, .int .i64 3, .int .i64 5, .int .i64 0, .string ⟨#[]⟩, .string ⟨#[97, 98, 99]⟩]) (by simp [results, Try.results16, go_sem]) rfl ⟨rfl, (Below.refl _ _).alloc (Nat.le_refl _) _⟩
abbrev t20 : ByteArray := ⟨#[76, 83, 1, 3, 0, 0, 0, 7, 1, 2, 3, 0, 4, 97, 98, 99, 38, 1, 108, 195]⟩
abbrev t20b : ByteArray := ⟨#[76, 83, 1, 3, 0, 0, 0, 7, 1, 2, 3, 0, 4, 97, 98, 99, 38, 1, 108, 194]⟩
abbrev t12 : ByteArray := ⟨#[76, 83, 5, 3, 0, 0, 0, 7, 128, 36, 133, 33]⟩
theorem chk_one : chk ⟨1, 3, 7, 1, 2, 3, 5, 0, ⟨#[]⟩, ⟨#[97, 98, 99]⟩⟩ = 0 := by decide +kernel
theorem full_one : fullS ⟨1, 3, 7, 1, 2, 3, 5, 0, ⟨#[]⟩, ⟨#[97, 98, 99]⟩⟩ = t20 := by decide +kernel
theorem chk_fin : chk ⟨5, 3, 7, 0, 0, 0, 0, 0, ⟨#[]⟩, ⟨#[]⟩⟩ = 0 := by decide +kernel
theorem full_fin : fullS ⟨5, 3, 7, 0, 0, 0, 0, 0, ⟨#[]⟩, ⟨#[]⟩⟩ = t12 := by decide +kernel
theorem awake_fin (w : World) : Calls Try.prog 9 #[.agg #[.int .i64 5, .int .i64 3, .int .u32 7, .int .i64 0, .int .i64 0, .int .i64 0, .int .i64 0, .int .i64 0, .string ⟨#[]⟩, .string ⟨#[]⟩]] w (GivesSE9 w t12 0) := by
  have h := dput_good ⟨5, 3, 7, 0, 0, 0, 0, 0, ⟨#[]⟩, ⟨#[]⟩⟩ w chk_fin (by decide)
  rw [full_fin] at h
  exact h
theorem awake_put (w : World) : Calls Try.prog 9 #[.agg #[.int .i64 1, .int .i64 3, .int .u32 7, .int .i64 1, .int .i64 2, .int .i64 3, .int .i64 5, .int .i64 0, .string ⟨#[]⟩, .string ⟨#[97, 98, 99]⟩]] w (GivesSE9 w t20 0) := by
  have h := dput_good ⟨1, 3, 7, 1, 2, 3, 5, 0, ⟨#[]⟩, ⟨#[97, 98, 99]⟩⟩ w chk_one (by decide)
  rw [full_one] at h
  exact h
theorem awake_read (w : World) : Calls Try.prog 14 #[.string t20] w (GivesV w (.tuple #[.agg #[.int .i64 1, .int .i64 3, .int .u32 7, .int .i64 1, .int .i64 2, .int .i64 3, .int .i64 5, .int .i64 0, .string ⟨#[]⟩, .string ⟨#[97, 98, 99]⟩], .int .i64 0])) := by
  have h := dread_any t20 w (by decide)
  have e := put_read chk_one (by decide)
  rw [full_one] at e
  rw [e.1, e.2] at h
  exact h
theorem awake_bit (w : World) : Calls Try.prog 14 #[.string t20b] w (GivesV w (.tuple #[.agg #[.int .i64 0, .int .i64 0, .int .u32 0, .int .i64 0, .int .i64 0, .int .i64 0, .int .i64 0, .int .i64 0, .string ⟨#[]⟩, .string ⟨#[]⟩], .int .i64 6])) := by
  have h := dread_any t20b w (by decide)
  have e : rE t20b = 6 := by decide +kernel
  rw [rD_bad (by rw [e]; decide), e] at h
  exact h
theorem awake_none (w : World) : Calls Try.prog 14 #[.string ⟨#[]⟩] w (GivesV w (.tuple #[.agg #[.int .i64 0, .int .i64 0, .int .u32 0, .int .i64 0, .int .i64 0, .int .i64 0, .int .i64 0, .int .i64 0, .string ⟨#[]⟩, .string ⟨#[]⟩], .int .i64 4])) := by
  have h := dread_any ⟨#[]⟩ w (by decide)
  have e : rE ⟨#[]⟩ = 4 := by decide +kernel
  rw [rD_bad (by rw [e]; decide), e] at h
  exact h
theorem awake_x (w : World) : Calls Try.prog 11 #[.agg #[.int .i64 1, .int .i64 3, .int .u32 7, .int .i64 2, .int .i64 2, .int .i64 3, .int .i64 5, .int .i64 0, .string ⟨#[]⟩, .string ⟨#[97, 98, 99]⟩]] w (GivesV w (.int .i64 2)) := by
  have h := dcheck_any ⟨1, 3, 7, 2, 2, 3, 5, 0, ⟨#[]⟩, ⟨#[97, 98, 99]⟩⟩ w (by decide)
  rw [show chk ⟨1, 3, 7, 2, 2, 3, 5, 0, ⟨#[]⟩, ⟨#[97, 98, 99]⟩⟩ = 2 by decide +kernel] at h
  exact h
theorem awake_y (w : World) : Calls Try.prog 11 #[.agg #[.int .i64 1, .int .i64 3, .int .u32 7, .int .i64 1, .int .i64 2, .int .i64 3, .int .i64 5, .int .i64 0, .string ⟨#[120]⟩, .string ⟨#[97, 98, 99]⟩]] w (GivesV w (.int .i64 5)) := by
  have h := dcheck_any ⟨1, 3, 7, 1, 2, 3, 5, 0, ⟨#[120]⟩, ⟨#[97, 98, 99]⟩⟩ w (by decide)
  rw [show chk ⟨1, 3, 7, 1, 2, 3, 5, 0, ⟨#[120]⟩, ⟨#[97, 98, 99]⟩⟩ = 5 by decide +kernel] at h
  exact h
theorem awake_z (w : World) : Calls Try.prog 11 #[.agg #[.int .i64 0, .int .i64 0, .int .u32 0, .int .i64 0, .int .i64 0, .int .i64 0, .int .i64 0, .int .i64 0, .string ⟨#[]⟩, .string ⟨#[]⟩]] w (GivesV w (.int .i64 1)) := by
  have h := dcheck_any dg0 w (by decide)
  rw [show chk dg0 = 1 by decide +kernel] at h
  exact h
theorem awake_s (w : World) : Calls Try.prog 13 #[.agg #[.int .i64 1, .int .i64 3, .int .u32 7, .int .i64 1, .int .i64 2, .int .i64 3, .int .i64 5, .int .i64 0, .string ⟨#[]⟩, .string ⟨#[97, 98, 99]⟩]] w (GivesV w (.int .i64 20)) := by
  have h := dsize_any ⟨1, 3, 7, 1, 2, 3, 5, 0, ⟨#[]⟩, ⟨#[97, 98, 99]⟩⟩ w (by decide)
  rw [show sizeT ⟨1, 3, 7, 1, 2, 3, 5, 0, ⟨#[]⟩, ⟨#[97, 98, 99]⟩⟩ = 20 by decide +kernel] at h
  exact h
theorem awake_sx (w : World) : Calls Try.prog 13 #[.agg #[.int .i64 1, .int .i64 3, .int .u32 7, .int .i64 2, .int .i64 2, .int .i64 3, .int .i64 5, .int .i64 0, .string ⟨#[]⟩, .string ⟨#[97, 98, 99]⟩]] w (GivesV w (.int .i64 0)) := by
  have h := dsize_any ⟨1, 3, 7, 2, 2, 3, 5, 0, ⟨#[]⟩, ⟨#[97, 98, 99]⟩⟩ w (by decide)
  rw [show sizeT ⟨1, 3, 7, 2, 2, 3, 5, 0, ⟨#[]⟩, ⟨#[97, 98, 99]⟩⟩ = 0 by decide +kernel] at h
  exact h
theorem awake_eq (W : World) : (binOp .eql 24 (.agg #[.int .i64 1, .int .i64 3, .int .u32 7, .int .i64 1, .int .i64 2, .int .i64 3, .int .i64 5, .int .i64 0, .string ⟨#[]⟩, .string ⟨#[97, 98, 99]⟩]) (.agg #[.int .i64 1, .int .i64 3, .int .u32 7, .int .i64 1, .int .i64 2, .int .i64 3, .int .i64 5, .int .i64 0, .string ⟨#[]⟩, .string ⟨#[97, 98, 99]⟩])).run Try.prog W = .ok (.bool true) W := by
  have h := eq_dg ⟨1, 3, 7, 1, 2, 3, 5, 0, ⟨#[]⟩, ⟨#[97, 98, 99]⟩⟩ ⟨1, 3, 7, 1, 2, 3, 5, 0, ⟨#[]⟩, ⟨#[97, 98, 99]⟩⟩ W
  rw [eqB_refl] at h
  exact h
end Go.Proofs.Ytekolkbahhbcjaa

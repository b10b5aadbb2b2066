/- Proved: what Row of package cauchy answers for every three ints. Conditions: those that the theorems name. -/
import Derived.Test.YtfndnlfinoeamaaCauMath
namespace Go.Proofs.Ytfndnlfinoeamaa
open Go.ChangeShapes Go.WideShapes Go.ChangeAt Go.RowKit

set_option maxHeartbeats 400000 in
theorem cfits_yes (k n : Int) (h : ¬ NoTab k n) (w : World) :
    Calls Try.prog 17 #[.int .i64 k, .int .i64 n] w fun e w' => e = .returned (.bool true) ∧ w = w' := by
  have h1 : k ≥ 1 := by unfold NoTab at h; omega
  have h2 : k ≤ n := by unfold NoTab at h; omega
  have h3 : n ≤ 255 := by unfold NoTab at h; omega
  clear h
  go_enter Try.func17, Try.ntmps17
  go_wp2_with fail
  go_ret
  exact ⟨rfl, rfl⟩
set_option maxHeartbeats 400000 in
theorem cfits_no (k n : Int) (h : NoTab k n) (w : World) :
    Calls Try.prog 17 #[.int .i64 k, .int .i64 n] w fun e w' => e = .returned (.bool false) ∧ w = w' := by
  unfold NoTab at h
  by_cases h1 : k ≥ 1
  · by_cases h2 : k ≤ n
    · have h3 : ¬ n ≤ 255 := by omega
      clear h
      go_enter Try.func17, Try.ntmps17
      go_wp2_with fail
      go_ret
      exact ⟨rfl, rfl⟩
    · clear h
      go_enter Try.func17, Try.ntmps17
      go_wp2_with fail
      go_ret
      exact ⟨rfl, rfl⟩
  · clear h
    go_enter Try.func17, Try.ntmps17
    go_wp2_with fail
    go_ret
    exact ⟨rfl, rfl⟩

theorem made_zero' {n k : Nat} (hk : k < n) : (madeCells #[.int .u8 0] n)[k]? = some (.int .u8 0) := by simp [madeCells, hk, Nat.mod_one]
theorem unit_new' (w : World) (n k : Nat) (hk : k < n) : Bs (w.alloc (.cells ((madeCells #[.int .u8 0] n).setIfInBounds k (.int .u8 1)) 5)) (some ⟨w.heap.size, 0, none⟩) n (mk n (unitN k)) := by
  rw [← World.setCell_alloc_at _ _ w.heap.size k _ rfl]
  have h1 := (own_new w n).set_ (x := 1) hk (by decide)
  rw [unit_of n k hk] at h1
  exact h1.bs

set_option maxHeartbeats 400000 in
theorem unit_any (k i : Nat) (hi : i < k) (hk : k ≤ 255) (w : World) :
    Calls Try.prog 18 #[.int .i64 (k : Nat), .int .i64 (i : Nat)] w (GivesC w k (rowC k i)) := by
  have hmR := run_make_row' (P := Try.prog) 24 5 (.int .u8 0) 1 Try.underlying24 Try.infoByte rfl .i64 .i64 k (by omega) (by omega)
  have hpos : (0 : Int) ≤ (i : Int) := by omega
  have hlt : (i : Int) < (k : Int) := by omega
  have hX := made_zero' hi
  have HB := Lib.hid (unit_new' w k i hi)
  go_enter Try.func18, Try.ntmps18
  go_wp2_with fail
  go_ret
  refine ⟨_, _, rfl, Nat.le_refl _, ?_, ?_⟩
  · rw [rowC_unit hi]; exact HB.out
  · exact (Below.refl _ _).alloc (Nat.le_refl _) _
end Go.Proofs.Ytfndnlfinoeamaa

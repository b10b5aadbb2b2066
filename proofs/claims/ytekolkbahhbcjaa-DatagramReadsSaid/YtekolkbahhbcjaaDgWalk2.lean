/- Proved: the law DatagramReads, for whatever text. Conditions: those that the theorem names. -/
import Derived.Test.YtekolkbahhbcjaaDgAwake
namespace Go.Proofs.Ytekolkbahhbcjaa
open Go.ChangeShapes Go.WideShapes Go.ChangeAt Go.RowKit

set_option maxRecDepth 100000 in
set_option maxHeartbeats 3200000 in
theorem dreads_few (s : ByteArray) (w : World) (h : (s.size : Int) ≤ 2000) : Calls Try.prog 4 #[.string s] w fun e w' => e = .returned (.bool true) ∧ Below w.heap.size w w' := by
  have H1 := Lib.hid (fun w => dread_any s w (by omega))
  have H2 := Lib.hid (fun w => rread_any s w (by omega))
  generalize rE s = z at *
  generalize rD s = d at *
  have HE := Lib.hid (fun W => eq_dg d d W)
  rw [eqB_refl] at HE
  have hle : decide (2000 < (s.size : Int)) = false := decide_eq_false (by omega)
  clear h
  obtain ⟨a0, a1, a2, a3, a4, a5, a6, a7, a8, a9⟩ := d
  unfold GivesDZ at H1 H2
  unfold Dg.val at *
  simp only at H1 H2
  have heq : ∀ W, (binOp .eql 24 (.agg #[.int .i64 a0, .int .i64 a1, .int .u32 (a2 : Nat), .int .i64 a3, .int .i64 a4, .int .i64 a5, .int .i64 a6, .int .i64 a7, .string a8, .string a9]) (.agg #[.int .i64 a0, .int .i64 a1, .int .u32 (a2 : Nat), .int .i64 a3, .int .i64 a4, .int .i64 a5, .int .i64 a6, .int .i64 a7, .string a8, .string a9])).run Try.prog W = .ok (.bool true) W := HE.out
  clear HE
  go_enter Try.func4, Try.ntmps4
  go_wp2_with fail
  refine (H1.out _).mono ?_; rintro e w1 ⟨rfl, g1⟩
  have B1 := Lib.hid g1
  clear g1
  go_wp2_with fail
  refine (H2.out _).mono ?_; rintro e w2 ⟨rfl, g2⟩
  have D2 : Hid (At w2 w1.heap.size 24 [.int .i64 a0, .int .i64 a1, .int .u32 (a2 : Nat), .int .i64 a3, .int .i64 a4, .int .i64 a5, .int .i64 a6, .int .i64 a7, .string a8, .string a9]) := Lib.hid ((At.new w1 24 [.int .i64 a0, .int .i64 a1, .int .u32 (a2 : Nat), .int .i64 a3, .int .i64 a4, .int .i64 a5, .int .i64 a6, .int .i64 a7, .string a8, .string a9]).below g2 (by simp))
  have B2 := Lib.hid ((B1.out.alloc B1.out.size (.cells #[.int .i64 a0, .int .i64 a1, .int .u32 (a2 : Nat), .int .i64 a3, .int .i64 a4, .int .i64 a5, .int .i64 a6, .int .i64 a7, .string a8, .string a9] 24)).trans (g2.mono (Nat.le_trans B1.out.size (by simp))))
  clear g2 B1
  have X3 : Hid (At (w2.alloc (.cells #[.int .i64 a0, .int .i64 a1, .int .u32 (a2 : Nat), .int .i64 a3, .int .i64 a4, .int .i64 a5, .int .i64 a6, .int .i64 a7, .string a8, .string a9] 24)) w2.heap.size 24 [.int .i64 a0, .int .i64 a1, .int .u32 (a2 : Nat), .int .i64 a3, .int .i64 a4, .int .i64 a5, .int .i64 a6, .int .i64 a7, .string a8, .string a9]) := Lib.hid (At.new w2 24 [.int .i64 a0, .int .i64 a1, .int .u32 (a2 : Nat), .int .i64 a3, .int .i64 a4, .int .i64 a5, .int .i64 a6, .int .i64 a7, .string a8, .string a9])
  have D3 := Lib.hid (D2.out.alloc (.cells #[.int .i64 a0, .int .i64 a1, .int .u32 (a2 : Nat), .int .i64 a3, .int .i64 a4, .int .i64 a5, .int .i64 a6, .int .i64 a7, .string a8, .string a9] 24))
  have B3 := Lib.hid (B2.out.alloc B2.out.size (.cells #[.int .i64 a0, .int .i64 a1, .int .u32 (a2 : Nat), .int .i64 a3, .int .i64 a4, .int .i64 a5, .int .i64 a6, .int .i64 a7, .string a8, .string a9] 24))
  clear D2 B2
  obtain ⟨k0, k1, k2, k3, k4, k5, k6, k7, k8, k9⟩ : (w2.alloc (.cells #[.int .i64 a0, .int .i64 a1, .int .u32 (a2 : Nat), .int .i64 a3, .int .i64 a4, .int .i64 a5, .int .i64 a6, .int .i64 a7, .string a8, .string a9] 24)).cell? ⟨w1.heap.size, 0, none⟩ = some (.int .i64 a0) ∧ (w2.alloc (.cells #[.int .i64 a0, .int .i64 a1, .int .u32 (a2 : Nat), .int .i64 a3, .int .i64 a4, .int .i64 a5, .int .i64 a6, .int .i64 a7, .string a8, .string a9] 24)).cell? ⟨w1.heap.size, 1, none⟩ = some (.int .i64 a1) ∧ (w2.alloc (.cells #[.int .i64 a0, .int .i64 a1, .int .u32 (a2 : Nat), .int .i64 a3, .int .i64 a4, .int .i64 a5, .int .i64 a6, .int .i64 a7, .string a8, .string a9] 24)).cell? ⟨w1.heap.size, 2, none⟩ = some (.int .u32 (a2 : Nat)) ∧ (w2.alloc (.cells #[.int .i64 a0, .int .i64 a1, .int .u32 (a2 : Nat), .int .i64 a3, .int .i64 a4, .int .i64 a5, .int .i64 a6, .int .i64 a7, .string a8, .string a9] 24)).cell? ⟨w1.heap.size, 3, none⟩ = some (.int .i64 a3) ∧ (w2.alloc (.cells #[.int .i64 a0, .int .i64 a1, .int .u32 (a2 : Nat), .int .i64 a3, .int .i64 a4, .int .i64 a5, .int .i64 a6, .int .i64 a7, .string a8, .string a9] 24)).cell? ⟨w1.heap.size, 4, none⟩ = some (.int .i64 a4) ∧ (w2.alloc (.cells #[.int .i64 a0, .int .i64 a1, .int .u32 (a2 : Nat), .int .i64 a3, .int .i64 a4, .int .i64 a5, .int .i64 a6, .int .i64 a7, .string a8, .string a9] 24)).cell? ⟨w1.heap.size, 5, none⟩ = some (.int .i64 a5) ∧ (w2.alloc (.cells #[.int .i64 a0, .int .i64 a1, .int .u32 (a2 : Nat), .int .i64 a3, .int .i64 a4, .int .i64 a5, .int .i64 a6, .int .i64 a7, .string a8, .string a9] 24)).cell? ⟨w1.heap.size, 6, none⟩ = some (.int .i64 a6) ∧ (w2.alloc (.cells #[.int .i64 a0, .int .i64 a1, .int .u32 (a2 : Nat), .int .i64 a3, .int .i64 a4, .int .i64 a5, .int .i64 a6, .int .i64 a7, .string a8, .string a9] 24)).cell? ⟨w1.heap.size, 7, none⟩ = some (.int .i64 a7) ∧ (w2.alloc (.cells #[.int .i64 a0, .int .i64 a1, .int .u32 (a2 : Nat), .int .i64 a3, .int .i64 a4, .int .i64 a5, .int .i64 a6, .int .i64 a7, .string a8, .string a9] 24)).cell? ⟨w1.heap.size, 8, none⟩ = some (.string a8) ∧ (w2.alloc (.cells #[.int .i64 a0, .int .i64 a1, .int .u32 (a2 : Nat), .int .i64 a3, .int .i64 a4, .int .i64 a5, .int .i64 a6, .int .i64 a7, .string a8, .string a9] 24)).cell? ⟨w1.heap.size, 9, none⟩ = some (.string a9) := by have d := D3.out; exact ⟨d.cell 0 rfl, d.cell 1 rfl, d.cell 2 rfl, d.cell 3 rfl, d.cell 4 rfl, d.cell 5 rfl, d.cell 6 rfl, d.cell 7 rfl, d.cell 8 rfl, d.cell 9 rfl⟩
  obtain ⟨j0, j1, j2, j3, j4, j5, j6, j7, j8, j9⟩ : (w2.alloc (.cells #[.int .i64 a0, .int .i64 a1, .int .u32 (a2 : Nat), .int .i64 a3, .int .i64 a4, .int .i64 a5, .int .i64 a6, .int .i64 a7, .string a8, .string a9] 24)).cell? ⟨w2.heap.size, 0, none⟩ = some (.int .i64 a0) ∧ (w2.alloc (.cells #[.int .i64 a0, .int .i64 a1, .int .u32 (a2 : Nat), .int .i64 a3, .int .i64 a4, .int .i64 a5, .int .i64 a6, .int .i64 a7, .string a8, .string a9] 24)).cell? ⟨w2.heap.size, 1, none⟩ = some (.int .i64 a1) ∧ (w2.alloc (.cells #[.int .i64 a0, .int .i64 a1, .int .u32 (a2 : Nat), .int .i64 a3, .int .i64 a4, .int .i64 a5, .int .i64 a6, .int .i64 a7, .string a8, .string a9] 24)).cell? ⟨w2.heap.size, 2, none⟩ = some (.int .u32 (a2 : Nat)) ∧ (w2.alloc (.cells #[.int .i64 a0, .int .i64 a1, .int .u32 (a2 : Nat), .int .i64 a3, .int .i64 a4, .int .i64 a5, .int .i64 a6, .int .i64 a7, .string a8, .string a9] 24)).cell? ⟨w2.heap.size, 3, none⟩ = some (.int .i64 a3) ∧ (w2.alloc (.cells #[.int .i64 a0, .int .i64 a1, .int .u32 (a2 : Nat), .int .i64 a3, .int .i64 a4, .int .i64 a5, .int .i64 a6, .int .i64 a7, .string a8, .string a9] 24)).cell? ⟨w2.heap.size, 4, none⟩ = some (.int .i64 a4) ∧ (w2.alloc (.cells #[.int .i64 a0, .int .i64 a1, .int .u32 (a2 : Nat), .int .i64 a3, .int .i64 a4, .int .i64 a5, .int .i64 a6, .int .i64 a7, .string a8, .string a9] 24)).cell? ⟨w2.heap.size, 5, none⟩ = some (.int .i64 a5) ∧ (w2.alloc (.cells #[.int .i64 a0, .int .i64 a1, .int .u32 (a2 : Nat), .int .i64 a3, .int .i64 a4, .int .i64 a5, .int .i64 a6, .int .i64 a7, .string a8, .string a9] 24)).cell? ⟨w2.heap.size, 6, none⟩ = some (.int .i64 a6) ∧ (w2.alloc (.cells #[.int .i64 a0, .int .i64 a1, .int .u32 (a2 : Nat), .int .i64 a3, .int .i64 a4, .int .i64 a5, .int .i64 a6, .int .i64 a7, .string a8, .string a9] 24)).cell? ⟨w2.heap.size, 7, none⟩ = some (.int .i64 a7) ∧ (w2.alloc (.cells #[.int .i64 a0, .int .i64 a1, .int .u32 (a2 : Nat), .int .i64 a3, .int .i64 a4, .int .i64 a5, .int .i64 a6, .int .i64 a7, .string a8, .string a9] 24)).cell? ⟨w2.heap.size, 8, none⟩ = some (.string a8) ∧ (w2.alloc (.cells #[.int .i64 a0, .int .i64 a1, .int .u32 (a2 : Nat), .int .i64 a3, .int .i64 a4, .int .i64 a5, .int .i64 a6, .int .i64 a7, .string a8, .string a9] 24)).cell? ⟨w2.heap.size, 9, none⟩ = some (.string a9) := by have d := X3.out; exact ⟨d.cell 0 rfl, d.cell 1 rfl, d.cell 2 rfl, d.cell 3 rfl, d.cell 4 rfl, d.cell 5 rfl, d.cell 6 rfl, d.cell 7 rfl, d.cell 8 rfl, d.cell 9 rfl⟩
  clear X3 D3
  go_wp2_with fail
  clear k0 k1 k2 k3 k4 k5 k6 k7 k8 k9 j0 j1 j2 j3 j4 j5 j6 j7 j8 j9
  refine (awake10_any _).mono ?_; rintro e w4 ⟨rfl, g4⟩
  have B4 := Lib.hid (B3.out.trans (g4.mono B3.out.size))
  clear g4 B3
  go_wp2_with fail
  go_ret
  exact ⟨rfl, B4.out⟩
theorem dreads_many (s : ByteArray) (w : World) (h : ¬ (s.size : Int) ≤ 2000) : Calls Try.prog 4 #[.string s] w fun e w' => e = .returned (.bool true) ∧ Below w.heap.size w w' := by
  have hgt : (2000 : Int) < (s.size : Int) := by omega
  clear h
  go_enter Try.func4, Try.ntmps4
  go_wp2_with fail
  refine (awake10_any _).mono ?_; rintro e w2 ⟨rfl, g2⟩
  have B2 := Lib.hid g2
  clear g2
  go_wp2_with fail
  go_ret
  exact ⟨rfl, B2.out⟩
theorem dreads_walk (s : ByteArray) (w : World) : Calls Try.prog 4 #[.string s] w fun e w' => e = .returned (.bool true) ∧ Below w.heap.size w w' := by
  by_cases h : (s.size : Int) ≤ 2000
  · exact dreads_few s w h
  · exact dreads_many s w h
end Go.Proofs.Ytekolkbahhbcjaa

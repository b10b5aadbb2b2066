/- Proved: the law DatagramPuts, for whatever datagram. Conditions: those that the theorem names. -/
import Derived.Test.YtekolkbahhbcjaaDgAwake
namespace Go.Proofs.Ytekolkbahhbcjaa
open Go.ChangeShapes Go.WideShapes Go.ChangeAt Go.RowKit

theorem sizeT_put (d : Dg) : sizeT d = ((putT d).size : Nat) := by
  unfold sizeT putT
  split
  · rfl
  · rfl
set_option maxRecDepth 100000 in
set_option maxHeartbeats 3200000 in
theorem dputs_few (d : Dg) (w : World) (hd : d.In) (h1 : (d.body.size : Int) ≤ 1100) (h2 : (d.has.size : Int) ≤ 100) : Calls Try.prog 3 #[d.val] w fun e w' => e = .returned (.bool true) ∧ Below w.heap.size w w' := by
  have HF := Lib.hid (fun w => few_yes d w h1 h2)
  have H1 := Lib.hid (fun w => dput_any d w hd.1 hd.2.2)
  have H2 := Lib.hid (fun w => rput10_any d w hd.1)
  have H3 := Lib.hid (fun w => dcheck_any d w hd.2.2)
  have H4 := Lib.hid (fun w => rcheck10_any d w)
  have H5 := Lib.hid (fun w => dsize_any d w hd.2.2)
  rw [sizeT_put] at H5
  clear hd h1 h2
  generalize putT d = S at *
  generalize chk d = z at *
  obtain ⟨a0, a1, a2, a3, a4, a5, a6, a7, a8, a9⟩ := d
  unfold Dg.val at *
  simp only at HF H1 H2 H3 H4 H5 ⊢
  go_enter Try.func3, Try.ntmps3
  go_wp2_with fail
  refine (HF.out _).mono ?_; rintro e w1 ⟨rfl, g1⟩
  have B1 : Hid (Below w.heap.size w w1) := Lib.hid (((Below.refl _ _).alloc (Nat.le_refl _) _).trans (g1.mono (by simp)))
  have D1 := Lib.hid ((At.new w 24 [.int .i64 a0, .int .i64 a1, .int .u32 (a2 : Nat), .int .i64 a3, .int .i64 a4, .int .i64 a5, .int .i64 a6, .int .i64 a7, .string a8, .string a9]).below g1 (by simp))
  clear g1
  obtain ⟨k0, k1, k2, k3, k4, k5, k6, k7, k8, k9⟩ : w1.cell? ⟨w.heap.size, 0, none⟩ = some (.int .i64 a0) ∧ w1.cell? ⟨w.heap.size, 1, none⟩ = some (.int .i64 a1) ∧ w1.cell? ⟨w.heap.size, 2, none⟩ = some (.int .u32 (a2 : Nat)) ∧ w1.cell? ⟨w.heap.size, 3, none⟩ = some (.int .i64 a3) ∧ w1.cell? ⟨w.heap.size, 4, none⟩ = some (.int .i64 a4) ∧ w1.cell? ⟨w.heap.size, 5, none⟩ = some (.int .i64 a5) ∧ w1.cell? ⟨w.heap.size, 6, none⟩ = some (.int .i64 a6) ∧ w1.cell? ⟨w.heap.size, 7, none⟩ = some (.int .i64 a7) ∧ w1.cell? ⟨w.heap.size, 8, none⟩ = some (.string a8) ∧ w1.cell? ⟨w.heap.size, 9, none⟩ = some (.string a9) := by have d := D1.out; exact ⟨d.cell 0 rfl, d.cell 1 rfl, d.cell 2 rfl, d.cell 3 rfl, d.cell 4 rfl, d.cell 5 rfl, d.cell 6 rfl, d.cell 7 rfl, d.cell 8 rfl, d.cell 9 rfl⟩
  go_wp2_with fail
  clear k0 k1 k2 k3 k4 k5 k6 k7 k8 k9
  refine (H1.out _).mono ?_; rintro e w2 ⟨rfl, g2⟩
  have B2 := Lib.hid (B1.out.trans (g2.mono B1.out.size))
  have D2 := Lib.hid (D1.out.below g2 D1.out.lt)
  clear g2 B1 D1
  obtain ⟨k0, k1, k2, k3, k4, k5, k6, k7, k8, k9⟩ : w2.cell? ⟨w.heap.size, 0, none⟩ = some (.int .i64 a0) ∧ w2.cell? ⟨w.heap.size, 1, none⟩ = some (.int .i64 a1) ∧ w2.cell? ⟨w.heap.size, 2, none⟩ = some (.int .u32 (a2 : Nat)) ∧ w2.cell? ⟨w.heap.size, 3, none⟩ = some (.int .i64 a3) ∧ w2.cell? ⟨w.heap.size, 4, none⟩ = some (.int .i64 a4) ∧ w2.cell? ⟨w.heap.size, 5, none⟩ = some (.int .i64 a5) ∧ w2.cell? ⟨w.heap.size, 6, none⟩ = some (.int .i64 a6) ∧ w2.cell? ⟨w.heap.size, 7, none⟩ = some (.int .i64 a7) ∧ w2.cell? ⟨w.heap.size, 8, none⟩ = some (.string a8) ∧ w2.cell? ⟨w.heap.size, 9, none⟩ = some (.string a9) := by have d := D2.out; exact ⟨d.cell 0 rfl, d.cell 1 rfl, d.cell 2 rfl, d.cell 3 rfl, d.cell 4 rfl, d.cell 5 rfl, d.cell 6 rfl, d.cell 7 rfl, d.cell 8 rfl, d.cell 9 rfl⟩
  go_wp2_with fail
  clear k0 k1 k2 k3 k4 k5 k6 k7 k8 k9
  refine (H2.out _).mono ?_; rintro e w3 ⟨rfl, g3⟩
  have B3 := Lib.hid (B2.out.trans (g3.mono B2.out.size))
  have D3 := Lib.hid (D2.out.below g3 D2.out.lt)
  clear g3 B2 D2
  obtain ⟨k0, k1, k2, k3, k4, k5, k6, k7, k8, k9⟩ : w3.cell? ⟨w.heap.size, 0, none⟩ = some (.int .i64 a0) ∧ w3.cell? ⟨w.heap.size, 1, none⟩ = some (.int .i64 a1) ∧ w3.cell? ⟨w.heap.size, 2, none⟩ = some (.int .u32 (a2 : Nat)) ∧ w3.cell? ⟨w.heap.size, 3, none⟩ = some (.int .i64 a3) ∧ w3.cell? ⟨w.heap.size, 4, none⟩ = some (.int .i64 a4) ∧ w3.cell? ⟨w.heap.size, 5, none⟩ = some (.int .i64 a5) ∧ w3.cell? ⟨w.heap.size, 6, none⟩ = some (.int .i64 a6) ∧ w3.cell? ⟨w.heap.size, 7, none⟩ = some (.int .i64 a7) ∧ w3.cell? ⟨w.heap.size, 8, none⟩ = some (.string a8) ∧ w3.cell? ⟨w.heap.size, 9, none⟩ = some (.string a9) := by have d := D3.out; exact ⟨d.cell 0 rfl, d.cell 1 rfl, d.cell 2 rfl, d.cell 3 rfl, d.cell 4 rfl, d.cell 5 rfl, d.cell 6 rfl, d.cell 7 rfl, d.cell 8 rfl, d.cell 9 rfl⟩
  go_wp2_with fail
  clear k0 k1 k2 k3 k4 k5 k6 k7 k8 k9
  have KP : Hid (∀ w6, Below w3.heap.size w3 w6 → w6.cell? ⟨w.heap.size, 0, none⟩ = some (.int .i64 a0) ∧ w6.cell? ⟨w.heap.size, 1, none⟩ = some (.int .i64 a1) ∧ w6.cell? ⟨w.heap.size, 2, none⟩ = some (.int .u32 (a2 : Nat)) ∧ w6.cell? ⟨w.heap.size, 3, none⟩ = some (.int .i64 a3) ∧ w6.cell? ⟨w.heap.size, 4, none⟩ = some (.int .i64 a4) ∧ w6.cell? ⟨w.heap.size, 5, none⟩ = some (.int .i64 a5) ∧ w6.cell? ⟨w.heap.size, 6, none⟩ = some (.int .i64 a6) ∧ w6.cell? ⟨w.heap.size, 7, none⟩ = some (.int .i64 a7) ∧ w6.cell? ⟨w.heap.size, 8, none⟩ = some (.string a8) ∧ w6.cell? ⟨w.heap.size, 9, none⟩ = some (.string a9)) := Lib.hid fun w6 h => by
    have d := D3.out.below h D3.out.lt
    exact ⟨d.cell 0 rfl, d.cell 1 rfl, d.cell 2 rfl, d.cell 3 rfl, d.cell 4 rfl, d.cell 5 rfl, d.cell 6 rfl, d.cell 7 rfl, d.cell 8 rfl, d.cell 9 rfl⟩
  have QQ : Hid (Below w3.heap.size w3 w3.drew) := Lib.hid (Below.refl w3.heap.size w3).drew
  obtain ⟨k0, k1, k2, k3, k4, k5, k6, k7, k8, k9⟩ := KP.out w3.drew QQ.out
  go_region_held3 (fun w' => w'.cell? ⟨w.heap.size, 0, none⟩ = some (.int .i64 a0) ∧ w'.cell? ⟨w.heap.size, 1, none⟩ = some (.int .i64 a1) ∧ w'.cell? ⟨w.heap.size, 2, none⟩ = some (.int .u32 (a2 : Nat)) ∧ w'.cell? ⟨w.heap.size, 3, none⟩ = some (.int .i64 a3) ∧ w'.cell? ⟨w.heap.size, 4, none⟩ = some (.int .i64 a4) ∧ w'.cell? ⟨w.heap.size, 5, none⟩ = some (.int .i64 a5) ∧ w'.cell? ⟨w.heap.size, 6, none⟩ = some (.int .i64 a6) ∧ w'.cell? ⟨w.heap.size, 7, none⟩ = some (.int .i64 a7) ∧ w'.cell? ⟨w.heap.size, 8, none⟩ = some (.string a8) ∧ w'.cell? ⟨w.heap.size, 9, none⟩ = some (.string a9))
    (first | go_keep | exact KP.out _ QQ.out)
    (first
    | ((with_reducible refine (H3.out _).mono ?_); rintro e wq ⟨rfl, gq⟩; have QN := Lib.hid (QQ.out.trans (gq.mono QQ.out.size)); clear gq QQ; have QQ := QN; clear QN)
    | ((with_reducible refine (H4.out _).mono ?_); rintro e wq ⟨rfl, gq⟩; have QN := Lib.hid (QQ.out.trans (gq.mono QQ.out.size)); clear gq QQ; have QQ := QN; clear QN)
    | ((with_reducible refine (H5.out _).mono ?_); rintro e wq ⟨rfl, gq⟩; have QN := Lib.hid (QQ.out.trans (gq.mono QQ.out.size)); clear gq QQ; have QQ := QN; clear QN)
    | ((with_reducible refine (awake10_any _).mono ?_); rintro e wq ⟨rfl, gq⟩; have QN := Lib.hid (QQ.out.trans (gq.mono QQ.out.size)); clear gq QQ; have QQ := QN; clear QN))
  go_wp2_with fail
  go_ret
  exact ⟨rfl, B3.out.trans (QQ.out.mono B3.out.size)⟩
set_option maxRecDepth 100000 in
set_option maxHeartbeats 3200000 in
theorem dputs_many (d : Dg) (w : World) (h : ¬ ((d.body.size : Int) ≤ 1100 ∧ (d.has.size : Int) ≤ 100)) : Calls Try.prog 3 #[d.val] w fun e w' => e = .returned (.bool true) ∧ Below w.heap.size w w' := by
  have HF := Lib.hid (fun w => few_no d w h)
  clear h
  obtain ⟨a0, a1, a2, a3, a4, a5, a6, a7, a8, a9⟩ := d
  unfold Dg.val at *
  simp only at HF ⊢
  go_enter Try.func3, Try.ntmps3
  go_wp2_with fail
  refine (HF.out _).mono ?_; rintro e w1 ⟨rfl, g1⟩
  have B1 : Hid (Below w.heap.size w w1) := Lib.hid (((Below.refl _ _).alloc (Nat.le_refl _) _).trans (g1.mono (by simp)))
  clear g1
  go_wp2_with fail
  refine (awake10_any _).mono ?_; rintro e w2 ⟨rfl, g2⟩
  have B2 := Lib.hid (B1.out.trans (g2.mono B1.out.size))
  clear g2 B1
  go_wp2_with fail
  go_ret
  exact ⟨rfl, B2.out⟩
theorem dputs_walk (d : Dg) (w : World) (hd : d.In) : Calls Try.prog 3 #[d.val] w fun e w' => e = .returned (.bool true) ∧ Below w.heap.size w w' := by
  by_cases h : (d.body.size : Int) ≤ 1100 ∧ (d.has.size : Int) ≤ 100
  · exact dputs_few d w hd h.1 h.2
  · exact dputs_many d w h
end Go.Proofs.Ytekolkbahhbcjaa

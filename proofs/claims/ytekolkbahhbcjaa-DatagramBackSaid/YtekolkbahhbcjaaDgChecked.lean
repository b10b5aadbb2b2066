/- Proved: what checked, Check and Size of package datagram answer. Conditions: those that the theorems name. -/
import Derived.Test.YtekolkbahhbcjaaDgChk
import Derived.Deep.RegionHeld3
namespace Go.Proofs.Ytekolkbahhbcjaa
open Go.ChangeShapes Go.WideShapes Go.ChangeAt Go.RowKit

/-- A layout and a number come back; nothing that was there has turned. -/
def GivesLZ (W : World) (v : Value) (z : Int) (e : Ending) (w' : World) : Prop := e = .returned (.tuple #[v, .int .i64 z]) ∧ Below W.heap.size W w'
/-- the layout that checked answers. -/
def layT (d : Dg) : Value := if chk d = 0 then layV (grpOf d.kind) else layNone
/-- what a layout and a number in the call's own memory read as. -/
theorem res_lay {T : Array Value} {W : World} {b : Nat} {z : Int} {v0 v1 v2 v3 v4 : Value} (h2 : T.getD 2 undef = .pointer (some ⟨b, 0, none⟩)) (h3 : T.getD 3 undef = .int .i64 z) (A : At W b 48 [v0, v1, v2, v3, v4]) : (results Try.f17 T).run Try.prog W = .ok (.tuple #[.agg #[v0, v1, v2, v3, v4], .int .i64 z]) W := by
  have h2' : T[2]?.getD undef = .pointer (some ⟨b, 0, none⟩) := by simpa using h2
  have h3' : T[3]?.getD undef = .int .i64 z := by simpa using h3
  have c0 := A.cell 0 rfl
  have c1 := A.cell 1 rfl
  have c2 := A.cell 2 rfl
  have c3 := A.cell 3 rfl
  have c4 := A.cell 4 rfl
  simp [results, Try.results17, h2', h3', c0, c1, c2, c3, c4, go_sem]
set_option maxRecDepth 100000 in
set_option maxHeartbeats 1600000 in
theorem checked_no (d : Dg) (w : World) (h : ¬ (1 ≤ d.kind ∧ d.kind ≤ 6)) : Calls Try.prog 17 #[d.val] w (GivesLZ w layNone 1) := by
  obtain ⟨a0, a1, a2, a3, a4, a5, a6, a7, a8, a9⟩ := d
  simp only at h
  have HL := Lib.hid (fun w => layout_no a0 w h)
  unfold layNone at HL
  clear h
  unfold Dg.val
  simp only
  go_enter Try.func17, Try.ntmps17
  go_wp2_with fail
  refine (HL.out _).mono ?_; rintro e w1 ⟨rfl, g1⟩
  obtain ⟨hc, hf⟩ := bcell g1
  have hz : w.heap.size + 1 < w1.heap.size := by have := g1.size; simp at this; omega
  have hz0 : w.heap.size < w1.heap.size := by omega
  have G1 := Lib.hid g1
  clear g1
  have A1 : Hid (At w1 (w.heap.size + 1) 48 [.nilFunc, .nilFunc, .nilFunc, .nilFunc, .int .i64 0]) := Lib.hid (At.below (by have := At.new (w.alloc (.cells #[.int .i64 a0, .int .i64 a1, .int .u32 (a2 : Nat), .int .i64 a3, .int .i64 a4, .int .i64 a5, .int .i64 a6, .int .i64 a7, .string a8, .string a9] 24)) 48 [.nilFunc, .nilFunc, .nilFunc, .nilFunc, .int .i64 0]; simpa using this) G1.out (by simp))
  have B1 : Hid (Below w.heap.size w w1) := Lib.hid ((((Below.refl _ _).alloc (Nat.le_refl _) _).alloc (by simp) _).trans (G1.out.mono (by simp; omega)))
  go_wp2_with fail
  refine bodyPost_ret (v := .tuple #[layNone, .int .i64 1]) (res_lay rfl rfl ((((((A1.out.set_ 0 _).set_ 1 _).set_ 2 _).set_ 3 _).set_ 4 _).alloc _)) rfl ⟨rfl, ?_⟩
  repeat (first | with_reducible exact B1.out | with_reducible refine Below.setCell ?_ (by first | omega | (simp; done) | (simp; omega)) _ | with_reducible refine Below.alloc ?_ (by first | omega | (simp; done) | (simp; omega)) _ | with_reducible refine Below.drew ?_)
set_option maxRecDepth 100000 in
set_option maxHeartbeats 1600000 in
theorem checked_stream (g : Grp) (d : Dg) (w : World) (h : 1 ≤ d.kind ∧ d.kind ≤ 6) (hg : grpOf d.kind = g) (h2 : ¬ (0 ≤ d.stream ∧ d.stream ≤ 255)) : Calls Try.prog 17 #[d.val] w (GivesLZ w layNone 2) := by
  obtain ⟨a0, a1, a2, a3, a4, a5, a6, a7, a8, a9⟩ := d
  simp only at h hg h2
  have HL := Lib.hid (fun w => layout_yes a0 w h)
  rw [hg] at HL
  unfold layV at HL
  have HS := Lib.hid (show a1 < 0 ∨ 255 < a1 by omega)
  clear h hg h2
  unfold Dg.val
  simp only
  go_enter Try.func17, Try.ntmps17
  go_wp2_with fail
  refine (HL.out _).mono ?_; rintro e w1 ⟨rfl, g1⟩
  obtain ⟨hc, hf⟩ := bcell g1
  have hz : w.heap.size + 1 < w1.heap.size := by have := g1.size; simp at this; omega
  have hz0 : w.heap.size < w1.heap.size := by omega
  have G1 := Lib.hid g1
  clear g1
  have A1 : Hid (At w1 (w.heap.size + 1) 48 [.nilFunc, .nilFunc, .nilFunc, .nilFunc, .int .i64 0]) := Lib.hid (At.below (by have := At.new (w.alloc (.cells #[.int .i64 a0, .int .i64 a1, .int .u32 (a2 : Nat), .int .i64 a3, .int .i64 a4, .int .i64 a5, .int .i64 a6, .int .i64 a7, .string a8, .string a9] 24)) 48 [.nilFunc, .nilFunc, .nilFunc, .nilFunc, .int .i64 0]; simpa using this) G1.out (by simp))
  have B1 : Hid (Below w.heap.size w w1) := Lib.hid ((((Below.refl _ _).alloc (Nat.le_refl _) _).alloc (by simp) _).trans (G1.out.mono (by simp; omega)))
  go_wp2_with fail
  refine (within_no _ _ _ _ HS.out).mono ?_; rintro e w2 ⟨rfl, rfl⟩
  go_wp2_with fail
  refine bodyPost_ret (v := .tuple #[layNone, .int .i64 2]) (res_lay rfl rfl ((((((A1.out.set_ 0 _).set_ 1 _).set_ 2 _).set_ 3 _).set_ 4 _).alloc _)) rfl ⟨rfl, ?_⟩
  repeat (first | with_reducible exact B1.out | with_reducible refine Below.setCell ?_ (by first | omega | (simp; done) | (simp; omega)) _ | with_reducible refine Below.alloc ?_ (by first | omega | (simp; done) | (simp; omega)) _ | with_reducible refine Below.drew ?_)
set_option maxRecDepth 100000 in
set_option maxHeartbeats 1600000 in
theorem checked_grp (g : Grp) (d : Dg) (w : World) (h : 1 ≤ d.kind ∧ d.kind ≤ 6) (hg : grpOf d.kind = g) (h2 : 0 ≤ d.stream ∧ d.stream ≤ 255) (h3 : grpE g d ≠ 0) (hb : d.body.size ≤ maxLen) : Calls Try.prog 17 #[d.val] w (GivesLZ w layNone (grpE g d)) := by
  obtain ⟨a0, a1, a2, a3, a4, a5, a6, a7, a8, a9⟩ := d
  simp only at h hg h2 hb
  have HL := Lib.hid (fun w => layout_yes a0 w h)
  rw [hg] at HL
  unfold layV at HL
  have HC := Lib.hid (fun w => gchk_any g ⟨a0, a1, a2, a3, a4, a5, a6, a7, a8, a9⟩ w hb)
  unfold Dg.val at HC
  have hcall := call_chk g
  have h3a : (grpE g ⟨a0, a1, a2, a3, a4, a5, a6, a7, a8, a9⟩ == 0) = false := by rw [beq_eq_false_iff_ne]; exact h3
  have h3b : (grpE g ⟨a0, a1, a2, a3, a4, a5, a6, a7, a8, a9⟩ != 0) = true := by rw [bne, h3a]; rfl
  generalize grpE g ⟨a0, a1, a2, a3, a4, a5, a6, a7, a8, a9⟩ = z at *
  clear h h3 hb hg
  obtain ⟨s1, s2⟩ := h2
  unfold Dg.val
  simp only
  go_enter Try.func17, Try.ntmps17
  go_wp2_with fail
  refine (HL.out _).mono ?_; rintro e w1 ⟨rfl, g1⟩
  obtain ⟨hc, hf⟩ := bcell g1
  have hz : w.heap.size + 1 < w1.heap.size := by have := g1.size; simp at this; omega
  have hz0 : w.heap.size < w1.heap.size := by omega
  have G1 := Lib.hid g1
  clear g1
  have A1 : Hid (At w1 (w.heap.size + 1) 48 [.nilFunc, .nilFunc, .nilFunc, .nilFunc, .int .i64 0]) := Lib.hid (At.below (by have := At.new (w.alloc (.cells #[.int .i64 a0, .int .i64 a1, .int .u32 (a2 : Nat), .int .i64 a3, .int .i64 a4, .int .i64 a5, .int .i64 a6, .int .i64 a7, .string a8, .string a9] 24)) 48 [.nilFunc, .nilFunc, .nilFunc, .nilFunc, .int .i64 0]; simpa using this) G1.out (by simp))
  have B1 : Hid (Below w.heap.size w w1) := Lib.hid ((((Below.refl _ _).alloc (Nat.le_refl _) _).alloc (by simp) _).trans (G1.out.mono (by simp; omega)))
  go_wp2_with fail
  refine (within_yes _ _ _ _ s1 s2).mono ?_; rintro e w2 ⟨rfl, rfl⟩
  go_wp2_with fail
  refine (HC.out _).mono ?_; rintro e w2 ⟨rfl, g2⟩
  obtain ⟨hc2, hf2⟩ := bcell g2
  have hz2 : w1.heap.size < w2.heap.size := by have := g2.size; simp at this; omega
  have hz3 : w.heap.size + 1 < w2.heap.size := by omega
  have hz4 : w.heap.size < w2.heap.size := by omega
  have A2 : Hid (At w2 (w.heap.size + 1) 48 [.nilFunc, .nilFunc, .nilFunc, .nilFunc, .int .i64 0]) := Lib.hid ((A1.out.alloc _).below g2 (by simp; omega))
  have B2 : Hid (Below w.heap.size w w2) := Lib.hid ((B1.out.alloc (by omega) _).trans (g2.mono (by simp; omega)))
  clear g2
  go_wp2_with fail
  refine bodyPost_ret (v := .tuple #[layNone, .int .i64 z]) (res_lay rfl rfl (((((A2.out.set_ 0 _).set_ 1 _).set_ 2 _).set_ 3 _).set_ 4 _)) rfl ⟨rfl, ?_⟩
  repeat (first | with_reducible exact B2.out | with_reducible refine Below.setCell ?_ (by first | omega | (simp; done) | (simp; omega)) _ | with_reducible refine Below.alloc ?_ (by first | omega | (simp; done) | (simp; omega)) _ | with_reducible refine Below.drew ?_)
set_option maxRecDepth 100000 in
set_option maxHeartbeats 3200000 in
theorem checked_form (g : Grp) (d : Dg) (w : World) (h : 1 ≤ d.kind ∧ d.kind ≤ 6) (hg : grpOf d.kind = g) (h2 : 0 ≤ d.stream ∧ d.stream ≤ 255) (h3 : grpE g d = 0) (h4 : (d.without g).eqB d.common = false) (hb : d.body.size ≤ maxLen) : Calls Try.prog 17 #[d.val] w (GivesLZ w layNone 5) := by
  obtain ⟨a0, a1, a2, a3, a4, a5, a6, a7, a8, a9⟩ := d
  simp only at h hg h2 hb
  have HL := Lib.hid (fun w => layout_yes a0 w h)
  rw [hg] at HL
  unfold layV at HL
  have HC := Lib.hid (fun w => gchk_any g ⟨a0, a1, a2, a3, a4, a5, a6, a7, a8, a9⟩ w hb)
  rw [h3] at HC
  have HO := Lib.hid (fun w => out_any g ⟨a0, a1, a2, a3, a4, a5, a6, a7, a8, a9⟩ w)
  have HQ := Lib.hid (fun W => neq_dg (Dg.without g ⟨a0, a1, a2, a3, a4, a5, a6, a7, a8, a9⟩) (Dg.common ⟨a0, a1, a2, a3, a4, a5, a6, a7, a8, a9⟩) W)
  rw [h4] at HQ
  generalize Dg.without g ⟨a0, a1, a2, a3, a4, a5, a6, a7, a8, a9⟩ = X at *
  obtain ⟨b0, b1, b2, b3, b4, b5, b6, b7, b8, b9⟩ := X
  have hq : ∀ W, (binOp .neq 24 (.agg #[.int .i64 b0, .int .i64 b1, .int .u32 (b2 : Nat), .int .i64 b3, .int .i64 b4, .int .i64 b5, .int .i64 b6, .int .i64 b7, .string b8, .string b9]) (.agg #[.int .i64 a0, .int .i64 a1, .int .u32 (a2 : Nat), .int .i64 0, .int .i64 0, .int .i64 0, .int .i64 0, .int .i64 0, .string ⟨#[]⟩, .string ⟨#[]⟩])).run Try.prog W = .ok (.bool (!false)) W := HQ.out
  unfold GivesD Dg.val at HO
  simp only at HO
  unfold Dg.val at HC
  have hcall := call_chk g
  have hcall2 := call_out g
  clear h h3 h4 hb hg HQ
  obtain ⟨s1, s2⟩ := h2
  unfold Dg.val
  simp only
  go_enter Try.func17, Try.ntmps17
  go_wp2_with fail
  refine (HL.out _).mono ?_; rintro e w1 ⟨rfl, g1⟩
  obtain ⟨hc, hf⟩ := bcell g1
  have hz : w.heap.size + 1 < w1.heap.size := by have := g1.size; simp at this; omega
  have hz0 : w.heap.size < w1.heap.size := by omega
  have G1 := Lib.hid g1
  clear g1
  have D1 : Hid (At w1 w.heap.size 24 [.int .i64 a0, .int .i64 a1, .int .u32 (a2 : Nat), .int .i64 a3, .int .i64 a4, .int .i64 a5, .int .i64 a6, .int .i64 a7, .string a8, .string a9]) := Lib.hid (((At.new w 24 [.int .i64 a0, .int .i64 a1, .int .u32 (a2 : Nat), .int .i64 a3, .int .i64 a4, .int .i64 a5, .int .i64 a6, .int .i64 a7, .string a8, .string a9]).alloc _).below G1.out (by simp; omega))
  have A1 : Hid (At w1 (w.heap.size + 1) 48 [.nilFunc, .nilFunc, .nilFunc, .nilFunc, .int .i64 0]) := Lib.hid (At.below (by have := At.new (w.alloc (.cells #[.int .i64 a0, .int .i64 a1, .int .u32 (a2 : Nat), .int .i64 a3, .int .i64 a4, .int .i64 a5, .int .i64 a6, .int .i64 a7, .string a8, .string a9] 24)) 48 [.nilFunc, .nilFunc, .nilFunc, .nilFunc, .int .i64 0]; simpa using this) G1.out (by simp))
  have B1 : Hid (Below w.heap.size w w1) := Lib.hid ((((Below.refl _ _).alloc (Nat.le_refl _) _).alloc (by simp) _).trans (G1.out.mono (by simp; omega)))
  have L1 := Lib.hid (At.new w1 48 [.func (.func (fChk g)) #[] #[], .func (.func (fOut g)) #[] #[], .func (.func (fPut g)) #[] #[], .func (.func (fRead g)) #[] #[], .int .i64 (grpSz g : Nat)])
  go_wp2_with fail
  refine (within_yes _ _ _ _ s1 s2).mono ?_; rintro e w2 ⟨rfl, rfl⟩
  go_wp2_with fail
  refine (HC.out _).mono ?_; rintro e w2 ⟨rfl, g2⟩
  obtain ⟨hc2, hf2⟩ := bcell g2
  have hz2 : w1.heap.size < w2.heap.size := by have := g2.size; simp at this; omega
  have hz3 : w.heap.size + 1 < w2.heap.size := by omega
  have hz4 : w.heap.size < w2.heap.size := by omega
  have D2 := Lib.hid ((D1.out.alloc _).below g2 (by simp; omega))
  have A2 := Lib.hid ((A1.out.alloc _).below g2 (by simp; omega))
  have L2 := Lib.hid (L1.out.below g2 (by simp))
  have B2 : Hid (Below w.heap.size w w2) := Lib.hid ((B1.out.alloc (by omega) _).trans (g2.mono (by simp; omega)))
  clear g2
  go_wp2_with fail
  clear hc hf hc2 hf2
  have D3 := Lib.hid (D2.out.alloc (.cells #[.int .i64 a0, .int .i64 a1, .int .u32 (a2 : Nat), .int .i64 0, .int .i64 0, .int .i64 0, .int .i64 0, .int .i64 0, .string ⟨#[]⟩, .string ⟨#[]⟩] 24))
  have A3 := Lib.hid (A2.out.alloc (.cells #[.int .i64 a0, .int .i64 a1, .int .u32 (a2 : Nat), .int .i64 0, .int .i64 0, .int .i64 0, .int .i64 0, .int .i64 0, .string ⟨#[]⟩, .string ⟨#[]⟩] 24))
  have L3 := Lib.hid (L2.out.alloc (.cells #[.int .i64 a0, .int .i64 a1, .int .u32 (a2 : Nat), .int .i64 0, .int .i64 0, .int .i64 0, .int .i64 0, .int .i64 0, .string ⟨#[]⟩, .string ⟨#[]⟩] 24))
  have C3 : Hid (At (w2.alloc (.cells #[.int .i64 a0, .int .i64 a1, .int .u32 (a2 : Nat), .int .i64 0, .int .i64 0, .int .i64 0, .int .i64 0, .int .i64 0, .string ⟨#[]⟩, .string ⟨#[]⟩] 24)) w2.heap.size 24 [.int .i64 a0, .int .i64 a1, .int .u32 (a2 : Nat), .int .i64 0, .int .i64 0, .int .i64 0, .int .i64 0, .int .i64 0, .string ⟨#[]⟩, .string ⟨#[]⟩]) := Lib.hid (At.new w2 24 [.int .i64 a0, .int .i64 a1, .int .u32 (a2 : Nat), .int .i64 0, .int .i64 0, .int .i64 0, .int .i64 0, .int .i64 0, .string ⟨#[]⟩, .string ⟨#[]⟩])
  have B3 := Lib.hid (B2.out.alloc (by omega) (.cells #[.int .i64 a0, .int .i64 a1, .int .u32 (a2 : Nat), .int .i64 0, .int .i64 0, .int .i64 0, .int .i64 0, .int .i64 0, .string ⟨#[]⟩, .string ⟨#[]⟩] 24))
  have hz5 : w2.heap.size < (w2.alloc (.cells #[.int .i64 a0, .int .i64 a1, .int .u32 (a2 : Nat), .int .i64 0, .int .i64 0, .int .i64 0, .int .i64 0, .int .i64 0, .string ⟨#[]⟩, .string ⟨#[]⟩] 24)).heap.size := by simp
  generalize w2.alloc (.cells #[.int .i64 a0, .int .i64 a1, .int .u32 (a2 : Nat), .int .i64 0, .int .i64 0, .int .i64 0, .int .i64 0, .int .i64 0, .string ⟨#[]⟩, .string ⟨#[]⟩] 24) = w3 at *
  have KP : Hid (∀ w6, Below w3.heap.size w3 w6 → w6.cell? ⟨w.heap.size, 0, none⟩ = some (.int .i64 a0) ∧ w6.cell? ⟨w.heap.size, 1, none⟩ = some (.int .i64 a1) ∧ w6.cell? ⟨w.heap.size, 2, none⟩ = some (.int .u32 (a2 : Nat)) ∧ w6.cell? ⟨w.heap.size, 3, none⟩ = some (.int .i64 a3) ∧ w6.cell? ⟨w.heap.size, 4, none⟩ = some (.int .i64 a4) ∧ w6.cell? ⟨w.heap.size, 5, none⟩ = some (.int .i64 a5) ∧ w6.cell? ⟨w.heap.size, 6, none⟩ = some (.int .i64 a6) ∧ w6.cell? ⟨w.heap.size, 7, none⟩ = some (.int .i64 a7) ∧ w6.cell? ⟨w.heap.size, 8, none⟩ = some (.string a8) ∧ w6.cell? ⟨w.heap.size, 9, none⟩ = some (.string a9) ∧ w6.cell? ⟨w1.heap.size, 1, none⟩ = some (.func (.func (fOut g)) #[] #[]) ∧ w6.cell? ⟨w2.heap.size, 0, none⟩ = some (.int .i64 a0) ∧ w6.cell? ⟨w2.heap.size, 1, none⟩ = some (.int .i64 a1) ∧ w6.cell? ⟨w2.heap.size, 2, none⟩ = some (.int .u32 (a2 : Nat)) ∧ w6.cell? ⟨w2.heap.size, 3, none⟩ = some (.int .i64 0) ∧ w6.cell? ⟨w2.heap.size, 4, none⟩ = some (.int .i64 0) ∧ w6.cell? ⟨w2.heap.size, 5, none⟩ = some (.int .i64 0) ∧ w6.cell? ⟨w2.heap.size, 6, none⟩ = some (.int .i64 0) ∧ w6.cell? ⟨w2.heap.size, 7, none⟩ = some (.int .i64 0) ∧ w6.cell? ⟨w2.heap.size, 8, none⟩ = some (.string ⟨#[]⟩) ∧ w6.cell? ⟨w2.heap.size, 9, none⟩ = some (.string ⟨#[]⟩)) := Lib.hid fun w6 h => by
    have d := D3.out.below h D3.out.lt
    have l := L3.out.below h L3.out.lt
    have c := C3.out.below h C3.out.lt
    exact ⟨d.cell 0 rfl, d.cell 1 rfl, d.cell 2 rfl, d.cell 3 rfl, d.cell 4 rfl, d.cell 5 rfl, d.cell 6 rfl, d.cell 7 rfl, d.cell 8 rfl, d.cell 9 rfl, l.cell 1 rfl, c.cell 0 rfl, c.cell 1 rfl, c.cell 2 rfl, c.cell 3 rfl, c.cell 4 rfl, c.cell 5 rfl, c.cell 6 rfl, c.cell 7 rfl, c.cell 8 rfl, c.cell 9 rfl⟩
  have BA : Hid (∀ w6, Below w3.drew.heap.size w3.drew w6 → Below w3.heap.size w3 w6) := Lib.hid fun w6 h => (Below.refl w3.heap.size w3).drew.trans h
  obtain ⟨k0, k1, k2, k3, k4, k5, k6, k7, k8, k9, l1, c0, c1, c2, c3, c4, c5, c6, c7, c8, c9⟩ := KP.out w3.drew (BA.out _ (Below.refl _ _))
  go_region_held3 (fun w' => w'.cell? ⟨w.heap.size, 0, none⟩ = some (.int .i64 a0) ∧ w'.cell? ⟨w.heap.size, 1, none⟩ = some (.int .i64 a1) ∧ w'.cell? ⟨w.heap.size, 2, none⟩ = some (.int .u32 (a2 : Nat)) ∧ w'.cell? ⟨w.heap.size, 3, none⟩ = some (.int .i64 a3) ∧ w'.cell? ⟨w.heap.size, 4, none⟩ = some (.int .i64 a4) ∧ w'.cell? ⟨w.heap.size, 5, none⟩ = some (.int .i64 a5) ∧ w'.cell? ⟨w.heap.size, 6, none⟩ = some (.int .i64 a6) ∧ w'.cell? ⟨w.heap.size, 7, none⟩ = some (.int .i64 a7) ∧ w'.cell? ⟨w.heap.size, 8, none⟩ = some (.string a8) ∧ w'.cell? ⟨w.heap.size, 9, none⟩ = some (.string a9) ∧ w'.cell? ⟨w1.heap.size, 1, none⟩ = some (.func (.func (fOut g)) #[] #[]) ∧ w'.cell? ⟨w2.heap.size, 0, none⟩ = some (.int .i64 a0) ∧ w'.cell? ⟨w2.heap.size, 1, none⟩ = some (.int .i64 a1) ∧ w'.cell? ⟨w2.heap.size, 2, none⟩ = some (.int .u32 (a2 : Nat)) ∧ w'.cell? ⟨w2.heap.size, 3, none⟩ = some (.int .i64 0) ∧ w'.cell? ⟨w2.heap.size, 4, none⟩ = some (.int .i64 0) ∧ w'.cell? ⟨w2.heap.size, 5, none⟩ = some (.int .i64 0) ∧ w'.cell? ⟨w2.heap.size, 6, none⟩ = some (.int .i64 0) ∧ w'.cell? ⟨w2.heap.size, 7, none⟩ = some (.int .i64 0) ∧ w'.cell? ⟨w2.heap.size, 8, none⟩ = some (.string ⟨#[]⟩) ∧ w'.cell? ⟨w2.heap.size, 9, none⟩ = some (.string ⟨#[]⟩))
    (first | go_keep | exact KP.out _ (Below.refl _ _) | exact KP.out _ (BA.out _ (Below.refl _ _)) | exact KP.out _ (BA.out _ G4.out))
    ((with_reducible refine (HO.out _).mono ?_; rintro e w4 ⟨rfl, g4⟩; have G4 := Lib.hid g4; clear g4))
  have W4 := Lib.hid (BA.out _ G4.out)
  have A4 := Lib.hid (A3.out.below W4.out A3.out.lt)
  have B4 := Lib.hid (B3.out.trans (W4.out.mono B3.out.size))
  have r0 := A4.out.cell 0 rfl
  have r1 := A4.out.cell 1 rfl
  have r2 := A4.out.cell 2 rfl
  have r3 := A4.out.cell 3 rfl
  have r4 := A4.out.cell 4 rfl
  have f0 := A4.out.free 0
  have f1 := A4.out.free 1
  have f2 := A4.out.free 2
  have f3 := A4.out.free 3
  have f4 := A4.out.free 4
  go_wp2_with fail
  refine bodyPost_ret (v := .tuple #[layNone, .int .i64 5]) (res_lay rfl rfl (((((A4.out.set_ 0 _).set_ 1 _).set_ 2 _).set_ 3 _).set_ 4 _)) rfl ⟨rfl, ?_⟩
  repeat (first | with_reducible exact B4.out | with_reducible refine Below.setCell ?_ (by first | omega | (simp; done) | (simp; omega)) _ | with_reducible refine Below.alloc ?_ (by first | omega | (simp; done) | (simp; omega)) _ | with_reducible refine Below.drew ?_)
set_option maxRecDepth 100000 in
set_option maxHeartbeats 3200000 in
theorem checked_ok (g : Grp) (d : Dg) (w : World) (h : 1 ≤ d.kind ∧ d.kind ≤ 6) (hg : grpOf d.kind = g) (h2 : 0 ≤ d.stream ∧ d.stream ≤ 255) (h3 : grpE g d = 0) (h4 : (d.without g).eqB d.common = true) (hb : d.body.size ≤ maxLen) : Calls Try.prog 17 #[d.val] w (GivesLZ w (layV g) 0) := by
  obtain ⟨a0, a1, a2, a3, a4, a5, a6, a7, a8, a9⟩ := d
  simp only at h hg h2 hb
  have HL := Lib.hid (fun w => layout_yes a0 w h)
  rw [hg] at HL
  unfold layV at HL
  have HC := Lib.hid (fun w => gchk_any g ⟨a0, a1, a2, a3, a4, a5, a6, a7, a8, a9⟩ w hb)
  rw [h3] at HC
  have HO := Lib.hid (fun w => out_any g ⟨a0, a1, a2, a3, a4, a5, a6, a7, a8, a9⟩ w)
  have HQ := Lib.hid (fun W => neq_dg (Dg.without g ⟨a0, a1, a2, a3, a4, a5, a6, a7, a8, a9⟩) (Dg.common ⟨a0, a1, a2, a3, a4, a5, a6, a7, a8, a9⟩) W)
  rw [h4] at HQ
  generalize Dg.without g ⟨a0, a1, a2, a3, a4, a5, a6, a7, a8, a9⟩ = X at *
  obtain ⟨b0, b1, b2, b3, b4, b5, b6, b7, b8, b9⟩ := X
  have hq : ∀ W, (binOp .neq 24 (.agg #[.int .i64 b0, .int .i64 b1, .int .u32 (b2 : Nat), .int .i64 b3, .int .i64 b4, .int .i64 b5, .int .i64 b6, .int .i64 b7, .string b8, .string b9]) (.agg #[.int .i64 a0, .int .i64 a1, .int .u32 (a2 : Nat), .int .i64 0, .int .i64 0, .int .i64 0, .int .i64 0, .int .i64 0, .string ⟨#[]⟩, .string ⟨#[]⟩])).run Try.prog W = .ok (.bool (!true)) W := HQ.out
  unfold GivesD Dg.val at HO
  simp only at HO
  unfold Dg.val at HC
  have hcall := call_chk g
  have hcall2 := call_out g
  clear h h3 h4 hb hg HQ
  obtain ⟨s1, s2⟩ := h2
  unfold Dg.val
  simp only
  go_enter Try.func17, Try.ntmps17
  go_wp2_with fail
  refine (HL.out _).mono ?_; rintro e w1 ⟨rfl, g1⟩
  obtain ⟨hc, hf⟩ := bcell g1
  have hz : w.heap.size + 1 < w1.heap.size := by have := g1.size; simp at this; omega
  have hz0 : w.heap.size < w1.heap.size := by omega
  have G1 := Lib.hid g1
  clear g1
  have D1 : Hid (At w1 w.heap.size 24 [.int .i64 a0, .int .i64 a1, .int .u32 (a2 : Nat), .int .i64 a3, .int .i64 a4, .int .i64 a5, .int .i64 a6, .int .i64 a7, .string a8, .string a9]) := Lib.hid (((At.new w 24 [.int .i64 a0, .int .i64 a1, .int .u32 (a2 : Nat), .int .i64 a3, .int .i64 a4, .int .i64 a5, .int .i64 a6, .int .i64 a7, .string a8, .string a9]).alloc _).below G1.out (by simp; omega))
  have A1 : Hid (At w1 (w.heap.size + 1) 48 [.nilFunc, .nilFunc, .nilFunc, .nilFunc, .int .i64 0]) := Lib.hid (At.below (by have := At.new (w.alloc (.cells #[.int .i64 a0, .int .i64 a1, .int .u32 (a2 : Nat), .int .i64 a3, .int .i64 a4, .int .i64 a5, .int .i64 a6, .int .i64 a7, .string a8, .string a9] 24)) 48 [.nilFunc, .nilFunc, .nilFunc, .nilFunc, .int .i64 0]; simpa using this) G1.out (by simp))
  have B1 : Hid (Below w.heap.size w w1) := Lib.hid ((((Below.refl _ _).alloc (Nat.le_refl _) _).alloc (by simp) _).trans (G1.out.mono (by simp; omega)))
  have L1 := Lib.hid (At.new w1 48 [.func (.func (fChk g)) #[] #[], .func (.func (fOut g)) #[] #[], .func (.func (fPut g)) #[] #[], .func (.func (fRead g)) #[] #[], .int .i64 (grpSz g : Nat)])
  go_wp2_with fail
  refine (within_yes _ _ _ _ s1 s2).mono ?_; rintro e w2 ⟨rfl, rfl⟩
  go_wp2_with fail
  refine (HC.out _).mono ?_; rintro e w2 ⟨rfl, g2⟩
  obtain ⟨hc2, hf2⟩ := bcell g2
  have hz2 : w1.heap.size < w2.heap.size := by have := g2.size; simp at this; omega
  have hz3 : w.heap.size + 1 < w2.heap.size := by omega
  have hz4 : w.heap.size < w2.heap.size := by omega
  have D2 := Lib.hid ((D1.out.alloc _).below g2 (by simp; omega))
  have A2 := Lib.hid ((A1.out.alloc _).below g2 (by simp; omega))
  have L2 := Lib.hid (L1.out.below g2 (by simp))
  have B2 : Hid (Below w.heap.size w w2) := Lib.hid ((B1.out.alloc (by omega) _).trans (g2.mono (by simp; omega)))
  clear g2
  go_wp2_with fail
  clear hc hf hc2 hf2
  have D3 := Lib.hid (D2.out.alloc (.cells #[.int .i64 a0, .int .i64 a1, .int .u32 (a2 : Nat), .int .i64 0, .int .i64 0, .int .i64 0, .int .i64 0, .int .i64 0, .string ⟨#[]⟩, .string ⟨#[]⟩] 24))
  have A3 := Lib.hid (A2.out.alloc (.cells #[.int .i64 a0, .int .i64 a1, .int .u32 (a2 : Nat), .int .i64 0, .int .i64 0, .int .i64 0, .int .i64 0, .int .i64 0, .string ⟨#[]⟩, .string ⟨#[]⟩] 24))
  have L3 := Lib.hid (L2.out.alloc (.cells #[.int .i64 a0, .int .i64 a1, .int .u32 (a2 : Nat), .int .i64 0, .int .i64 0, .int .i64 0, .int .i64 0, .int .i64 0, .string ⟨#[]⟩, .string ⟨#[]⟩] 24))
  have C3 : Hid (At (w2.alloc (.cells #[.int .i64 a0, .int .i64 a1, .int .u32 (a2 : Nat), .int .i64 0, .int .i64 0, .int .i64 0, .int .i64 0, .int .i64 0, .string ⟨#[]⟩, .string ⟨#[]⟩] 24)) w2.heap.size 24 [.int .i64 a0, .int .i64 a1, .int .u32 (a2 : Nat), .int .i64 0, .int .i64 0, .int .i64 0, .int .i64 0, .int .i64 0, .string ⟨#[]⟩, .string ⟨#[]⟩]) := Lib.hid (At.new w2 24 [.int .i64 a0, .int .i64 a1, .int .u32 (a2 : Nat), .int .i64 0, .int .i64 0, .int .i64 0, .int .i64 0, .int .i64 0, .string ⟨#[]⟩, .string ⟨#[]⟩])
  have B3 := Lib.hid (B2.out.alloc (by omega) (.cells #[.int .i64 a0, .int .i64 a1, .int .u32 (a2 : Nat), .int .i64 0, .int .i64 0, .int .i64 0, .int .i64 0, .int .i64 0, .string ⟨#[]⟩, .string ⟨#[]⟩] 24))
  have hz5 : w2.heap.size < (w2.alloc (.cells #[.int .i64 a0, .int .i64 a1, .int .u32 (a2 : Nat), .int .i64 0, .int .i64 0, .int .i64 0, .int .i64 0, .int .i64 0, .string ⟨#[]⟩, .string ⟨#[]⟩] 24)).heap.size := by simp
  generalize w2.alloc (.cells #[.int .i64 a0, .int .i64 a1, .int .u32 (a2 : Nat), .int .i64 0, .int .i64 0, .int .i64 0, .int .i64 0, .int .i64 0, .string ⟨#[]⟩, .string ⟨#[]⟩] 24) = w3 at *
  have KP : Hid (∀ w6, Below w3.heap.size w3 w6 → w6.cell? ⟨w.heap.size, 0, none⟩ = some (.int .i64 a0) ∧ w6.cell? ⟨w.heap.size, 1, none⟩ = some (.int .i64 a1) ∧ w6.cell? ⟨w.heap.size, 2, none⟩ = some (.int .u32 (a2 : Nat)) ∧ w6.cell? ⟨w.heap.size, 3, none⟩ = some (.int .i64 a3) ∧ w6.cell? ⟨w.heap.size, 4, none⟩ = some (.int .i64 a4) ∧ w6.cell? ⟨w.heap.size, 5, none⟩ = some (.int .i64 a5) ∧ w6.cell? ⟨w.heap.size, 6, none⟩ = some (.int .i64 a6) ∧ w6.cell? ⟨w.heap.size, 7, none⟩ = some (.int .i64 a7) ∧ w6.cell? ⟨w.heap.size, 8, none⟩ = some (.string a8) ∧ w6.cell? ⟨w.heap.size, 9, none⟩ = some (.string a9) ∧ w6.cell? ⟨w1.heap.size, 1, none⟩ = some (.func (.func (fOut g)) #[] #[]) ∧ w6.cell? ⟨w2.heap.size, 0, none⟩ = some (.int .i64 a0) ∧ w6.cell? ⟨w2.heap.size, 1, none⟩ = some (.int .i64 a1) ∧ w6.cell? ⟨w2.heap.size, 2, none⟩ = some (.int .u32 (a2 : Nat)) ∧ w6.cell? ⟨w2.heap.size, 3, none⟩ = some (.int .i64 0) ∧ w6.cell? ⟨w2.heap.size, 4, none⟩ = some (.int .i64 0) ∧ w6.cell? ⟨w2.heap.size, 5, none⟩ = some (.int .i64 0) ∧ w6.cell? ⟨w2.heap.size, 6, none⟩ = some (.int .i64 0) ∧ w6.cell? ⟨w2.heap.size, 7, none⟩ = some (.int .i64 0) ∧ w6.cell? ⟨w2.heap.size, 8, none⟩ = some (.string ⟨#[]⟩) ∧ w6.cell? ⟨w2.heap.size, 9, none⟩ = some (.string ⟨#[]⟩)) := Lib.hid fun w6 h => by
    have d := D3.out.below h D3.out.lt
    have l := L3.out.below h L3.out.lt
    have c := C3.out.below h C3.out.lt
    exact ⟨d.cell 0 rfl, d.cell 1 rfl, d.cell 2 rfl, d.cell 3 rfl, d.cell 4 rfl, d.cell 5 rfl, d.cell 6 rfl, d.cell 7 rfl, d.cell 8 rfl, d.cell 9 rfl, l.cell 1 rfl, c.cell 0 rfl, c.cell 1 rfl, c.cell 2 rfl, c.cell 3 rfl, c.cell 4 rfl, c.cell 5 rfl, c.cell 6 rfl, c.cell 7 rfl, c.cell 8 rfl, c.cell 9 rfl⟩
  have BA : Hid (∀ w6, Below w3.drew.heap.size w3.drew w6 → Below w3.heap.size w3 w6) := Lib.hid fun w6 h => (Below.refl w3.heap.size w3).drew.trans h
  obtain ⟨k0, k1, k2, k3, k4, k5, k6, k7, k8, k9, l1, c0, c1, c2, c3, c4, c5, c6, c7, c8, c9⟩ := KP.out w3.drew (BA.out _ (Below.refl _ _))
  go_region_held3 (fun w' => w'.cell? ⟨w.heap.size, 0, none⟩ = some (.int .i64 a0) ∧ w'.cell? ⟨w.heap.size, 1, none⟩ = some (.int .i64 a1) ∧ w'.cell? ⟨w.heap.size, 2, none⟩ = some (.int .u32 (a2 : Nat)) ∧ w'.cell? ⟨w.heap.size, 3, none⟩ = some (.int .i64 a3) ∧ w'.cell? ⟨w.heap.size, 4, none⟩ = some (.int .i64 a4) ∧ w'.cell? ⟨w.heap.size, 5, none⟩ = some (.int .i64 a5) ∧ w'.cell? ⟨w.heap.size, 6, none⟩ = some (.int .i64 a6) ∧ w'.cell? ⟨w.heap.size, 7, none⟩ = some (.int .i64 a7) ∧ w'.cell? ⟨w.heap.size, 8, none⟩ = some (.string a8) ∧ w'.cell? ⟨w.heap.size, 9, none⟩ = some (.string a9) ∧ w'.cell? ⟨w1.heap.size, 1, none⟩ = some (.func (.func (fOut g)) #[] #[]) ∧ w'.cell? ⟨w2.heap.size, 0, none⟩ = some (.int .i64 a0) ∧ w'.cell? ⟨w2.heap.size, 1, none⟩ = some (.int .i64 a1) ∧ w'.cell? ⟨w2.heap.size, 2, none⟩ = some (.int .u32 (a2 : Nat)) ∧ w'.cell? ⟨w2.heap.size, 3, none⟩ = some (.int .i64 0) ∧ w'.cell? ⟨w2.heap.size, 4, none⟩ = some (.int .i64 0) ∧ w'.cell? ⟨w2.heap.size, 5, none⟩ = some (.int .i64 0) ∧ w'.cell? ⟨w2.heap.size, 6, none⟩ = some (.int .i64 0) ∧ w'.cell? ⟨w2.heap.size, 7, none⟩ = some (.int .i64 0) ∧ w'.cell? ⟨w2.heap.size, 8, none⟩ = some (.string ⟨#[]⟩) ∧ w'.cell? ⟨w2.heap.size, 9, none⟩ = some (.string ⟨#[]⟩))
    (first | go_keep | exact KP.out _ (Below.refl _ _) | exact KP.out _ (BA.out _ (Below.refl _ _)) | exact KP.out _ (BA.out _ G4.out))
    ((with_reducible refine (HO.out _).mono ?_; rintro e w4 ⟨rfl, g4⟩; have G4 := Lib.hid g4; clear g4))
  have W4 := Lib.hid (BA.out _ G4.out)
  have A4 := Lib.hid (A3.out.below W4.out A3.out.lt)
  have B4 := Lib.hid (B3.out.trans (W4.out.mono B3.out.size))
  have r0 := A4.out.cell 0 rfl
  have r1 := A4.out.cell 1 rfl
  have r2 := A4.out.cell 2 rfl
  have r3 := A4.out.cell 3 rfl
  have r4 := A4.out.cell 4 rfl
  have f0 := A4.out.free 0
  have f1 := A4.out.free 1
  have f2 := A4.out.free 2
  have f3 := A4.out.free 3
  have f4 := A4.out.free 4
  have L4 := Lib.hid (L3.out.below W4.out L3.out.lt)
  have m0 := L4.out.cell 0 rfl
  have m1 := L4.out.cell 1 rfl
  have m2 := L4.out.cell 2 rfl
  have m3 := L4.out.cell 3 rfl
  have m4 := L4.out.cell 4 rfl
  go_wp2_with fail
  refine bodyPost_ret (v := .tuple #[layV g, .int .i64 0]) (res_lay rfl rfl (((((A4.out.set_ 0 _).set_ 1 _).set_ 2 _).set_ 3 _).set_ 4 _)) rfl ⟨rfl, ?_⟩
  repeat (first | with_reducible exact B4.out | with_reducible refine Below.setCell ?_ (by first | omega | (simp; done) | (simp; omega)) _ | with_reducible refine Below.alloc ?_ (by first | omega | (simp; done) | (simp; omega)) _ | with_reducible refine Below.drew ?_)
theorem checked_any (d : Dg) (w : World) (hb : d.body.size ≤ maxLen) : Calls Try.prog 17 #[d.val] w (GivesLZ w (layT d) (chk d)) := by
  unfold layT
  by_cases h1 : 1 ≤ d.kind ∧ d.kind ≤ 6
  · by_cases h2 : 0 ≤ d.stream ∧ d.stream ≤ 255
    · by_cases h3 : grpE (grpOf d.kind) d = 0
      · cases h4 : (d.without (grpOf d.kind)).eqB d.common with
        | true =>
          rw [chk_ok h1 h2 h3 h4, if_pos rfl]
          exact checked_ok _ d w h1 rfl h2 h3 h4 hb
        | false =>
          rw [chk_form h1 h2 h3 h4, if_neg (by decide)]
          exact checked_form _ d w h1 rfl h2 h3 h4 hb
      · rw [chk_grp h1 h2 h3, if_neg h3]
        exact checked_grp _ d w h1 rfl h2 h3 hb
    · rw [chk_stream h1 h2, if_neg (by decide)]
      exact checked_stream _ d w h1 rfl h2
  · rw [chk_kind h1, if_neg (by decide)]
    exact checked_no d w h1
end Go.Proofs.Ytekolkbahhbcjaa

/- Proved: the walks of the laws of package bits. Conditions: those that the theorems name. -/
import Derived.Test.YtaahhjoolgpbhaaBitMis
import Derived.Test.YtaahhjoolgpbhaaObj
import Derived.Deep.RegionHeld3
namespace Go.Proofs.Ytaahhjoolgpbhaa
open Go.ChangeShapes Go.WideShapes Go.ChangeAt Go.RowKit

def awS : ByteArray := ofS [0, 2]
def awT : ByteArray := tx (withB (bts awS) 255)
def awX : ByteArray := ⟨#[120]⟩
theorem aw_set0 : setS awS 255 = awT ∧ setE awS 255 = 0 := by
  obtain ⟨h1, h2⟩ := setE_in (s := awS) (i := 255) (ofS_size _) (by decide)
  exact ⟨h2, h1⟩
theorem aw_set1 : setS awS 256 = S0 ∧ setE awS 256 = 2 := by
  obtain ⟨h1, h2⟩ := setE_out (s := awS) (i := 256) (ofS_size _) (by decide)
  exact ⟨h2, h1⟩
theorem aw_set2 : setS awX 0 = S0 ∧ setE awX 0 = 5 := by
  obtain ⟨h1, h2⟩ := setE_size (s := awX) (by decide) 0
  exact ⟨h2, h1⟩
theorem aw_mis0 : misL awS 4 9 = [1, 3] := by kernel_rfl
theorem aw_mis1 : misL awS 4 1 = [1] := by kernel_rfl
theorem aw_has0 : hasB awT 255 = true := by kernel_rfl
theorem aw_has1 : hasB awS 255 = false := by kernel_rfl
theorem aw_cnt0 : cntN awT 256 = 3 := by kernel_rfl
theorem aw_cnt1 : cntN awX 256 = 0 := by kernel_rfl
theorem count_as (s : ByteArray) (c : Int) (w : World) (h : (cntN s 256 : Int) = c) :
    Calls Try.prog 10 #[.string s] w fun e w' => e = .returned (.int .i64 c) ∧ Below w.heap.size w w' := h ▸ count_any s w

set_option maxRecDepth 100000 in
set_option maxHeartbeats 1600000 in
theorem bawake_any (w : World) :
    Calls Try.prog 5 #[] w fun e w' => e = .returned (.bool true) ∧ Below w.heap.size w w' := by
  have H0 := Lib.hid (of_any (some ⟨w.heap.size, 0, none⟩) 2 2 [0, 2] (w.alloc (.cells #[.int .i64 0, .int .i64 2] 3)) (is_ztwo w 0 2) (by omega))
  have H1 := fun w => set11_any awS 255 w
  rw [aw_set0.1, aw_set0.2] at H1
  have H2 := fun w => set11_any awS 256 w
  rw [aw_set1.1, aw_set1.2] at H2
  have H3 := fun w => set11_any awX 0 w
  rw [aw_set2.1, aw_set2.2] at H3
  have H4 := fun w => missing_any awS 4 9 w
  rw [aw_mis0] at H4
  have H5 := fun w => missing_any awS 4 1 w
  rw [aw_mis1] at H5
  have H6 := fun w => has_any awT 255 w
  rw [aw_has0] at H6
  have H7 := fun w => has_any awS 255 w
  rw [aw_has1] at H7
  have H8 := fun w => count_as awT 3 w (by rw [aw_cnt0]; rfl)
  have H9 := fun w => count_as awX 0 w (by rw [aw_cnt1]; rfl)
  have HE := fun w => empty_any w
  have hz := noB_size
  have h1 := Lib.hid H1
  have h2 := Lib.hid H2
  have h3 := Lib.hid H3
  have h4 := Lib.hid H4
  have h5 := Lib.hid H5
  have h6 := Lib.hid H6
  have h7 := Lib.hid H7
  have h8 := Lib.hid H8
  have h9 := Lib.hid H9
  have hE := Lib.hid HE
  unfold awX at h3 h9
  change Hid (Calls _ _ _ _ (GivesS _ awS)) at H0
  clear H1 H2 H3 H4 H5 H6 H7 H8 H9 HE
  generalize awS = S at *
  generalize awT = T at *
  generalize tx noB = Z at *
  have hz' : (Z.size : Int) = 32 := by omega
  clear hz
  go_enter Try.func5, Try.ntmps5
  go_wp2_with fail
  refine H0.out.mono ?_; rintro e w1 ⟨rfl, g⟩
  have B1 : Hid (Below w.heap.size w w1) := Lib.hid (((Below.refl _ _).alloc (Nat.le_refl _) _).trans (g.mono (by simp)))
  clear g H0
  go_wp2_with fail
  refine (h1.out _).mono ?_; rintro e w2 ⟨rfl, g⟩
  have B2 := Lib.hid (B1.out.trans (g.mono B1.out.size))
  clear g B1
  go_wp2_with fail
  refine (h2.out _).mono ?_; rintro e w3 ⟨rfl, g⟩
  have B3 := Lib.hid (B2.out.trans (g.mono B2.out.size))
  clear g B2
  go_wp2_with fail
  refine (h3.out _).mono ?_; rintro e w4 ⟨rfl, g⟩
  have B4 := Lib.hid (B3.out.trans (g.mono B3.out.size))
  clear g B3
  go_wp2_with fail
  refine (h4.out _).mono ?_; rintro e w5 ⟨A5, c5, rfl, hi, g⟩
  have B5 := Lib.hid (B4.out.trans (g.mono B4.out.size))
  have I5 := Lib.hid hi
  clear g B4 hi
  go_wp2_with fail
  refine (ints_yes A5 (some ⟨w5.heap.size, 0, none⟩) 2 c5 2 [1, 3] _ (I5.out.below ((Below.refl _ _).alloc (Nat.le_refl _) _)) (is_ztwo w5 1 3) (by omega)).mono ?_; rintro e w6 ⟨rfl, g⟩
  have B6 := Lib.hid ((B5.out.alloc B5.out.size _).trans (g.mono (Nat.le_trans B5.out.size (by simp))))
  clear g B5 I5
  go_wp2_with fail
  refine (h5.out _).mono ?_; rintro e w7 ⟨A7, c7, rfl, hi, g⟩
  have B7 := Lib.hid (B6.out.trans (g.mono B6.out.size))
  have I7 := Lib.hid hi
  clear g B6 hi
  go_wp2_with fail
  refine (ints_yes A7 (some ⟨w7.heap.size, 0, none⟩) 1 c7 1 [1] _ (I7.out.below ((Below.refl _ _).alloc (Nat.le_refl _) _)) (is_zone w7 1) (by omega)).mono ?_; rintro e w8 ⟨rfl, g⟩
  have B8 := Lib.hid ((B7.out.alloc B7.out.size _).trans (g.mono (Nat.le_trans B7.out.size (by simp))))
  clear g B7 I7
  go_wp2_with fail
  refine (h6.out _).mono ?_; rintro e w9 ⟨rfl, q⟩
  have B9 := Lib.hid (B8.out.trans ((two_drawn (B := w8.heap.size) q).mono B8.out.size))
  clear q B8
  go_wp2_with fail
  refine (h7.out _).mono ?_; rintro e wa ⟨rfl, q⟩
  have Ba := Lib.hid (B9.out.trans ((two_drawn (B := w9.heap.size) q).mono B9.out.size))
  clear q B9
  go_wp2_with fail
  refine (h8.out _).mono ?_; rintro e wb ⟨rfl, g⟩
  have Bb := Lib.hid (Ba.out.trans (g.mono Ba.out.size))
  clear g Ba
  go_wp2_with fail
  refine (hE.out _).mono ?_; rintro e wc ⟨rfl, g⟩
  have Bc := Lib.hid (Bb.out.trans (g.mono Bb.out.size))
  clear g Bb
  go_wp2_with fail
  refine (h9.out _).mono ?_; rintro e wd ⟨rfl, g⟩
  have Bd := Lib.hid (Bc.out.trans (g.mono Bc.out.size))
  clear g Bc
  go_wp2_with fail
  go_ret
  exact ⟨rfl, Bd.out⟩

set_option maxRecDepth 100000 in
set_option maxHeartbeats 3200000 in
theorem marks_few (s : ByteArray) (i t0 t1 : Int) (w : World) (hs : s.size ≤ 100) :
    Calls Try.prog 3 #[.string s, .int .i64 i, .agg #[.int .i64 t0, .int .i64 t1]] w fun e w' => e = .returned (.bool true) ∧ Below w.heap.size w w' := by
  have hs' : ¬ (s.size : Int) > 100 := by omega
  have H1 := fun w => set11_any s i w
  have H2 := fun w => rset11_any s i w
  have H3 := fun w => has_any s i w
  have H4 := fun w => rhas_any s i w
  have H5 := fun w => count_any s w
  have H6 := fun w => rcount_any s w
  have H7 := fun w => missing_any s t0 t1 w
  have H8 := fun w => rmissing_any s t0 t1 w
  have HL := Lib.hid (misL_len s t0 t1)
  generalize setS s i = a at *
  generalize setE s i = z at *
  generalize hasB s i = b at *
  generalize cntN s 256 = c at *
  generalize misL s t0 t1 = l at *
  have h1 := Lib.hid H1
  have h2 := Lib.hid H2
  have h3 := Lib.hid H3
  have h4 := Lib.hid H4
  have h5 := Lib.hid H5
  have h6 := Lib.hid H6
  have h7 := Lib.hid H7
  have h8 := Lib.hid H8
  clear H1 H2 H3 H4 H5 H6 H7 H8 hs
  go_enter Try.func3, Try.ntmps3
  go_wp2_with fail
  refine (h1.out _).mono ?_; rintro e w1 ⟨rfl, g⟩
  have B1 : Hid (Below w.heap.size w w1) := Lib.hid (((Below.refl _ _).alloc (Nat.le_refl _) _).trans (g.mono (by simp)))
  have D1 := Lib.hid ((At.new w 22 [.int .i64 t0, .int .i64 t1]).below g (by simp))
  clear g
  go_wp2_with fail
  refine (h2.out _).mono ?_; rintro e w3 ⟨rfl, g⟩
  have B3 := Lib.hid (B1.out.trans (g.mono B1.out.size))
  have D3 := Lib.hid (D1.out.below g D1.out.lt)
  clear g B1 D1
  go_wp2_with fail
  have KP : Hid (∀ w6, Below w3.heap.size w3 w6 → w6.cell? ⟨w.heap.size, 0, none⟩ = some (.int .i64 t0) ∧ w6.cell? ⟨w.heap.size, 1, none⟩ = some (.int .i64 t1)) := Lib.hid fun w6 h => by
    have d := D3.out.below h D3.out.lt
    exact ⟨d.cell 0 rfl, d.cell 1 rfl⟩
  have QQ : Hid (Below w3.heap.size w3 w3.drew) := Lib.hid (Below.refl w3.heap.size w3).drew
  obtain ⟨k0, k1⟩ := KP.out w3.drew QQ.out
  go_region_held3 (fun w' => w'.cell? ⟨w.heap.size, 0, none⟩ = some (.int .i64 t0) ∧ w'.cell? ⟨w.heap.size, 1, none⟩ = some (.int .i64 t1))
    (first | go_keep | exact KP.out _ QQ.out)
    (first
    | ((with_reducible refine (h3.out _).mono ?_); rintro e wq ⟨rfl, gq⟩; have QN := Lib.hid (QQ.out.trans ((two_drawn gq).mono QQ.out.size)); clear gq QQ; have QQ := QN; clear QN)
    | ((with_reducible refine (h4.out _).mono ?_); rintro e wq ⟨rfl, rfl⟩)
    | ((with_reducible refine (h5.out _).mono ?_); rintro e wq ⟨rfl, gq⟩; have QN := Lib.hid (QQ.out.trans (gq.mono QQ.out.size)); clear gq QQ; have QQ := QN; clear QN)
    | ((with_reducible refine (h6.out _).mono ?_); rintro e wq ⟨rfl, rfl⟩)
    | ((with_reducible refine (h7.out _).mono ?_); rintro e wq ⟨A7, c7, rfl, i7, gq⟩; have I7 := Lib.hid i7; have QN := Lib.hid (QQ.out.trans (gq.mono QQ.out.size)); clear gq QQ i7; have QQ := QN; clear QN)
    | ((with_reducible refine (h8.out _).mono ?_); rintro e wq ⟨A8, c8, rfl, i8, gq⟩; have I8 := Lib.hid i8; have J7 := Lib.hid (I7.out.below gq); have QN := Lib.hid (QQ.out.trans (gq.mono QQ.out.size)); clear gq QQ i8 I7; have QQ := QN; clear QN)
    | ((with_reducible refine (ints_yes _ _ _ _ _ _ _ J7.out I8.out (by have := HL.out; omega)).mono ?_); rintro e wq ⟨rfl, gq⟩; have QN := Lib.hid (QQ.out.trans (gq.mono QQ.out.size)); clear gq QQ J7 I8; have QQ := QN; clear QN)
    | ((with_reducible refine (bawake_any _).mono ?_); rintro e wq ⟨rfl, gq⟩; have QN := Lib.hid (QQ.out.trans (gq.mono QQ.out.size)); clear gq QQ; have QQ := QN; clear QN))
  go_wp2_with fail
  go_ret
  exact ⟨rfl, B3.out.trans (QQ.out.mono B3.out.size)⟩
end Go.Proofs.Ytaahhjoolgpbhaa

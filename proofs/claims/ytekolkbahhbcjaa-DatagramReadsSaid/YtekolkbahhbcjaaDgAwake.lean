/- Proved: what awake of the law package answers. No condition. -/
import Derived.Test.YtekolkbahhbcjaaDgLaw
namespace Go.Proofs.Ytekolkbahhbcjaa
open Go.ChangeShapes Go.WideShapes Go.ChangeAt Go.RowKit

/-- the bytes of the row, ahead of the turn and behind it. -/
def rowK (k : Nat) : List Nat := if k = 0 then bts t20 else (bts t20).set 19 194
theorem row_at : (rowK 0).getD 19 0 = 195 := by decide +kernel
theorem row_next : (rowK 0).set 19 194 = rowK 1 := rfl
theorem tx_b : tx (rowK 1) = t20b := by decide +kernel
set_option maxRecDepth 100000 in
set_option maxHeartbeats 3200000 in
theorem awake10_any (w : World) : Calls Try.prog 8 #[] w fun e w' => e = .returned (.bool true) ∧ Below w.heap.size w w' := by
  go_enter Try.func8, Try.ntmps8
  go_wp2_with fail
  refine (awake_fin _).mono ?_; rintro e w1 ⟨rfl, g1⟩
  have B1 := Lib.hid g1
  clear g1
  go_wp2_with fail
  refine (one_any _).mono ?_; rintro e w2 ⟨rfl, g2⟩
  have B2 := Lib.hid (B1.out.trans (g2.mono B1.out.size))
  clear g2
  go_wp2_with fail
  refine (awake_put _).mono ?_; rintro e w3 ⟨rfl, g3⟩
  have B3 := Lib.hid (B2.out.trans (g3.mono B2.out.size))
  clear g3
  go_wp2_with fail
  refine (awake_read _).mono ?_; rintro e w4 ⟨rfl, g4⟩
  have B4 := Lib.hid (B3.out.trans (g4.mono B3.out.size))
  clear g4 B1 B2 B3
  obtain ⟨cap, w5, hcap, hcv, hown, hbel⟩ := convert_own (w4.alloc (.cells #[.int .i64 1, .int .i64 3, .int .u32 7, .int .i64 1, .int .i64 2, .int .i64 3, .int .i64 5, .int .i64 0, .string ⟨#[]⟩, .string ⟨#[97, 98, 99]⟩] 24)) t20
  have D5 : Hid (At w5 w4.heap.size 24 [.int .i64 1, .int .i64 3, .int .u32 7, .int .i64 1, .int .i64 2, .int .i64 3, .int .i64 5, .int .i64 0, .string ⟨#[]⟩, .string ⟨#[97, 98, 99]⟩]) := Lib.hid ((At.new w4 24 [.int .i64 1, .int .i64 3, .int .u32 7, .int .i64 1, .int .i64 2, .int .i64 3, .int .i64 5, .int .i64 0, .string ⟨#[]⟩, .string ⟨#[97, 98, 99]⟩]).below hbel (by simp))
  have B5 := Lib.hid ((B4.out.alloc B4.out.size (.cells #[.int .i64 1, .int .i64 3, .int .u32 7, .int .i64 1, .int .i64 2, .int .i64 3, .int .i64 5, .int .i64 0, .string ⟨#[]⟩, .string ⟨#[97, 98, 99]⟩] 24)).trans (hbel.mono (Nat.le_trans B4.out.size (by simp))))
  have O5 := Lib.hid hown
  have hbb : w4.heap.size < (w4.alloc (.cells #[.int .i64 1, .int .i64 3, .int .u32 7, .int .i64 1, .int .i64 2, .int .i64 3, .int .i64 5, .int .i64 0, .string ⟨#[]⟩, .string ⟨#[97, 98, 99]⟩] 24)).heap.size := by simp
  have hbs : w.heap.size ≤ (w4.alloc (.cells #[.int .i64 1, .int .i64 3, .int .u32 7, .int .i64 1, .int .i64 2, .int .i64 3, .int .i64 5, .int .i64 0, .string ⟨#[]⟩, .string ⟨#[97, 98, 99]⟩] 24)).heap.size := Nat.le_trans B4.out.size (by simp)
  have hbd : w.heap.size ≤ w4.heap.size := B4.out.size
  rw [show t20.size = 20 from rfl] at hcv hcap
  change Hid (OwnC w5 _ 20 _) at O5
  generalize hbbd : (w4.alloc (.cells #[.int .i64 1, .int .i64 3, .int .u32 7, .int .i64 1, .int .i64 2, .int .i64 3, .int .i64 5, .int .i64 0, .string ⟨#[]⟩, .string ⟨#[97, 98, 99]⟩] 24)).heap.size = bb at *
  clear hown hbel B4
  go_wp2_with fail
  have HBB := Lib.hid hbbd
  have HO : Hid (OwnC w5 bb 20 (rowK 0)) := O5
  clear hbbd hcv hcap O5
  go_loopw [8] (fun i wr => ∃ k : Nat, k ≤ 1 ∧ i = .int .i64 k ∧ OwnC wr bb 20 (rowK k) ∧ At wr w4.heap.size 24 [.int .i64 1, .int .i64 3, .int .u32 7, .int .i64 1, .int .i64 2, .int .i64 3, .int .i64 5, .int .i64 0, .string ⟨#[]⟩, .string ⟨#[97, 98, 99]⟩] ∧ Below w.heap.size w wr) (fun i _ => 1 - (intOf i).toNat)
  case atStart => exact ⟨0, by omega, rfl, HO.out, D5.out, B5.out⟩
  case round =>
    obtain ⟨k, hk, rfl, ho, hd, hb⟩ := hrel
    have HO' := Lib.hid ho
    have HD' := Lib.hid hd
    have HB' := Lib.hid hb
    clear ho hd hb HO D5 B5
    by_cases hlt : k < 1
    · obtain rfl : k = 0 := by omega
      have hc := HO'.out.cell (j := 19) (by decide)
      rw [row_at] at hc
      have hf := HO'.out.frozen (j := 19) (by decide)
      have HS := Lib.hid (HO'.out.set_ (j := 19) (x := 194) (by decide) (by decide))
      go_wp2_with fail
      go_roundw
      case rel => exact ⟨0 + 1, by omega, by go_num, HS.out, HD'.out.far (p := ⟨bb, 19, none⟩) (by have := HBB.out; simp at this; simp; omega) _, HB'.out.setCell (p := ⟨bb, 19, none⟩) (by simpa using hbs) _⟩
      case measure => simp [intOf]
    · obtain rfl : k = 1 := by omega
      have hcv := convert_back wr (some ⟨bb, 0, none⟩) 20 cap _ HO'.out.bs (by decide)
      rw [tx_b] at hcv
      have B5 := HB'
      have D5 := HD'
      have HLT := Lib.hid (HBB.out ▸ HO'.out.lt)
      clear HB' HD' HO' hlt hk
      go_wp2_with fail
      clear hcv
      refine (awake_bit _).mono ?_; rintro e w6 ⟨rfl, g6⟩
      have D6 := Lib.hid (D5.out.below g6 D5.out.lt)
      have B6 := Lib.hid (B5.out.trans (g6.mono B5.out.size))
      clear g6 D5 B5
      go_wp2_with fail
      refine (awake_none _).mono ?_; rintro e w7 ⟨rfl, g7⟩
      have D7 := Lib.hid ((D6.out.alloc _).below g7 (Nat.lt_of_lt_of_le D6.out.lt (by simp)))
      have B7 := Lib.hid ((B6.out.alloc B6.out.size _).trans (g7.mono (Nat.le_trans B6.out.size (by simp))))
      clear g7 D6 B6
      go_wp2_with fail
      refine (one_any _).mono ?_; rintro e w8 ⟨rfl, g8⟩
      have D8 := Lib.hid ((D7.out.alloc _).below g8 (Nat.lt_of_lt_of_le D7.out.lt (by simp)))
      have B8 := Lib.hid ((B7.out.alloc B7.out.size _).trans (g8.mono (Nat.le_trans B7.out.size (by simp))))
      clear g8 D7 B7
      go_wp2_with fail
      refine (one_any _).mono ?_; rintro e w9 ⟨rfl, g9⟩
      have X9 : Hid (At w9 w8.heap.size 24 [.int .i64 1, .int .i64 3, .int .u32 7, .int .i64 2, .int .i64 2, .int .i64 3, .int .i64 5, .int .i64 0, .string ⟨#[]⟩, .string ⟨#[97, 98, 99]⟩]) := Lib.hid ((At.new w8 24 [.int .i64 1, .int .i64 3, .int .u32 7, .int .i64 2, .int .i64 2, .int .i64 3, .int .i64 5, .int .i64 0, .string ⟨#[]⟩, .string ⟨#[97, 98, 99]⟩]).below g9 (by simp))
      have D9 := Lib.hid ((D8.out.alloc _).below g9 (Nat.lt_of_lt_of_le D8.out.lt (by simp)))
      have B9 := Lib.hid ((B8.out.alloc B8.out.size _).trans (g9.mono (Nat.le_trans B8.out.size (by simp))))
      clear g9 D8 B8
      go_wp2_with fail
      have Y0 : Hid (At (w9.alloc (.cells #[.int .i64 1, .int .i64 3, .int .u32 7, .int .i64 1, .int .i64 2, .int .i64 3, .int .i64 5, .int .i64 0, .string ⟨#[120]⟩, .string ⟨#[97, 98, 99]⟩] 24)) w9.heap.size 24 [.int .i64 1, .int .i64 3, .int .u32 7, .int .i64 1, .int .i64 2, .int .i64 3, .int .i64 5, .int .i64 0, .string ⟨#[120]⟩, .string ⟨#[97, 98, 99]⟩]) := Lib.hid (At.new w9 24 [.int .i64 1, .int .i64 3, .int .u32 7, .int .i64 1, .int .i64 2, .int .i64 3, .int .i64 5, .int .i64 0, .string ⟨#[120]⟩, .string ⟨#[97, 98, 99]⟩])
      have X0 := Lib.hid (X9.out.alloc (.cells #[.int .i64 1, .int .i64 3, .int .u32 7, .int .i64 1, .int .i64 2, .int .i64 3, .int .i64 5, .int .i64 0, .string ⟨#[120]⟩, .string ⟨#[97, 98, 99]⟩] 24))
      have D0 := Lib.hid (D9.out.alloc (.cells #[.int .i64 1, .int .i64 3, .int .u32 7, .int .i64 1, .int .i64 2, .int .i64 3, .int .i64 5, .int .i64 0, .string ⟨#[120]⟩, .string ⟨#[97, 98, 99]⟩] 24))
      have B0 := Lib.hid (B9.out.alloc B9.out.size (.cells #[.int .i64 1, .int .i64 3, .int .u32 7, .int .i64 1, .int .i64 2, .int .i64 3, .int .i64 5, .int .i64 0, .string ⟨#[120]⟩, .string ⟨#[97, 98, 99]⟩] 24))
      clear X9 D9 B9
      generalize w9.alloc (.cells #[.int .i64 1, .int .i64 3, .int .u32 7, .int .i64 1, .int .i64 2, .int .i64 3, .int .i64 5, .int .i64 0, .string ⟨#[120]⟩, .string ⟨#[97, 98, 99]⟩] 24) = w0 at *
      generalize w4.heap.size = bd at *
      generalize w8.heap.size = bx at *
      generalize w9.heap.size = by_ at *
      have KP : Hid (∀ w6, Below w0.heap.size w0 w6 → w6.cell? ⟨bd, 0, none⟩ = some (.int .i64 1) ∧ w6.cell? ⟨bd, 1, none⟩ = some (.int .i64 3) ∧ w6.cell? ⟨bd, 2, none⟩ = some (.int .u32 7) ∧ w6.cell? ⟨bd, 3, none⟩ = some (.int .i64 1) ∧ w6.cell? ⟨bd, 4, none⟩ = some (.int .i64 2) ∧ w6.cell? ⟨bd, 5, none⟩ = some (.int .i64 3) ∧ w6.cell? ⟨bd, 6, none⟩ = some (.int .i64 5) ∧ w6.cell? ⟨bd, 7, none⟩ = some (.int .i64 0) ∧ w6.cell? ⟨bd, 8, none⟩ = some (.string ⟨#[]⟩) ∧ w6.cell? ⟨bd, 9, none⟩ = some (.string ⟨#[97, 98, 99]⟩) ∧ w6.cell? ⟨bx, 0, none⟩ = some (.int .i64 1) ∧ w6.cell? ⟨bx, 1, none⟩ = some (.int .i64 3) ∧ w6.cell? ⟨bx, 2, none⟩ = some (.int .u32 7) ∧ w6.cell? ⟨bx, 3, none⟩ = some (.int .i64 2) ∧ w6.cell? ⟨bx, 4, none⟩ = some (.int .i64 2) ∧ w6.cell? ⟨bx, 5, none⟩ = some (.int .i64 3) ∧ w6.cell? ⟨bx, 6, none⟩ = some (.int .i64 5) ∧ w6.cell? ⟨bx, 7, none⟩ = some (.int .i64 0) ∧ w6.cell? ⟨bx, 8, none⟩ = some (.string ⟨#[]⟩) ∧ w6.cell? ⟨bx, 9, none⟩ = some (.string ⟨#[97, 98, 99]⟩) ∧ w6.cell? ⟨by_, 0, none⟩ = some (.int .i64 1) ∧ w6.cell? ⟨by_, 1, none⟩ = some (.int .i64 3) ∧ w6.cell? ⟨by_, 2, none⟩ = some (.int .u32 7) ∧ w6.cell? ⟨by_, 3, none⟩ = some (.int .i64 1) ∧ w6.cell? ⟨by_, 4, none⟩ = some (.int .i64 2) ∧ w6.cell? ⟨by_, 5, none⟩ = some (.int .i64 3) ∧ w6.cell? ⟨by_, 6, none⟩ = some (.int .i64 5) ∧ w6.cell? ⟨by_, 7, none⟩ = some (.int .i64 0) ∧ w6.cell? ⟨by_, 8, none⟩ = some (.string ⟨#[120]⟩) ∧ w6.cell? ⟨by_, 9, none⟩ = some (.string ⟨#[97, 98, 99]⟩)) := Lib.hid fun w6 h => by
        have d := D0.out.below h D0.out.lt
        have x := X0.out.below h X0.out.lt
        have y := Y0.out.below h Y0.out.lt
        exact ⟨d.cell 0 rfl, d.cell 1 rfl, d.cell 2 rfl, d.cell 3 rfl, d.cell 4 rfl, d.cell 5 rfl, d.cell 6 rfl, d.cell 7 rfl, d.cell 8 rfl, d.cell 9 rfl, x.cell 0 rfl, x.cell 1 rfl, x.cell 2 rfl, x.cell 3 rfl, x.cell 4 rfl, x.cell 5 rfl, x.cell 6 rfl, x.cell 7 rfl, x.cell 8 rfl, x.cell 9 rfl, y.cell 0 rfl, y.cell 1 rfl, y.cell 2 rfl, y.cell 3 rfl, y.cell 4 rfl, y.cell 5 rfl, y.cell 6 rfl, y.cell 7 rfl, y.cell 8 rfl, y.cell 9 rfl⟩
      have QQ : Hid (Below w0.heap.size w0 w0.drew) := Lib.hid (Below.refl w0.heap.size w0).drew
      have heq := awake_eq
      obtain ⟨d0, d1, d2, d3, d4, d5, d6, d7, d8, d9, x0, x1, x2, x3, x4, x5, x6, x7, x8, x9, y0, y1, y2, y3, y4, y5, y6, y7, y8, y9⟩ := KP.out w0.drew QQ.out
      go_region_held3 (fun w' => w'.cell? ⟨bd, 0, none⟩ = some (.int .i64 1) ∧ w'.cell? ⟨bd, 1, none⟩ = some (.int .i64 3) ∧ w'.cell? ⟨bd, 2, none⟩ = some (.int .u32 7) ∧ w'.cell? ⟨bd, 3, none⟩ = some (.int .i64 1) ∧ w'.cell? ⟨bd, 4, none⟩ = some (.int .i64 2) ∧ w'.cell? ⟨bd, 5, none⟩ = some (.int .i64 3) ∧ w'.cell? ⟨bd, 6, none⟩ = some (.int .i64 5) ∧ w'.cell? ⟨bd, 7, none⟩ = some (.int .i64 0) ∧ w'.cell? ⟨bd, 8, none⟩ = some (.string ⟨#[]⟩) ∧ w'.cell? ⟨bd, 9, none⟩ = some (.string ⟨#[97, 98, 99]⟩) ∧ w'.cell? ⟨bx, 0, none⟩ = some (.int .i64 1) ∧ w'.cell? ⟨bx, 1, none⟩ = some (.int .i64 3) ∧ w'.cell? ⟨bx, 2, none⟩ = some (.int .u32 7) ∧ w'.cell? ⟨bx, 3, none⟩ = some (.int .i64 2) ∧ w'.cell? ⟨bx, 4, none⟩ = some (.int .i64 2) ∧ w'.cell? ⟨bx, 5, none⟩ = some (.int .i64 3) ∧ w'.cell? ⟨bx, 6, none⟩ = some (.int .i64 5) ∧ w'.cell? ⟨bx, 7, none⟩ = some (.int .i64 0) ∧ w'.cell? ⟨bx, 8, none⟩ = some (.string ⟨#[]⟩) ∧ w'.cell? ⟨bx, 9, none⟩ = some (.string ⟨#[97, 98, 99]⟩) ∧ w'.cell? ⟨by_, 0, none⟩ = some (.int .i64 1) ∧ w'.cell? ⟨by_, 1, none⟩ = some (.int .i64 3) ∧ w'.cell? ⟨by_, 2, none⟩ = some (.int .u32 7) ∧ w'.cell? ⟨by_, 3, none⟩ = some (.int .i64 1) ∧ w'.cell? ⟨by_, 4, none⟩ = some (.int .i64 2) ∧ w'.cell? ⟨by_, 5, none⟩ = some (.int .i64 3) ∧ w'.cell? ⟨by_, 6, none⟩ = some (.int .i64 5) ∧ w'.cell? ⟨by_, 7, none⟩ = some (.int .i64 0) ∧ w'.cell? ⟨by_, 8, none⟩ = some (.string ⟨#[120]⟩) ∧ w'.cell? ⟨by_, 9, none⟩ = some (.string ⟨#[97, 98, 99]⟩))
        (first | go_keep | exact KP.out _ QQ.out)
        (first
        | ((with_reducible refine (one_any _).mono ?_); rintro e wq ⟨rfl, gq⟩; have QN := Lib.hid (QQ.out.trans (gq.mono QQ.out.size)); clear gq QQ; have QQ := QN; clear QN)
        | ((with_reducible refine (awake_x _).mono ?_); rintro e wq ⟨rfl, gq⟩; have QN := Lib.hid (QQ.out.trans (gq.mono QQ.out.size)); clear gq QQ; have QQ := QN; clear QN)
        | ((with_reducible refine (awake_y _).mono ?_); rintro e wq ⟨rfl, gq⟩; have QN := Lib.hid (QQ.out.trans (gq.mono QQ.out.size)); clear gq QQ; have QQ := QN; clear QN)
        | ((with_reducible refine (awake_z _).mono ?_); rintro e wq ⟨rfl, gq⟩; have QN := Lib.hid (QQ.out.trans (gq.mono QQ.out.size)); clear gq QQ; have QQ := QN; clear QN)
        | ((with_reducible refine (awake_s _).mono ?_); rintro e wq ⟨rfl, gq⟩; have QN := Lib.hid (QQ.out.trans (gq.mono QQ.out.size)); clear gq QQ; have QQ := QN; clear QN)
        | ((with_reducible refine (awake_sx _).mono ?_); rintro e wq ⟨rfl, gq⟩; have QN := Lib.hid (QQ.out.trans (gq.mono QQ.out.size)); clear gq QQ; have QQ := QN; clear QN))
      go_wp2_with fail
      go_ret
      exact ⟨rfl, B0.out.trans (QQ.out.mono B0.out.size)⟩
end Go.Proofs.Ytekolkbahhbcjaa

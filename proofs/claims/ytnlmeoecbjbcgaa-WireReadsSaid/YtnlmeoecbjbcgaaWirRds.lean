/- Proved: the walk of the law on whatever is taken of any bytes, one behind the other. Conditions: those that the theorems name. -/
import Derived.Test.YtnlmeoecbjbcgaaWirLaw
import Derived.Test.YtnlmeoecbjbcgaaInts
import Derived.WalkSpells
import Derived.Deep.RegionHeld3
import Derived.Deep.QuietTactic
import Derived.BigQuiet
import Derived.Deep.DeepCutAuto
import Derived.Deep.RegionWith
namespace Go.Proofs.Ytnlmeoecbjbcgaa
open Go.ChangeShapes Go.WideShapes Go.ChangeAt Go.RowKit

set_option maxRecDepth 100000 in
set_option maxHeartbeats 3200000 in
theorem wreads_main (s : ByteArray) (A : Option Addr) (m c : Nat) (l : List Int) (w : World) (hs : (s.size : Int) ≤ 2000) (hm : (m : Int) ≤ 60) (hl : Is w A m l) :
    Calls Try.prog 4 #[.string s, .slice A m c] w fun e w' => e = .returned (.bool true) ∧ Below w.heap.size w w' := by
  have HL := Lib.hid hl
  have HS := Lib.hid (show s.size ≤ 2000 by omega)
  clear hl
  go_enter Try.func4, Try.ntmps4
  go_wp2_with fail
  refine (new_gives s _).mono ?_; rintro e w1 ⟨b, rfl, hb, hr, g1⟩
  have HB := Lib.hid hb
  have R1 := Lib.hid hr
  have G1 := Lib.hid g1
  clear hb hr g1
  go_wp2_with fail
  have Q1 := Lib.hid (At.new w1 37 [.string s, .int .i64 0])
  have R2 : Hid (Rd (w1.alloc (.cells #[.string s, .int .i64 0] 37)) b s 0) := Lib.hid (R1.out.alloc _)
  have G2 := Lib.hid (G1.out.alloc G1.out.size (.cells #[.string s, .int .i64 0] 37))
  have HBg := Lib.hid R1.out.lt
  have HG := Lib.hid G1.out.size
  generalize w1.heap.size = g at *
  go_loopw [7] (fun i wr => ∃ k : Nat, k ≤ m ∧ i = .int .i64 k ∧ ∃ (t : ByteArray) (q : Int), t.size ≤ 2000 ∧ Rd wr b t q ∧ At wr g 37 [.string t, .int .i64 q] ∧ Below w.heap.size w wr) (fun i _ => m - (intOf i).toNat)
  case atStart => exact ⟨0, by omega, rfl, s, 0, HS.out, R2.out, Q1.out, G2.out⟩
  case round =>
    obtain ⟨k, hk, rfl, t, q, ht, hr, hq, hbel⟩ := hrel
    have HT := Lib.hid ht
    have R3 := Lib.hid hr
    have Q3 := Lib.hid hq
    have G3 := Lib.hid hbel
    clear ht hr hq hbel R1 R2 Q1 G2 G1 HS
    by_cases hlt : k < m
    · obtain ⟨ad, rfl, had, hc⟩ := HL.out.at_ hlt
      have hlt' : (k : Int) < (m : Int) := by omega
      have hk0 : (0 : Int) ≤ (k : Int) := Int.natCast_nonneg _
      have hcx : wr.cell? (ad.add k) = some (.int .i64 (l.getD k 0)) := (G3.out.cell (by rw [add_block]; exact had)).trans hc
      have HAd := Lib.hid had
      have HC := Lib.hid hc
      clear hc had
      generalize l.getD k 0 = x at *
      have hc0 := Q3.out.cell 0 rfl
      have hc1 := Q3.out.cell 1 rfl
      rcases Nat.mod_two_eq_zero_or_one k with hpar | hpar
      · have hp : ((k : Int) % 2 == 0) = true := by rw [show (k : Int) % 2 = 0 by omega]; rfl
        have HT' := Lib.hid (tkR_size t q x (sizedB x))
        have HN := Lib.hid (fun W => rnum_any t q x W (by have := HT.out; omega))
        have HM := Lib.hid (fun W h => num_any b t q x W h)
        generalize numS (tkT t q x (sizedB x)) = v at *
        generalize tkR t q x (sizedB x) = T at *
        generalize tkE t q x (sizedB x) = E at *
        have HP := Lib.hid hpar
        clear hpar
        have KP : Hid (∀ w6, Below wr.heap.size wr w6 → w6.cell? ⟨g, 0, none⟩ = some (.string t) ∧ w6.cell? ⟨g, 1, none⟩ = some (.int .i64 q) ∧ w6.cell? (ad.add k) = some (.int .i64 x)) := Lib.hid fun w6 h =>
          ⟨(h.cell (p := ⟨g, 0, none⟩) Q3.out.lt).trans hc0, (h.cell (p := ⟨g, 1, none⟩) Q3.out.lt).trans hc1, (h.cell (p := ad.add k) (by rw [add_block]; exact Nat.lt_of_lt_of_le HAd.out G3.out.size)).trans hcx⟩
        have BA : Hid (∀ w6, Below wr.drew.heap.size wr.drew w6 → Below wr.heap.size wr w6) := Lib.hid fun w6 h => (Below.refl wr.heap.size wr).drew.trans h
        have BB : Hid (∀ w6, Below (wr.alloc (.cells #[.string ⟨#[]⟩, .int .i64 0] 37)).drew.heap.size (wr.alloc (.cells #[.string ⟨#[]⟩, .int .i64 0] 37)).drew w6 → Below wr.heap.size wr w6) := Lib.hid fun w6 h => ((Below.refl wr.heap.size wr).alloc (Nat.le_refl _) _).drew.trans (h.mono (by simp))
        go_upto_region 10 with fail
        go_cut [8, 9] (fun u u' wx => ∃ p, u = .pointer (some ⟨p, 0, none⟩) ∧ u' = .int .u32 (v : Nat) ∧ At wx p 37 [.string T, .int .i64 E] ∧ wr.heap.size ≤ p ∧ Below wr.heap.size wr wx)
        case first =>
          go_region_held3 (fun w' => w'.cell? ⟨g, 0, none⟩ = some (.string t) ∧ w'.cell? ⟨g, 1, none⟩ = some (.int .i64 q) ∧ w'.cell? (ad.add k) = some (.int .i64 x))
            (first | go_keep | exact KP.out _ (BA.out _ (Below.refl _ _)) | exact KP.out _ (BA.out _ G4.out) | exact KP.out _ (BA.out _ (G4.out.alloc G4.out.size _)) | exact KP.out _ (BB.out _ (Below.refl _ _)) | exact KP.out _ (BB.out _ G4.out) | exact KP.out _ ((BB.out _ G4.out).setCell (Nat.le_refl _) _) | exact KP.out _ (((BB.out _ G4.out).setCell (Nat.le_refl _) _).setCell (Nat.le_refl _) _))
            ((go_at_call 13; refine (HN.out _).mono ?_; rintro e w2 ⟨rfl, g4⟩; have G4 := Lib.hid g4; (first | (have A4 := (show At ((wr.alloc (.cells #[.string ⟨#[]⟩, .int .i64 0] 37)).drew) wr.heap.size 37 [.string ⟨#[]⟩, .int .i64 0] from At.new wr _ _).below g4 (by simp); have z0 := A4.cell 0 rfl; have z1 := A4.cell 1 rfl; have y0 := A4.free 0; have y1 := A4.free 1; have H4 := Lib.hid A4; clear A4) | skip); clear g4))
          all_goals
            go_wp2_with fail
            go_meet
            first
              | exact ⟨w2.heap.size, rfl, rfl, At.new w2 _ [.string T, .int .i64 E], (BA.out _ G4.out).size, BA.out _ (G4.out.alloc G4.out.size _)⟩
              | exact ⟨wr.heap.size, rfl, rfl, (H4.out.set_ 0 _).set_ 1 _, Nat.le_refl _, ((BB.out _ G4.out).setCell (Nat.le_refl _) _).setCell (Nat.le_refl _) _⟩
        case rest =>
          obtain ⟨p, rfl, rfl, hpt, hpr, hbel2⟩ := hcut
          rename World => w5
          have hp0 := hpt.cell 0 rfl
          have hp1 := hpt.cell 1 rfl
          have hq5 := Q3.out.below hbel2 Q3.out.lt
          have hx0 := hq5.cell 0 rfl
          have hx1 := hq5.cell 1 rfl
          have hf0 := hq5.free 0
          have hf1 := hq5.free 1
          have R6 : Hid (Rd ((w5.setCell ⟨g, 0, none⟩ (.string T)).setCell ⟨g, 1, none⟩ (.int .i64 E)) b t q) := Lib.hid (((R3.out.below hbel2 R3.out.lt).far (p := ⟨g, 0, none⟩) (Nat.ne_of_lt HBg.out) _).far (p := ⟨g, 1, none⟩) (Nat.ne_of_lt HBg.out) _)
          have Q6 : Hid (At ((w5.setCell ⟨g, 0, none⟩ (.string T)).setCell ⟨g, 1, none⟩ (.int .i64 E)) g 37 [.string T, .int .i64 E]) := Lib.hid ((hq5.set_ 0 _).set_ 1 _)
          have G6 : Hid (Below w.heap.size w ((w5.setCell ⟨g, 0, none⟩ (.string T)).setCell ⟨g, 1, none⟩ (.int .i64 E))) := Lib.hid (((G3.out.trans (hbel2.mono G3.out.size)).setCell (p := ⟨g, 0, none⟩) HG.out _).setCell (p := ⟨g, 1, none⟩) HG.out _)
          have hc6 : ((w5.setCell ⟨g, 0, none⟩ (.string T)).setCell ⟨g, 1, none⟩ (.int .i64 E)).cell? (ad.add k) = some (.int .i64 x) := (G6.out.cell (by rw [add_block]; exact HAd.out)).trans HC.out
          clear hpt hpr hbel2 hq5 KP BA BB hc0 hc1 hcx
          go_wp2_with (first | (go_at_call 9; refine (HM.out _ R6.out).mono ?_; rintro e w7 ⟨rfl, r7, g7⟩; have R7 := Lib.hid r7; have Q7 := Lib.hid (Q6.out.kept g7 (fun e => Nat.ne_of_lt HBg.out (Option.some.inj e))); have G7 := Lib.hid (rd_below G6.out G6.out.size HB.out g7); clear r7 g7))
          have z0 := Q7.out.cell 0 rfl
          have z1 := Q7.out.cell 1 rfl
          clear R6 Q6 G6 hc6 hp0 hp1 hx0 hx1 hf0 hf1
          have R8 : Hid (∀ n, Rd (w7.drewN n) b T E) := Lib.hid fun _ => R7.out
          go_quiet (first
            | (go_at_call 10; exact (left_any b T E _ (R8.out _)).mono fun _ _ h => ⟨h.1, _, h.2.symm⟩)
            | (go_at_call 11; exact (err_any b T E _ (R8.out _)).mono fun _ _ h => ⟨h.1, _, h.2.symm⟩))
          go_wp2_with fail
          go_roundw
          case rel => exact ⟨k + 1, by omega, by go_num, T, E, Nat.le_trans HT'.out HT.out, R7.out, Q7.out, below_drawn_of G7.out _⟩
          case measure => simp [intOf]; omega
      · have hp : ((k : Int) % 2 == 0) = false := by rw [show (k : Int) % 2 = 1 by omega]; rfl
        have HT' := Lib.hid (tkR_size t q x (decide (0 ≤ x)))
        have HN := Lib.hid (fun W => rbytes_any t q x W)
        have HM := Lib.hid (fun W h => bytes_any b t q x W h (by have := HT.out; omega))
        generalize tkT t q x (decide (0 ≤ x)) = v at *
        generalize tkR t q x (decide (0 ≤ x)) = T at *
        generalize tkE t q x (decide (0 ≤ x)) = E at *
        have HP := Lib.hid hpar
        clear hpar
        have KP : Hid (∀ w6, Below wr.heap.size wr w6 → w6.cell? ⟨g, 0, none⟩ = some (.string t) ∧ w6.cell? ⟨g, 1, none⟩ = some (.int .i64 q) ∧ w6.cell? (ad.add k) = some (.int .i64 x)) := Lib.hid fun w6 h =>
          ⟨(h.cell (p := ⟨g, 0, none⟩) Q3.out.lt).trans hc0, (h.cell (p := ⟨g, 1, none⟩) Q3.out.lt).trans hc1, (h.cell (p := ad.add k) (by rw [add_block]; exact Nat.lt_of_lt_of_le HAd.out G3.out.size)).trans hcx⟩
        have BA : Hid (∀ w6, Below wr.drew.heap.size wr.drew w6 → Below wr.heap.size wr w6) := Lib.hid fun w6 h => (Below.refl wr.heap.size wr).drew.trans h
        have BB : Hid (∀ w6, Below (wr.alloc (.cells #[.string ⟨#[]⟩, .int .i64 0] 37)).drew.heap.size (wr.alloc (.cells #[.string ⟨#[]⟩, .int .i64 0] 37)).drew w6 → Below wr.heap.size wr w6) := Lib.hid fun w6 h => ((Below.refl wr.heap.size wr).alloc (Nat.le_refl _) _).drew.trans (h.mono (by simp))
        go_upto_region 14 with fail
        go_cut [10, 11] (fun u u' wx => ∃ p, u = .pointer (some ⟨p, 0, none⟩) ∧ u' = .string v ∧ At wx p 37 [.string T, .int .i64 E] ∧ wr.heap.size ≤ p ∧ Below wr.heap.size wr wx)
        case first =>
          go_region_held3 (fun w' => w'.cell? ⟨g, 0, none⟩ = some (.string t) ∧ w'.cell? ⟨g, 1, none⟩ = some (.int .i64 q) ∧ w'.cell? (ad.add k) = some (.int .i64 x))
            (first | go_keep | exact KP.out _ (BA.out _ (Below.refl _ _)) | exact KP.out _ (BA.out _ G4.out) | exact KP.out _ (BA.out _ (G4.out.alloc G4.out.size _)) | exact KP.out _ (BB.out _ (Below.refl _ _)) | exact KP.out _ (BB.out _ G4.out) | exact KP.out _ ((BB.out _ G4.out).setCell (Nat.le_refl _) _) | exact KP.out _ (((BB.out _ G4.out).setCell (Nat.le_refl _) _).setCell (Nat.le_refl _) _))
            ((go_at_call 14; refine (HN.out _).mono ?_; rintro e w2 ⟨rfl, g4⟩; have G4 := Lib.hid g4; (first | (have A4 := (show At ((wr.alloc (.cells #[.string ⟨#[]⟩, .int .i64 0] 37)).drew) wr.heap.size 37 [.string ⟨#[]⟩, .int .i64 0] from At.new wr _ _).below g4 (by simp); have z0 := A4.cell 0 rfl; have z1 := A4.cell 1 rfl; have y0 := A4.free 0; have y1 := A4.free 1; have H4 := Lib.hid A4; clear A4) | skip); clear g4))
          all_goals
            go_wp2_with fail
            go_meet
            first
              | exact ⟨w2.heap.size, rfl, rfl, At.new w2 _ [.string T, .int .i64 E], (BA.out _ G4.out).size, BA.out _ (G4.out.alloc G4.out.size _)⟩
              | exact ⟨wr.heap.size, rfl, rfl, (H4.out.set_ 0 _).set_ 1 _, Nat.le_refl _, ((BB.out _ G4.out).setCell (Nat.le_refl _) _).setCell (Nat.le_refl _) _⟩
        case rest =>
          obtain ⟨p, rfl, rfl, hpt, hpr, hbel2⟩ := hcut
          rename World => w5
          have hp0 := hpt.cell 0 rfl
          have hp1 := hpt.cell 1 rfl
          have hq5 := Q3.out.below hbel2 Q3.out.lt
          have hx0 := hq5.cell 0 rfl
          have hx1 := hq5.cell 1 rfl
          have hf0 := hq5.free 0
          have hf1 := hq5.free 1
          have R6 : Hid (Rd ((w5.setCell ⟨g, 0, none⟩ (.string T)).setCell ⟨g, 1, none⟩ (.int .i64 E)) b t q) := Lib.hid (((R3.out.below hbel2 R3.out.lt).far (p := ⟨g, 0, none⟩) (Nat.ne_of_lt HBg.out) _).far (p := ⟨g, 1, none⟩) (Nat.ne_of_lt HBg.out) _)
          have Q6 : Hid (At ((w5.setCell ⟨g, 0, none⟩ (.string T)).setCell ⟨g, 1, none⟩ (.int .i64 E)) g 37 [.string T, .int .i64 E]) := Lib.hid ((hq5.set_ 0 _).set_ 1 _)
          have G6 : Hid (Below w.heap.size w ((w5.setCell ⟨g, 0, none⟩ (.string T)).setCell ⟨g, 1, none⟩ (.int .i64 E))) := Lib.hid (((G3.out.trans (hbel2.mono G3.out.size)).setCell (p := ⟨g, 0, none⟩) HG.out _).setCell (p := ⟨g, 1, none⟩) HG.out _)
          have hc6 : ((w5.setCell ⟨g, 0, none⟩ (.string T)).setCell ⟨g, 1, none⟩ (.int .i64 E)).cell? (ad.add k) = some (.int .i64 x) := (G6.out.cell (by rw [add_block]; exact HAd.out)).trans HC.out
          clear hpt hpr hbel2 hq5 KP BA BB hc0 hc1 hcx
          go_wp2_with (first | (go_at_call 15; refine (HM.out _ R6.out).mono ?_; rintro e w7 ⟨rfl, r7, g7⟩; have R7 := Lib.hid r7; have Q7 := Lib.hid (Q6.out.kept g7 (fun e => Nat.ne_of_lt HBg.out (Option.some.inj e))); have G7 := Lib.hid (rd_below G6.out G6.out.size HB.out g7); clear r7 g7))
          have z0 := Q7.out.cell 0 rfl
          have z1 := Q7.out.cell 1 rfl
          clear R6 Q6 G6 hc6 hp0 hp1 hx0 hx1 hf0 hf1
          have R8 : Hid (∀ n, Rd (w7.drewN n) b T E) := Lib.hid fun _ => R7.out
          go_quiet (first
            | (go_at_call 10; exact (left_any b T E _ (R8.out _)).mono fun _ _ h => ⟨h.1, _, h.2.symm⟩)
            | (go_at_call 11; exact (err_any b T E _ (R8.out _)).mono fun _ _ h => ⟨h.1, _, h.2.symm⟩))
          go_wp2_with fail
          go_roundw
          case rel => exact ⟨k + 1, by omega, by go_num, T, E, Nat.le_trans HT'.out HT.out, R7.out, Q7.out, below_drawn_of G7.out _⟩
          case measure => simp [intOf]; omega
    · obtain rfl : k = m := by omega
      go_wp2_with fail
      refine (wawake9_any _).mono ?_; rintro e w2 ⟨rfl, g2⟩
      have G4 := Lib.hid (G3.out.trans (g2.mono G3.out.size))
      clear g2
      go_wp2_with fail
      go_ret
      exact ⟨rfl, G4.out⟩
set_option maxRecDepth 100000 in
set_option maxHeartbeats 1600000 in
theorem wreads_walk (s : ByteArray) (A : Option Addr) (m c : Nat) (l : List Int) (w : World) (hl : Is w A m l) :
    Calls Try.prog 4 #[.string s, .slice A m c] w fun e w' => e = .returned (.bool true) ∧ Below w.heap.size w w' := by
  by_cases h : (s.size : Int) ≤ 2000
  · by_cases h2 : (m : Int) ≤ 60
    · exact wreads_main s A m c l w h h2 hl
    · have h2' : (60 : Int) < (m : Int) := by omega
      clear hl
      go_enter Try.func4, Try.ntmps4
      go_wp2_with fail
      refine (wawake9_any _).mono ?_; rintro e w2 ⟨rfl, g2⟩
      have G4 := Lib.hid g2
      clear g2
      go_wp2_with fail
      go_ret
      exact ⟨rfl, G4.out⟩
  · have h' : (2000 : Int) < (s.size : Int) := by omega
    clear hl
    go_enter Try.func4, Try.ntmps4
    go_wp2_with fail
    refine (wawake9_any _).mono ?_; rintro e w2 ⟨rfl, g2⟩
    have G4 := Lib.hid g2
    clear g2
    go_wp2_with fail
    go_ret
    exact ⟨rfl, G4.out⟩
end Go.Proofs.Ytnlmeoecbjbcgaa

/- Proved: lemmas of one statement's proof, merged by program: what each part proves stands ahead of it. Conditions: those that the lemmas name. -/
import Derived.Test.YtgclgmfmcgacdaaM4
import Derived.Test.YtgclgmfmcgacdaaM7
import Derived.Deep.QuietTactic
import Derived.BigQuiet
import Derived.Deep.RegionHeld3
import Derived.Deep.DeepCutAuto
import Derived.WalkSpells
import Derived.IntWalk
import Derived.StillTailTactics

/- Proved: what Has of package bits, and its twin of the document, answer for every string and every int. Conditions: those that the theorems name. -/
namespace Go.Proofs.Ytgclgmfmcgacdaa
open Go.ChangeShapes Go.WideShapes Go.ChangeAt Go.RowKit

theorem ret_bool {a b : Bool} (h : a = b) : Ending.returned (.bool a) = .returned (.bool b) := by rw [h]
set_option maxHeartbeats 400000 in
theorem sized11_any (s : ByteArray) (w : World) :
    Calls Try.prog 55 #[.string s] w fun e w' => e = .returned (.bool (decide (s.size = 32))) ∧ w = w' := by
  by_cases h : s.size = 32
  · rw [decide_eq_true h]
    have h1 : ((s.size : Int) == 32) = true := by simp; omega
    clear h
    go_enter Try.func55, Try.ntmps55
    go_wp2_with fail
    go_ret
    exact ⟨rfl, rfl⟩
  · rw [decide_eq_false h]
    have h1 : ((s.size : Int) == 32) = false := by simp; omega
    clear h
    go_enter Try.func55, Try.ntmps55
    go_wp2_with fail
    go_ret
    exact ⟨rfl, rfl⟩
set_option maxHeartbeats 400000 in
theorem placed_any (i : Int) (w : World) :
    Calls Try.prog 56 #[.int .i64 i] w fun e w' => e = .returned (.bool (inB i)) ∧ w = w' := by
  unfold inB
  by_cases h : 0 ≤ i
  · rw [decide_eq_true h, Bool.true_and]
    go_enter Try.func56, Try.ntmps56
    go_wp2_with fail
    go_ret
    exact ⟨rfl, rfl⟩
  · rw [decide_eq_false h, Bool.false_and]
    go_enter Try.func56, Try.ntmps56
    go_wp2_with fail
    go_ret
    exact ⟨rfl, rfl⟩
theorem pow_mod {r : Nat} (h : r < 8) : (2 : Int) ^ r % 256 = ((2 ^ r : Nat) : Int) := by
  have h2 := pow_byte h
  push_cast
  have : ((2 ^ r : Nat) : Int) < 256 := by omega
  push_cast at this
  have h0 : (0 : Int) ≤ 2 ^ r := by
    have := Int.natCast_nonneg (2 ^ r)
    push_cast at this
    exact this
  omega
set_option maxHeartbeats 400000 in
theorem bit_any (n r : Nat) (hn : n < 256) (hr : n % 8 = r) (w : World) :
    Calls Try.prog 57 #[.int .i64 n] w fun e w' => e = .returned (.int .u8 (2 ^ r : Nat)) ∧ w = w' := by
  have HR := Lib.hid (pow_mod (r := r) (by omega))
  have e2 : (n : Int) % 8 = (r : Int) := by omega
  have h0 : (0 : Int) ≤ (n : Int) := Int.natCast_nonneg _
  have h1 : (n : Int) ≤ 255 := by omega
  have hr0 : (0 : Int) ≤ (r : Int) := Int.natCast_nonneg _
  have hr1 : (r : Int) < 8 := by omega
  clear hn hr
  go_enter Try.func57, Try.ntmps57
  go_wp2_with fail
  go_ret
  exact ⟨ret_int HR.out, rfl⟩

set_option maxRecDepth 100000 in
set_option maxHeartbeats 800000 in
theorem has_size (s : ByteArray) (i : Int) (w : World) (h : s.size ≠ 32) :
    Calls Try.prog 41 #[.string s, .int .i64 i] w fun e w' => e = .returned (.bool false) ∧ ∃ q, w' = w.drewN q := by
  have HS := Lib.hid (fun w => sized11_any s w)
  rw [decide_eq_false h] at HS
  clear h
  go_enter Try.func41, Try.ntmps41
  go_wp2_with fail
  go_quiet ((go_at_call 55; exact Calls.quiet_of_same ((HS.out _).mono fun _ _ h => ⟨h.1, h.2.symm⟩)))
  go_wp2_with fail
  go_ret
  exact ⟨rfl, _, rfl⟩
set_option maxRecDepth 100000 in
set_option maxHeartbeats 800000 in
theorem has_out (s : ByteArray) (i : Int) (w : World) (h : s.size = 32) (hi : inB i = false) :
    Calls Try.prog 41 #[.string s, .int .i64 i] w fun e w' => e = .returned (.bool false) ∧ ∃ q, w' = w.drewN q := by
  have HS := Lib.hid (fun w => sized11_any s w)
  rw [decide_eq_true h] at HS
  have HP := Lib.hid (fun w => placed_any i w)
  rw [hi] at HP
  clear h hi
  go_enter Try.func41, Try.ntmps41
  go_wp2_with fail
  go_quiet ((first | (go_at_call 55; exact Calls.quiet_of_same ((HS.out _).mono fun _ _ h => ⟨h.1, h.2.symm⟩)) | (go_at_call 56; exact Calls.quiet_of_same ((HP.out _).mono fun _ _ h => ⟨h.1, h.2.symm⟩))))
  go_wp2_with fail
  go_ret
  exact ⟨rfl, _, rfl⟩
theorem and_bit {x r : Nat} (hx : x < 256) (hr : r < 8) : bits BinOp.and IntKind.u8 (x : Int) ((2 ^ r : Nat) : Int) = ((x &&& 2 ^ r : Nat) : Int) := u8_and_nat _ _ hx (pow_byte hr)
theorem and_bit_val (x r : Nat) : x &&& 2 ^ r = if x.testBit r = true then 2 ^ r else 0 := by
  refine Nat.eq_of_testBit_eq fun i => ?_
  rw [Nat.testBit_and, Nat.testBit_two_pow]
  by_cases e : r = i
  · subst e
    cases h : x.testBit r <;> simp
  · rw [decide_eq_false e, Bool.and_false]
    split
    · rw [Nat.testBit_two_pow, decide_eq_false e]
    · rw [Nat.zero_testBit]
theorem and_bit_ne (x r : Nat) : (((x &&& 2 ^ r : Nat) : Int) != 0) = x.testBit r := by
  rw [and_bit_val]
  have h0 : 0 < 2 ^ r := Nat.pow_pos (by decide)
  generalize (2 : Nat) ^ r = p at *
  cases h : x.testBit r with
  | false => rfl
  | true =>
    simp
    omega
set_option maxRecDepth 100000 in
set_option maxHeartbeats 800000 in
theorem has_good (s : ByteArray) (n : Nat) (w : World) (h : s.size = 32) (hn : n < 256) :
    Calls Try.prog 41 #[.string s, .int .i64 n] w fun e w' => e = .returned (.bool (bitN (bts s) n)) ∧ ∃ q, w' = w.drewN q := by
  have HS := Lib.hid (fun w => sized11_any s w)
  rw [decide_eq_true h] at HS
  have HP := Lib.hid (fun w => placed_any n w)
  rw [inB_of (by omega) (by omega)] at HP
  have HB := Lib.hid (fun w => bit_any n (n % 8) hn rfl w)
  have hx := at_index s (n / 8) (by omega)
  have hlt := bts_lt s (n / 8)
  have ha := and_bit hlt (show n % 8 < 8 by omega)
  have HN := Lib.hid (and_bit_ne ((bts s).getD (n / 8) 0) (n % 8))
  unfold bitN
  have e1 : (n : Int) / 8 = ((n / 8 : Nat) : Int) := by omega
  have h0 : (0 : Int) ≤ (n : Int) := Int.natCast_nonneg _
  have h1 : (n : Int) ≤ 255 := by omega
  generalize hy : (bts s).getD (n / 8) 0 &&& 2 ^ (n % 8) = y at *
  generalize (2 ^ (n % 8) : Nat) = p at *
  generalize (bts s).getD (n / 8) 0 = x at *
  generalize n / 8 = j at *
  generalize x.testBit (n % 8) = b at *
  clear h hn hlt hy
  go_enter Try.func41, Try.ntmps41
  go_wp2_with fail
  go_quiet ((first | (go_at_call 55; exact Calls.quiet_of_same ((HS.out _).mono fun _ _ h => ⟨h.1, h.2.symm⟩)) | (go_at_call 56; exact Calls.quiet_of_same ((HP.out _).mono fun _ _ h => ⟨h.1, h.2.symm⟩)) | (go_at_call 57; exact Calls.quiet_of_same ((HB.out _).mono fun _ _ h => ⟨h.1, h.2.symm⟩))))
  go_wp2_with fail
  go_ret
  exact ⟨ret_bool HN.out, _, rfl⟩
theorem has_any (s : ByteArray) (i : Int) (w : World) :
    Calls Try.prog 41 #[.string s, .int .i64 i] w fun e w' => e = .returned (.bool (hasB s i)) ∧ ∃ q, w' = w.drewN q := by
  by_cases h : s.size = 32
  · cases hi : inB i with
    | false => rw [hasB_in hi]; exact has_out s i w h hi
    | true =>
      obtain ⟨h0, h1⟩ := inB_yes hi
      obtain ⟨n, rfl⟩ := Int.eq_ofNat_of_zero_le h0
      rw [hasB_at h (by omega)]
      exact has_good s n w h (by omega)
  · rw [hasB_size h]; exact has_size s i w h
/-! ### the document's -/
theorem shr_bit (x r : Nat) : ((x : Int) / 2 ^ r % 2 == 1) = x.testBit r := by
  rw [Nat.testBit_eq_decide_div_mod_eq]
  have : (x : Int) / 2 ^ r % 2 = ((x / 2 ^ r % 2 : Nat) : Int) := by push_cast; rfl
  rw [this]
  generalize x / 2 ^ r % 2 = z
  by_cases h : z = 1
  · subst h; rfl
  · rw [decide_eq_false h]
    simp
    omega
end Go.Proofs.Ytgclgmfmcgacdaa

/- Proved: what ready, place and part of package table answer. Conditions: those that the theorems name. -/
namespace Go.Proofs.Ytgclgmfmcgacdaa
open Go.ChangeShapes Go.WideShapes Go.ChangeAt Go.RowKit

set_option maxRecDepth 100000 in
theorem nd_ready {w : World} {p need : Nat} {k : Ky} {s : ByteArray} {v : Value} {a b : Option Nat} {A : Option Addr} {n c : Nat} (h : Nd w p k need s v a b) (hv : v = .slice A n c) :
    Calls Try.prog 39 #[ptv p] w fun e w' => e = .returned (.bool (decide (n = need))) ∧ ∃ q, w' = w.drewN q := by
  subst hv
  have k2 := At.cell h 2 rfl
  have k4 := At.cell h 4 rfl
  clear h
  by_cases hn : n = need
  · rw [decide_eq_true hn]
    have hn' : ((n : Int) == (need : Int)) = true := by simp [hn]
    clear hn
    generalize (need : Int) = d at *
    generalize hm : (n : Int) = m at *
    go_enter Try.func39, Try.ntmps39
    go_wp2_with fail
    go_quiet (fail)
    go_wp2_with fail
    go_ret
    exact ⟨rfl, _, rfl⟩
  · rw [decide_eq_false hn]
    have hn' : ((n : Int) == (need : Int)) = false := by simp; omega
    clear hn
    generalize (need : Int) = d at *
    generalize hm : (n : Int) = m at *
    go_enter Try.func39, Try.ntmps39
    go_wp2_with fail
    go_quiet (fail)
    go_wp2_with fail
    go_ret
    exact ⟨rfl, _, rfl⟩
set_option maxRecDepth 100000 in
set_option maxHeartbeats 800000 in
theorem nd_place {w : World} {p need : Nat} {k : Ky} {s : ByteArray} {v : Value} {a b : Option Nat} {l : List Shd} (h : Nd w p k need s v a b) (hs : Idx s l) (ho : ShOk l) (i : Nat) (hi : i ≤ 255) :
    Calls Try.prog 40 #[ptv p, .int .i64 i] w fun e w' => e = .returned (.int .i64 (plS l (i : Int) : Nat)) ∧ Tn Nil w w' := by
  have HN := Lib.hid h
  have HS := Lib.hid hs
  have HO := Lib.hid ho
  have hl : plS l 0 = 0 := plS_low ho
  have HL := Lib.hid hl
  clear h hs ho hl
  have hi0 : (0 : Int) ≤ (i : Int) := Int.natCast_nonneg _
  have hi1 : (i : Int) ≤ 255 := by omega
  go_enter Try.func40, Try.ntmps40
  go_wp2_with fail
  go_loopw [5, 8] (fun u j wr => ∃ m : Nat, m ≤ i ∧ j = .int .i64 m ∧ u = .int .i64 (plS l (m : Int) : Nat) ∧ Tn Nil w wr) (fun _ j _ => 256 - (intOf j).toNat)
  case atStart => exact ⟨0, by omega, rfl, by rw [show ((0 : Nat) : Int) = 0 from rfl, HL.out]; rfl, Tn.refl _ _⟩
  case round =>
    obtain ⟨m, hm, rfl, rfl, ht⟩ := hrel
    have HT := Lib.hid ht
    have HNr := Lib.hid (HN.out.tn ht (fun e => e))
    clear ht
    by_cases hlt : m < i
    · have hlt' : (m : Int) < (i : Int) := by omega
      have hm0 : (0 : Int) ≤ (m : Int) := Int.natCast_nonneg _
      have hm1 : (m : Int) < 255 := by omega
      have HX := Lib.hid (plS_next HO.out (m : Int))
      have hle : (plS l (m : Int) : Int) ≤ 256 := by
        have h0 : plS l (m : Int) ≤ m := by
          clear HX hlt hlt' hm0 hm1 hm
          induction m with
          | zero => rw [show ((0 : Nat) : Int) = 0 from rfl, HL.out]; omega
          | succ m ih =>
            have := plS_next HO.out (m : Int)
            rw [show ((m + 1 : Nat) : Int) = (m : Int) + 1 by omega, this]
            split <;> omega
        omega
      have hge : (0 : Int) ≤ (plS l (m : Int) : Int) := Int.natCast_nonneg _
      have HH := Lib.hid (fun w => has_any s m w)
      have HV := Lib.hid (HS.out.has m (by omega))
      have k3 := At.cell HNr.out 3 rfl
      clear hm
      cases hv : anyS l (m : Int) with
      | false =>
        have HE : Hid (plS l ((m : Int) + 1) = plS l (m : Int)) := Lib.hid (by rw [HX.out, if_neg (by simp [hv])]; rfl)
        rw [HV.out, hv] at HH
        clear hv HX HV
        generalize plS l (m : Int) = q at *
        go_wp2_with fail
        refine (HH.out _).mono ?_; rintro e w2 ⟨rfl, g2⟩
        have HT2 := Lib.hid (HT.out.trans (tn_below Nil (two_drawn (B := wr.heap.size) g2)))
        clear g2 k3
        go_wp2_with fail
        go_roundw
        case rel => exact ⟨m + 1, by omega, by go_num, by rw [show ((m + 1 : Nat) : Int) = (m : Int) + 1 by omega, HE.out], HT2.out⟩
        case measure => simp [intOf]; omega
      | true =>
        have HE : Hid (plS l ((m : Int) + 1) = plS l (m : Int) + 1) := Lib.hid (by rw [HX.out, if_pos hv])
        rw [HV.out, hv] at HH
        clear hv HX HV
        generalize plS l (m : Int) = q at *
        go_wp2_with fail
        refine (HH.out _).mono ?_; rintro e w2 ⟨rfl, g2⟩
        have HT2 := Lib.hid (HT.out.trans (tn_below Nil (two_drawn (B := wr.heap.size) g2)))
        clear g2 k3
        go_wp2_with fail
        go_roundw
        case rel => exact ⟨m + 1, by omega, by go_num, by rw [show ((m + 1 : Nat) : Int) = (m : Int) + 1 by omega, HE.out]; go_num, HT2.out⟩
        case measure => simp [intOf]; omega
    · obtain rfl : m = i := by omega
      go_wp2_with fail
      go_ret
      exact ⟨rfl, HT.out⟩
end Go.Proofs.Ytgclgmfmcgacdaa

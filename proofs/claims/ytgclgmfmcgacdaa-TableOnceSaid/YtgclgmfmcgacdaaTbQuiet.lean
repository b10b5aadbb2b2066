/- Proved: what ready, place and part of package table answer. Conditions: those that the theorems name. -/
import Derived.Test.YtgclgmfmcgacdaaTbRep
import Derived.Test.YtgclgmfmcgacdaaBitHas
import Derived.Deep.RegionHeld3
import Derived.Deep.QuietTactic
import Derived.Deep.DeepCutAuto
import Derived.BigQuiet
import Derived.WalkSpells
import Derived.IntWalk
import Derived.StillTailTactics
namespace Go.Proofs.Ytgclgmfmcgacdaa
open Go.ChangeShapes Go.WideShapes Go.ChangeAt Go.RowKit

set_option maxRecDepth 100000 in
theorem nd_ready {w : World} {p need : Nat} {k : Ky} {s : ByteArray} {v : Value} {a b : Option Nat} {A : Option Addr} {n c : Nat} (h : Nd w p k need s v a b) (hv : v = .slice A n c) :
    Calls Try.prog 39 #[ptv p] w fun e w' => e = .returned (.bool (decide (n = need))) ∧ ∃ q, w' = w.drewN q := by
  subst hv
  have k2 := At.cell h 2 rfl
  have k4 := At.cell h 4 rfl
  clear h
  by_cases hn : n = need
  · rw [decide_eq_true hn]
    have hn' : ((n : Int) == (need : Int)) = true := by simp [hn]
    clear hn
    generalize (need : Int) = d at *
    generalize hm : (n : Int) = m at *
    go_enter Try.func39, Try.ntmps39
    go_wp2_with fail
    go_quiet (fail)
    go_wp2_with fail
    go_ret
    exact ⟨rfl, _, rfl⟩
  · rw [decide_eq_false hn]
    have hn' : ((n : Int) == (need : Int)) = false := by simp; omega
    clear hn
    generalize (need : Int) = d at *
    generalize hm : (n : Int) = m at *
    go_enter Try.func39, Try.ntmps39
    go_wp2_with fail
    go_quiet (fail)
    go_wp2_with fail
    go_ret
    exact ⟨rfl, _, rfl⟩
set_option maxRecDepth 100000 in
set_option maxHeartbeats 800000 in
theorem nd_place {w : World} {p need : Nat} {k : Ky} {s : ByteArray} {v : Value} {a b : Option Nat} {l : List Shd} (h : Nd w p k need s v a b) (hs : Idx s l) (ho : ShOk l) (i : Nat) (hi : i ≤ 255) :
    Calls Try.prog 40 #[ptv p, .int .i64 i] w fun e w' => e = .returned (.int .i64 (plS l (i : Int) : Nat)) ∧ Tn Nil w w' := by
  have HN := Lib.hid h
  have HS := Lib.hid hs
  have HO := Lib.hid ho
  have hl : plS l 0 = 0 := plS_low ho
  have HL := Lib.hid hl
  clear h hs ho hl
  have hi0 : (0 : Int) ≤ (i : Int) := Int.natCast_nonneg _
  have hi1 : (i : Int) ≤ 255 := by omega
  go_enter Try.func40, Try.ntmps40
  go_wp2_with fail
  go_loopw [5, 8] (fun u j wr => ∃ m : Nat, m ≤ i ∧ j = .int .i64 m ∧ u = .int .i64 (plS l (m : Int) : Nat) ∧ Tn Nil w wr) (fun _ j _ => 256 - (intOf j).toNat)
  case atStart => exact ⟨0, by omega, rfl, by rw [show ((0 : Nat) : Int) = 0 from rfl, HL.out]; rfl, Tn.refl _ _⟩
  case round =>
    obtain ⟨m, hm, rfl, rfl, ht⟩ := hrel
    have HT := Lib.hid ht
    have HNr := Lib.hid (HN.out.tn ht (fun e => e))
    clear ht
    by_cases hlt : m < i
    · have hlt' : (m : Int) < (i : Int) := by omega
      have hm0 : (0 : Int) ≤ (m : Int) := Int.natCast_nonneg _
      have hm1 : (m : Int) < 255 := by omega
      have HX := Lib.hid (plS_next HO.out (m : Int))
      have hle : (plS l (m : Int) : Int) ≤ 256 := by
        have h0 : plS l (m : Int) ≤ m := by
          clear HX hlt hlt' hm0 hm1 hm
          induction m with
          | zero => rw [show ((0 : Nat) : Int) = 0 from rfl, HL.out]; omega
          | succ m ih =>
            have := plS_next HO.out (m : Int)
            rw [show ((m + 1 : Nat) : Int) = (m : Int) + 1 by omega, this]
            split <;> omega
        omega
      have hge : (0 : Int) ≤ (plS l (m : Int) : Int) := Int.natCast_nonneg _
      have HH := Lib.hid (fun w => has_any s m w)
      have HV := Lib.hid (HS.out.has m (by omega))
      have k3 := At.cell HNr.out 3 rfl
      clear hm
      cases hv : anyS l (m : Int) with
      | false =>
        have HE : Hid (plS l ((m : Int) + 1) = plS l (m : Int)) := Lib.hid (by rw [HX.out, if_neg (by simp [hv])]; rfl)
        rw [HV.out, hv] at HH
        clear hv HX HV
        generalize plS l (m : Int) = q at *
        go_wp2_with fail
        refine (HH.out _).mono ?_; rintro e w2 ⟨rfl, g2⟩
        have HT2 := Lib.hid (HT.out.trans (tn_below Nil (two_drawn (B := wr.heap.size) g2)))
        clear g2 k3
        go_wp2_with fail
        go_roundw
        case rel => exact ⟨m + 1, by omega, by go_num, by rw [show ((m + 1 : Nat) : Int) = (m : Int) + 1 by omega, HE.out], HT2.out⟩
        case measure => simp [intOf]; omega
      | true =>
        have HE : Hid (plS l ((m : Int) + 1) = plS l (m : Int) + 1) := Lib.hid (by rw [HX.out, if_pos hv])
        rw [HV.out, hv] at HH
        clear hv HX HV
        generalize plS l (m : Int) = q at *
        go_wp2_with fail
        refine (HH.out _).mono ?_; rintro e w2 ⟨rfl, g2⟩
        have HT2 := Lib.hid (HT.out.trans (tn_below Nil (two_drawn (B := wr.heap.size) g2)))
        clear g2 k3
        go_wp2_with fail
        go_roundw
        case rel => exact ⟨m + 1, by omega, by go_num, by rw [show ((m + 1 : Nat) : Int) = (m : Int) + 1 by omega, HE.out]; go_num, HT2.out⟩
        case measure => simp [intOf]; omega
    · obtain rfl : m = i := by omega
      go_wp2_with fail
      go_ret
      exact ⟨rfl, HT.out⟩
end Go.Proofs.Ytgclgmfmcgacdaa

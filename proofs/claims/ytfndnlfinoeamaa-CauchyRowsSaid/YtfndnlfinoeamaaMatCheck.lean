/- Proved: what fits and Check of package matrix and the document's Check answer for every table. Conditions: those that the theorems name. -/
import Derived.Test.YtfndnlfinoeamaaMatMem
import Derived.Test.YtfndnlfinoeamaaVecSame
namespace Go.Proofs.Ytfndnlfinoeamaa
open Go.ChangeShapes Go.WideShapes Go.ChangeAt Go.RowKit

/-- may a table have n rows, or a row n bytes? -/
def Fit (n : Nat) : Prop := 1 ≤ n ∧ n ≤ 255
instance (n : Nat) : Decidable (Fit n) := by unfold Fit; infer_instance
def Even (t : List (List Nat)) : Prop := ∀ r, r < t.length → (rw_ t r).length = (rw_ t 0).length
instance (t : List (List Nat)) : Decidable (Even t) := by unfold Even; infer_instance
/-- Check's answer. -/
def chk (t : List (List Nat)) : Nat := if Fit t.length ∧ Fit (rw_ t 0).length then (if Even t then 0 else 16) else 1
theorem chk_arg {t : List (List Nat)} (h : ¬ (Fit t.length ∧ Fit (rw_ t 0).length)) : chk t = 1 := if_neg h
theorem chk_unlike {t : List (List Nat)} (h : Fit t.length ∧ Fit (rw_ t 0).length) (g : ¬ Even t) : chk t = 16 := by unfold chk; rw [if_pos h, if_neg g]
theorem chk_ok {t : List (List Nat)} (h : Fit t.length ∧ Fit (rw_ t 0).length) (g : Even t) : chk t = 0 := by unfold chk; rw [if_pos h, if_pos g]
theorem chk_zero {t : List (List Nat)} (h : chk t = 0) : Fit t.length ∧ Fit (rw_ t 0).length ∧ Even t := by
  unfold chk at h
  split at h
  · rename_i a
    split at h
    · rename_i b; exact ⟨a.1, a.2, b⟩
    · exact absurd h (by decide)
  · exact absurd h (by decide)
theorem chk_lt (t : List (List Nat)) : chk t = 0 ∨ chk t = 1 ∨ chk t = 16 := by
  unfold chk; split <;> (try split) <;> simp

set_option maxHeartbeats 400000 in
theorem fits_yes (n : Int) (h1 : 1 ≤ n) (h2 : n ≤ 255) (w : World) :
    Calls Try.prog 31 #[.int .i64 n] w fun e w' => e = .returned (.bool true) ∧ w = w' := by
  go_enter Try.func31, Try.ntmps31
  go_wp2_with fail
  go_ret
  exact ⟨rfl, rfl⟩
set_option maxHeartbeats 400000 in
theorem fits_no (n : Int) (h : ¬ (1 ≤ n ∧ n ≤ 255)) (w : World) :
    Calls Try.prog 31 #[.int .i64 n] w fun e w' => e = .returned (.bool false) ∧ w = w' := by
  by_cases h1 : 1 ≤ n
  · have h2 : ¬ n ≤ 255 := fun q => h ⟨h1, q⟩
    clear h
    go_enter Try.func31, Try.ntmps31
    go_wp2_with fail
    go_ret
    exact ⟨rfl, rfl⟩
  · clear h
    go_enter Try.func31, Try.ntmps31
    go_wp2_with fail
    go_ret
    exact ⟨rfl, rfl⟩

set_option maxHeartbeats 400000 in
theorem check_arg (A : Option Addr) (n c : Nat) (t : List (List Nat)) (w : World) (ht : Rows w A n t) (h : ¬ (Fit t.length ∧ Fit (rw_ t 0).length)) :
    Calls Try.prog 24 #[.slice A n c] w fun e w' => e = .returned (.int .i64 1) ∧ w = w' := by
  have HT := Lib.hid ht
  have HN := Lib.hid ht.len
  have HH := Lib.hid h
  clear ht h
  by_cases h1 : (1 : Int) ≤ (n : Int) ∧ (n : Int) ≤ 255
  · obtain ⟨ad, B, d, rfl, _, hc, _⟩ := HT.out.at_ (k := 0) (by omega)
    have e0 : ad.add 0 = ad := Addr.add_zero' ad
    rw [e0] at hc
    have h2 : ¬ ((1 : Int) ≤ ((rw_ t 0).length : Int) ∧ ((rw_ t 0).length : Int) ≤ 255) := by
      have := HH.out
      rw [HN.out] at this
      unfold Fit at this
      omega
    generalize (rw_ t 0).length = m at *
    have H1 := Lib.hid h1
    have H2 := Lib.hid h2
    clear h1 h2
    have hn : 0 < n := by have := H1.out; omega
    go_enter Try.func24, Try.ntmps24
    go_wp2_with fail
    refine (fits_yes n H1.out.1 H1.out.2 _).mono ?_; rintro e w' ⟨rfl, rfl⟩
    go_wp2_with fail
    refine (fits_no m H2.out _).mono ?_; rintro e w' ⟨rfl, rfl⟩
    go_wp2_with fail
    go_ret
    exact ⟨rfl, rfl⟩
  · have H1 := Lib.hid h1
    clear h1
    go_enter Try.func24, Try.ntmps24
    go_wp2_with fail
    refine (fits_no n H1.out _).mono ?_; rintro e w' ⟨rfl, rfl⟩
    go_wp2_with fail
    go_ret
    exact ⟨rfl, rfl⟩

set_option maxHeartbeats 800000 in
theorem check_fit (A : Option Addr) (n c : Nat) (t : List (List Nat)) (w : World) (ht : Rows w A n t) (h : Fit t.length ∧ Fit (rw_ t 0).length) :
    Calls Try.prog 24 #[.slice A n c] w fun e w' => e = .returned (.int .i64 (chk t : Nat)) ∧ w = w' := by
  have HF : Hid (Fit t.length ∧ Fit (rw_ t 0).length) := Lib.hid h
  have HT := Lib.hid ht
  have HN := Lib.hid ht.len
  obtain ⟨⟨h1, h2⟩, h3, h4⟩ := h
  rw [ht.len] at h1 h2
  clear ht
  obtain ⟨ad, B, d, rfl, _, hc, _⟩ := HT.out.at_ (k := 0) (by omega)
  have e0 : ad.add 0 = ad := Addr.add_zero' ad
  rw [e0] at hc
  have EV : Hid (Even t ↔ ∀ r, r < n → (rw_ t r).length = (rw_ t 0).length) := Lib.hid (by unfold Even; rw [HN.out])
  generalize hm : (rw_ t 0).length = m at h3 h4 hc EV
  have HM := Lib.hid hm
  clear hm
  have H1 : Hid ((1 : Int) ≤ (n : Int) ∧ (n : Int) ≤ 255) := Lib.hid ⟨by omega, by omega⟩
  have H2 : Hid ((1 : Int) ≤ (m : Int) ∧ (m : Int) ≤ 255) := Lib.hid ⟨by omega, by omega⟩
  have hn : 0 < n := by omega
  go_enter Try.func24, Try.ntmps24
  go_wp2_with fail
  refine (fits_yes n H1.out.1 H1.out.2 _).mono ?_; rintro e w' ⟨rfl, rfl⟩
  go_wp2_with fail
  refine (fits_yes m H2.out.1 H2.out.2 _).mono ?_; rintro e w' ⟨rfl, rfl⟩
  go_wp2_with fail
  go_loop [19] (fun i => ∃ k : Nat, k ≤ n ∧ i = .int .i64 k ∧ ∀ r, r < k → (rw_ t r).length = m) (fun i => n - (intOf i).toNat)
  case atStart => exact ⟨0, by omega, rfl, fun _ h => absurd h (by omega)⟩
  case round =>
    obtain ⟨k, hk, rfl, hev⟩ := hrel
    have HV := Lib.hid hev
    clear hev
    by_cases hlt : k < n
    · obtain ⟨ad', B', d', e', _, hc', _⟩ := HT.out.at_ hlt
      injection e' with e'
      subst e'
      by_cases hl : (rw_ t k).length = m
      · rw [hl] at hc'
        have HL := Lib.hid hl
        clear hl
        go_wp2_with fail
        go_round
        case rel => exact ⟨k + 1, by omega, by go_num, fun r hr => by
          by_cases e : r = k
          · rw [e]; exact HL.out
          · exact HV.out r (by omega)⟩
        case measure => simp [intOf]; omega
      · have hne : (((rw_ t k).length : Int) != (m : Int)) = true := by simp; omega
        have hnf : chk t = 16 := chk_unlike HF.out (fun q => hl (EV.out.1 q k hlt))
        have HF := Lib.hid hnf
        clear hnf hl
        generalize (rw_ t k).length = q at *
        go_wp2_with fail
        go_ret
        exact ⟨by rw [HF.out]; rfl, rfl⟩
    · obtain rfl : k = n := by omega
      have hyes : chk t = 0 := chk_ok HF.out (EV.out.2 HV.out)
      have HF := Lib.hid hyes
      clear hyes
      go_wp2_with fail
      go_ret
      exact ⟨by rw [HF.out]; rfl, rfl⟩

theorem check_any (A : Option Addr) (n c : Nat) (t : List (List Nat)) (w : World) (ht : Rows w A n t) :
    Calls Try.prog 24 #[.slice A n c] w fun e w' => e = .returned (.int .i64 (chk t : Nat)) ∧ w = w' := by
  by_cases h : Fit t.length ∧ Fit (rw_ t 0).length
  · exact check_fit A n c t w ht h
  · rw [chk_arg h]; exact check_arg A n c t w ht h
end Go.Proofs.Ytfndnlfinoeamaa

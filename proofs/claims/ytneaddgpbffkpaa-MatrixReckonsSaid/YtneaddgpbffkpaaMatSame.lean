/- Proved: what the document's Check, its Same and the law's few answer for every table. Conditions: those that the theorems name. -/
import Derived.Test.YtneaddgpbffkpaaMatCheck
namespace Go.Proofs.Ytneaddgpbffkpaa
open Go.ChangeShapes Go.WideShapes Go.ChangeAt Go.RowKit

theorem Bs.drewN {w : World} {A : Option Addr} {n : Nat} {l : List Nat} (h : Bs w A n l) (q : Nat) : Bs (w.drewN q) A n l := h.below (below_drawn ⟨q, rfl⟩)
theorem Rows.drewN {w : World} {A : Option Addr} {n : Nat} {t : List (List Nat)} (h : Rows w A n t) (q : Nat) : Rows (w.drewN q) A n t := h.below (below_drawn ⟨q, rfl⟩)

set_option maxRecDepth 100000 in
set_option maxHeartbeats 800000 in
theorem rsame_any (A B : Option Addr) (n c d : Nat) (t : List (List Nat)) (w : World) (ha : Rows w A n t) (hb : Rows w B n t) (hm : n ≤ 140737488355328) (hl : ∀ r, (rw_ t r).length ≤ 140737488355328) :
    Calls Try.prog 17 #[.slice A n c, .slice B n d] w fun e w' => e = .returned (.bool true) ∧ ∃ m, w' = w.drewN m := by
  have HA := Lib.hid ha
  have HB := Lib.hid hb
  have HL := Lib.hid hl
  clear ha hb hl
  go_enter Try.func17, Try.ntmps17
  go_wp2_with fail
  go_loopw [5] (fun i wr => ∃ k q : Nat, k ≤ n ∧ i = .int .i64 k ∧ wr = w.drewN q) (fun i _ => n - (intOf i).toNat)
  case atStart => exact ⟨0, 0, by omega, rfl, rfl⟩
  case round =>
    obtain ⟨k, q, hk, rfl, rfl⟩ := hrel
    by_cases hlt : k < n
    · obtain ⟨ad, C, x, rfl, la, hac, hbs⟩ := HA.out.at_ hlt
      obtain ⟨bd, D, y, rfl, lb, hbc, hds⟩ := HB.out.at_ hlt
      have H1 := Lib.hid hbs
      have H2 := Lib.hid hds
      have hk1 := HL.out k
      clear hbs hds
      generalize rw_ t k = l at *
      have hlt' : (k : Int) < (n : Int) := by omega
      have hk0 : (0 : Int) ≤ (k : Int) := Int.natCast_nonneg _
      go_wp2_with fail
      go_quiet ((go_at_call 29; exact (same_quiet C D l.length x y l _ (H1.out.drewN _) (H2.out.drewN _) hk1).mono fun _ _ h => ⟨h.1, by obtain ⟨m, hm⟩ := h.2; exact ⟨_, by rw [hm, World.drewN_drewN, Nat.add_assoc]⟩⟩))
      go_wp2_with fail
      go_roundw
      case rel => exact ⟨k + 1, _, by omega, by go_num, by first | rfl | rw [World.drewN_drewN]⟩
      case measure => simp [intOf]; omega
    · obtain rfl : k = n := by omega
      go_wp2_with fail
      go_ret
      exact ⟨rfl, _, rfl⟩

set_option maxRecDepth 100000 in
set_option maxHeartbeats 800000 in
theorem rcheck_arg (A : Option Addr) (n c : Nat) (t : List (List Nat)) (w : World) (ht : Rows w A n t) (h : ¬ (Fit t.length ∧ Fit (rw_ t 0).length)) :
    Calls Try.prog 16 #[.slice A n c] w fun e w' => e = .returned (.int .i64 1) ∧ w = w' := by
  have HT := Lib.hid ht
  have HN := Lib.hid ht.len
  have HH := Lib.hid h
  clear ht h
  by_cases h1 : (n : Int) < 1
  · go_enter Try.func16, Try.ntmps16
    go_wp2_with fail
    go_ret
    exact ⟨rfl, rfl⟩
  · by_cases h2 : (n : Int) > 255
    · go_enter Try.func16, Try.ntmps16
      go_wp2_with fail
      go_ret
      exact ⟨rfl, rfl⟩
    · obtain ⟨ad, B, d, rfl, _, hc, _⟩ := HT.out.at_ (k := 0) (by omega)
      have e0 : ad.add 0 = ad := Addr.add_zero' ad
      rw [e0] at hc
      have H2 : Hid (¬ ((1 : Int) ≤ ((rw_ t 0).length : Int) ∧ ((rw_ t 0).length : Int) ≤ 255)) := Lib.hid (by
        have := HH.out
        rw [HN.out] at this
        unfold Fit at this
        omega)
      generalize (rw_ t 0).length = m at *
      have hn : 0 < n := by omega
      by_cases h3 : (m : Int) < 1
      · go_enter Try.func16, Try.ntmps16
        go_wp2_with fail
        go_ret
        exact ⟨rfl, rfl⟩
      · have h4 : (m : Int) > 255 := by have := H2.out; omega
        go_enter Try.func16, Try.ntmps16
        go_wp2_with fail
        go_ret
        exact ⟨rfl, rfl⟩

set_option maxRecDepth 100000 in
set_option maxHeartbeats 800000 in
theorem rcheck_fit (A : Option Addr) (n c : Nat) (t : List (List Nat)) (w : World) (ht : Rows w A n t) (h : Fit t.length ∧ Fit (rw_ t 0).length) :
    Calls Try.prog 16 #[.slice A n c] w fun e w' => e = .returned (.int .i64 (chk t : Nat)) ∧ ∃ m, w' = w.drewN m := by
  have HF : Hid (Fit t.length ∧ Fit (rw_ t 0).length) := Lib.hid h
  have HT := Lib.hid ht
  have HN := Lib.hid ht.len
  obtain ⟨⟨h1, h2⟩, h3, h4⟩ := h
  rw [ht.len] at h1 h2
  clear ht
  obtain ⟨ad, B, d, rfl, _, hc, _⟩ := HT.out.at_ (k := 0) (by omega)
  have e0 : ad.add 0 = ad := Addr.add_zero' ad
  rw [e0] at hc
  have EV : Hid (Even t ↔ ∀ r, r < n → (rw_ t r).length = (rw_ t 0).length) := Lib.hid (by unfold Even; rw [HN.out])
  generalize hm : (rw_ t 0).length = m at h3 h4 hc EV
  have HM := Lib.hid hm
  clear hm
  have h1' : ¬ (n : Int) < 1 := by omega
  have h2' : ¬ (n : Int) > 255 := by omega
  have h3' : ¬ (m : Int) < 1 := by omega
  have h4' : ¬ (m : Int) > 255 := by omega
  have hn : 0 < n := by omega
  go_enter Try.func16, Try.ntmps16
  go_wp2_with fail
  go_loopw [3] (fun i wr => ∃ k q : Nat, k ≤ n ∧ i = .int .i64 k ∧ (∀ r, r < k → (rw_ t r).length = m) ∧ wr = w.drewN q) (fun i _ => n - (intOf i).toNat)
  case atStart => exact ⟨0, 0, by omega, rfl, fun _ h => absurd h (by omega), rfl⟩
  case round =>
    obtain ⟨k, q, hk, rfl, hev, rfl⟩ := hrel
    have HV := Lib.hid hev
    clear hev
    by_cases hlt : k < n
    · obtain ⟨ad', B', d', e', _, hc', _⟩ := HT.out.at_ hlt
      injection e' with e'
      subst e'
      have hlt' : (k : Int) < (n : Int) := by omega
      have hk0 : (0 : Int) ≤ (k : Int) := Int.natCast_nonneg _
      have hn' : (0 : Int) < (n : Int) := by omega
      by_cases hl : (rw_ t k).length = m
      · rw [hl] at hc'
        have HL := Lib.hid hl
        clear hl
        go_wp2_with fail
        go_quiet (fail)
        go_wp2_with fail
        go_roundw
        case rel => exact ⟨k + 1, _, by omega, by go_num, fun r hr => by
          by_cases e : r = k
          · rw [e]; exact HL.out
          · exact HV.out r (by omega), by first | rfl | rw [World.drewN_drewN]⟩
        case measure => simp [intOf]; omega
      · have hne : (((rw_ t k).length : Int) != (m : Int)) = true := by simp; omega
        have hnf : chk t = 16 := chk_unlike HF.out (fun q => hl (EV.out.1 q k hlt))
        have HF' := Lib.hid hnf
        clear hnf hl
        generalize (rw_ t k).length = q at *
        go_wp2_with fail
        go_quiet (fail)
        go_wp2_with fail
        go_ret
        exact ⟨by rw [HF'.out]; rfl, _, by first | rfl | rw [World.drewN_drewN]⟩
    · obtain rfl : k = n := by omega
      have hyes : chk t = 0 := chk_ok HF.out (EV.out.2 HV.out)
      have HF' := Lib.hid hyes
      clear hyes
      go_wp2_with fail
      go_ret
      exact ⟨by rw [HF'.out]; rfl, _, rfl⟩
theorem rcheck_any (A : Option Addr) (n c : Nat) (t : List (List Nat)) (w : World) (ht : Rows w A n t) :
    Calls Try.prog 16 #[.slice A n c] w fun e w' => e = .returned (.int .i64 (chk t : Nat)) ∧ ∃ m, w' = w.drewN m := by
  by_cases h : Fit t.length ∧ Fit (rw_ t 0).length
  · exact rcheck_fit A n c t w ht h
  · rw [chk_arg h]; exact (rcheck_arg A n c t w ht h).mono fun _ _ h => ⟨h.1, 0, h.2.symm⟩

/-- is a table not too great? -/
def Few (t : List (List Nat)) (m : Nat) : Prop := t.length ≤ m ∧ ∀ r, r < t.length → (rw_ t r).length ≤ m
instance (t : List (List Nat)) (m : Nat) : Decidable (Few t m) := by unfold Few; infer_instance
set_option maxHeartbeats 800000 in
theorem few_any (A : Option Addr) (n c m : Nat) (t : List (List Nat)) (w : World) (ht : Rows w A n t) (hm : m ≤ 1000) :
    Calls Try.prog 7 #[.slice A n c, .int .i64 (m : Nat)] w fun e w' => e = .returned (.bool (decide (Few t m))) ∧ w = w' := by
  have HT := Lib.hid ht
  have HN := Lib.hid ht.len
  clear ht
  by_cases h1 : (n : Int) > (m : Int)
  · have hd : decide (Few t m) = false := decide_eq_false fun h => by have := h.1; rw [HN.out] at this; omega
    have HD := Lib.hid hd
    clear hd
    go_enter Try.func7, Try.ntmps7
    go_wp2_with fail
    go_ret
    exact ⟨by rw [HD.out]; rfl, rfl⟩
  · go_enter Try.func7, Try.ntmps7
    go_wp2_with fail
    go_loop [5] (fun i => ∃ k : Nat, k ≤ n ∧ i = .int .i64 k ∧ ∀ r, r < k → (rw_ t r).length ≤ m) (fun i => n - (intOf i).toNat)
    case atStart => exact ⟨0, by omega, rfl, fun _ h => absurd h (by omega)⟩
    case round =>
      obtain ⟨k, hk, rfl, hev⟩ := hrel
      have HV := Lib.hid hev
      clear hev
      by_cases hlt : k < n
      · obtain ⟨ad, B, d, rfl, _, hc, _⟩ := HT.out.at_ hlt
        by_cases hl : ((rw_ t k).length : Int) > (m : Int)
        · have hd : decide (Few t m) = false := decide_eq_false fun h => by have := h.2 k (by rw [HN.out]; exact hlt); omega
          have HD := Lib.hid hd
          clear hd
          generalize (rw_ t k).length = q at *
          go_wp2_with fail
          go_ret
          exact ⟨by rw [HD.out]; rfl, rfl⟩
        · have HL : Hid ((rw_ t k).length ≤ m) := Lib.hid (by omega)
          go_wp2_with fail
          go_round
          case rel => exact ⟨k + 1, by omega, by go_num, fun r hr => by
            by_cases e : r = k
            · rw [e]; exact HL.out
            · exact HV.out r (by omega)⟩
          case measure => simp [intOf]; omega
      · obtain rfl : k = n := by omega
        have hd : decide (Few t m) = true := decide_eq_true ⟨by rw [HN.out]; omega, fun r hr => HV.out r (by rw [HN.out] at hr; exact hr)⟩
        have HD := Lib.hid hd
        clear hd
        go_wp2_with fail
        go_ret
        exact ⟨by rw [HD.out]; rfl, rfl⟩
end Go.Proofs.Ytneaddgpbffkpaa

/- Proved: what the program's Join answers, for all texts within the given bounds and every number. Conditions: those that the theorems name. -/
import Derived.Test.YtddgnheahphikaaDoorCutRefJ
import Derived.Test.YtddgnheahphikaaDoorShelf
import Derived.Lib.Builder
namespace Go.Proofs.YtddgnheahphikaaDoor
open Go.ChangeShapes Go.WideShapes Go.ChangeAt Go.RowKit

/-! ### are the texts equally long? -/
set_option maxRecDepth 100000 in
set_option maxHeartbeats 800000 in
theorem alike_any (A : Option Addr) (m c : Nat) (l : List ByteArray) (w : World) (hl : Ss w A m l) (h0 : 0 < m) (hm : m ≤ 40) :
    Calls Tryd.prog 15 #[.slice A m c] w fun e w' => e = .returned (.bool (decide (alike l))) ∧ w = w' := by
  have HL := Lib.hid hl
  have HN := Lib.hid hl.len
  have h0' : (0 : Int) < (m : Int) := by omega
  have hmi : (m : Int) ≤ 40 := by omega
  clear hl
  obtain ⟨ad, rfl, had, hc0⟩ := HL.out.at_ h0
  rw [Addr.add_zero' ad] at hc0
  go_enter Tryd.func15, Tryd.ntmps15
  go_wp2_with fail
  go_loop [7] (fun i => ∃ r : Nat, r ≤ m ∧ i = .int .i64 r ∧ AlikeTo l r) (fun i => m - (intOf i).toNat)
  case atStart => exact ⟨0, by omega, rfl, fun j hj => absurd hj (by omega)⟩
  case round =>
    obtain ⟨r, hr, rfl, hal⟩ := hrel
    have HA := Lib.hid hal
    clear hal
    by_cases hlt : r < m
    · obtain ⟨ad', e', _, hc⟩ := HL.out.at_ hlt
      cases e'
      have HAn := Lib.hid (fun g => HA.out.next g)
      have HAb := Lib.hid (fun (g : (st_ l r).size ≠ (st_ l 0).size) (a : alike l) => g (a r (by rw [HN.out]; exact hlt)))
      generalize st_ l r = t at *
      generalize st_ l 0 = t0 at *
      have hlt' : (r : Int) < (m : Int) := by omega
      have hr0 : (0 : Int) ≤ (r : Int) := Int.natCast_nonneg _
      by_cases hne : t.size = t0.size
      · have hne' : ((t.size : Int) != (t0.size : Int)) = false := by simp [hne]
        have hne2 : ((t.size : Int) == (t0.size : Int)) = true := by simp [hne]
        have HE := Lib.hid hne
        clear hne
        go_wp2_with fail
        go_round
        case rel => exact ⟨r + 1, by omega, by go_num, HAn.out HE.out⟩
        case measure => simp [intOf]; omega
      · have hne' : ((t.size : Int) != (t0.size : Int)) = true := by simp; omega
        have hne2 : ((t.size : Int) == (t0.size : Int)) = false := by simp; omega
        have HE := Lib.hid (HAb.out hne)
        clear hne
        go_wp2_with fail
        go_ret
        exact ⟨by rw [decide_eq_false HE.out]; rfl, rfl⟩
    · obtain rfl : r = m := by omega
      have HE : Hid (alike l) := Lib.hid fun j hj => HA.out j (by rw [← HN.out]; exact hj)
      go_wp2_with fail
      go_ret
      exact ⟨by rw [decide_eq_true HE.out]; rfl, rfl⟩

/-! ### has a text none but bytes 0? -/
theorem dropWhile_zeros (l : List UInt8) : (l.dropWhile (· == 0)) = [] ↔ ∀ x ∈ l, x = 0 := by
  induction l with
  | nil => simp
  | cons a l ih =>
    by_cases h : a = 0
    · subst h; simp [ih]
    · simp [h]
theorem mem_dropWhile {l : List UInt8} {x : UInt8} (h : x ∈ l.dropWhile (· == 0)) : x ∈ l := (List.dropWhile_sublist _).subset h
theorem dropWhile_ne {l : List UInt8} {x : UInt8} (h : x ∈ l) (h0 : x ≠ 0) : x ∈ l.dropWhile (· == 0) := by
  induction l with
  | nil => exact h
  | cons a l ih =>
    by_cases e : a = 0
    · subst e
      have : x ∈ l := by
        rcases List.mem_cons.1 h with h | h
        · exact absurd h h0
        · exact h
      simpa using ih this
    · rw [List.dropWhile_cons_of_neg (by simpa using e)]; exact h
theorem trim_zeros (l : List UInt8) : Lib.trimB l 0 = [] ↔ ∀ x ∈ l, x = 0 := by
  unfold Lib.trimB Lib.trimLeftB Lib.trimRightB
  rw [dropWhile_zeros]
  constructor
  · intro h x hx
    rcases Classical.em (x = 0) with h0 | h0
    · exact h0
    · exact h x (List.mem_reverse.2 (dropWhile_ne (List.mem_reverse.2 hx) h0))
  · intro h x hx
    exact h x (List.mem_reverse.1 (mem_dropWhile (List.mem_reverse.1 hx)))
theorem zeros_bytes (s : ByteArray) : zerosB (bts s) = true ↔ ∀ x ∈ s.data.toList, x = 0 := by
  unfold zerosB bts
  rw [List.all_eq_true]
  constructor
  · intro h x hx
    have := h x.toNat (List.mem_map.2 ⟨x, hx, rfl⟩)
    have : x.toNat = 0 := by simpa using this
    exact UInt8.toNat_inj.1 this
  · intro h n hn
    obtain ⟨x, hx, rfl⟩ := List.mem_map.1 hn
    rw [h x hx]; rfl
theorem trim_empty (s : ByteArray) : (ByteArray.mk (Lib.trimB s.data.toList 0).toArray).toList.isEmpty = zerosB (bts s) := by
  rw [ByteArray.toList_eq, Bool.eq_iff_iff, zeros_bytes, ← trim_zeros, List.isEmpty_iff]
set_option maxHeartbeats 400000 in
theorem zeros_any (s : ByteArray) (w : World) (hs : s.size ≤ 44000) :
    Calls Tryd.prog 19 #[.string s] w fun e w' => e = .returned (.bool (zerosB (bts s))) ∧ ∃ q, w' = w.drewN q := by
  have HT := Lib.hid (Tryd.strings_Trim_one s 0 (by decide) w (by omega))
  have HE := Lib.hid (trim_empty s)
  generalize (ByteArray.mk (Lib.trimB s.data.toList 0).toArray) = T at *
  go_enter Tryd.func19, Tryd.ntmps19
  go_wp2_with fail
  refine HT.out.mono ?_
  rintro e w' ⟨rfl, h⟩
  have hq : ∃ q, w' = w.drewN q := by
    rcases h with rfl | rfl
    · exact ⟨0, rfl⟩
    · exact ⟨1, rfl⟩
  clear h
  go_wp2_with fail
  go_ret
  exact ⟨by rw [← HE.out]; rfl, hq⟩
end Go.Proofs.YtddgnheahphikaaDoor

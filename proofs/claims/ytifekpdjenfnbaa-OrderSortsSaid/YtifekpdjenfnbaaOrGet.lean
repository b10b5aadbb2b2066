/- Proved: what Len and Has of package order answer, and what an order holds of a number. Conditions: those that the theorems name. -/
import Derived.Test.YtifekpdjenfnbaaOrBase
namespace Go.Proofs.Ytifekpdjenfnbaa
open Go.ChangeShapes Go.WideShapes Go.ChangeAt Go.RowKit

/-! ### Len -/
set_option maxRecDepth 100000 in
set_option maxHeartbeats 800000 in
theorem row_count_any (r : Option Nat) (v : Value) (L : List ByteArray) (w : World) (h : Qs w r v L) (h64 : L.length ≤ 64) :
    Calls Try.prog 25 #[v] w fun e w' => e = .returned (.int .i64 (cntO L : Nat)) ∧ w = w' := by
  obtain ⟨A, cap, hv⟩ := h.form
  subst hv
  have HQ : Hid (∀ j, j < L.length → ∃ g o, A = some ⟨g, o, none⟩ ∧ w.cell? ⟨g, o + j, none⟩ = some (.string (st_ L j))) := Lib.hid fun j hj => by
    obtain ⟨g, o, c, _, hv, _, _, c0, _⟩ := h.at_ hj
    injection hv with hv
    exact ⟨g, o, hv, c0⟩
  clear h
  generalize hm : L.length = m at *
  have HM := Lib.hid hm
  clear hm
  go_enter Try.func25, Try.ntmps25
  go_wp2_with fail
  go_loopw [4, 9] (fun c i wr => ∃ j : Nat, j ≤ m ∧ i = .int .i64 j ∧ c = .int .i64 (cntO (L.take j) : Nat) ∧ wr = w) (fun _ i _ => m - (intOf i).toNat)
  case atStart => exact ⟨0, by omega, rfl, by simp [cntO], rfl⟩
  case round =>
    obtain ⟨j, hj, rfl, rfl, rfl⟩ := hrel
    have hj0 : (0 : Int) ≤ (j : Int) := Int.natCast_nonneg _
    by_cases hlt : j < m
    · have hlt' : (j : Int) < (m : Int) := by omega
      have HC := Lib.hid (cnt_take L j (by rw [HM.out]; exact hlt))
      have hcl : cntO (L.take j) ≤ 64 := by
        have := cnt_le (L.take j)
        rw [List.length_take] at this
        omega
      obtain ⟨g, o, rfl, c0⟩ := HQ.out j hlt
      generalize st_ L j = s at *
      generalize cntO (L.take j) = k at *
      have hk0 : (0 : Int) ≤ (k : Int) := Int.natCast_nonneg _
      have hk1 : (k : Int) ≤ 64 := by omega
      have hsame := em_same s
      cases he : emB s
      · have he1 : s.toList.isEmpty = false := he
        rw [he] at hsame HC
        rw [if_neg (by decide)] at HC
        clear he
        go_wp2_with fail
        go_roundw
        case rel => exact ⟨j + 1, by omega, by go_num, by rw [HC.out]; go_num, trivial⟩
        case measure => simp [intOf]; omega
      · have he1 : s.toList.isEmpty = true := he
        rw [he] at hsame HC
        rw [if_pos rfl] at HC
        clear he
        go_wp2_with fail
        go_roundw
        case rel => exact ⟨j + 1, by omega, by go_num, by rw [HC.out]; rfl, trivial⟩
        case measure => simp [intOf]; omega
    · obtain rfl : j = m := by omega
      have hT : L.take j = L := by rw [← HM.out, List.take_length]
      rw [hT]
      go_wp2_with fail
      go_ret
      exact ⟨rfl, rfl⟩
theorem or_len_any (p : Option Addr) (B : Int) (v : Value) (L : List ByteArray) (w : World) (h : OdO w p B v L) :
    Calls Try.prog 13 #[.pointer p] w fun e w' => e = .returned (.int .i64 (cntO L : Nat)) ∧ w = w' := by
  rcases h with ⟨rfl, rfl, rfl, rfl⟩ | ⟨b, n, r, rfl, h⟩
  · go_enter Try.func13, Try.ntmps13
    go_wp2_with fail
    go_ret
    exact ⟨rfl, rfl⟩
  · have HC := Lib.hid (row_count_any r v L w h.row h.n64)
    obtain ⟨A, cap, rfl⟩ := h.form
    have c2 := h.own.cell 2 rfl
    clear h
    go_enter Try.func13, Try.ntmps13
    go_wp2_with fail
    refine HC.out.mono ?_; rintro e w1 ⟨rfl, rfl⟩
    go_wp2_with fail
    go_ret
    exact ⟨rfl, rfl⟩

/-! ### what waits of a number -/
theorem Qs.drewN {w : World} {r : Option Nat} {v : Value} {L : List ByteArray} (h : Qs w r v L) (q : Nat) : Qs (w.drewN q) r v L := h
set_option maxRecDepth 100000 in
set_option maxHeartbeats 1600000 in
theorem or_at_any (p : Option Addr) (B : Int) (v : Value) (L : List ByteArray) (x : Int) (w : World) (h : OdO w p B v L) (hx : U32 x) :
    Calls Try.prog 23 #[.pointer p, .int .u32 x] w fun e w' => e = .returned (.string (atO B L x)) ∧ ∃ q, w' = w.drewN q := by
  rcases h with ⟨rfl, rfl, rfl, rfl⟩ | ⟨b, n, r, rfl, h⟩
  · have e : atO 0 [] x = S0 := by
      unfold atO atZ
      split
      · exact st_none (Nat.zero_le _)
      · rfl
    rw [e]
    clear e
    go_enter Try.func23, Try.ntmps23
    go_wp2_with fail
    go_ret
    exact ⟨rfl, 0, rfl⟩
  · have HA := Lib.hid (fun W => ahead_any B x h.u32 hx W)
    have HR := Lib.hid (fun q => row_at_any r v L (ah B x) (w.drewN q) h.row)
    obtain ⟨A, cap, rfl⟩ := h.form
    have c0 := h.own.cell 0 rfl
    have c2 := h.own.cell 2 rfl
    clear h hx
    show Calls Try.prog _ _ _ fun e w' => e = .returned (.string (atZ L (ah B x))) ∧ _
    generalize atZ L (ah B x) = s at *
    generalize ah B x = z at *
    go_enter Try.func23, Try.ntmps23
    go_wp2_with fail
    go_quiet ((first | (go_at_call 21; exact Calls.quiet_of_same ((HA.out _).mono fun _ _ h => ⟨h.1, h.2.symm⟩)) | (go_at_call 28; exact Calls.quiet_of_same ((HR.out _).mono fun _ _ h => ⟨h.1, h.2.symm⟩))))
    go_wp2_with fail
    go_ret
    exact ⟨rfl, _, rfl⟩
theorem or_has_any (p : Option Addr) (B : Int) (v : Value) (L : List ByteArray) (x : Int) (w : World) (h : OdO w p B v L) (hx : U32 x) :
    Calls Try.prog 14 #[.pointer p, .int .u32 x] w fun e w' => e = .returned (.bool (hasO B L x)) ∧ ∃ q, w' = w.drewN q := by
  have HA := Lib.hid (or_at_any p B v L x w h hx)
  clear h hx
  show Calls Try.prog _ _ _ fun e w' => e = .returned (.bool (!emB (atO B L x))) ∧ _
  generalize atO B L x = s at *
  have hsame := em_same s
  cases he : emB s
  · have he1 : s.toList.isEmpty = false := he
    rw [he] at hsame
    go_enter Try.func14, Try.ntmps14
    go_wp2_with fail
    refine HA.out.mono ?_; rintro e w1 ⟨rfl, q, rfl⟩
    go_wp2_with fail
    go_ret
    exact ⟨rfl, q, rfl⟩
  · have he1 : s.toList.isEmpty = true := he
    rw [he] at hsame
    go_enter Try.func14, Try.ntmps14
    go_wp2_with fail
    refine HA.out.mono ?_; rintro e w1 ⟨rfl, q, rfl⟩
    go_wp2_with fail
    go_ret
    exact ⟨rfl, q, rfl⟩
end Go.Proofs.Ytifekpdjenfnbaa

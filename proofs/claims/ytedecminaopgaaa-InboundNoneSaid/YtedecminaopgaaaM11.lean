/- Proved: lemmas of one statement's proof, merged by program: what each part proves stands ahead of it. Conditions: those that the lemmas name. -/
import Derived.Test.YtedecminaopgaaaM10

/- Proved: what Len and Has of package order answer, and what an order holds of a number. Conditions: those that the theorems name. -/
namespace Go.Proofs.Ytedecminaopgaaa
open Go.ChangeShapes Go.WideShapes Go.ChangeAt Go.RowKit

/-! ### Len -/
/-! ### what waits of a number -/
set_option maxRecDepth 100000 in
set_option maxHeartbeats 1600000 in
theorem or_at_any (p : Option Addr) (B : Int) (v : Value) (L : List ByteArray) (x : Int) (w : World) (h : OdO w p B v L) (hx : U32 x) :
    Calls Try.prog 59 #[.pointer p, .int .u32 x] w fun e w' => e = .returned (.string (atO B L x)) ∧ ∃ q, w' = w.drewN q := by
  rcases h with ⟨rfl, rfl, rfl, rfl⟩ | ⟨b, n, r, rfl, h⟩
  · have e : atO 0 [] x = S0 := by
      unfold atO atZ
      split
      · exact st_none (Nat.zero_le _)
      · rfl
    rw [e]
    clear e
    go_enter Try.func59, Try.ntmps59
    go_wp2_with fail
    go_ret
    exact ⟨rfl, 0, rfl⟩
  · have HA := Lib.hid (fun W => ahead_any B x h.u32 hx W)
    have HR := Lib.hid (fun q => row_at_any r v L (ah B x) (w.drewN q) h.row)
    obtain ⟨A, cap, rfl⟩ := h.form
    have c0 := h.own.cell 0 rfl
    have c2 := h.own.cell 2 rfl
    clear h hx
    show Calls Try.prog _ _ _ fun e w' => e = .returned (.string (atZ L (ah B x))) ∧ _
    generalize atZ L (ah B x) = s at *
    generalize ah B x = z at *
    go_enter Try.func59, Try.ntmps59
    go_wp2_with fail
    go_quiet ((first | (go_at_call 64; exact Calls.quiet_of_same ((HA.out _).mono fun _ _ h => ⟨h.1, h.2.symm⟩)) | (go_at_call 70; exact Calls.quiet_of_same ((HR.out _).mono fun _ _ h => ⟨h.1, h.2.symm⟩))))
    go_wp2_with fail
    go_ret
    exact ⟨rfl, _, rfl⟩
theorem or_has_any (p : Option Addr) (B : Int) (v : Value) (L : List ByteArray) (x : Int) (w : World) (h : OdO w p B v L) (hx : U32 x) :
    Calls Try.prog 38 #[.pointer p, .int .u32 x] w fun e w' => e = .returned (.bool (hasO B L x)) ∧ ∃ q, w' = w.drewN q := by
  have HA := Lib.hid (or_at_any p B v L x w h hx)
  clear h hx
  show Calls Try.prog _ _ _ fun e w' => e = .returned (.bool (!emB (atO B L x))) ∧ _
  generalize atO B L x = s at *
  have hsame := em_same s
  cases he : emB s
  · have he1 : s.toList.isEmpty = false := he
    rw [he] at hsame
    go_enter Try.func38, Try.ntmps38
    go_wp2_with fail
    refine HA.out.mono ?_; rintro e w1 ⟨rfl, q, rfl⟩
    go_wp2_with fail
    go_ret
    exact ⟨rfl, q, rfl⟩
  · have he1 : s.toList.isEmpty = true := he
    rw [he] at hsame
    go_enter Try.func38, Try.ntmps38
    go_wp2_with fail
    refine HA.out.mono ?_; rintro e w1 ⟨rfl, q, rfl⟩
    go_wp2_with fail
    go_ret
    exact ⟨rfl, q, rfl⟩
end Go.Proofs.Ytedecminaopgaaa

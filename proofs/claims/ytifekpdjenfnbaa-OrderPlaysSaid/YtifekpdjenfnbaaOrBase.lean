/- Proved: what New, Base, Len, Has of package order answer, and what stands at a place. Conditions: those that the theorems name. -/
import Derived.Test.YtifekpdjenfnbaaOrMem
import Derived.Deep.QuietTactic
import Derived.BigQuiet
namespace Go.Proofs.Ytifekpdjenfnbaa
open Go.ChangeShapes Go.WideShapes Go.ChangeAt Go.RowKit

/-! ### New -/
theorem or_new_any (base : Int) (n : Int) (w : World) (hb : U32 base) (h0 : 1 ≤ n) (h1 : n ≤ 64) :
    Calls Try.prog 7 #[.int .u32 base, .int .i64 n] w fun e w' => e = .returned (.tuple #[.pointer (some ⟨w.heap.size, 0, none⟩), .int .i64 0]) ∧ Od w' w.heap.size base n none (.slice none 0 0) [] ∧ Below w.heap.size w w' := by
  have HU := Lib.hid hb
  have HH := Lib.hid (And.intro h0 h1)
  have h0' : ¬ n < 1 := by omega
  have h1' : ¬ 64 < n := by omega
  clear h0 h1 hb
  go_enter Try.func7, Try.ntmps7
  go_wp2_with fail
  go_ret2
  exact ⟨rfl, ⟨At.new w _ [.int .u32 base, .int .i64 n, .slice none 0 0], Qu.nil _ _ _, fun _ e => (nomatch e), HU.out, HH.out.1, HH.out.2, by have := HH.out; simp; omega⟩, (Below.refl _ _).alloc (Nat.le_refl _) _⟩
theorem or_new_bad (base z : Int) (w : World) (h : z < 1 ∨ 64 < z) :
    Calls Try.prog 7 #[.int .u32 base, .int .i64 z] w fun e w' => e = .returned (.tuple #[.pointer none, .int .i64 1]) ∧ w = w' := by
  by_cases a : z < 1
  · go_enter Try.func7, Try.ntmps7
    go_wp2_with fail
    go_ret2
    exact ⟨rfl, rfl⟩
  have b : 64 < z := by omega
  go_enter Try.func7, Try.ntmps7
  go_wp2_with fail
  go_ret2
  exact ⟨rfl, rfl⟩

/-! ### Base -/
theorem or_base_any (p : Option Addr) (B : Int) (v : Value) (L : List ByteArray) (w : World) (h : OdO w p B v L) :
    Calls Try.prog 12 #[.pointer p] w fun e w' => e = .returned (.int .u32 B) ∧ w = w' := by
  rcases h with ⟨rfl, rfl, rfl, rfl⟩ | ⟨b, n, r, rfl, h⟩
  · go_enter Try.func12, Try.ntmps12
    go_wp2_with fail
    go_ret
    exact ⟨rfl, rfl⟩
  · have c0 := h.own.cell 0 rfl
    clear h
    go_enter Try.func12, Try.ntmps12
    go_wp2_with fail
    go_ret
    exact ⟨rfl, rfl⟩

/-! ### what stands at a place -/
theorem row_at_any (r : Option Nat) (v : Value) (L : List ByteArray) (z : Int) (w : World) (h : Qs w r v L) :
    Calls Try.prog 28 #[v, .int .i64 z] w fun e w' => e = .returned (.string (atZ L z)) ∧ w = w' := by
  obtain ⟨A, cap, hv⟩ := h.form
  by_cases a : z < 0
  · rw [atZ_out (.inl a)]
    subst hv
    clear h
    go_enter Try.func28, Try.ntmps28
    go_wp2_with fail
    go_ret
    exact ⟨rfl, rfl⟩
  by_cases b : (L.length : Int) ≤ z
  · rw [atZ_out (.inr b)]
    subst hv
    clear h
    go_enter Try.func28, Try.ntmps28
    go_wp2_with fail
    go_ret
    exact ⟨rfl, rfl⟩
  · obtain ⟨i, rfl⟩ := Int.eq_ofNat_of_zero_le (show 0 ≤ z by omega)
    have hi : i < L.length := by omega
    obtain ⟨g, o, c, _, rfl, _, _, hc, _⟩ := h.at_ hi
    show Calls Try.prog _ _ _ fun e w' => e = .returned (.string (atZ L (i : Int))) ∧ w = w'
    rw [atZ_nat]
    generalize st_ L i = s at *
    have hi' : (i : Int) < (L.length : Int) := by omega
    have hi0 : (0 : Int) ≤ (i : Int) := Int.natCast_nonneg _
    clear h hv a b
    go_enter Try.func28, Try.ntmps28
    go_wp2_with fail
    go_ret
    exact ⟨rfl, rfl⟩
end Go.Proofs.Ytifekpdjenfnbaa

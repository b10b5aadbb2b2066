/- Proved: what New, Len, Next and Base of package flight answer, and what makes the iterator. Conditions: those that the theorems name. -/
import Derived.Test.YtgnalabblhokmaaFlMem
namespace Go.Proofs.Ytgnalabblhokmaa
open Go.ChangeShapes Go.WideShapes Go.ChangeAt Go.RowKit

/-! ### New -/
theorem fl_new_any (base : Int) (wd : Nat) (w : World) (hb : U32 base) (h0 : 1 ≤ wd) (h1 : wd ≤ 64) :
    Calls Try.prog 19 #[.int .u32 base, .int .i64 (wd : Nat)] w fun e w' => e = .returned (.tuple #[.pointer (some ⟨w.heap.size, 0, none⟩), .int .i64 0]) ∧ Fl w' w.heap.size (wd : Nat) base none (.slice none 0 0) [] ∧ Below w.heap.size w w' := by
  have HU := Lib.hid hb
  have HH := Lib.hid (And.intro h0 h1)
  have h0' : ¬ (wd : Int) < 1 := by omega
  have h1' : ¬ 64 < (wd : Int) := by omega
  clear h0 h1 hb
  go_enter Try.func19, Try.ntmps19
  go_wp2_with fail
  go_ret2
  exact ⟨rfl, ⟨At.new w _ [.int .i64 (wd : Nat), .int .u32 base, .slice none 0 0], Qu.nil _ _ _, fun _ e => (nomatch e), HU.out, by simp, by have := HH.out; omega⟩, (Below.refl _ _).alloc (Nat.le_refl _) _⟩
theorem fl_new_bad (base z : Int) (w : World) (h : z < 1 ∨ 64 < z) :
    Calls Try.prog 19 #[.int .u32 base, .int .i64 z] w fun e w' => e = .returned (.tuple #[.pointer none, .int .i64 1]) ∧ w = w' := by
  by_cases a : z < 1
  · go_enter Try.func19, Try.ntmps19
    go_wp2_with fail
    go_ret2
    exact ⟨rfl, rfl⟩
  have b : 64 < z := by omega
  go_enter Try.func19, Try.ntmps19
  go_wp2_with fail
  go_ret2
  exact ⟨rfl, rfl⟩

/-! ### Len, Next, Base -/
theorem flc_len (p : Option Addr) (nx : Int) (v : Value) (n : Nat) (w : World) (h : FlC w p nx v n) :
    Calls Try.prog 11 #[.pointer p] w fun e w' => e = .returned (.int .i64 (n : Nat)) ∧ w = w' := by
  rcases h with ⟨rfl, rfl, rfl⟩ | ⟨f, A, cap, rfl, rfl, _, c2⟩
  · go_enter Try.func11, Try.ntmps11
    go_wp2_with fail
    go_ret
    exact ⟨rfl, rfl⟩
  · go_enter Try.func11, Try.ntmps11
    go_wp2_with fail
    go_ret
    exact ⟨rfl, rfl⟩
theorem flc_next (p : Option Addr) (nx : Int) (v : Value) (n : Nat) (w : World) (h : FlC w p nx v n) :
    Calls Try.prog 9 #[.pointer p] w fun e w' => e = .returned (.int .u32 nx) ∧ w = w' := by
  rcases h with ⟨rfl, rfl, rfl⟩ | ⟨f, A, cap, rfl, rfl, c1, _⟩
  · go_enter Try.func9, Try.ntmps9
    go_wp2_with fail
    go_ret
    exact ⟨rfl, rfl⟩
  · go_enter Try.func9, Try.ntmps9
    go_wp2_with fail
    go_ret
    exact ⟨rfl, rfl⟩
theorem flc_base (p : Option Addr) (nx : Int) (v : Value) (n : Nat) (w : World) (h : FlC w p nx v n) (hn : n ≤ 64) :
    Calls Try.prog 10 #[.pointer p] w fun e w' => e = .returned (.int .u32 (fb nx n)) ∧ w = w' := by
  have HN := Lib.hid (flc_next p nx v n w h)
  have HL := Lib.hid (flc_len p nx v n w h)
  clear h
  go_enter Try.func10, Try.ntmps10
  go_wp2_with fail
  refine HN.out.mono ?_; rintro e w1 ⟨rfl, rfl⟩
  go_wp2_with fail
  refine HL.out.mono ?_; rintro e w1 ⟨rfl, rfl⟩
  go_wp2_with fail
  go_ret
  exact ⟨rfl, rfl⟩

/-! ### may that be a time? -/
def timeB (z : Int) : Bool := decide (0 ≤ z) && decide (z ≤ 1099511627776)
theorem timed_any (z : Int) (w : World) :
    Calls Try.prog 13 #[.int .i64 z] w fun e w' => e = .returned (.bool (timeB z)) ∧ w = w' := by
  unfold timeB
  by_cases h : 0 ≤ z
  · rw [decide_eq_true h, Bool.true_and]
    go_enter Try.func13, Try.ntmps13
    go_wp2_with fail
    go_ret
    exact ⟨rfl, rfl⟩
  · rw [decide_eq_false h, Bool.false_and]
    go_enter Try.func13, Try.ntmps13
    go_wp2_with fail
    go_ret
    exact ⟨rfl, rfl⟩

/-! ### what makes the iterator -/
theorem flying_any (p : Option Addr) (w : World) :
    Calls Try.prog 14 #[.pointer p] w fun e w' => e = .returned (.func (.func 23) #[] #[.pointer (some ⟨w.heap.size, 0, none⟩)]) ∧ w' = w.alloc (.cells #[.pointer p] 25) := by
  have hmf : ∀ (fn : Fn) (first cap : Array Value) (w : World), (Instr.makeFunc fn first cap).run Try.prog w = .ok (.func fn first cap) w := fun _ _ _ _ => rfl
  go_enter Try.func14, Try.ntmps14
  go_wp2
  go_ret
  exact ⟨rfl, rfl⟩
end Go.Proofs.Ytgnalabblhokmaa

/- Proved: the walks of the laws of package bits, the rest. Conditions: those that the theorems name. -/
import Derived.Test.YtaahhjoolgpbhaaBitLaw
import Derived.OpenShut
import Derived.WideShapes
namespace Go.Proofs.Ytaahhjoolgpbhaa
open Go.ChangeShapes Go.WideShapes Go.ChangeAt Go.RowKit

set_option maxHeartbeats 400000 in
theorem marks_many (s : ByteArray) (i t0 t1 : Int) (w : World) (hs : ¬ s.size ≤ 100) :
    Calls Try.prog 3 #[.string s, .int .i64 i, .agg #[.int .i64 t0, .int .i64 t1]] w fun e w' => e = .returned (.bool true) ∧ Below w.heap.size w w' := by
  have hs' : (s.size : Int) > 100 := by omega
  clear hs
  go_enter Try.func3, Try.ntmps3
  go_wp2_with fail
  refine (bawake_any _).mono ?_; rintro e w1 ⟨rfl, g⟩
  have B1 : Hid (Below w.heap.size w w1) := Lib.hid (((Below.refl _ _).alloc (Nat.le_refl _) _).trans (g.mono (by simp)))
  clear g
  go_wp2_with fail
  go_ret
  exact ⟨rfl, B1.out⟩
theorem marks_walk (s : ByteArray) (i t0 t1 : Int) (w : World) :
    Calls Try.prog 3 #[.string s, .int .i64 i, .agg #[.int .i64 t0, .int .i64 t1]] w fun e w' => e = .returned (.bool true) ∧ Below w.heap.size w w' := by
  by_cases h : s.size ≤ 100
  · exact marks_few s i t0 t1 w h
  · exact marks_many s i t0 t1 w h

theorem any_yes {l : List Int} {i : Int} {k : Nat} (h : (anyK l i k && inB i) = true) : (anyK l i (k + 1) && inB i) = true := by
  rw [Bool.and_eq_true] at h
  rw [anyK_succ, h.1, h.2]; rfl
theorem any_ne {l : List Int} {i : Int} {k : Nat} (h : (anyK l i k && inB i) = false) (hx : ¬ l.getD k 0 = i) : (anyK l i (k + 1) && inB i) = false := by
  rw [anyK_succ, decide_eq_false hx, Bool.or_false]; exact h
theorem any_eq {l : List Int} {i : Int} {k : Nat} (hx : l.getD k 0 = i) : (anyK l i (k + 1) && inB i) = inB i := by
  rw [anyK_succ, decide_eq_true hx, Bool.or_true, Bool.true_and]
set_option maxRecDepth 100000 in
set_option maxHeartbeats 3200000 in
theorem bof_few (A : Option Addr) (n c : Nat) (l : List Int) (i : Int) (w : World) (hl : Is w A n l) (hn : n ≤ 300) :
    Calls Try.prog 4 #[.slice A n c, .int .i64 i] w fun e w' => e = .returned (.bool true) ∧ Below w.heap.size w w' := by
  have hn' : ¬ (n : Int) > 300 := by omega
  have H1 := Lib.hid (fun w h => of_any A n c l w h (by omega))
  have H2 := Lib.hid (fun w h => rof_any A n c l w h (by omega))
  have H3 := fun w => has_any (ofS l) i w
  rw [ofS_has] at H3
  have h3 := Lib.hid H3
  clear H3
  have H4 := Lib.hid (fun w => empty_any w)
  have H5 := Lib.hid (fun w => rempty_any w)
  generalize ofS l = S at *
  generalize tx noB = Z at *
  obtain rfl : l.length = n := hl.len
  have HL := Lib.hid hl
  clear hl
  go_enter Try.func4, Try.ntmps4
  go_wp2_with fail
  refine (H1.out _ HL.out).mono ?_; rintro e w1 ⟨rfl, g⟩
  have B1 := Lib.hid g
  have L1 := Lib.hid (HL.out.below g)
  clear g H1 HL
  go_wp2_with fail
  go_loop [6, 7] (fun v q => ∃ k : Nat, k ≤ l.length ∧ q = .int .i64 k ∧ v = .bool (anyK l i k && inB i)) (fun _ q => l.length - (intOf q).toNat)
  case atStart => exact ⟨0, by omega, rfl, rfl⟩
  case round =>
    obtain ⟨k, hk, rfl, rfl⟩ := hrel
    by_cases hlt : k < l.length
    · obtain ⟨ad, rfl, had, hac⟩ := L1.out.at_ hlt
      have hlt' : (k : Int) < (l.length : Int) := by omega
      have hk0 : (0 : Int) ≤ (k : Int) := Int.natCast_nonneg _
      cases hu : (anyK l i k && inB i) with
      | true =>
        have HE := Lib.hid (any_yes hu)
        clear hu
        go_wp2_with fail
        go_round
        case rel => exact ⟨k + 1, by omega, by go_num, by rw [HE.out]⟩
        case measure => simp [intOf]; omega
      | false =>
        by_cases hx : l.getD k 0 = i
        · have HE := Lib.hid (any_eq hx)
          rw [hx] at hac
          clear hu hx
          by_cases h0 : 0 ≤ i
          · by_cases h1 : i < 256
            · have HI := Lib.hid (inB_of h0 h1)
              go_wp2_with fail
              go_round
              case rel => exact ⟨k + 1, by omega, by go_num, by rw [HE.out, HI.out]⟩
              case measure => simp [intOf]; omega
            · have HI : Hid (inB i = false) := Lib.hid (by unfold inB; simp; omega)
              go_wp2_with fail
              go_round
              case rel => exact ⟨k + 1, by omega, by go_num, by rw [HE.out, HI.out]⟩
              case measure => simp [intOf]; omega
          · have HI : Hid (inB i = false) := Lib.hid (by unfold inB; simp; omega)
            go_wp2_with fail
            go_round
            case rel => exact ⟨k + 1, by omega, by go_num, by rw [HE.out, HI.out]⟩
            case measure => simp [intOf]; omega
        · have HE := Lib.hid (any_ne hu hx)
          have hxx : (l.getD k 0 == i) = false := by simpa using hx
          clear hu hx
          generalize l.getD k 0 = x at *
          go_wp2_with fail
          go_round
          case rel => exact ⟨k + 1, by omega, by go_num, by rw [HE.out]⟩
          case measure => simp [intOf]; omega
    · obtain rfl : k = l.length := by omega
      generalize (anyK l i l.length && inB i) = u at *
      go_wp2_with fail
      refine (H2.out _ L1.out).mono ?_; rintro e w2 ⟨rfl, g⟩
      have B2 := Lib.hid (B1.out.trans (g.mono B1.out.size))
      clear g B1
      go_wp2_with fail
      refine (h3.out _).mono ?_; rintro e w3 ⟨rfl, g⟩
      have B3 := Lib.hid (B2.out.trans ((two_drawn (B := w2.heap.size) g).mono B2.out.size))
      clear g B2
      go_wp2_with fail
      refine (H4.out _).mono ?_; rintro e w4 ⟨rfl, g⟩
      have B4 := Lib.hid (B3.out.trans (g.mono B3.out.size))
      clear g B3
      go_wp2_with fail
      refine (H5.out _).mono ?_; rintro e w5 ⟨rfl, g⟩
      have B5 := Lib.hid (B4.out.trans (g.mono B4.out.size))
      clear g B4
      go_wp2_with fail
      refine (bawake_any _).mono ?_; rintro e w6 ⟨rfl, g⟩
      have B6 := Lib.hid (B5.out.trans (g.mono B5.out.size))
      clear g B5
      go_wp2_with fail
      go_ret
      exact ⟨rfl, B6.out⟩
set_option maxHeartbeats 400000 in
theorem bof_many (A : Option Addr) (n c : Nat) (i : Int) (w : World) (hn : ¬ n ≤ 300) :
    Calls Try.prog 4 #[.slice A n c, .int .i64 i] w fun e w' => e = .returned (.bool true) ∧ Below w.heap.size w w' := by
  have hn' : (n : Int) > 300 := by omega
  clear hn
  go_enter Try.func4, Try.ntmps4
  go_wp2_with fail
  refine (bawake_any _).mono ?_; rintro e w1 ⟨rfl, g⟩
  have B1 := Lib.hid g
  clear g
  go_wp2_with fail
  go_ret
  exact ⟨rfl, B1.out⟩
theorem bof_walk (A : Option Addr) (n c : Nat) (l : List Int) (i : Int) (w : World) (hl : Is w A n l) :
    Calls Try.prog 4 #[.slice A n c, .int .i64 i] w fun e w' => e = .returned (.bool true) ∧ Below w.heap.size w w' := by
  by_cases h : n ≤ 300
  · exact bof_few A n c l i w hl h
  · exact bof_many A n c i w h
/-- two ints in an array that came in. -/
structure Two where
  x : Int
  y : Int
def Two.val (a : Two) : Value := .agg #[.int .i64 a.x, .int .i64 a.y]
def Two.In (_ : Two) : Prop := True
section
variable {H : Type} {enc : TypeId × Value → H} {w : World} {base : Nat} {held : Bool} {d : DataW H} {p : List MemPlace} {spare : Nat → Bool}
theorem okWide_two {r : Reach} {b0 : Nat} {v : Value} (h : Value.okWide Try.prog w r b0 22 v) : ∃ c0 c1, v = .agg #[c0, c1] := by
  simp only [Value.okWide, Try.underlying22] at h
  obtain ⟨cs, h1, h2, _⟩ := h
  rw [show Try.prog.cellsOf 22 = 2 by kernel_rfl] at h2
  obtain ⟨l⟩ := cs
  match l, h2 with
  | [c0, c1], _ => exact ⟨c0, c1, h1⟩
theorem two_arg {r : Reach} {b0 : Nat} {v : Value} (hv : Value.okWide Try.prog w r b0 22 v) (h : DataW.Trod enc Try.prog w base spare held 22 v d p) : ∃ a : Two, v = a.val ∧ a.In := by
  obtain ⟨c0, c1, rfl⟩ := okWide_two hv
  obtain ⟨fuel, hf⟩ := h
  obtain ⟨xs, n, _, _, _, hlen, hat⟩ := DataW.trod_array Try.underlying22 hf
  have e3 : Try.prog.cellsOf 3 = 1 := by kernel_rfl
  rw [e3] at hat
  obtain ⟨y0, j0⟩ : ∃ y, xs[0]? = some y := ⟨_, List.getElem?_eq_getElem (by omega)⟩
  obtain ⟨y1, j1⟩ : ∃ y, xs[1]? = some y := ⟨_, List.getElem?_eq_getElem (by omega)⟩
  have g0 : DataW.trod enc Try.prog w base spare held n 3 [c0] = some y0 := (hat 0 (by decide)).trans j0
  have g1 : DataW.trod enc Try.prog w base spare held n 3 [c1] = some y1 := (hat 1 (by decide)).trans j1
  obtain ⟨z0, q0, _, _⟩ := DataW.trod_int Try.underlying3 g0
  obtain ⟨z1, q1, _, _⟩ := DataW.trod_int Try.underlying3 g1
  simp at q0 q1
  subst q0 q1
  exact ⟨⟨z0, z1⟩, rfl, trivial⟩
end
end Go.Proofs.Ytaahhjoolgpbhaa

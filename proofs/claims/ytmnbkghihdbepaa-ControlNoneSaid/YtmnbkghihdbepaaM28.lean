/- Proved: lemmas of one statement's proof, merged by program: what each part proves stands ahead of it. Conditions: those that the lemmas name. -/
import Derived.Test.YtmnbkghihdbepaaM27

/- Proved: what fields of package datagram answers. Conditions: those that the theorems name. -/
namespace Go.Proofs.Ytmnbkghihdbepaa
open Go.ChangeShapes Go.WideShapes Go.ChangeAt Go.RowKit

theorem grown_setNew {W w : World} {row : Option Nat} (h : W.grownBy w row) {p : Addr} (hp : W.heap.size ≤ p.block) (v : Value) : W.grownBy (w.setCell p v) row :=
  ⟨h.os, h.tape, h.output, Nat.le_trans h.size (by simp [World.setCell]), fun k hk hn => (Below.heap_setCell w p v k (by omega)).trans (h.block k hk hn)⟩
theorem grown_alloc {W w : World} {row : Option Nat} (h : W.grownBy w row) (o : Obj) : W.grownBy (w.alloc o) row :=
  ⟨h.os, h.tape, h.output, Nat.le_trans h.size (by simp), fun k hk hn => (Below.heap_alloc w o k (Nat.lt_of_lt_of_le hk h.size)).trans (h.block k hk hn)⟩
theorem grown_then {W w w' : World} {row : Option Nat} (h : W.grownBy w row) (hb : Below w.heap.size w w') : W.grownBy w' row := grown_trans2 h (grown_below hb row)
/-- A datagram and a number come back; but for block c nothing that was there has turned. -/
def GivesF (W : World) (c : Nat) (d : Dg) (z : Int) (e : Ending) (w' : World) : Prop := e = .returned (.tuple #[d.val, .int .i64 z]) ∧ W.grownBy w' (some c)
theorem list_no {a b : ByteArray} (h : a ≠ b) : (a.toList == b.toList) = false := by
  rw [beq_eq_false_iff_ne]
  exact fun e => h ((toList_iff a b).1 e)
theorem ls_list : xLS.toList = [76, 83] := by rw [ByteArray.toList_eq]
theorem ls_no {M : ByteArray} (h : M ≠ xLS) : (M.toList == [76, 83]) = false := by
  have := list_no h
  rwa [ls_list] at this
theorem ls_yes {M : ByteArray} (h : M = xLS) : (M.toList == [76, 83]) = true := by rw [h, ls_list]; rfl
/-- What fields answers. -/
def pOut (a : ByteArray) : Dg := if pE a = 0 then pD (grpOf (cutN a 2 3 : Nat)) a else dg0
end Go.Proofs.Ytmnbkghihdbepaa

/- Proved: what Read of package datagram answers. Conditions: those that the theorems name. -/
namespace Go.Proofs.Ytmnbkghihdbepaa
open Go.ChangeShapes Go.WideShapes Go.ChangeAt Go.RowKit

/-- A datagram and a number come back; nothing that was there has turned. -/
def GivesDZ (W : World) (d : Dg) (z : Int) (e : Ending) (w' : World) : Prop := e = .returned (.tuple #[d.val, .int .i64 z]) ∧ Below W.heap.size W w'
theorem below_setNew {W w : World} (h : Below W.heap.size W w) {p : Addr} (hp : W.heap.size ≤ p.block) (v : Value) : Below W.heap.size W (w.setCell p v) := h.setCell hp v
theorem rD_cut {s : ByteArray} (h : s.size < 12) : rD s = dg0 := rD_bad (by rw [rE_cut h]; decide)
end Go.Proofs.Ytmnbkghihdbepaa

/- Proved: lemmas of one statement's proof, merged by program: what each part proves stands ahead of it. Conditions: those that the lemmas name. -/
import Derived.Test.YtodokgkchmpmnaaGreatM8
import Derived.Test.YtodokgkchmpmnaaGreatM7
import Derived.Test.YtodokgkchmpmnaaGreatM6
import Derived.WalkKit
import Derived.ProofKit
import Derived.Laws.Rows
import Derived.Laws.NewBlocks

/- Plain lemmas on one step of elimination over tables as lists of lists. No condition beyond those that each lemma names. -/
namespace Go.Proofs.YtodokgkchmpmnaaGreat

theorem ginv_lt (a : Nat) : ginv a < 256 := gexp_lt _
end Go.Proofs.YtodokgkchmpmnaaGreat

/- Proved: what logs and Log of package gf answer for every byte. Conditions: those that the theorems name. -/
namespace Go.Proofs.YtodokgkchmpmnaaGreat
open Go.ChangeShapes Go.WideShapes Go.ChangeAt Go.RowKit

def rowOf (k : Nat) : Array Value := Array.ofFn fun i : Fin 256 => Value.int .u8 (tab k i.val : Nat)
theorem rowOf_size (k : Nat) : (rowOf k).size = 256 := by unfold rowOf; exact Array.size_ofFn
theorem rowOf_at (k i : Nat) (h : i < 256) : (rowOf k)[i]? = some (Value.int .u8 (tab k i : Nat)) := by
  unfold rowOf
  rw [Array.getElem?_ofFn, dif_pos h]
theorem rowOf_get (k i : Nat) (h : i < (rowOf k).size) : (rowOf k)[i] = Value.int .u8 (tab k i : Nat) := by
  have h' : i < 256 := by rw [rowOf_size] at h; exact h
  have := rowOf_at k i h'
  rw [Array.getElem?_eq_getElem h] at this
  exact Option.some.inj this
theorem rowOf_succ (k : Nat) : (rowOf k).setIfInBounds (pw k) (.int .u8 (k : Nat)) = rowOf (k + 1) := by
  apply Array.ext
  · rw [Array.size_setIfInBounds, rowOf_size, rowOf_size]
  · intro i h1 h2
    have hi : i < (rowOf k).size := by rw [rowOf_size] at h2 ⊢; exact h2
    rw [Array.getElem_setIfInBounds hi, rowOf_get, rowOf_get]
    show _ = Value.int .u8 ((if i = pw k then k else tab k i : Nat) : Int)
    by_cases e : pw k = i
    · rw [if_pos e, if_pos e.symm]
    · rw [if_neg e, if_neg (fun h => e h.symm)]
theorem zero41 (w : World) : (zeroValue 201).run Tryz.prog w = .ok (.agg (rowOf 0)) w := by kernel_rfl

theorem rowOf_one (k : Nat) : (rowOf k).all (·.oneCell') = true := by
  rw [Array.all_eq_true]
  intro i hi
  rw [rowOf_get]
  rfl
theorem info41 (k : Nat) : (Tryz.prog.info? 201).map (·.size) = some (rowOf k).size := by
  rw [rowOf_size]
  kernel_rfl
theorem under41 : Tryz.prog.underlying 201 = some (.array 256 5) := by kernel_rfl

/-! ### gf.Log, gf.Inv, gf.Div -/
theorem index41 (a t : Nat) (R : Array Value) (ha : a < 256) (hat : R[a]? = some (Value.int .u8 t)) (w : World) :
    (Instr.index 201 (.agg R) (.int .u8 a)).run Tryz.prog w = .ok (.int .u8 t) w := by
  have h0 : (0 : Int) ≤ a ∧ (a : Int) < (256 : Nat) := by omega
  simp [Instr.index, run_underlying under41, asIntOf, h0, Sem.run_bind, part, hat, ha]
end Go.Proofs.YtodokgkchmpmnaaGreat

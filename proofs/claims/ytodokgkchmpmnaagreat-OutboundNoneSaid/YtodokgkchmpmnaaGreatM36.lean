/- Proved: lemmas of one statement's proof, merged by program: what each part proves stands ahead of it. Conditions: those that the lemmas name. -/
import Derived.Test.YtodokgkchmpmnaaGreatM30
import Derived.Test.YtodokgkchmpmnaaGreatM35
import Derived.Test.YtodokgkchmpmnaaGreatM1
import Derived.Deep.RegionLaw
import Derived.Lib.AppendZeros

/- Plain lemmas on what is due, and on a flight whose row's address is known. No condition beyond those that each lemma names. -/
namespace Go.Proofs.YtodokgkchmpmnaaGreat
open Go.ChangeShapes Go.WideShapes Go.ChangeAt Go.RowKit

/-! ### what is due -/
theorem fin_vals (k : Nat) : (List.finRange k).map Fin.val = List.range k := by
  apply List.ext_getElem
  · simp
  · intro i h1 h2
    simp
/-! ### what turns -/
theorem tn_own {c : Nat → Prop} {w W W' : World} {row : Option Nat} {B : Nat} (h : Tn c w W) (hg : W.grownBy W' row) (hr : ∀ i, row = some i → B ≤ i) (hB : w.heap.size ≤ B) : Tn c w W' :=
  ⟨hg.os.trans h.os, hg.tape.trans h.tape, hg.output.trans h.output, Nat.le_trans h.size hg.size, fun i hi hn => (hg.block i (by have := h.size; omega) (fun e => by have := hr i e.symm; omega)).trans (h.block i hi hn)⟩

/-! ### a flight whose row's address is known -/
section
variable {w w' : World} {f g o cap : Nat} {wd nx : Int} {r : Option Nat} {L : List Bl}
end

/-- a piece of code that comes to one end, whatever its order: walk it once more behind that end alone. -/
def OneAt (A : Act) (W : World) : Exit → Act → World → Prop
  | .normal, a, w => a = A ∧ w = W
  | _, _, _ => False
theorem wpIn_one {F : Fence} {n : Nat} {P : Program} {c : Code} {Q : Exit → Act → World → Prop} {a : Act} {w : World} {A : Act} {W' : World} (h : c.wpIn F n P (OneAt A W') a w) (k : Q .normal A W') : c.wpIn F n P Q a w :=
  wpIn_mono h (fun e a w g => by
    cases e with
    | normal => obtain ⟨rfl, rfl⟩ := g; exact k
    | _ => exact g.elim)
/-- the same, where the world's own words are known alone. -/
def OneP (A : Act) (p : World → Prop) : Exit → Act → World → Prop
  | .normal, a, w => a = A ∧ p w
  | _, _, _ => False
theorem wpIn_oneP {F : Fence} {n : Nat} {P : Program} {c : Code} {Q : Exit → Act → World → Prop} {a : Act} {w : World} {A : Act} {p : World → Prop} (h : c.wpIn F n P (OneP A p) a w) (k : ∀ w', p w' → Q .normal A w') : c.wpIn F n P Q a w :=
  wpIn_mono h (fun e a w g => by
    cases e with
    | normal => obtain ⟨rfl, g⟩ := g; exact k w g
    | _ => exact g.elim)
end Go.Proofs.YtodokgkchmpmnaaGreat

/- Plain lemmas on regions that draw their order: an append whose run is known, and a region that comes to its end. No condition beyond those that each lemma names. -/
namespace Go.Proofs.YtodokgkchmpmnaaGreat
open Go.ChangeShapes Go.WideShapes Go.ChangeAt Go.RowKit

theorem step_append_run {P : Program} {w : World} {ops : Array Oper} {o : Oper} {a : Act} {K : Act → World → Prop} {Q : Exit → Act → World → Prop} {E : Prop} (hgd : o.guard = none) (s x : Operand) (t tn : TypeId)
    (ho : o.op = .call { callee := .builtin .append, args := #[s, x], argTypes := #[t, tn] }) (vs vx : Value) (hs : a.eval s = vs) (hx : a.eval x = vx)
    (v' : Value) (w' : World) (hr : (Builtin.append_ #[t, tn] o.type #[vs, vx]).run P w = .ok v' w') (h : K (a.put o.dst v') w') :
    if Region.wanted o (yielded ops a.tmps) = true then Oper.wp P o a w K Q else E := by
  have hw : Region.wanted o (yielded ops a.tmps) = true := by simp [Region.wanted, hgd]
  rw [if_pos hw]
  exact Lib.wp_append_run w s x t tn ho vs vx hs hx v' w' hr h
end Go.Proofs.YtodokgkchmpmnaaGreat

/- Proved: lemmas of one statement's proof, merged by program: what each part proves stands ahead of it. Conditions: those that the lemmas name. -/
import Derived.Test.YtedecminaopgaaaM21
import Derived.Test.YtedecminaopgaaaM22
import Derived.Test.YtedecminaopgaaaM20
import Derived.Test.YtedecminaopgaaaM24
import Derived.Test.YtedecminaopgaaaM17
import Derived.Test.YtedecminaopgaaaM18
import Derived.Test.YtedecminaopgaaaM8
import Derived.Lib.MinMax
import Derived.Test.YtedecminaopgaaaM25

/- Plain lemmas on deeds, done by the program and by the document: what a deed turns, and what stays. No condition beyond those that each lemma names. -/
namespace Go.Proofs.Ytedecminaopgaaa
open Go.ChangeShapes Go.WideShapes Go.ChangeAt Go.RowKit

/-- the types of what a stream's own blocks hold. -/
abbrev ibTs : List TypeId := [69, 93, 9, 96, 5]
theorem Ibm.own_ty {w : World} {Y : IbY} {M : IbM} (h : Ibm w Y M) {i : Nat} (hi : Y.own i) : ∃ t, t ∈ ibTs ∧ ObTy w i t := by
  rcases hi with rfl | (rfl | e) | rfl | e
  · exact ⟨_, by simp, h.own.obty⟩
  · exact ⟨_, by simp, h.od.own.obty⟩
  · exact ⟨_, by simp, h.od.row.obty e⟩
  · exact ⟨_, by simp, h.rg.obty.1⟩
  · exact ⟨_, by simp, h.rg.obty.2 _ e⟩
/-- what is of another type stays. -/
theorem Ibm.stays {w w' : World} {Y : IbY} {M : IbM} (h : Ibm w Y M) (t : Tn Y.own w w') {g : Nat} {cur : Array Value} {ty : TypeId} {f : Nat × Nat} (hg : w.heap[g]? = some (Obj.cells cur ty f)) (hn : ty ∉ ibTs) : w'.heap[g]? = w.heap[g]? :=
  t.block g (Array.getElem?_eq_some_iff.1 hg).1 fun hi => by
    obtain ⟨τ, hτ, c, hc⟩ := h.own_ty hi
    rw [hg] at hc
    injection hc with hc
    injection hc with _ hc _
    exact hn (hc ▸ hτ)
theorem tU_not : 32 ∉ ibTs := by decide
/-- a deed. -/
abbrev dCells (kd x : Int) (s : ByteArray) (z : Int) : List Value := [.int .i64 kd, .int .u32 x, .string s, .int .i64 z]
abbrev tD : TypeId := 41
/-! ### the number behind the greatest one, deed by deed -/
end Go.Proofs.Ytedecminaopgaaa

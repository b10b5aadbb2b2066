/- Plain lemmas on a block of memory that holds one value of some type (a struct behind a pointer): what its cells hold, what a store leaves, and that other calls leave it. No condition beyond those that each lemma names. -/
import Derived.Test.YtamcpdhehipcfaaGfBase
import Derived.ArgAppend
import Derived.Below
import Derived.Deep.QuietTactic
namespace Go.Proofs.Ytamcpdhehipcfaa
open Go.ChangeShapes Go.WideShapes Go.ChangeAt Go.RowKit

/-- Block b holds the cells xs, of type t; they may be written. -/
def At (w : World) (b : Nat) (t : TypeId) (xs : List Value) : Prop := w.heap[b]? = some (.cells xs.toArray t (0, 0))
theorem At.lt {w : World} {b : Nat} {t : TypeId} {xs : List Value} (h : At w b t xs) : b < w.heap.size := (Array.getElem?_eq_some_iff.1 h).1
theorem At.cell {w : World} {b : Nat} {t : TypeId} {xs : List Value} (h : At w b t xs) (j : Nat) {v : Value} (hj : xs[j]? = some v) : w.cell? ⟨b, j, none⟩ = some v := by
  rw [cell_of_row w b j _ _ (0, 0) h]
  simpa using hj
theorem At.free {w : World} {b : Nat} {t : TypeId} {xs : List Value} (h : At w b t xs) (j : Nat) : w.frozen? ⟨b, j, none⟩ = false := by
  simp [World.frozen?, show w.heap[b]? = some (.cells xs.toArray t (0, 0)) from h]
theorem At.new (w : World) (t : TypeId) (xs : List Value) : At (w.alloc (.cells xs.toArray t)) w.heap.size t xs := heap_alloc_new w _
theorem At.block {w w' : World} {b : Nat} {t : TypeId} {xs : List Value} (h : At w b t xs) (e : w'.heap[b]? = w.heap[b]?) : At w' b t xs := e.trans h
theorem At.below {w w' : World} {B b : Nat} {t : TypeId} {xs : List Value} (h : At w b t xs) (hb : Below B w w') (hlt : b < B) : At w' b t xs := h.block (hb.block b hlt)
theorem At.kept {w w' : World} {b : Nat} {t : TypeId} {xs : List Value} (h : At w b t xs) {row : Option Nat} (hg : w.grownBy w' row) (hr : row ≠ some b) : At w' b t xs := h.block (hg.block b h.lt (fun e => hr e.symm))
theorem At.alloc {w : World} {b : Nat} {t : TypeId} {xs : List Value} (h : At w b t xs) (o : Obj) : At (w.alloc o) b t xs := h.block (Below.heap_alloc w o b h.lt)
theorem At.far {w : World} {b : Nat} {t : TypeId} {xs : List Value} (h : At w b t xs) {p : Addr} (hp : b ≠ p.block) (v : Value) : At (w.setCell p v) b t xs := h.block (Below.heap_setCell w p v b hp)
theorem At.set_ {w : World} {b : Nat} {t : TypeId} {xs : List Value} (h : At w b t xs) (j : Nat) (v : Value) : At (w.setCell ⟨b, j, none⟩ v) b t (xs.set j v) := by
  unfold At at h ⊢
  simp [World.setCell, Array.getElem?_modify, h]

theorem grown_refl (w : World) (row : Option Nat) : w.grownBy w row := ⟨rfl, rfl, rfl, Nat.le_refl _, fun _ _ _ => rfl⟩
theorem grown_trans2 {w w1 w2 : World} {row : Option Nat} (h : w.grownBy w1 row) (k : w1.grownBy w2 row) : w.grownBy w2 row :=
  ⟨k.os.trans h.os, k.tape.trans h.tape, k.output.trans h.output, Nat.le_trans h.size k.size, fun i hi hn => (k.block i (Nat.lt_of_lt_of_le hi h.size) hn).trans (h.block i hi hn)⟩
theorem grown_set (w : World) (p : Addr) (v : Value) : w.grownBy (w.setCell p v) (some p.block) :=
  ⟨rfl, rfl, rfl, by simp [World.setCell], fun i _ hn => Below.heap_setCell w p v i (fun e => hn (by rw [e]))⟩
theorem grown_drew (w : World) (row : Option Nat) : w.grownBy w.drew row := ⟨rfl, rfl, rfl, Nat.le_refl _, fun _ _ _ => rfl⟩
theorem grown_drewN (w : World) (q : Nat) (row : Option Nat) : w.grownBy (w.drewN q) row := ⟨rfl, rfl, rfl, Nat.le_refl _, fun _ _ _ => rfl⟩
theorem grown_below {w w' : World} (h : Below w.heap.size w w') (row : Option Nat) : w.grownBy w' row := ⟨h.os, h.tape, h.output, h.size, fun i hi _ => h.block i hi⟩
theorem below_grown {w w' : World} {row : Option Nat} {B : Nat} (h : w.grownBy w' row) (hB : B ≤ w.heap.size) (hr : ∀ k, row = some k → B ≤ k) : Below B w w' := (Below.refl B w).grown h hB hr
end Go.Proofs.Ytamcpdhehipcfaa

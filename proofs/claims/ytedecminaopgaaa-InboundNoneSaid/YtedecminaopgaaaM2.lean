/- Proved: lemmas of one statement's proof, merged by program: what each part proves stands ahead of it. Conditions: those that the lemmas name. -/
import Derived.Test.YtedecminaopgaaaM1
import Derived.Laws.World
import Derived.Deep.OwnRows
import Derived.Test.YtedecminaopgaaaRows
import Derived.KernelRfl
import Derived.WalkKit
import Derived.ProofKit
import Derived.LoopTactic
import Derived.Laws.BitsAllLaws
import Derived.Lib.Hide
import Derived.ArgAppend
import Derived.Below
import Derived.Deep.QuietTactic
import Derived.Deep.AppendLies
import Derived.Maps.AppendAt
import Derived.Laws.AppendOwnNone

/- Proved: what row of package vector answers for every row of bytes. Conditions: those that the theorems name. -/
namespace Go.Proofs.Ytedecminaopgaaa
open Go.ChangeShapes Go.WideShapes Go.ChangeAt Go.RowKit

theorem Try.infoByte : (Try.prog.info? 5).map (fun i => (i.zero, i.size, i.bytes)) = some (some (.int .u8 0), 1, 1) := by kernel_rfl

end Go.Proofs.Ytedecminaopgaaa

/- Plain lemmas on a new row of bytes of the call's own, all 0. No condition beyond those that each lemma names. -/
namespace Go.Proofs.Ytedecminaopgaaa
open Go.ChangeShapes Go.WideShapes Go.ChangeAt Go.RowKit

/-- a new block of n zeros. -/
theorem own_new (w : World) (n : Nat) : Own (w.alloc (.cells (madeCells #[.int .u8 0] n) 5)) w.heap.size n (List.replicate n 0) := by
  have e : ∀ r, (List.replicate n 0).getD r 0 = 0 := fun r => by
    rw [List.getD_eq_getElem?_getD, List.getElem?_replicate]
    split <;> rfl
  refine ⟨by simp, fun j => by rw [e]; decide, _, heap_alloc_new w _, fun r hr => ?_⟩
  rw [e]
  simp [madeCells, hr, Nat.mod_one]
end Go.Proofs.Ytedecminaopgaaa

/- Plain lemmas on a block of memory that holds one value of some type (a struct behind a pointer): what its cells hold, what a store leaves, and that other calls leave it. No condition beyond those that each lemma names. -/
namespace Go.Proofs.Ytedecminaopgaaa
open Go.ChangeShapes Go.WideShapes Go.ChangeAt Go.RowKit

/-- Block b holds the cells xs, of type t; they may be written. -/
def At (w : World) (b : Nat) (t : TypeId) (xs : List Value) : Prop := w.heap[b]? = some (.cells xs.toArray t (0, 0))
theorem At.lt {w : World} {b : Nat} {t : TypeId} {xs : List Value} (h : At w b t xs) : b < w.heap.size := (Array.getElem?_eq_some_iff.1 h).1
theorem At.cell {w : World} {b : Nat} {t : TypeId} {xs : List Value} (h : At w b t xs) (j : Nat) {v : Value} (hj : xs[j]? = some v) : w.cell? ⟨b, j, none⟩ = some v := by
  rw [cell_of_row w b j _ _ (0, 0) h]
  simpa using hj
theorem At.free {w : World} {b : Nat} {t : TypeId} {xs : List Value} (h : At w b t xs) (j : Nat) : w.frozen? ⟨b, j, none⟩ = false := by
  simp [World.frozen?, show w.heap[b]? = some (.cells xs.toArray t (0, 0)) from h]
theorem At.new (w : World) (t : TypeId) (xs : List Value) : At (w.alloc (.cells xs.toArray t)) w.heap.size t xs := heap_alloc_new w _
theorem At.block {w w' : World} {b : Nat} {t : TypeId} {xs : List Value} (h : At w b t xs) (e : w'.heap[b]? = w.heap[b]?) : At w' b t xs := e.trans h
theorem At.below {w w' : World} {B b : Nat} {t : TypeId} {xs : List Value} (h : At w b t xs) (hb : Below B w w') (hlt : b < B) : At w' b t xs := h.block (hb.block b hlt)
theorem At.kept {w w' : World} {b : Nat} {t : TypeId} {xs : List Value} (h : At w b t xs) {row : Option Nat} (hg : w.grownBy w' row) (hr : row ≠ some b) : At w' b t xs := h.block (hg.block b h.lt (fun e => hr e.symm))
theorem At.alloc {w : World} {b : Nat} {t : TypeId} {xs : List Value} (h : At w b t xs) (o : Obj) : At (w.alloc o) b t xs := h.block (Below.heap_alloc w o b h.lt)
theorem At.far {w : World} {b : Nat} {t : TypeId} {xs : List Value} (h : At w b t xs) {p : Addr} (hp : b ≠ p.block) (v : Value) : At (w.setCell p v) b t xs := h.block (Below.heap_setCell w p v b hp)
theorem At.set_ {w : World} {b : Nat} {t : TypeId} {xs : List Value} (h : At w b t xs) (j : Nat) (v : Value) : At (w.setCell ⟨b, j, none⟩ v) b t (xs.set j v) := by
  unfold At at h ⊢
  simp [World.setCell, Array.getElem?_modify, h]

theorem grown_refl (w : World) (row : Option Nat) : w.grownBy w row := ⟨rfl, rfl, rfl, Nat.le_refl _, fun _ _ _ => rfl⟩
theorem grown_set (w : World) (p : Addr) (v : Value) : w.grownBy (w.setCell p v) (some p.block) :=
  ⟨rfl, rfl, rfl, by simp [World.setCell], fun i _ hn => Below.heap_setCell w p v i (fun e => hn (by rw [e]))⟩
theorem grown_drew (w : World) (row : Option Nat) : w.grownBy w.drew row := ⟨rfl, rfl, rfl, Nat.le_refl _, fun _ _ _ => rfl⟩
theorem grown_drewN (w : World) (q : Nat) (row : Option Nat) : w.grownBy (w.drewN q) row := ⟨rfl, rfl, rfl, Nat.le_refl _, fun _ _ _ => rfl⟩
end Go.Proofs.Ytedecminaopgaaa

/- Plain lemmas on what turns in memory. No condition beyond those that each lemma names. -/
namespace Go.Proofs.Ytedecminaopgaaa
open Go.ChangeShapes Go.WideShapes Go.ChangeAt Go.RowKit

/-! ### what turns -/
/-- Of what was there nothing has turned but blocks for which c holds. -/
structure Tn (c : Nat → Prop) (w w' : World) : Prop where
  os : w'.os = w.os
  tape : w'.tape = w.tape
  output : w'.output = w.output
  size : w.heap.size ≤ w'.heap.size
  block : ∀ i, i < w.heap.size → ¬ c i → w'.heap[i]? = w.heap[i]?
theorem Tn.refl (c : Nat → Prop) (w : World) : Tn c w w := ⟨rfl, rfl, rfl, Nat.le_refl _, fun _ _ _ => rfl⟩
theorem Tn.trans' {c d : Nat → Prop} {w w1 w2 : World} (h : Tn c w w1) (k : Tn d w1 w2) (hd : ∀ i, i < w.heap.size → d i → c i) : Tn c w w2 :=
  ⟨k.os.trans h.os, k.tape.trans h.tape, k.output.trans h.output, Nat.le_trans h.size k.size, fun i hi hn => (k.block i (Nat.lt_of_lt_of_le hi h.size) (fun e => hn (hd i hi e))).trans (h.block i hi hn)⟩
theorem Tn.trans {c : Nat → Prop} {w w1 w2 : World} (h : Tn c w w1) (k : Tn c w1 w2) : Tn c w w2 := h.trans' k fun _ _ e => e
theorem Tn.mono {c d : Nat → Prop} {w w' : World} (h : Tn c w w') (hd : ∀ i, i < w.heap.size → c i → d i) : Tn d w w' :=
  ⟨h.os, h.tape, h.output, h.size, fun i hi hn => h.block i hi (fun e => hn (hd i hi e))⟩
theorem tn_below {w w' : World} (c : Nat → Prop) (h : Below w.heap.size w w') : Tn c w w' := ⟨h.os, h.tape, h.output, h.size, fun i hi _ => h.block i hi⟩
theorem tn_grown {w w' : World} {c : Nat → Prop} {row : Option Nat} (h : w.grownBy w' row) (hr : ∀ g, row = some g → c g) : Tn c w w' := ⟨h.os, h.tape, h.output, h.size, fun i hi hn => h.block i hi (fun e => hn (hr i e.symm))⟩
theorem Tn.below {c : Nat → Prop} {w0 w w' : World} {B : Nat} (h : Tn c w w') (k : Below B w0 w) (hs : B ≤ w.heap.size) (hb : ∀ i, i < B → ¬ c i) : Below B w0 w' :=
  k.trans ⟨h.os, h.tape, h.output, by have := h.size; omega, fun i hi => h.block i (by omega) (hb i hi)⟩
theorem Tn.drew {c : Nat → Prop} {w w' : World} (h : Tn c w w') : Tn c w w'.drew := h.trans (tn_grown (grown_drew w' none) (by simp))
theorem Tn.drewN {c : Nat → Prop} {w w' : World} (h : Tn c w w') (q : Nat) : Tn c w (w'.drewN q) := h.trans (tn_grown (grown_drewN w' q none) (by simp))
theorem Tn.alloc {c : Nat → Prop} {w w' : World} (h : Tn c w w') (o : Obj) : Tn c w (w'.alloc o) := h.trans (tn_below c ((Below.refl _ _).alloc (Nat.le_refl _) o))
theorem Tn.set {c : Nat → Prop} {w w' : World} (h : Tn c w w') (p : Addr) (v : Value) (hp : p.block < w.heap.size → c p.block) : Tn c w (w'.setCell p v) :=
  h.trans' (tn_grown (c := fun i => i = p.block) (grown_set w' p v) (fun g e => by injection e with e; exact e.symm)) fun i hi e => by
    have e : i = p.block := e
    rw [e]; exact hp (by rw [← e]; exact hi)
theorem At.tn {c : Nat → Prop} {w w' : World} {b : Nat} {t : TypeId} {xs : List Value} (h : At w b t xs) (k : Tn c w w') (hc : ¬ c b) : At w' b t xs := h.block (k.block b h.lt hc)
/-- nothing at all. -/
abbrev Nil : Nat → Prop := fun _ => False

theorem bel_drewN {B : Nat} {w w' : World} (h : Below B w w') (hs : B ≤ w.heap.size) (q : Nat) : Below B w (w'.drewN q) := h.grown (grown_drewN _ _ none) (Nat.le_trans hs h.size) (by simp)
end Go.Proofs.Ytedecminaopgaaa

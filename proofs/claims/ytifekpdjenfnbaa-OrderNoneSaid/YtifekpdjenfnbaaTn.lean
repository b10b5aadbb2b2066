/- Plain lemmas on what turns in memory. No condition beyond those that each lemma names. -/
import Derived.Test.YtifekpdjenfnbaaObj
import Derived.Deep.OwnRows
import Derived.Deep.AppendLies
import Derived.Maps.AppendAt
import Derived.Laws.AppendOwnNone
namespace Go.Proofs.Ytifekpdjenfnbaa
open Go.ChangeShapes Go.WideShapes Go.ChangeAt Go.RowKit

/-! ### what turns -/
/-- Of what was there nothing has turned but blocks for which c holds. -/
structure Tn (c : Nat → Prop) (w w' : World) : Prop where
  os : w'.os = w.os
  tape : w'.tape = w.tape
  output : w'.output = w.output
  size : w.heap.size ≤ w'.heap.size
  block : ∀ i, i < w.heap.size → ¬ c i → w'.heap[i]? = w.heap[i]?
theorem Tn.refl (c : Nat → Prop) (w : World) : Tn c w w := ⟨rfl, rfl, rfl, Nat.le_refl _, fun _ _ _ => rfl⟩
theorem Tn.trans' {c d : Nat → Prop} {w w1 w2 : World} (h : Tn c w w1) (k : Tn d w1 w2) (hd : ∀ i, i < w.heap.size → d i → c i) : Tn c w w2 :=
  ⟨k.os.trans h.os, k.tape.trans h.tape, k.output.trans h.output, Nat.le_trans h.size k.size, fun i hi hn => (k.block i (Nat.lt_of_lt_of_le hi h.size) (fun e => hn (hd i hi e))).trans (h.block i hi hn)⟩
theorem Tn.trans {c : Nat → Prop} {w w1 w2 : World} (h : Tn c w w1) (k : Tn c w1 w2) : Tn c w w2 := h.trans' k fun _ _ e => e
theorem Tn.mono {c d : Nat → Prop} {w w' : World} (h : Tn c w w') (hd : ∀ i, i < w.heap.size → c i → d i) : Tn d w w' :=
  ⟨h.os, h.tape, h.output, h.size, fun i hi hn => h.block i hi (fun e => hn (hd i hi e))⟩
theorem tn_below {w w' : World} (c : Nat → Prop) (h : Below w.heap.size w w') : Tn c w w' := ⟨h.os, h.tape, h.output, h.size, fun i hi _ => h.block i hi⟩
theorem tn_grown {w w' : World} {c : Nat → Prop} {row : Option Nat} (h : w.grownBy w' row) (hr : ∀ g, row = some g → c g) : Tn c w w' := ⟨h.os, h.tape, h.output, h.size, fun i hi hn => h.block i hi (fun e => hn (hr i e.symm))⟩
theorem Tn.below {c : Nat → Prop} {w0 w w' : World} {B : Nat} (h : Tn c w w') (k : Below B w0 w) (hs : B ≤ w.heap.size) (hb : ∀ i, i < B → ¬ c i) : Below B w0 w' :=
  k.trans ⟨h.os, h.tape, h.output, by have := h.size; omega, fun i hi => h.block i (by omega) (hb i hi)⟩
theorem Tn.drew {c : Nat → Prop} {w w' : World} (h : Tn c w w') : Tn c w w'.drew := h.trans (tn_grown (grown_drew w' none) (by simp))
theorem Tn.drewN {c : Nat → Prop} {w w' : World} (h : Tn c w w') (q : Nat) : Tn c w (w'.drewN q) := h.trans (tn_grown (grown_drewN w' q none) (by simp))
theorem Tn.alloc {c : Nat → Prop} {w w' : World} (h : Tn c w w') (o : Obj) : Tn c w (w'.alloc o) := h.trans (tn_below c ((Below.refl _ _).alloc (Nat.le_refl _) o))
theorem Tn.set {c : Nat → Prop} {w w' : World} (h : Tn c w w') (p : Addr) (v : Value) (hp : p.block < w.heap.size → c p.block) : Tn c w (w'.setCell p v) :=
  h.trans' (tn_grown (c := fun i => i = p.block) (grown_set w' p v) (fun g e => by injection e with e; exact e.symm)) fun i hi e => by
    have e : i = p.block := e
    rw [e]; exact hp (by rw [← e]; exact hi)
theorem At.tn {c : Nat → Prop} {w w' : World} {b : Nat} {t : TypeId} {xs : List Value} (h : At w b t xs) (k : Tn c w w') (hc : ¬ c b) : At w' b t xs := h.block (k.block b h.lt hc)
/-- nothing at all. -/
abbrev Nil : Nat → Prop := fun _ => False

theorem below_drewN {B : Nat} {w w' : World} (h : Below B w w') (hs : B ≤ w.heap.size) (q : Nat) : Below B w (w'.drewN q) := h.grown (grown_drewN _ _ none) (Nat.le_trans hs h.size) (by simp)
end Go.Proofs.Ytifekpdjenfnbaa

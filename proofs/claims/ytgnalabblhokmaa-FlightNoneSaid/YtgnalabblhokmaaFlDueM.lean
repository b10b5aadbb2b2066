/- Plain lemmas on what is due, and on a flight whose row's address is known. No condition beyond those that each lemma names. -/
import Derived.Test.YtgnalabblhokmaaFlBody
import Derived.Test.YtgnalabblhokmaaWinMem
namespace Go.Proofs.Ytgnalabblhokmaa
open Go.ChangeShapes Go.WideShapes Go.ChangeAt Go.RowKit

/-! ### what is due -/
/-- one block: is it due, its number is told and it counts as sent now. -/
def dueS (nx : Int) (k : Nat) (c now : Int) (s : List Bl × List Int) (i : Nat) : List Bl × List Int :=
  if (s.1.getD i bl0).at_ ≤ c then (s.1.set i { s.1.getD i bl0 with at_ := now }, s.2 ++ [fno nx k i]) else s
def dueF (nx : Int) (k : Nat) (c now : Int) (L : List Bl) (pre : List Nat) : List Bl × List Int := pre.foldl (dueS nx k c now) (L, [])
theorem dueF_snoc (nx : Int) (k : Nat) (c now : Int) (L : List Bl) (pre : List Nat) (i : Nat) : dueF nx k c now L (pre ++ [i]) = dueS nx k c now (dueF nx k c now L pre) i := by
  unfold dueF
  rw [List.foldl_append]
  rfl
theorem dueS_len (nx : Int) (k : Nat) (c now : Int) (s : List Bl × List Int) (i : Nat) : (dueS nx k c now s i).1.length = s.1.length ∧ (dueS nx k c now s i).2.length ≤ s.2.length + 1 := by
  unfold dueS
  split
  · simp
  · exact ⟨rfl, Nat.le_succ _⟩
theorem dueF_len (nx : Int) (k : Nat) (c now : Int) (L : List Bl) (pre : List Nat) : (dueF nx k c now L pre).1.length = L.length ∧ (dueF nx k c now L pre).2.length ≤ pre.length := by
  obtain ⟨m, hm⟩ : ∃ m, pre.length = m := ⟨_, rfl⟩
  induction m generalizing pre with
  | zero =>
    obtain rfl := List.eq_nil_of_length_eq_zero hm
    exact ⟨rfl, Nat.le_refl _⟩
  | succ m ih =>
    obtain ⟨q, i, rfl⟩ : ∃ q i, pre = q ++ [i] := ⟨pre.dropLast, pre.getLast (by intro e; rw [e] at hm; simp at hm), (List.dropLast_concat_getLast _).symm⟩
    rw [List.length_append] at hm
    have h := ih q (by simpa using hm)
    have h2 := dueS_len nx k c now (dueF nx k c now L q) i
    rw [dueF_snoc, List.length_append]
    refine ⟨h2.1.trans h.1, ?_⟩
    have := h2.2
    simp
    omega
theorem fin_vals (k : Nat) : (List.finRange k).map Fin.val = List.range k := by
  apply List.ext_getElem
  · simp
  · intro i h1 h2
    simp
/-- what Due answers, and what becomes of the blocks. -/
def dueOk (now wait : Int) : Bool := timeB now && timeB wait
def dueL (nx : Int) (now wait : Int) (L : List Bl) : List Bl × List Int :=
  if dueOk now wait = true then dueF nx L.length (now - wait) now L (List.range L.length) else (L, [])

/-! ### what turns -/
theorem tn_at (B : Nat) {W W' : World} (h : Below B W W') : Tn (fun i => B ≤ i) W W' := ⟨h.os, h.tape, h.output, h.size, fun i _ hn => h.block i (by omega)⟩
theorem tn_own {c : Nat → Prop} {w W W' : World} {row : Option Nat} {B : Nat} (h : Tn c w W) (hg : W.grownBy W' row) (hr : ∀ i, row = some i → B ≤ i) (hB : w.heap.size ≤ B) : Tn c w W' :=
  ⟨hg.os.trans h.os, hg.tape.trans h.tape, hg.output.trans h.output, Nat.le_trans h.size hg.size, fun i hi hn => (hg.block i (by have := h.size; omega) (fun e => by have := hr i e.symm; omega)).trans (h.block i hi hn)⟩

/-! ### a flight whose row's address is known -/
section
variable {w w' : World} {f g o cap : Nat} {wd nx : Int} {r : Option Nat} {L : List Bl}
theorem Fl.lits (h : Fl w f wd nx r (.slice (some ⟨g, o, none⟩) L.length cap) L) (hn : 0 < L.length) : r = some g := by
  obtain ⟨g', o', cap', h1, h2, _⟩ := h.place (i := 0) hn
  injection h2 with e2; injection e2 with e2; injection e2 with e2 _
  rw [e2]; exact h1
theorem Fl.lit {i : Nat} (h : Fl w f wd nx r (.slice (some ⟨g, o, none⟩) L.length cap) L) (hi : i < L.length) :
    r = some g ∧ g < w.heap.size ∧ (∀ j u, (L.getD i bl0).cells[j]? = some u → w.cell? ⟨g, o + i * 3 + j, none⟩ = some u) ∧ ∀ j, w.frozen? ⟨g, j, none⟩ = false := by
  obtain ⟨g', o', cap', h1, h2, _, h3, h4, h5⟩ := h.place hi
  injection h2 with e2; injection e2 with e2; injection e2 with e2 e3
  subst e2; subst e3
  exact ⟨h1, h3, fun j u hj => by rw [Nat.add_assoc]; exact h4 j u hj, h5⟩
end

/-- a piece of code that comes to one end, whatever its order: walk it once more behind that end alone. -/
def OneAt (A : Act) (W : World) : Exit → Act → World → Prop
  | .normal, a, w => a = A ∧ w = W
  | _, _, _ => False
theorem wpIn_one {F : Fence} {n : Nat} {P : Program} {c : Code} {Q : Exit → Act → World → Prop} {a : Act} {w : World} {A : Act} {W' : World} (h : c.wpIn F n P (OneAt A W') a w) (k : Q .normal A W') : c.wpIn F n P Q a w :=
  wpIn_mono h (fun e a w g => by
    cases e with
    | normal => obtain ⟨rfl, rfl⟩ := g; exact k
    | _ => exact g.elim)
/-- the same, where the world's own words are known alone. -/
def OneP (A : Act) (p : World → Prop) : Exit → Act → World → Prop
  | .normal, a, w => a = A ∧ p w
  | _, _, _ => False
theorem wpIn_oneP {F : Fence} {n : Nat} {P : Program} {c : Code} {Q : Exit → Act → World → Prop} {a : Act} {w : World} {A : Act} {p : World → Prop} (h : c.wpIn F n P (OneP A p) a w) (k : ∀ w', p w' → Q .normal A w') : c.wpIn F n P Q a w :=
  wpIn_mono h (fun e a w g => by
    cases e with
    | normal => obtain ⟨rfl, g⟩ := g; exact k w g
    | _ => exact g.elim)
end Go.Proofs.Ytgnalabblhokmaa

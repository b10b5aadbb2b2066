/- Proved: lemmas of one statement's proof, merged by program: what each part proves stands ahead of it. Conditions: those that the lemmas name. -/
import Derived.Test.YtedecminaopgaaaRows
import Derived.KernelRfl
import Derived.WalkKit
import Derived.ProofKit
import Derived.LoopTactic
import Derived.Laws.BitsAllLaws
import Derived.Lib.Hide
import Derived.ArgAppend
import Derived.Below
import Derived.Laws.World
import Derived.Deep.OwnRows
import Derived.Laws.BytesArg
import Derived.Laws.IdiomStrings
import Derived.Deep.QuietTactic

/- Plain lemmas on memory that holds a row of bytes: a slice that reads as a list of numbers below 256, and a block of the call's own that holds one. No condition beyond those that each lemma names. -/
namespace Go.Proofs.Ytedecminaopgaaa
open Go.ChangeShapes Go.WideShapes Go.ChangeAt Go.RowKit

theorem add_block (a : Addr) (n : Nat) : (a.add n).block = a.block := by unfold Addr.add; split <;> rfl

/-- The slice value with address A and length n holds the bytes l, in memory that is there. -/
def Bs (w : World) (A : Option Addr) (n : Nat) (l : List Nat) : Prop :=
  l.length = n ∧ (∀ j, l.getD j 0 < 256) ∧ (0 < n → ∃ ad, A = some ad ∧ ad.block < w.heap.size ∧ ∀ j, j < n → w.cell? (ad.add j) = some (.int .u8 (l.getD j 0 : Nat)))

theorem getD_lt {l : List Nat} (h : ∀ x ∈ l, x < 256) (j : Nat) : l.getD j 0 < 256 := by
  rw [List.getD_eq_getElem?_getD]
  cases e : l[j]? with
  | none => exact (by decide : 0 < 256)
  | some x => exact h x (List.mem_of_getElem? e)
theorem mem_lt {l : List Nat} (h : ∀ j, l.getD j 0 < 256) : ∀ x ∈ l, x < 256 := by
  intro x hx
  obtain ⟨j, hj, rfl⟩ := List.getElem_of_mem hx
  have := h j
  rwa [List.getD_eq_getElem?_getD, List.getElem?_eq_getElem hj] at this

theorem Bs.nil (w : World) (A : Option Addr) : Bs w A 0 [] := ⟨rfl, fun j => by simp, fun h => absurd h (by omega)⟩
theorem Bs.len {w : World} {A : Option Addr} {n : Nat} {l : List Nat} (h : Bs w A n l) : l.length = n := h.1
theorem Bs.lt {w : World} {A : Option Addr} {n : Nat} {l : List Nat} (h : Bs w A n l) (j : Nat) : l.getD j 0 < 256 := h.2.1 j
theorem Bs.at_ {w : World} {A : Option Addr} {n : Nat} {l : List Nat} (h : Bs w A n l) {k : Nat} (hk : k < n) :
    ∃ ad, A = some ad ∧ ad.block < w.heap.size ∧ w.cell? (ad.add k) = some (.int .u8 (l.getD k 0 : Nat)) := by
  obtain ⟨ad, e, hb, hc⟩ := h.2.2 (by omega)
  exact ⟨ad, e, hb, hc k hk⟩
theorem Bs.below {w w' : World} {A : Option Addr} {n : Nat} {l : List Nat} (h : Bs w A n l) (hb : Below w.heap.size w w') : Bs w' A n l := by
  refine ⟨h.1, h.2.1, fun hn => ?_⟩
  obtain ⟨ad, e, hlt, hc⟩ := h.2.2 hn
  exact ⟨ad, e, Nat.lt_of_lt_of_le hlt hb.size, fun j hj => (hb.cell (p := ad.add j) (by rw [add_block]; exact hlt)).trans (hc j hj)⟩

/-- Block g is a row of the call's own, whose first n cells are the bytes l. -/
def Own (w : World) (g n : Nat) (l : List Nat) : Prop :=
  l.length = n ∧ (∀ j, l.getD j 0 < 256) ∧ ∃ cur, w.heap[g]? = some (.cells cur 5 (0, 0)) ∧ ∀ j, j < n → cur[j]? = some (.int .u8 (l.getD j 0 : Nat))

theorem Own.block_lt {w : World} {g n : Nat} {l : List Nat} (h : Own w g n l) : g < w.heap.size := by
  obtain ⟨_, _, cur, hc, _⟩ := h
  exact (Array.getElem?_eq_some_iff.1 hc).1
theorem Own.cell {w : World} {g n : Nat} {l : List Nat} (h : Own w g n l) {j : Nat} (hj : j < n) : w.cell? ⟨g, j, none⟩ = some (.int .u8 (l.getD j 0 : Nat)) := by
  obtain ⟨_, _, cur, hc, hr⟩ := h
  rw [cell_of_row w g j cur _ (0, 0) hc]
  exact hr j hj
theorem Own.bs {w : World} {g n : Nat} {l : List Nat} (h : Own w g n l) : Bs w (some ⟨g, 0, none⟩) n l :=
  ⟨h.1, h.2.1, fun _ => ⟨_, rfl, h.block_lt, fun j hj => by
    have e : (⟨g, 0, none⟩ : Addr).add j = ⟨g, j, none⟩ := by unfold Addr.add; split <;> simp_all
    rw [e]; exact h.cell hj⟩⟩

def cells (l : List Nat) : List Value := l.map fun x => Value.int .u8 (x : Nat)
theorem cells_at (l : List Nat) (j : Nat) (hj : j < l.length) : (cells l)[j]? = some (.int .u8 (l.getD j 0 : Nat)) := by
  unfold cells
  rw [List.getElem?_map, List.getElem?_eq_getElem hj, List.getD_eq_getElem?_getD, List.getElem?_eq_getElem hj]; rfl
theorem cells_len (l : List Nat) : (cells l).length = l.length := by unfold cells; rw [List.length_map]
theorem cells_one (l : List Nat) : ∀ u ∈ cells l, u.oneCell' = true := by
  intro u hu
  unfold cells at hu
  obtain ⟨x, _, rfl⟩ := List.mem_map.1 hu
  rfl
/-- What an append of a whole row asks of its source. -/
theorem Bs.source {w : World} {ad : Addr} {n : Nat} {l : List Nat} (h : Bs w (some ad) n l) : ∀ j u, (cells l)[j]? = some u → w.cell? (ad.add j) = some u := by
  intro j u hu
  have hj : j < l.length := by
    have := (List.getElem?_eq_some_iff.1 hu).1
    rwa [cells_len] at this
  obtain ⟨ad', e, _, hc⟩ := h.2.2 (by rw [← h.1]; omega)
  injection e with e
  subst e
  rw [cells_at l j hj] at hu
  rw [← hu]
  exact hc j (by rw [← h.1]; exact hj)
end Go.Proofs.Ytedecminaopgaaa

/- Plain lemmas on rows of bytes as lists of numbers: sums, multiples, products. No condition beyond those that each lemma names. -/
namespace Go.Proofs.Ytedecminaopgaaa

theorem ext_at {l l' : List Nat} {n : Nat} (h1 : l.length = n) (h2 : l'.length = n) (h : ∀ j, j < n → l.getD j 0 = l'.getD j 0) : l = l' := by
  apply List.ext_getElem
  · rw [h1, h2]
  · intro j hj hj'
    have := h j (by omega)
    rw [List.getD_eq_getElem?_getD, List.getD_eq_getElem?_getD, List.getElem?_eq_getElem hj, List.getElem?_eq_getElem hj'] at this
    exact this
end Go.Proofs.Ytedecminaopgaaa

/- Plain lemmas on strings as lists of numbers below 256, on slices of strings in memory, and on strings turned into bytes and back. No condition beyond those that each lemma names. -/
namespace Go.Proofs.Ytedecminaopgaaa
open Go.ChangeShapes Go.WideShapes Go.ChangeAt Go.RowKit

/-! ### strings -/
def bts (s : ByteArray) : List Nat := s.data.toList.map UInt8.toNat
def tx (l : List Nat) : ByteArray := ⟨(l.map UInt8.ofNat).toArray⟩
theorem bts_len (s : ByteArray) : (bts s).length = s.size := by unfold bts; rw [List.length_map]; rfl
theorem bts_lt (s : ByteArray) : ∀ j, (bts s).getD j 0 < 256 := getD_lt fun x hx => by
  unfold bts at hx
  obtain ⟨b, _, rfl⟩ := List.mem_map.1 hx
  exact b.toNat_lt
theorem tx_bts (s : ByteArray) : tx (bts s) = s := by
  unfold tx bts
  rw [List.map_map]
  have : (UInt8.ofNat ∘ UInt8.toNat) = id := by funext b; simp
  rw [this, List.map_id]
theorem bts_inj {s s' : ByteArray} (h : bts s = bts s') : s = s' := by rw [← tx_bts s, h, tx_bts]

abbrev S0 : ByteArray := ByteArray.empty
/-- text j of some. -/
def st_ (l : List ByteArray) (j : Nat) : ByteArray := l.getD j S0
theorem st_at {l : List ByteArray} {j : Nat} (h : j < l.length) : st_ l j = l[j] := by
  unfold st_
  rw [List.getD_eq_getElem?_getD, List.getElem?_eq_getElem h]; rfl
/-! ### slices of strings -/
/-- texts as cells. -/
def scells (l : List ByteArray) : List Value := l.map Value.string
theorem scells_at (l : List ByteArray) (j : Nat) (hj : j < l.length) : (scells l)[j]? = some (.string (st_ l j)) := by
  unfold scells
  rw [List.getElem?_map, List.getElem?_eq_getElem hj, st_at hj]; rfl
/-! ### strings and their bytes in memory -/
theorem convert_back (w : World) (A : Option Addr) (m c : Nat) (l : List Nat) (h : Bs w A m l) (h0 : 0 < m) :
    (convert 94 9 (.slice A m c)).run Try.prog w = .ok (.string (tx l)) w := by
  obtain ⟨ad, rfl, _⟩ := h.at_ h0
  have hl := h.len
  have e : m = (l.map UInt8.ofNat).length := by rw [List.length_map, hl]
  rw [e]
  refine run_convert_bytes_back w 94 9 5 ad c (l.map UInt8.ofNat) Try.underlying94 Try.underlying5 Try.underlying9 fun j hj => ?_
  rw [List.length_map] at hj
  obtain ⟨ad', e', _, hc⟩ := h.at_ (k := j) (by omega)
  injection e' with e'
  subst e'
  have hb := h.lt j
  rw [hc]
  have : (l.map UInt8.ofNat)[j].toNat = l.getD j 0 := by
    rw [List.getElem_map, List.getD_eq_getElem?_getD, List.getElem?_eq_getElem hj]
    rw [List.getD_eq_getElem?_getD, List.getElem?_eq_getElem hj] at hb
    have hb' : l[j] < 256 := hb
    simp; omega
  rw [this]
/-! ### more on memory -/
theorem Try.infoString : (Try.prog.info? 9).map (fun i => (i.zero, i.size, i.bytes)) = some (some (.string S0), 1, 16) := by kernel_rfl
theorem list_ne {s t : ByteArray} (h : s ≠ t) : (s.toList == t.toList) = false := by
  rw [Bool.eq_false_iff]
  intro e
  have e := eq_of_beq e
  rw [ByteArray.toList_eq, ByteArray.toList_eq] at e
  refine h (bts_inj ?_)
  unfold bts
  rw [e]

theorem two_drawn {w w' : World} {B : Nat} (h : ∃ q, w' = w.drewN q) : Below B w w' := by
  obtain ⟨q, rfl⟩ := h
  exact ⟨rfl, rfl, rfl, Nat.le_refl _, fun _ _ => rfl⟩
end Go.Proofs.Ytedecminaopgaaa

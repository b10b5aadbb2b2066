/- Proved: lemmas of one statement's proof, merged by program: what each part proves stands ahead of it. Conditions: those that the lemmas name. -/
import Derived.Test.YtmnbkghihdbepaaM3
import Derived.Test.YtmnbkghihdbepaaM31

/- Plain lemmas on a row of bytes that a call made of a text: what it holds, what a store leaves, and what it reads as. No condition beyond those that each lemma names. -/
namespace Go.Proofs.Ytmnbkghihdbepaa
open Go.ChangeShapes Go.WideShapes Go.ChangeAt Go.RowKit

/-- Block g is a row of the call's own, made of a text, whose first n cells are the bytes l. -/
def OwnC (w : World) (g n : Nat) (l : List Nat) : Prop :=
  l.length = n ∧ (∀ j, l.getD j 0 < 256) ∧ ∃ (cur : Array Value) (m : Nat), w.heap[g]? = some (.cells cur 5 (m, m + 1)) ∧ n ≤ m ∧ ∀ j, j < n → cur[j]? = some (.int .u8 (l.getD j 0 : Nat))
theorem OwnC.lt {w : World} {g n : Nat} {l : List Nat} (h : OwnC w g n l) : g < w.heap.size := by
  obtain ⟨_, _, cur, m, hc, _⟩ := h
  exact (Array.getElem?_eq_some_iff.1 hc).1
theorem OwnC.cell {w : World} {g n : Nat} {l : List Nat} (h : OwnC w g n l) {j : Nat} (hj : j < n) : w.cell? ⟨g, j, none⟩ = some (.int .u8 (l.getD j 0 : Nat)) := by
  obtain ⟨_, _, cur, m, hc, _, hr⟩ := h
  rw [cell_of_row w g j cur _ (m, m + 1) hc]
  exact hr j hj
theorem OwnC.frozen {w : World} {g n : Nat} {l : List Nat} (h : OwnC w g n l) {j : Nat} (hj : j < n) : w.frozen? ⟨g, j, none⟩ = false := by
  obtain ⟨_, _, cur, m, hc, hm, _⟩ := h
  simp [World.frozen?, hc]
  omega
theorem OwnC.set_ {w : World} {g n : Nat} {l : List Nat} (h : OwnC w g n l) {j x : Nat} (hj : j < n) (hx : x < 256) : OwnC (w.setCell ⟨g, j, none⟩ (.int .u8 (x : Nat))) g n (l.set j x) := by
  obtain ⟨hl, hb, cur, m, hc, hm, hr⟩ := h
  have hget : ∀ i, (l.set j x).getD i 0 = if j = i then x else l.getD i 0 := by
    intro i
    rw [List.getD_eq_getElem?_getD, List.getElem?_set]
    by_cases e : j = i
    · rw [if_pos e, if_pos e, if_pos (by omega)]; rfl
    · rw [if_neg e, if_neg e, ← List.getD_eq_getElem?_getD]
  refine ⟨by rw [List.length_set, hl], fun i => ?_, cur.setIfInBounds j (.int .u8 (x : Nat)), m, ?_, hm, fun i hi => ?_⟩
  · rw [hget]; split
    · exact hx
    · exact hb i
  · simp [World.setCell, Array.getElem?_modify, hc]
  · rw [hget, Array.getElem?_setIfInBounds]
    have hsz : i < cur.size := (Array.getElem?_eq_some_iff.1 (hr i hi)).1
    by_cases e : j = i
    · rw [if_pos e, if_pos e, if_pos (by omega)]
    · rw [if_neg e, if_neg e]; exact hr i hi
theorem OwnC.bs {w : World} {g n : Nat} {l : List Nat} (h : OwnC w g n l) : Bs w (some ⟨g, 0, none⟩) n l :=
  ⟨h.1, h.2.1, fun _ => ⟨_, rfl, h.lt, fun j hj => by
    have e : (⟨g, 0, none⟩ : Addr).add j = ⟨g, j, none⟩ := by unfold Addr.add; split <;> simp_all
    rw [e]; exact h.cell hj⟩⟩
theorem OwnC.below {w w' : World} {B g n : Nat} {l : List Nat} (h : OwnC w g n l) (hb : Below B w w') (hg : g < B) : OwnC w' g n l := by
  obtain ⟨hl, hx, cur, m, hc, hm, hr⟩ := h
  exact ⟨hl, hx, cur, m, (hb.block g hg).trans hc, hm, hr⟩
/-- a text turned into bytes: a new row of the call's own. -/
theorem convert_own (w : World) (s : ByteArray) : ∃ cap W', s.size ≤ cap ∧ (convert 9 60 (.string s)).run Try.prog w = .ok (.slice (some ⟨w.heap.size, 0, none⟩) s.size cap) W' ∧ OwnC W' w.heap.size s.size (bts s) ∧ Below w.heap.size w W' := by
  refine ⟨_, _, grownCap_ge w s.size 0 5, run_bytes_of_string w 9 60 5 s Try.underlying9 Try.underlying60 Try.underlying5, ⟨bts_len s, bts_lt s, _, _, heap_alloc_new w.drew _, ?_, fun j hj => ?_⟩, ((Below.refl _ _).drew).alloc (by simp) _⟩
  · unfold bytesRow
    rw [Array.size_append, Array.size_map]
    show s.size ≤ s.data.size + _
    have : s.data.size = s.size := rfl
    omega
  · have hj' : j < s.data.size := hj
    unfold bytesRow bts
    rw [Array.getElem?_append_left (by simpa using hj'), Array.getElem?_map, Array.getElem?_eq_getElem hj', List.getD_eq_getElem?_getD, List.getElem?_map, Array.getElem?_toList, Array.getElem?_eq_getElem hj']
    rfl
end Go.Proofs.Ytmnbkghihdbepaa

/- Proved: what one, few and awake of the law package answer. Conditions: those that the theorems name. -/
namespace Go.Proofs.Ytmnbkghihdbepaa
open Go.ChangeShapes Go.WideShapes Go.ChangeAt Go.RowKit

/-- is a datagram not too great? -/
def fewB (d : Dg) : Bool := decide ((d.body.size : Int) ≤ 1100 ∧ (d.has.size : Int) ≤ 100)
/-- A value comes back; nothing that was there has turned. -/
def GivesV (W : World) (v : Value) (e : Ending) (w' : World) : Prop := e = .returned v ∧ Below W.heap.size W w'
abbrev t20 : ByteArray := ⟨#[76, 83, 1, 3, 0, 0, 0, 7, 1, 2, 3, 0, 4, 97, 98, 99, 38, 1, 108, 195]⟩
abbrev t20b : ByteArray := ⟨#[76, 83, 1, 3, 0, 0, 0, 7, 1, 2, 3, 0, 4, 97, 98, 99, 38, 1, 108, 194]⟩
abbrev t12 : ByteArray := ⟨#[76, 83, 5, 3, 0, 0, 0, 7, 128, 36, 133, 33]⟩
theorem chk_one : chk ⟨1, 3, 7, 1, 2, 3, 5, 0, ⟨#[]⟩, ⟨#[97, 98, 99]⟩⟩ = 0 := by decide +kernel
theorem full_one : fullS ⟨1, 3, 7, 1, 2, 3, 5, 0, ⟨#[]⟩, ⟨#[97, 98, 99]⟩⟩ = t20 := by decide +kernel
theorem chk_fin : chk ⟨5, 3, 7, 0, 0, 0, 0, 0, ⟨#[]⟩, ⟨#[]⟩⟩ = 0 := by decide +kernel
theorem full_fin : fullS ⟨5, 3, 7, 0, 0, 0, 0, 0, ⟨#[]⟩, ⟨#[]⟩⟩ = t12 := by decide +kernel
theorem awake_x (w : World) : Calls Try.prog 28 #[.agg #[.int .i64 1, .int .i64 3, .int .u32 7, .int .i64 2, .int .i64 2, .int .i64 3, .int .i64 5, .int .i64 0, .string ⟨#[]⟩, .string ⟨#[97, 98, 99]⟩]] w (GivesV w (.int .i64 2)) := by
  have h := dcheck_any ⟨1, 3, 7, 2, 2, 3, 5, 0, ⟨#[]⟩, ⟨#[97, 98, 99]⟩⟩ w (by decide)
  rw [show chk ⟨1, 3, 7, 2, 2, 3, 5, 0, ⟨#[]⟩, ⟨#[97, 98, 99]⟩⟩ = 2 by decide +kernel] at h
  exact h
theorem awake_y (w : World) : Calls Try.prog 28 #[.agg #[.int .i64 1, .int .i64 3, .int .u32 7, .int .i64 1, .int .i64 2, .int .i64 3, .int .i64 5, .int .i64 0, .string ⟨#[120]⟩, .string ⟨#[97, 98, 99]⟩]] w (GivesV w (.int .i64 5)) := by
  have h := dcheck_any ⟨1, 3, 7, 1, 2, 3, 5, 0, ⟨#[120]⟩, ⟨#[97, 98, 99]⟩⟩ w (by decide)
  rw [show chk ⟨1, 3, 7, 1, 2, 3, 5, 0, ⟨#[120]⟩, ⟨#[97, 98, 99]⟩⟩ = 5 by decide +kernel] at h
  exact h
theorem awake_z (w : World) : Calls Try.prog 28 #[.agg #[.int .i64 0, .int .i64 0, .int .u32 0, .int .i64 0, .int .i64 0, .int .i64 0, .int .i64 0, .int .i64 0, .string ⟨#[]⟩, .string ⟨#[]⟩]] w (GivesV w (.int .i64 1)) := by
  have h := dcheck_any dg0 w (by decide)
  rw [show chk dg0 = 1 by decide +kernel] at h
  exact h
theorem awake_eq (W : World) : (binOp .eql 29 (.agg #[.int .i64 1, .int .i64 3, .int .u32 7, .int .i64 1, .int .i64 2, .int .i64 3, .int .i64 5, .int .i64 0, .string ⟨#[]⟩, .string ⟨#[97, 98, 99]⟩]) (.agg #[.int .i64 1, .int .i64 3, .int .u32 7, .int .i64 1, .int .i64 2, .int .i64 3, .int .i64 5, .int .i64 0, .string ⟨#[]⟩, .string ⟨#[97, 98, 99]⟩])).run Try.prog W = .ok (.bool true) W := by
  have h := eq_dg ⟨1, 3, 7, 1, 2, 3, 5, 0, ⟨#[]⟩, ⟨#[97, 98, 99]⟩⟩ ⟨1, 3, 7, 1, 2, 3, 5, 0, ⟨#[]⟩, ⟨#[97, 98, 99]⟩⟩ W
  rw [eqB_refl] at h
  exact h
end Go.Proofs.Ytmnbkghihdbepaa

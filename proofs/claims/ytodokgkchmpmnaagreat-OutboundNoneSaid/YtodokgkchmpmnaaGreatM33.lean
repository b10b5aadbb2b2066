/- Proved: lemmas of one statement's proof, merged by program: what each part proves stands ahead of it. Conditions: those that the lemmas name. -/
import Derived.Test.YtodokgkchmpmnaaGreatM11
import Derived.Deep.OwnRows
import Derived.Deep.AppendLies
import Derived.Test.YtodokgkchmpmnaaGreatM32
import Derived.Test.YtodokgkchmpmnaaGreatM3
import Derived.StillTailTactics
import Derived.IntWalk

/- Plain lemmas on slices of ints that a call makes: new ones, and such that grow by append. No condition beyond those that each lemma names. -/
namespace Go.Proofs.YtodokgkchmpmnaaGreat
open Go.ChangeShapes Go.WideShapes Go.ChangeAt Go.RowKit

def zcells (l : List Int) : List Value := l.map fun x => Value.int .i64 x
theorem zcells_len (l : List Int) : (zcells l).length = l.length := by unfold zcells; rw [List.length_map]
theorem zcells_at (l : List Int) (j : Nat) (hj : j < l.length) : (zcells l)[j]? = some (.int .i64 (l.getD j 0)) := by
  unfold zcells
  rw [List.getElem?_map, List.getElem?_eq_getElem hj, List.getD_eq_getElem?_getD, List.getElem?_eq_getElem hj]; rfl
theorem zcells_snoc (l : List Int) (x : Int) : zcells l ++ [Value.int .i64 x] = zcells (l ++ [x]) := by unfold zcells; rw [List.map_append]; rfl
/-- What appends of ints leave, as a slice that reads as ints. -/
theorem is_zof {w : World} {base n : Nat} {v : Value} {l : List Int} (h : w.ownsRow base 3 1 v n (zcells l)) : ∃ A c, v = .slice A n c ∧ n ≤ c ∧ Is w A n l := by
  obtain ⟨hl, hv⟩ := h
  rw [zcells_len, Nat.mul_one] at hl
  rcases hv with ⟨rfl, h0⟩ | ⟨g, cap, cur, rfl, hg, hc, h1, h2, h3, h4⟩
  · have h0' : n = 0 := by simpa using h0
    subst h0'
    exact ⟨_, _, rfl, Nat.le_refl _, ⟨hl, fun h => absurd h (by omega)⟩⟩
  · refine ⟨_, _, rfl, h1, hl, fun _ => ⟨_, rfl, (Array.getElem?_eq_some_iff.1 hc).1, fun j hj => ?_⟩⟩
    have e : (⟨g, 0, none⟩ : Addr).add j = ⟨g, j, none⟩ := by unfold Addr.add; split <;> simp_all
    rw [Nat.mul_one] at h4
    have h5 := zcells_at l j (by omega)
    rw [← h4, List.getElem?_take, if_pos hj] at h5
    rw [e, cell_of_row w g j cur _ (0, 0) hc]
    simpa using h5
theorem Tryz.zInfo : (Tryz.prog.info? 3).map (fun i => (i.zero, i.size, i.bytes)) = some (some (.int .i64 0), 1, 8) := by kernel_rfl
/-- Ints come back; nothing that was there has turned. -/
def GivesL (W : World) (l : List Int) (e : Ending) (w' : World) : Prop :=
  ∃ A c, e = .returned (.slice A l.length c) ∧ Is w' A l.length l ∧ Below W.heap.size W w'
end Go.Proofs.YtodokgkchmpmnaaGreat

/- Proved: what Empty, with, Set and Of of package bits, and their twins of the document, answer for every string, int and slice of ints. Conditions: those that the theorems name. -/
namespace Go.Proofs.YtodokgkchmpmnaaGreat
open Go.ChangeShapes Go.WideShapes Go.ChangeAt Go.RowKit

/-- a text comes back. -/
def GivesS (W : World) (s : ByteArray) (e : Ending) (w' : World) : Prop := e = .returned (.string s) ∧ Below W.heap.size W w'
set_option maxHeartbeats 400000 in
theorem rempty_any (w : World) : Calls Tryz.prog 65 #[] w (GivesS w (tx noB)) := by
  have ho := own_new w 32
  have hcv := convert_back (w.alloc (.cells (madeCells #[.int .u8 0] 32) 5)) (some ⟨w.heap.size, 0, none⟩) 32 32 _ ho.bs (by decide)
  have hmk : (Instr.makeSlice 128 (.int .i64 32) (.int .i64 32)).run Tryz.prog w = .ok (.slice (some ⟨w.heap.size, 0, none⟩) 32 32) (w.alloc (.cells (madeCells #[.int .u8 0] 32) 5)) := by kernel_rfl
  have HB := Lib.hid ((Below.refl w.heap.size w).alloc (Nat.le_refl _) (.cells (madeCells #[.int .u8 0] 32) 5))
  clear ho
  generalize w.alloc (.cells (madeCells #[.int .u8 0] 32) 5) = w1 at *
  go_enter Tryz.func65, Tryz.ntmps65
  go_wp2_with fail
  go_ret
  exact ⟨rfl, HB.out⟩

end Go.Proofs.YtodokgkchmpmnaaGreat

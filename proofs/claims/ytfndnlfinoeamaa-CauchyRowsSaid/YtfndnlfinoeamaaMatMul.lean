/- Proved: what columns, dots and Mul of package matrix answer for every table. Conditions: those that the theorems name. -/
import Derived.Test.YtfndnlfinoeamaaMatIdent
import Derived.Test.YtfndnlfinoeamaaVecDot
namespace Go.Proofs.Ytfndnlfinoeamaa
open Go.ChangeShapes Go.WideShapes Go.ChangeAt Go.RowKit

theorem Rows.good {w : World} {A : Option Addr} {n m : Nat} {t : List (List Nat)} (h : Rows w A n t) (hl : ∀ r, r < n → (rw_ t r).length = m) : Good n m t :=
  ⟨h.len, hl, fun r hr => by
    obtain ⟨_, _, _, _, _, _, hb⟩ := h.at_ hr
    exact hb.lt⟩
/-- A table with t comes back; nothing that was there has turned. -/
def GivesR (W : World) (n : Nat) (t : List (List Nat)) (e : Ending) (w' : World) : Prop :=
  ∃ A c, e = .returned (.slice A n c) ∧ Rows w' A n t ∧ Below W.heap.size W w'

/-- what the inner loop of columns holds. -/
def ColMid (wr : World) (g k n q : Nat) (f : Nat → Nat) (w2 : World) : Prop :=
  ∃ v l, w2 = v.setCell ⟨g, k, none⟩ (.slice (some ⟨wr.heap.size, 0, none⟩) n n) ∧ Below wr.heap.size wr v ∧ Own v wr.heap.size n l ∧ Upto n q f (List.replicate n 0) l
theorem ColMid.start {wr : World} {g k n : Nat} (f : Nat → Nat) (hg : g < wr.heap.size) :
    ColMid wr g k n 0 f ((wr.setCell ⟨g, k, none⟩ (.slice (some ⟨wr.heap.size, 0, none⟩) n n)).alloc (.cells (madeCells #[.int .u8 0] n) 5)) := by
  refine ⟨_, _, (World.setCell_alloc_past _ g k _ hg).symm, (Below.refl _ _).alloc (Nat.le_refl _) _, own_new wr n, Upto.start (by simp)⟩
theorem ColMid.drew {wr w2 : World} {g k n q : Nat} {f : Nat → Nat} (h : ColMid wr g k n q f w2) : ColMid wr g k n q f w2.drew := by
  obtain ⟨v, l, rfl, hb, hown, hu⟩ := h
  exact ⟨v.drew, l, rfl, hb.drew, hown, hu⟩
theorem ColMid.facts {wr w2 : World} {g k n q : Nat} {f : Nat → Nat} {t : List (List Nat)} {m : Nat} (h : ColMid wr g k n q f w2) (ho : OwnT wr g m t) (hk : k < m) (hq : q < n) :
    w2.cell? ⟨g, k, none⟩ = some (.slice (some ⟨wr.heap.size, 0, none⟩) n n) ∧ w2.cell? ⟨wr.heap.size, q, none⟩ = some (.int .u8 0) ∧ w2.frozen? ⟨wr.heap.size, q, none⟩ = false ∧ wr.heap.size < w2.heap.size := by
  obtain ⟨v, l, rfl, hb, hown, hu⟩ := h
  obtain ⟨B, c, hc, _⟩ := (ho.below hb).at_ hk
  have hgl := ho.block_lt
  refine ⟨World.cell?_setCell_same _ _ _ hc, ?_, ?_, ?_⟩
  · rw [World.cell?_setCell_other _ _ _ _ (by intro e; injection e; omega)]
    have := hown.cell hq
    rw [hu.here hq, rep_at] at this
    exact this
  · rw [World.frozen?_setCell]; exact hown.frozen q
  · simpa using hown.block_lt
theorem ColMid.next {wr w2 : World} {g k n q : Nat} {f : Nat → Nat} (h : ColMid wr g k n q f w2) (hg : g < wr.heap.size) (hq : q < n) (hf : f q < 256) :
    ColMid wr g k n (q + 1) f (w2.setCell ⟨wr.heap.size, q, none⟩ (.int .u8 (f q : Nat))) := by
  obtain ⟨v, l, rfl, hb, hown, hu⟩ := h
  refine ⟨_, _, set_comm _ _ _ _ _ (by simp; omega), hb.setCell (by simp) _, hown.set_ hq hf, hu.next hq⟩
theorem ColMid.done {wr w2 : World} {g k n : Nat} {f : Nat → Nat} {t : List (List Nat)} {m : Nat} (h : ColMid wr g k n n f w2) (ho : OwnT wr g m t) (hk : k < m) :
    OwnT w2 g m (t.set k (mk n f)) := by
  obtain ⟨v, l, rfl, hb, hown, hu⟩ := h
  have := hown.bs
  rw [hu.done] at this
  exact (ho.below hb).set_ hk (Nat.le_refl _) this
theorem ColMid.below {W wr w2 : World} {B g k n q : Nat} {f : Nat → Nat} (h : ColMid wr g k n q f w2) (hw : Below B W wr) (hB : B ≤ wr.heap.size) (hg : B ≤ g) : Below B W w2 := by
  obtain ⟨v, l, rfl, hb, hown, hu⟩ := h
  exact (hw.trans (hb.mono hB)).setCell hg _

end Go.Proofs.Ytfndnlfinoeamaa

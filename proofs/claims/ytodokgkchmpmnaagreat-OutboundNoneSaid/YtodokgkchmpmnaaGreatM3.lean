/- Proved: lemmas of one statement's proof, merged by program: what each part proves stands ahead of it. Conditions: those that the lemmas name. -/
import Derived.Test.YtodokgkchmpmnaaGreatM2
import Derived.Laws.World
import Derived.Deep.OwnRows

/- Proved: what row of package vector answers for every row of bytes. Conditions: those that the theorems name. -/
namespace Go.Proofs.YtodokgkchmpmnaaGreat
open Go.ChangeShapes Go.WideShapes Go.ChangeAt Go.RowKit

theorem Tryz.infoByte : (Tryz.prog.info? 5).map (fun i => (i.zero, i.size, i.bytes)) = some (some (.int .u8 0), 1, 1) := by kernel_rfl

/-- A row of the call's own comes back. -/
def Fresh (W : World) (n : Nat) (l : List Nat) (e : Ending) (w' : World) : Prop :=
  ∃ g, W.heap.size ≤ g ∧ e = .returned (.slice (some ⟨g, 0, none⟩) n n) ∧ Own w' g n l ∧ Below W.heap.size W w'

set_option maxHeartbeats 400000 in
theorem row_none (A : Option Addr) (c : Nat) (w : World) :
    Calls Tryz.prog 127 #[.slice A 0 c] w fun e w' => e = .returned (.slice A 0 0) ∧ w = w' := by
  rcases A with _ | ad
  all_goals
    go_enter Tryz.func127, Tryz.ntmps127
    go_wp2
    go_ret
    exact ⟨rfl, rfl⟩

set_option maxHeartbeats 400000 in
theorem row_some (ad : Addr) (n c : Nat) (l : List Nat) (w : World) (hb : Bs w (some ad) n l) (h0 : 0 < n) (hm : n ≤ 140737488355328) :
    Calls Tryz.prog 127 #[.slice (some ad) n c] w (Fresh w n l) := by
  obtain ⟨i0, hi0, hz0, hz1, hz2⟩ := info_parts Tryz.infoByte
  have hsrc := Lib.hid hb.source
  have hlen : (cells l).length = n * 1 := by rw [cells_len, hb.len, Nat.mul_one]
  have HL := Lib.hid hlen
  have hlt := Lib.hid hb.lt
  clear hlen hb
  have hx : n ≤ maxLen := by unfold maxLen; omega
  go_enter Tryz.func127, Tryz.ntmps127
  go_wp2_with (at_builtin; refine wpList_append_grows _ rfl _ _ 128 rfl 5 i0 (.int .u8 0) 1 1 Tryz.underlying128 hi0 hz0 hz1 hz2 rfl (by decide) (some ad) 0 0 [] rfl (by simp) rfl (by simp) ad n c (cells l) rfl HL.out hsrc.out (cells_one l) (by omega) (by omega) (by omega) ?_; intro v1 w1 hown hgr; rw [Nat.zero_add, List.nil_append] at hown; obtain ⟨g, cap, rfl, hg, hcap, hcm, ho⟩ := own_of hown hlt.out h0; clear hown)
  go_ret
  exact ⟨g, hg, rfl, ho, (Below.refl _ _).grown hgr (Nat.le_refl _) (by simp)⟩
end Go.Proofs.YtodokgkchmpmnaaGreat

/- Plain lemmas on a new row of bytes of the call's own, all 0. No condition beyond those that each lemma names. -/
namespace Go.Proofs.YtodokgkchmpmnaaGreat
open Go.ChangeShapes Go.WideShapes Go.ChangeAt Go.RowKit

/-- a new block of n zeros. -/
theorem own_new (w : World) (n : Nat) : Own (w.alloc (.cells (madeCells #[.int .u8 0] n) 5)) w.heap.size n (List.replicate n 0) := by
  have e : ∀ r, (List.replicate n 0).getD r 0 = 0 := fun r => by
    rw [List.getD_eq_getElem?_getD, List.getElem?_replicate]
    split <;> rfl
  refine ⟨by simp, fun j => by rw [e]; decide, _, heap_alloc_new w _, fun r hr => ?_⟩
  rw [e]
  simp [madeCells, hr, Nat.mod_one]
theorem rep_at (n r : Nat) : (List.replicate n 0).getD r 0 = 0 := by
  rw [List.getD_eq_getElem?_getD, List.getElem?_replicate]
  split <;> rfl
end Go.Proofs.YtodokgkchmpmnaaGreat

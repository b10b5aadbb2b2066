/- Proved: what Identity of package matrix and the document's Identity answer for every int. Conditions: those that the theorems name. -/
import Derived.Test.YtfndnlfinoeamaaMatMath
import Derived.Test.YtfndnlfinoeamaaMatSame
import Derived.WalkSpells
import Derived.StillTactics
import Derived.OwnWalk
import Derived.Deep.RegionHeld3
import Derived.Deep.AppendLies
namespace Go.Proofs.Ytfndnlfinoeamaa
open Go.ChangeShapes Go.WideShapes Go.ChangeAt Go.RowKit

theorem Try.infoRow : (Try.prog.info? 24).map (fun i => (i.zero, i.size, i.bytes)) = some (some (.slice none 0 0), 1, 24) := by kernel_rfl
/-- A table with t comes back, and the error k; nothing that was there has turned. -/
def GivesT (W : World) (n : Nat) (t : List (List Nat)) (k : Nat) (e : Ending) (w' : World) : Prop :=
  ∃ A c, e = .returned (.tuple #[.slice A n c, .int .i64 (k : Nat)]) ∧ Rows w' A n t ∧ Below W.heap.size W w'

set_option maxHeartbeats 400000 in
theorem ident_no (n : Int) (h : ¬ (1 ≤ n ∧ n ≤ 255)) (w : World) :
    Calls Try.prog 25 #[.int .i64 n] w (GivesT w 0 [] 1) := by
  have H := Lib.hid h
  clear h
  go_enter Try.func25, Try.ntmps25
  go_wp2_with fail
  refine (fits_no n H.out _).mono ?_; rintro e w' ⟨rfl, rfl⟩
  go_wp2_with fail
  go_ret2
  exact ⟨_, _, rfl, Rows.nil _ _, Below.refl _ _⟩

/-- two stores into two blocks, in whatever order. -/
theorem set_comm (w : World) (a b : Addr) (u v : Value) (h : a.block ≠ b.block) : (w.setCell a u).setCell b v = (w.setCell b v).setCell a u := by
  unfold World.setCell
  congr 1
  apply Array.ext_getElem?
  intro i
  simp only [Array.getElem?_modify]
  by_cases e1 : a.block = i <;> by_cases e2 : b.block = i
  · exact absurd (e1.trans e2.symm) h
  all_goals simp [e1, e2]

theorem ident_step {W wr : World} {g n k : Nat} {t : List (List Nat)} (ho : OwnT wr g n t) (hk : k < n) (hg : W.heap.size ≤ g) (hb : Below W.heap.size W wr) :
    OwnT ((wr.setCell ⟨g, k, none⟩ (.slice (some ⟨wr.heap.size, 0, none⟩) n n)).alloc (.cells ((madeCells #[.int .u8 0] n).setIfInBounds k (.int .u8 1)) 5)) g n (t.set k (mk n (unitN k))) ∧
    Below W.heap.size W ((wr.setCell ⟨g, k, none⟩ (.slice (some ⟨wr.heap.size, 0, none⟩) n n)).alloc (.cells ((madeCells #[.int .u8 0] n).setIfInBounds k (.int .u8 1)) 5)) := by
  have hlt := ho.block_lt
  have hs := hb.size
  refine ⟨?_, (hb.setCell hg _).alloc (by simp; omega) _⟩
  rw [← World.setCell_alloc_past _ g k _ hlt, ← World.setCell_alloc_at _ _ wr.heap.size k _ rfl]
  have h1 := (own_new wr n).set_ (x := 1) hk (by decide)
  rw [unit_of n k hk] at h1
  have h2 : OwnT ((wr.alloc (.cells (madeCells #[.int .u8 0] n) 5)).setCell ⟨wr.heap.size, k, none⟩ (.int .u8 ((1 : Nat) : Int))) g n t :=
    ho.below (((Below.refl _ _).alloc (Nat.le_refl _) _).setCell (by simp) _)
  exact h2.set_ hk (Nat.le_refl _) h1.bs

set_option maxHeartbeats 800000 in
theorem ident_yes (n : Nat) (h1 : 1 ≤ n) (h2 : n ≤ 255) (w : World) :
    Calls Try.prog 25 #[.int .i64 (n : Nat)] w (GivesT w n (idL n) 0) := by
  have hmT := run_make_row' (P := Try.prog) 30 24 (.slice none 0 0) 24 Try.underlying30 Try.infoRow rfl .i64 .i64 n (by omega) (by omega)
  have hmR := run_make_row' (P := Try.prog) 24 5 (.int .u8 0) 1 Try.underlying24 Try.infoByte rfl .i64 .i64 n (by omega) (by omega)
  have H1 : Hid ((1 : Int) ≤ (n : Int) ∧ (n : Int) ≤ 255) := Lib.hid ⟨by omega, by omega⟩
  have hpos : (0 : Int) ≤ (n : Int) := by omega
  go_enter Try.func25, Try.ntmps25
  go_wp2_with fail
  refine (fits_yes n H1.out.1 H1.out.2 _).mono ?_; rintro e w' ⟨rfl, rfl⟩
  go_wp2_with fail
  have HO := Lib.hid (ownT_new w n)
  have HW := Lib.hid ((Below.refl w.heap.size w).alloc (Nat.le_refl _) (.cells (madeCells #[.slice none 0 0] n) 24))
  have hg : w.heap.size ≤ w.heap.size := Nat.le_refl _
  generalize hgg : w.heap.size = g at *
  go_loopw [13] (fun i wr => ∃ k : Nat, k ≤ n ∧ i = .int .i64 k ∧ ∃ t, UptoT n k (fun i => mk n (unitN i)) t ∧ OwnT wr g n t ∧ Below g w wr) (fun i _ => n - (intOf i).toNat)
  case atStart => exact ⟨0, by omega, rfl, _, UptoT.start (by simp), HO.out, HW.out⟩
  case round =>
    obtain ⟨k, hk, rfl, t, hu, ho, hbel⟩ := hrel
    have HU := Lib.hid hu
    have HO' := Lib.hid ho
    have HW' := Lib.hid hbel
    clear hu ho hbel HO HW
    by_cases hlt : k < n
    · obtain ⟨B0, c0, hc0, _⟩ := HO'.out.at_ hlt
      have hgl := HO'.out.block_lt
      have hfz := HO'.out.frozen k
      have hne : g ≠ wr.heap.size := by omega
      have hX : (madeCells #[.int .u8 0] n)[k]? = some (.int .u8 0) := by simp [madeCells, hlt, Nat.mod_one]
      go_wp2_with fail
      go_roundw
      case rel =>
        have hst := ident_step (W := w) HO'.out hlt (by omega) (hgg ▸ HW'.out)
        exact ⟨k + 1, by omega, by go_num, _, HU.out.next hlt, hst.1, hgg ▸ hst.2⟩
      case measure => simp [intOf]; omega
    · obtain rfl : k = n := by omega
      go_wp2_with fail
      go_ret2
      refine ⟨_, _, rfl, ?_, by rw [hgg]; exact HW'.out⟩
      rw [idL, ← HU.out.done]
      exact HO'.out.rows

/-! ### the document's Identity -/
theorem made_zero {n k : Nat} (hk : k < n) : (madeCells #[.int .u8 0] n)[k]? = some (.int .u8 0) := by simp [madeCells, hk, Nat.mod_one]
theorem unit_new (w : World) (n k : Nat) (hk : k < n) : Bs (w.alloc (.cells ((madeCells #[.int .u8 0] n).setIfInBounds k (.int .u8 1)) 5)) (some ⟨w.heap.size, 0, none⟩) n (mk n (unitN k)) := by
  rw [← World.setCell_alloc_at _ _ w.heap.size k _ rfl]
  have h1 := (own_new w n).set_ (x := 1) hk (by decide)
  rw [unit_of n k hk] at h1
  exact h1.bs

end Go.Proofs.Ytfndnlfinoeamaa

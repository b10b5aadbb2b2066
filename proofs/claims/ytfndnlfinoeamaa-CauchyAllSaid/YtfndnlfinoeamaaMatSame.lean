/- Proved: what the document's Check, its Same and the law's few answer for every table. Conditions: those that the theorems name. -/
import Derived.Test.YtfndnlfinoeamaaMatCheck
namespace Go.Proofs.Ytfndnlfinoeamaa
open Go.ChangeShapes Go.WideShapes Go.ChangeAt Go.RowKit

theorem Bs.drewN {w : World} {A : Option Addr} {n : Nat} {l : List Nat} (h : Bs w A n l) (q : Nat) : Bs (w.drewN q) A n l := h.below (below_drawn ⟨q, rfl⟩)
theorem Rows.drewN {w : World} {A : Option Addr} {n : Nat} {t : List (List Nat)} (h : Rows w A n t) (q : Nat) : Rows (w.drewN q) A n t := h.below (below_drawn ⟨q, rfl⟩)

set_option maxRecDepth 100000 in
set_option maxHeartbeats 800000 in
theorem rsame_any (A B : Option Addr) (n c d : Nat) (t : List (List Nat)) (w : World) (ha : Rows w A n t) (hb : Rows w B n t) (hm : n ≤ 140737488355328) (hl : ∀ r, (rw_ t r).length ≤ 140737488355328) :
    Calls Try.prog 12 #[.slice A n c, .slice B n d] w fun e w' => e = .returned (.bool true) ∧ ∃ m, w' = w.drewN m := by
  have HA := Lib.hid ha
  have HB := Lib.hid hb
  have HL := Lib.hid hl
  clear ha hb hl
  go_enter Try.func12, Try.ntmps12
  go_wp2_with fail
  go_loopw [5] (fun i wr => ∃ k q : Nat, k ≤ n ∧ i = .int .i64 k ∧ wr = w.drewN q) (fun i _ => n - (intOf i).toNat)
  case atStart => exact ⟨0, 0, by omega, rfl, rfl⟩
  case round =>
    obtain ⟨k, q, hk, rfl, rfl⟩ := hrel
    by_cases hlt : k < n
    · obtain ⟨ad, C, x, rfl, la, hac, hbs⟩ := HA.out.at_ hlt
      obtain ⟨bd, D, y, rfl, lb, hbc, hds⟩ := HB.out.at_ hlt
      have H1 := Lib.hid hbs
      have H2 := Lib.hid hds
      have hk1 := HL.out k
      clear hbs hds
      generalize rw_ t k = l at *
      have hlt' : (k : Int) < (n : Int) := by omega
      have hk0 : (0 : Int) ≤ (k : Int) := Int.natCast_nonneg _
      go_wp2_with fail
      go_quiet ((go_at_call 11; exact (same_quiet C D l.length x y l _ (H1.out.drewN _) (H2.out.drewN _) hk1).mono fun _ _ h => ⟨h.1, by obtain ⟨m, hm⟩ := h.2; exact ⟨_, by rw [hm, World.drewN_drewN, Nat.add_assoc]⟩⟩))
      go_wp2_with fail
      go_roundw
      case rel => exact ⟨k + 1, _, by omega, by go_num, by first | rfl | rw [World.drewN_drewN]⟩
      case measure => simp [intOf]; omega
    · obtain rfl : k = n := by omega
      go_wp2_with fail
      go_ret
      exact ⟨rfl, _, rfl⟩

/-- is a table not too great? -/
def Few (t : List (List Nat)) (m : Nat) : Prop := t.length ≤ m ∧ ∀ r, r < t.length → (rw_ t r).length ≤ m
instance (t : List (List Nat)) (m : Nat) : Decidable (Few t m) := by unfold Few; infer_instance
end Go.Proofs.Ytfndnlfinoeamaa

/- Proved: what the document's Bad and Row of chapter 4 answer for every three ints. Conditions: those that the theorems name. -/
import Derived.Test.YtfndnlfinoeamaaCauRow3
import Derived.Test.YtfndnlfinoeamaaGfRefInv
namespace Go.Proofs.Ytfndnlfinoeamaa
open Go.ChangeShapes Go.WideShapes Go.ChangeAt Go.RowKit

set_option maxHeartbeats 400000 in
theorem rbad_no (k n : Int) (h : ¬ NoTab k n) (w : World) :
    Calls Try.prog 20 #[.int .i64 k, .int .i64 n] w fun e w' => e = .returned (.bool false) ∧ w = w' := by
  have h1 : ¬ k < 1 := by unfold NoTab at h; omega
  have h2 : ¬ k > n := by unfold NoTab at h; omega
  have h3 : ¬ n > 255 := by unfold NoTab at h; omega
  clear h
  go_enter Try.func20, Try.ntmps20
  go_wp2_with fail
  go_ret
  exact ⟨rfl, rfl⟩
set_option maxHeartbeats 400000 in
theorem rbad_yes (k n : Int) (h : NoTab k n) (w : World) :
    Calls Try.prog 20 #[.int .i64 k, .int .i64 n] w fun e w' => e = .returned (.bool true) ∧ w = w' := by
  unfold NoTab at h
  by_cases h1 : k < 1
  · clear h
    go_enter Try.func20, Try.ntmps20
    go_wp2_with fail
    go_ret
    exact ⟨rfl, rfl⟩
  · by_cases h2 : k > n
    · clear h
      go_enter Try.func20, Try.ntmps20
      go_wp2_with fail
      go_ret
      exact ⟨rfl, rfl⟩
    · have h3 : n > 255 := by omega
      clear h
      go_enter Try.func20, Try.ntmps20
      go_wp2_with fail
      go_ret
      exact ⟨rfl, rfl⟩

/-- A row with l comes back, in new memory, and the error k; nothing that was there has turned. -/
def GivesF (W : World) (l : List Nat) (k : Nat) (e : Ending) (w' : World) : Prop :=
  ∃ A n c, e = .returned (.tuple #[.slice A n c, .int .i64 (k : Nat)]) ∧ n ≤ c ∧ Bs w' A n l ∧ (∀ ad, A = some ad → 0 < n → W.heap.size ≤ ad.block) ∧ Below W.heap.size W w'
theorem GivesF.e {W : World} {l : List Nat} {k : Nat} {e : Ending} {w' : World} (h : GivesF W l k e w') : GivesE W l k e w' := by
  obtain ⟨A, n, c, h1, h2, h3, _, h4⟩ := h
  exact ⟨A, n, c, h1, h2, h3, h4⟩

set_option maxHeartbeats 400000 in
theorem rrow_bad (k n i : Int) (h : NoTab k n) (w : World) :
    Calls Try.prog 8 #[.int .i64 k, .int .i64 n, .int .i64 i] w (GivesF w [] 1) := by
  have H := Lib.hid h
  clear h
  go_enter Try.func8, Try.ntmps8
  go_wp2_with fail
  refine (rbad_yes k n H.out _).mono ?_; rintro e w' ⟨rfl, rfl⟩
  go_wp2_with fail
  go_ret2
  exact ⟨_, _, _, rfl, Nat.le_refl _, Bs.nil _ _, fun _ _ h => absurd h (by omega), Below.refl _ _⟩
set_option maxHeartbeats 400000 in
theorem rrow_out (k n i : Int) (h : ¬ NoTab k n) (g : ¬ (0 ≤ i ∧ i < n)) (w : World) :
    Calls Try.prog 8 #[.int .i64 k, .int .i64 n, .int .i64 i] w (GivesF w [] 2) := by
  have H := Lib.hid h
  clear h
  by_cases h1 : i < 0
  · clear g
    go_enter Try.func8, Try.ntmps8
    go_wp2_with fail
    refine (rbad_no k n H.out _).mono ?_; rintro e w' ⟨rfl, rfl⟩
    go_wp2_with fail
    go_ret2
    exact ⟨_, _, _, rfl, Nat.le_refl _, Bs.nil _ _, fun _ _ h => absurd h (by omega), Below.refl _ _⟩
  · have h2 : i ≥ n := by omega
    clear g
    go_enter Try.func8, Try.ntmps8
    go_wp2_with fail
    refine (rbad_no k n H.out _).mono ?_; rintro e w' ⟨rfl, rfl⟩
    go_wp2_with fail
    go_ret2
    exact ⟨_, _, _, rfl, Nat.le_refl _, Bs.nil _ _, fun _ _ h => absurd h (by omega), Below.refl _ _⟩

set_option maxRecDepth 100000 in
set_option maxHeartbeats 1600000 in
theorem rrow_in (k n i : Nat) (h : ¬ NoTab k n) (g : i < n) (w : World) :
    Calls Try.prog 8 #[.int .i64 (k : Nat), .int .i64 (n : Nat), .int .i64 (i : Nat)] w (GivesF w (rowC k i) 0) := by
  have H := Lib.hid h
  have hk : 1 ≤ k ∧ k ≤ n ∧ n ≤ 255 := by unfold NoTab at h; omega
  obtain ⟨hk1, hk2, hk3⟩ := hk
  clear h
  have h1 : ¬ (i : Int) < 0 := by omega
  have h2 : ¬ (i : Int) ≥ (n : Int) := by omega
  have hmR := run_make_row' (P := Try.prog) 24 5 (.int .u8 0) 1 Try.underlying24 Try.infoByte rfl .i64 .i64 k (by omega) (by omega)
  have hpos : (0 : Int) ≤ (k : Int) := by omega
  go_enter Try.func8, Try.ntmps8
  go_wp2_with fail
  refine (rbad_no k n H.out _).mono ?_; rintro e w' ⟨rfl, rfl⟩
  go_wp2_with fail
  have f1 : decide ((i : Int) < 0) = false := decide_eq_false (by omega)
  have f2 : decide (n ≤ i) = false := decide_eq_false (by omega)
  rw [f1, f2]
  rw [show (false || false) = false from rfl]
  clear f1 f2 h1 h2
  have HO := Lib.hid (own_new w k)
  have HW := Lib.hid ((Below.refl w.heap.size w).alloc (Nat.le_refl _) (.cells (madeCells #[.int .u8 0] k) 5))
  have hg : w.heap.size ≤ w.heap.size := Nat.le_refl _
  generalize hgg : w.heap.size = g at *
  go_loopw [9] (fun v wr => ∃ j : Nat, j ≤ k ∧ v = .int .i64 j ∧ ∃ l, Upto k j (fun j => (rowC k i).getD j 0) (List.replicate k 0) l ∧ Own wr g k l ∧ Below g w wr) (fun v _ => k - (intOf v).toNat)
  case atStart => exact ⟨0, by omega, rfl, _, Upto.start (by simp), HO.out, HW.out⟩
  case round =>
    obtain ⟨j, hj, rfl, l, hu, ho, hbel⟩ := hrel
    have HU := Lib.hid hu
    have HO' := Lib.hid ho
    have HW' := Lib.hid hbel
    clear hu ho hbel HO HW
    by_cases hlt : j < k
    · have hlt' : (j : Int) < (k : Int) := by omega
      have hfz := HO'.out.frozen j
      have hc0 := HO'.out.cell hlt
      by_cases hik : i < k
      · have h3 : ¬ (i : Int) ≥ (k : Int) := by omega
        have e0 : (rowC k i).getD j 0 = unitN i j := by rw [rowC_unit hik, mk_at _ _ _ hlt]
        have HE := Lib.hid e0
        clear e0
        by_cases hij : i = j
        · subst hij
          have e1 : Hid ((rowC k i).getD i 0 = 1) := Lib.hid (by rw [HE.out]; unfold unitN; rw [if_pos rfl])
          go_wp2_with fail
          go_roundw
          case rel =>
            have := HU.out.next hlt
            rw [e1.out] at this
            exact ⟨i + 1, by omega, by go_num, _, this, HO'.out.set_ hlt (by decide), HW'.out.setCell (Nat.le_refl _) _⟩
          case measure => simp [intOf]; omega
        · have hij1 : ((i : Int) == (j : Int)) = false := by simp; omega
          have e1 : Hid ((rowC k i).getD j 0 = 0) := Lib.hid (by rw [HE.out]; unfold unitN; rw [if_neg hij])
          have e2 : Hid (l.getD j 0 = 0) := Lib.hid (by rw [HU.out.here hlt, rep_at])
          clear hij
          go_wp2_with fail
          go_roundw
          case rel =>
            have := HU.out.next hlt
            rw [e1.out] at this
            have e3 : l.set j 0 = l := by
              apply ext_at (n := k) (by rw [List.length_set]; exact HU.out.1) HU.out.1
              intro q hq
              rw [set_at _ _ _ _ (by rw [HU.out.1]; exact hlt)]
              split
              · rename_i h; rw [← h, e2.out]
              · rfl
            rw [e3] at this
            exact ⟨j + 1, by omega, by go_num, _, this, HO'.out, HW'.out⟩
          case measure => simp [intOf]; omega
      · have h3 : (i : Int) ≥ (k : Int) := by omega
        have e0 : Hid ((rowC k i).getD j 0 = ginv (i ^^^ j)) := Lib.hid (by rw [rowC_inv (by omega), mk_at _ _ _ hlt])
        have hx := xor_conv i j (by omega) (by omega)
        have hx0 := Lib.hid (xor_ne (a := i) (b := j) (by omega))
        have hx1 := Lib.hid (xor_lt i j (by omega) (by omega))
        generalize hxx : i ^^^ j = x at *
        have HX := Lib.hid hxx
        clear hxx
        go_wp2_with (go_at_call 21; refine (rinv_any x hx0.out hx1.out _).mono ?_; rintro e w2 ⟨rfl, rfl⟩)
        go_roundw
        case rel =>
          have := HU.out.next hlt
          rw [e0.out] at this
          exact ⟨j + 1, by omega, by go_num, _, this, HO'.out.set_ hlt (ginv_lt _), HW'.out.setCell (Nat.le_refl _) _⟩
        case measure => simp [intOf]; omega
    · obtain rfl : j = k := by omega
      go_wp2_with fail
      go_ret2
      refine ⟨_, _, _, rfl, Nat.le_refl _, ?_, fun ad e _ => by injection e with e; subst e; rw [hgg]; exact Nat.le_refl _, by rw [hgg]; exact HW'.out⟩
      have e := HU.out.done
      have h := HO'.out.bs
      rw [e] at h
      rw [← eq_mk (rowC_len j i) fun _ _ => rfl] at h
      exact h
theorem rrow_any (k n i : Int) (w : World) :
    Calls Try.prog 8 #[.int .i64 k, .int .i64 n, .int .i64 i] w (GivesF w (cRow k n i) (cErr k n i)) := by
  by_cases h : NoTab k n
  · have e := cErr_bad h i
    rw [cRow_none (by omega), e]
    exact rrow_bad k n i h w
  · by_cases g : 0 ≤ i ∧ i < n
    · have e := cErr_in h g
      rw [cRow_some e, e]
      have hk : 1 ≤ k ∧ k ≤ n ∧ n ≤ 255 := by unfold NoTab at h; omega
      obtain ⟨k', rfl⟩ := Int.eq_ofNat_of_zero_le (show 0 ≤ k by omega)
      obtain ⟨n', rfl⟩ := Int.eq_ofNat_of_zero_le (show 0 ≤ n by omega)
      obtain ⟨i', rfl⟩ := Int.eq_ofNat_of_zero_le g.1
      exact rrow_in k' n' i' h (by omega) w
    · have e := cErr_out h g
      rw [cRow_none (by omega), e]
      exact rrow_out k n i h g w
end Go.Proofs.Ytfndnlfinoeamaa

/- Proved: lemmas of one statement's proof, merged by program: what each part proves stands ahead of it. Conditions: those that the lemmas name. -/
import Derived.Test.YtodokgkchmpmnaaGreatM12
import Derived.Test.YtodokgkchmpmnaaGreatM10

/- Proved: what Row of package cauchy answers for every three ints. Conditions: those that the theorems name. -/
namespace Go.Proofs.YtodokgkchmpmnaaGreat
open Go.ChangeShapes Go.WideShapes Go.ChangeAt Go.RowKit

theorem xor_conv (i j : Nat) (hi : i < 256) (hj : j < 256) : IntKind.u8.wrap (bits BinOp.xor IntKind.i64 (i : Int) (j : Int)) = ((i ^^^ j : Nat) : Int) := by
  rw [i64_xor_nat i j (by omega) (by omega)]
  have := xor_lt i j hi hj
  show ((i ^^^ j : Nat) : Int) % 256 = _
  omega

theorem Own.below {w w' : World} {g n : Nat} {l : List Nat} (h : Own w g n l) (hb : Below w.heap.size w w') : Own w' g n l := by
  have hlt := h.block_lt
  obtain ⟨h0, h1, cur, hc, h2⟩ := h
  exact ⟨h0, h1, cur, (hb.block g hlt).trans hc, h2⟩

set_option maxRecDepth 100000 in
set_option maxHeartbeats 800000 in
theorem inverses_any (k i : Nat) (h1 : 1 ≤ k) (hi : k ≤ i) (hn : i < 255) (w : World) :
    Calls Tryz.prog 119 #[.int .i64 (k : Nat), .int .i64 (i : Nat)] w (GivesC w k (rowC k i)) := by
  have hmR := run_make_row' (P := Tryz.prog) 128 5 (.int .u8 0) 1 Tryz.underlying128 Tryz.infoByte rfl .i64 .i64 k (by omega) (by omega)
  have hpos : (0 : Int) ≤ (k : Int) := by omega
  have HR := Lib.hid (rowC_inv hi)
  go_enter Tryz.func119, Tryz.ntmps119
  go_wp2_with fail
  have HO := Lib.hid (own_new w k)
  have HW := Lib.hid ((Below.refl w.heap.size w).alloc (Nat.le_refl _) (.cells (madeCells #[.int .u8 0] k) 5))
  have hg : w.heap.size ≤ w.heap.size := Nat.le_refl _
  generalize hgg : w.heap.size = g at *
  go_loopw [11] (fun v wr => ∃ j : Nat, j ≤ k ∧ v = .int .i64 j ∧ ∃ l, Upto k j (fun j => ginv (i ^^^ j)) (List.replicate k 0) l ∧ Own wr g k l ∧ Below g w wr) (fun v _ => k - (intOf v).toNat)
  case atStart => exact ⟨0, by omega, rfl, _, Upto.start (by simp), HO.out, HW.out⟩
  case round =>
    obtain ⟨j, hj, rfl, l, hu, ho, hbel⟩ := hrel
    have HU := Lib.hid hu
    have HO' := Lib.hid ho
    have HW' := Lib.hid hbel
    clear hu ho hbel HO HW
    by_cases hlt : j < k
    · have hx := xor_conv i j (by omega) (by omega)
      have hx0 := Lib.hid (xor_ne (a := i) (b := j) (by omega))
      have hx1 := Lib.hid (xor_lt i j (by omega) (by omega))
      generalize hxx : i ^^^ j = x at *
      have HX := Lib.hid hxx
      clear hxx
      go_wp2_with (go_at_call 126; refine (inv_keep x hx0.out hx1.out _).mono ?_; rintro e w2 ⟨rfl, g2⟩; have HO2 := Lib.hid (HO'.out.below g2); have HW2 := Lib.hid (HW'.out.trans (g2.mono (hgg ▸ HW'.out.size))); have hc0 := HO2.out.cell hlt; have hfz := HO2.out.frozen j; clear g2)
      go_roundw
      case rel =>
        refine ⟨j + 1, by omega, by go_num, _, HU.out.next hlt, ?_, HW2.out.setCell (Nat.le_refl _) _⟩
        rw [HX.out]
        exact HO2.out.set_ hlt (ginv_lt _)
      case measure => simp [intOf]; omega
    · obtain rfl : j = k := by omega
      go_wp2_with fail
      go_ret
      refine ⟨_, _, rfl, Nat.le_refl _, ?_, by rw [hgg]; exact HW'.out⟩
      have e := HU.out.done
      have h := HO'.out.bs
      rw [e] at h
      rw [HR.out]
      exact h
end Go.Proofs.YtodokgkchmpmnaaGreat

/- Proved: what Row of package cauchy answers for every three ints. Conditions: none. -/
namespace Go.Proofs.YtodokgkchmpmnaaGreat
open Go.ChangeShapes Go.WideShapes Go.ChangeAt Go.RowKit

/-- A row with l comes back, and the error k; nothing that was there has turned. -/
def GivesE (W : World) (l : List Nat) (k : Nat) (e : Ending) (w' : World) : Prop :=
  ∃ A n c, e = .returned (.tuple #[.slice A n c, .int .i64 (k : Nat)]) ∧ n ≤ c ∧ Bs w' A n l ∧ Below W.heap.size W w'

set_option maxHeartbeats 400000 in
theorem row_bad (k n i : Int) (h : NoTab k n) (w : World) :
    Calls Tryz.prog 99 #[.int .i64 k, .int .i64 n, .int .i64 i] w (GivesE w [] 1) := by
  have H := Lib.hid h
  clear h
  go_enter Tryz.func99, Tryz.ntmps99
  go_wp2_with fail
  refine (cfits_no k n H.out _).mono ?_; rintro e w' ⟨rfl, rfl⟩
  go_wp2_with fail
  go_ret2
  exact ⟨_, _, _, rfl, Nat.le_refl _, Bs.nil _ _, Below.refl _ _⟩
set_option maxHeartbeats 400000 in
theorem row_out (k n i : Int) (h : ¬ NoTab k n) (g : ¬ (0 ≤ i ∧ i < n)) (w : World) :
    Calls Tryz.prog 99 #[.int .i64 k, .int .i64 n, .int .i64 i] w (GivesE w [] 2) := by
  have H := Lib.hid h
  clear h
  by_cases h1 : i < 0
  · clear g
    go_enter Tryz.func99, Tryz.ntmps99
    go_wp2_with fail
    refine (cfits_yes k n H.out _).mono ?_; rintro e w' ⟨rfl, rfl⟩
    go_wp2_with fail
    go_ret2
    exact ⟨_, _, _, rfl, Nat.le_refl _, Bs.nil _ _, Below.refl _ _⟩
  · have h2 : i ≥ n := by omega
    clear g
    go_enter Tryz.func99, Tryz.ntmps99
    go_wp2_with fail
    refine (cfits_yes k n H.out _).mono ?_; rintro e w' ⟨rfl, rfl⟩
    go_wp2_with fail
    go_ret2
    exact ⟨_, _, _, rfl, Nat.le_refl _, Bs.nil _ _, Below.refl _ _⟩
set_option maxHeartbeats 800000 in
theorem row_in (k n i : Nat) (h : ¬ NoTab k n) (g : i < n) (w : World) :
    Calls Tryz.prog 99 #[.int .i64 (k : Nat), .int .i64 (n : Nat), .int .i64 (i : Nat)] w (GivesE w (rowC k i) 0) := by
  have H := Lib.hid h
  have hk : 1 ≤ k ∧ k ≤ n ∧ n ≤ 255 := by unfold NoTab at h; omega
  obtain ⟨hk1, hk2, hk3⟩ := hk
  clear h
  have h1 : ¬ (i : Int) < 0 := by omega
  have h2 : ¬ (i : Int) ≥ (n : Int) := by omega
  by_cases hik : i < k
  · have h3 : (i : Int) < (k : Int) := by omega
    go_enter Tryz.func99, Tryz.ntmps99
    go_wp2_with fail
    refine (cfits_yes k n H.out _).mono ?_; rintro e w' ⟨rfl, rfl⟩
    go_wp2_with (go_at_call 118; refine (unit_any k i hik (by omega) _).mono ?_; rintro e w' ⟨A, c, rfl, hc, hb, hw⟩; have HB := Lib.hid hb; have HW := Lib.hid hw; clear hb hw)
    go_ret2
    exact ⟨_, _, _, rfl, hc, HB.out, HW.out⟩
  · have h3 : ¬ (i : Int) < (k : Int) := by omega
    go_enter Tryz.func99, Tryz.ntmps99
    go_wp2_with fail
    refine (cfits_yes k n H.out _).mono ?_; rintro e w' ⟨rfl, rfl⟩
    go_wp2_with (go_at_call 119; refine (inverses_any k i hk1 (by omega) (by omega) _).mono ?_; rintro e w' ⟨A, c, rfl, hc, hb, hw⟩; have HB := Lib.hid hb; have HW := Lib.hid hw; clear hb hw)
    go_ret2
    exact ⟨_, _, _, rfl, hc, HB.out, HW.out⟩
theorem row_any (k n i : Int) (w : World) :
    Calls Tryz.prog 99 #[.int .i64 k, .int .i64 n, .int .i64 i] w (GivesE w (cRow k n i) (cErr k n i)) := by
  by_cases h : NoTab k n
  · have e := cErr_bad h i
    rw [cRow_none (by omega), e]
    exact row_bad k n i h w
  · by_cases g : 0 ≤ i ∧ i < n
    · have e := cErr_in h g
      rw [cRow_some e, e]
      have hk : 1 ≤ k ∧ k ≤ n ∧ n ≤ 255 := by unfold NoTab at h; omega
      obtain ⟨k', rfl⟩ := Int.eq_ofNat_of_zero_le (show 0 ≤ k by omega)
      obtain ⟨n', rfl⟩ := Int.eq_ofNat_of_zero_le (show 0 ≤ n by omega)
      obtain ⟨i', rfl⟩ := Int.eq_ofNat_of_zero_le g.1
      exact row_in k' n' i' h (by omega) w
    · have e := cErr_out h g
      rw [cRow_none (by omega), e]
      exact row_out k n i h g w
end Go.Proofs.YtodokgkchmpmnaaGreat

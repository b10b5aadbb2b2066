/- Proved: lemmas of one statement's proof, merged by program: what each part proves stands ahead of it. Conditions: those that the lemmas name. -/
import Derived.Test.YtooegclblgeicaaGreatDoorM13
import Derived.Test.YtooegclblgeicaaGreatDoorM9
import Derived.Test.YtooegclblgeicaaGreatDoorM4

/- Proved: what Row of package cauchy answers for every three ints. Conditions: those that the theorems name. -/
namespace Go.Proofs.YtooegclblgeicaaGreatDoor
open Go.ChangeShapes Go.WideShapes Go.ChangeAt Go.RowKit

theorem xor_conv (i j : Nat) (hi : i < 256) (hj : j < 256) : IntKind.u8.wrap (bits BinOp.xor IntKind.i64 (i : Int) (j : Int)) = ((i ^^^ j : Nat) : Int) := by
  rw [i64_xor_nat i j (by omega) (by omega)]
  have := xor_lt i j hi hj
  show ((i ^^^ j : Nat) : Int) % 256 = _
  omega

theorem Own.below {w w' : World} {g n : Nat} {l : List Nat} (h : Own w g n l) (hb : Below w.heap.size w w') : Own w' g n l := by
  have hlt := h.block_lt
  obtain ⟨h0, h1, cur, hc, h2⟩ := h
  exact ⟨h0, h1, cur, (hb.block g hlt).trans hc, h2⟩

set_option maxRecDepth 100000 in
set_option maxHeartbeats 800000 in
theorem inverses_any (k i : Nat) (h1 : 1 ≤ k) (hi : k ≤ i) (hn : i < 255) (w : World) :
    Calls Tryz.prog 75 #[.int .i64 (k : Nat), .int .i64 (i : Nat)] w (GivesC w k (rowC k i)) := by
  have hmR := run_make_row' (P := Tryz.prog) 55 5 (.int .u8 0) 1 Tryz.underlying55 Tryz.infoByte rfl .i64 .i64 k (by omega) (by omega)
  have hpos : (0 : Int) ≤ (k : Int) := by omega
  have HR := Lib.hid (rowC_inv hi)
  go_enter Tryz.func75, Tryz.ntmps75
  go_wp2_with fail
  have HO := Lib.hid (own_new w k)
  have HW := Lib.hid ((Below.refl w.heap.size w).alloc (Nat.le_refl _) (.cells (madeCells #[.int .u8 0] k) 5))
  have hg : w.heap.size ≤ w.heap.size := Nat.le_refl _
  generalize hgg : w.heap.size = g at *
  go_loopw [11] (fun v wr => ∃ j : Nat, j ≤ k ∧ v = .int .i64 j ∧ ∃ l, Upto k j (fun j => ginv (i ^^^ j)) (List.replicate k 0) l ∧ Own wr g k l ∧ Below g w wr) (fun v _ => k - (intOf v).toNat)
  case atStart => exact ⟨0, by omega, rfl, _, Upto.start (by simp), HO.out, HW.out⟩
  case round =>
    obtain ⟨j, hj, rfl, l, hu, ho, hbel⟩ := hrel
    have HU := Lib.hid hu
    have HO' := Lib.hid ho
    have HW' := Lib.hid hbel
    clear hu ho hbel HO HW
    by_cases hlt : j < k
    · have hx := xor_conv i j (by omega) (by omega)
      have hx0 := Lib.hid (xor_ne (a := i) (b := j) (by omega))
      have hx1 := Lib.hid (xor_lt i j (by omega) (by omega))
      generalize hxx : i ^^^ j = x at *
      have HX := Lib.hid hxx
      clear hxx
      go_wp2_with (go_at_call 86; refine (inv_keep x hx0.out hx1.out _).mono ?_; rintro e w2 ⟨rfl, g2⟩; have HO2 := Lib.hid (HO'.out.below g2); have HW2 := Lib.hid (HW'.out.trans (g2.mono (hgg ▸ HW'.out.size))); have hc0 := HO2.out.cell hlt; have hfz := HO2.out.frozen j; clear g2)
      go_roundw
      case rel =>
        refine ⟨j + 1, by omega, by go_num, _, HU.out.next hlt, ?_, HW2.out.setCell (Nat.le_refl _) _⟩
        rw [HX.out]
        exact HO2.out.set_ hlt (ginv_lt _)
      case measure => simp [intOf]; omega
    · obtain rfl : j = k := by omega
      go_wp2_with fail
      go_ret
      refine ⟨_, _, rfl, Nat.le_refl _, ?_, by rw [hgg]; exact HW'.out⟩
      have e := HU.out.done
      have h := HO'.out.bs
      rw [e] at h
      rw [HR.out]
      exact h
end Go.Proofs.YtooegclblgeicaaGreatDoor

/- Proved: what Row of package cauchy answers for every three ints. Conditions: none. -/
namespace Go.Proofs.YtooegclblgeicaaGreatDoor
open Go.ChangeShapes Go.WideShapes Go.ChangeAt Go.RowKit

/-- A row with l comes back, and the error k; nothing that was there has turned. -/
def GivesE (W : World) (l : List Nat) (k : Nat) (e : Ending) (w' : World) : Prop :=
  ∃ A n c, e = .returned (.tuple #[.slice A n c, .int .i64 (k : Nat)]) ∧ n ≤ c ∧ Bs w' A n l ∧ Below W.heap.size W w'

set_option maxHeartbeats 400000 in
theorem row_bad (k n i : Int) (h : NoTab k n) (w : World) :
    Calls Tryz.prog 56 #[.int .i64 k, .int .i64 n, .int .i64 i] w (GivesE w [] 1) := by
  have H := Lib.hid h
  clear h
  go_enter Tryz.func56, Tryz.ntmps56
  go_wp2_with fail
  refine (cfits_no k n H.out _).mono ?_; rintro e w' ⟨rfl, rfl⟩
  go_wp2_with fail
  go_ret2
  exact ⟨_, _, _, rfl, Nat.le_refl _, Bs.nil _ _, Below.refl _ _⟩
set_option maxHeartbeats 400000 in
theorem row_out (k n i : Int) (h : ¬ NoTab k n) (g : ¬ (0 ≤ i ∧ i < n)) (w : World) :
    Calls Tryz.prog 56 #[.int .i64 k, .int .i64 n, .int .i64 i] w (GivesE w [] 2) := by
  have H := Lib.hid h
  clear h
  by_cases h1 : i < 0
  · clear g
    go_enter Tryz.func56, Tryz.ntmps56
    go_wp2_with fail
    refine (cfits_yes k n H.out _).mono ?_; rintro e w' ⟨rfl, rfl⟩
    go_wp2_with fail
    go_ret2
    exact ⟨_, _, _, rfl, Nat.le_refl _, Bs.nil _ _, Below.refl _ _⟩
  · have h2 : i ≥ n := by omega
    clear g
    go_enter Tryz.func56, Tryz.ntmps56
    go_wp2_with fail
    refine (cfits_yes k n H.out _).mono ?_; rintro e w' ⟨rfl, rfl⟩
    go_wp2_with fail
    go_ret2
    exact ⟨_, _, _, rfl, Nat.le_refl _, Bs.nil _ _, Below.refl _ _⟩
set_option maxHeartbeats 800000 in
theorem row_in (k n i : Nat) (h : ¬ NoTab k n) (g : i < n) (w : World) :
    Calls Tryz.prog 56 #[.int .i64 (k : Nat), .int .i64 (n : Nat), .int .i64 (i : Nat)] w (GivesE w (rowC k i) 0) := by
  have H := Lib.hid h
  have hk : 1 ≤ k ∧ k ≤ n ∧ n ≤ 255 := by unfold NoTab at h; omega
  obtain ⟨hk1, hk2, hk3⟩ := hk
  clear h
  have h1 : ¬ (i : Int) < 0 := by omega
  have h2 : ¬ (i : Int) ≥ (n : Int) := by omega
  by_cases hik : i < k
  · have h3 : (i : Int) < (k : Int) := by omega
    go_enter Tryz.func56, Tryz.ntmps56
    go_wp2_with fail
    refine (cfits_yes k n H.out _).mono ?_; rintro e w' ⟨rfl, rfl⟩
    go_wp2_with (go_at_call 74; refine (unit_any k i hik (by omega) _).mono ?_; rintro e w' ⟨A, c, rfl, hc, hb, hw⟩; have HB := Lib.hid hb; have HW := Lib.hid hw; clear hb hw)
    go_ret2
    exact ⟨_, _, _, rfl, hc, HB.out, HW.out⟩
  · have h3 : ¬ (i : Int) < (k : Int) := by omega
    go_enter Tryz.func56, Tryz.ntmps56
    go_wp2_with fail
    refine (cfits_yes k n H.out _).mono ?_; rintro e w' ⟨rfl, rfl⟩
    go_wp2_with (go_at_call 75; refine (inverses_any k i hk1 (by omega) (by omega) _).mono ?_; rintro e w' ⟨A, c, rfl, hc, hb, hw⟩; have HB := Lib.hid hb; have HW := Lib.hid hw; clear hb hw)
    go_ret2
    exact ⟨_, _, _, rfl, hc, HB.out, HW.out⟩
theorem row_any (k n i : Int) (w : World) :
    Calls Tryz.prog 56 #[.int .i64 k, .int .i64 n, .int .i64 i] w (GivesE w (cRow k n i) (cErr k n i)) := by
  by_cases h : NoTab k n
  · have e := cErr_bad h i
    rw [cRow_none (by omega), e]
    exact row_bad k n i h w
  · by_cases g : 0 ≤ i ∧ i < n
    · have e := cErr_in h g
      rw [cRow_some e, e]
      have hk : 1 ≤ k ∧ k ≤ n ∧ n ≤ 255 := by unfold NoTab at h; omega
      obtain ⟨k', rfl⟩ := Int.eq_ofNat_of_zero_le (show 0 ≤ k by omega)
      obtain ⟨n', rfl⟩ := Int.eq_ofNat_of_zero_le (show 0 ≤ n by omega)
      obtain ⟨i', rfl⟩ := Int.eq_ofNat_of_zero_le g.1
      exact row_in k' n' i' h (by omega) w
    · have e := cErr_out h g
      rw [cRow_none (by omega), e]
      exact row_out k n i h g w
end Go.Proofs.YtooegclblgeicaaGreatDoor

/- Proved: what the document's Inv answers for every byte. Conditions: those that the theorems name. -/
namespace Go.Proofs.YtooegclblgeicaaGreatDoor
open Go.ChangeShapes Go.WideShapes Go.ChangeAt Go.RowKit

/-! ### the document's inverse: the first byte whose product is 1 -/
set_option maxRecDepth 100000 in
set_option maxHeartbeats 400000 in
theorem rinv_zero (w : World) :
    Calls Tryz.prog 29 #[.int .u8 0] w fun e w' => e = .returned (.tuple #[.int .u8 0, .int .i64 1]) ∧ w = w' := by
  have p0 : ∀ (k : Nat) (_ : k < 256) (w : World), Calls Tryz.prog 32 #[.int .u8 0, .int .u8 k] w fun e w' => e = .returned (.int .u8 0) ∧ w = w' := fun k hk w => by
    have := prod_any 0 k (by decide) hk w
    rwa [gmul_zero_left k hk] at this
  have P0 := Lib.hid p0
  clear p0
  go_enter Tryz.func29, Tryz.ntmps29
  go_wp2_with fail
  go_loop [4] (fun i => ∃ k : Nat, 1 ≤ k ∧ k ≤ 256 ∧ i = .int .i64 k) (fun i => 256 - (intOf i).toNat)
  case atStart => exact ⟨1, by omega, by omega, rfl⟩
  case round =>
    obtain ⟨k, hk1, hk, rfl⟩ := hrel
    by_cases hlt : k < 256
    · go_wp2_with (go_at_call 32; refine (P0.out k hlt _).mono ?_; rintro e w' ⟨rfl, rfl⟩)
      go_round
      case rel => exact ⟨k + 1, by omega, by omega, by go_num⟩
      case measure => simp [intOf]; omega
    · go_wp2_with fail
      go_ret2
      exact ⟨rfl, rfl⟩
set_option maxRecDepth 100000 in
set_option maxHeartbeats 400000 in
theorem rinv_any (a : Nat) (h0 : a ≠ 0) (ha : a < 256) (w : World) :
    Calls Tryz.prog 29 #[.int .u8 a] w fun e w' => e = .returned (.tuple #[.int .u8 (ginv a : Nat), .int .i64 0]) ∧ w = w' := by
  have hg : ginv a < 256 := gexp_lt _
  have hg0 : 1 ≤ ginv a := Nat.pos_of_ne_zero (gexp_ne _)
  have G := Lib.hid (gmul_ginv a h0 ha)
  have U := Lib.hid (ginv_only a)
  go_enter Tryz.func29, Tryz.ntmps29
  go_wp2_with fail
  go_loop [4] (fun i => ∃ k : Nat, 1 ≤ k ∧ k ≤ ginv a ∧ i = .int .i64 k) (fun i => 256 - (intOf i).toNat)
  case atStart => exact ⟨1, by omega, by omega, rfl⟩
  case round =>
    obtain ⟨k, hk1, hk, rfl⟩ := hrel
    by_cases hlt : k < ginv a
    · have hn : ((gmul a k : Int) == 1) = false := by
        have h1 : gmul a k ≠ 1 := by
          intro e
          have := U.out k h0 ha (by omega) e
          omega
        simpa using fun e => h1 (by exact_mod_cast e)
      go_wp2_with (go_at_call 32; refine (prod_any a k ha (by omega) _).mono ?_; rintro e w' ⟨rfl, rfl⟩)
      go_round
      case rel => exact ⟨k + 1, by omega, by omega, by go_num⟩
      case measure => simp [intOf]; omega
    · obtain rfl : k = ginv a := by omega
      have hn : ((gmul a (ginv a) : Int) == 1) = true := by
        rw [G.out]; rfl
      go_wp2_with (go_at_call 32; refine (prod_any a _ ha hg _).mono ?_; rintro e w' ⟨rfl, rfl⟩)
      go_ret2
      exact ⟨rfl, rfl⟩

end Go.Proofs.YtooegclblgeicaaGreatDoor

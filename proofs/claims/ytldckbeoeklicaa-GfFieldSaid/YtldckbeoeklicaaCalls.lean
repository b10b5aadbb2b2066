/- Proved: what logs, Log, Inv and Div of package gf answer for every byte, and that the law package's examples hold. Conditions: those that each theorem names. -/
import Derived.Test.YtldckbeoeklicaaWalks
import Derived.Laws.Rows
import Derived.Laws.NewBlocks
namespace Go.Proofs.Ytldckbeoeklicaa
open Go.ChangeShapes Go.WideShapes Go.ChangeAt Go.RowKit

def rowOf (k : Nat) : Array Value := Array.ofFn fun i : Fin 256 => Value.int .u8 (tab k i.val : Nat)
theorem rowOf_size (k : Nat) : (rowOf k).size = 256 := by unfold rowOf; exact Array.size_ofFn
theorem rowOf_at (k i : Nat) (h : i < 256) : (rowOf k)[i]? = some (Value.int .u8 (tab k i : Nat)) := by
  unfold rowOf
  rw [Array.getElem?_ofFn, dif_pos h]
theorem rowOf_get (k i : Nat) (h : i < (rowOf k).size) : (rowOf k)[i] = Value.int .u8 (tab k i : Nat) := by
  have h' : i < 256 := by rw [rowOf_size] at h; exact h
  have := rowOf_at k i h'
  rw [Array.getElem?_eq_getElem h] at this
  exact Option.some.inj this
theorem rowOf_succ (k : Nat) : (rowOf k).setIfInBounds (pw k) (.int .u8 (k : Nat)) = rowOf (k + 1) := by
  apply Array.ext
  · rw [Array.size_setIfInBounds, rowOf_size, rowOf_size]
  · intro i h1 h2
    have hi : i < (rowOf k).size := by rw [rowOf_size] at h2 ⊢; exact h2
    rw [Array.getElem_setIfInBounds hi, rowOf_get, rowOf_get]
    show _ = Value.int .u8 ((if i = pw k then k else tab k i : Nat) : Int)
    by_cases e : pw k = i
    · rw [if_pos e, if_pos e.symm]
    · rw [if_neg e, if_neg (fun h => e h.symm)]
theorem zero41 (w : World) : (zeroValue 41).run Try.prog w = .ok (.agg (rowOf 0)) w := by kernel_rfl

theorem grown_trans {a b c : World} (h : Grown a b) (g : Grown b c) : Grown a c :=
  ⟨World.keptBut_trans h.1 ⟨g.1.1, g.1.2.1, fun i hi => g.1.2.2 i hi⟩, fun x => (g.2.1 x).trans (h.2.1 x), Nat.le_trans h.2.2 g.2.2⟩
theorem frozen_setRow (w : World) (g : Nat) (cs : Array Value) (a : Addr) : (w.setRow g cs).frozen? a = w.frozen? a := by
  unfold World.frozen? World.setRow
  simp only [Array.getElem?_modify]
  by_cases h : g = a.block
  · rw [if_pos h]
    cases w.heap[a.block]? with
    | none => rfl
    | some o => cases o <;> rfl
  · rw [if_neg h]
theorem grown_setRow {W w' : World} (h : Grown W w') {g : Nat} (hg : W.heap.size ≤ g) (cs : Array Value) : Grown W (w'.setRow g cs) := by
  obtain ⟨⟨h1, h2, h3⟩, hf, hs⟩ := h
  refine ⟨⟨h1, h2, fun i hi => ?_⟩, fun x => (frozen_setRow _ _ _ _).trans (hf x), by rw [setRow_size]; exact hs⟩
  rw [setRow_other _ _ _ _ (by omega)]
  exact h3 i hi
theorem rowOf_one (k : Nat) : (rowOf k).all (·.oneCell') = true := by
  rw [Array.all_eq_true]
  intro i hi
  rw [rowOf_get]
  rfl
theorem info41 (k : Nat) : (Try.prog.info? 41).map (·.size) = some (rowOf k).size := by
  rw [rowOf_size]
  kernel_rfl
theorem under41 : Try.prog.underlying 41 = some (.array 256 5) := by kernel_rfl

set_option maxRecDepth 100000 in
set_option maxHeartbeats 400000 in
theorem logs_any (w : World) :
    Calls Try.prog 20 #[] w fun e w' => e = .returned (.agg (rowOf 255)) ∧ Grown w w' := by
  have hz := zero41
  go_enter Try.func20, Try.ntmps20
  go_wp2_with fail
  go_loopw [2, 3, 4] (fun x _ i wr => ∃ k : Nat, k ≤ 255 ∧ i = .int .i64 k ∧ x = .int .u8 (pw k : Nat) ∧ wr = (w.alloc (.cells (rowOf 0) 41)).alloc (.cells (rowOf k) 41)) (fun _ _ i _ => 255 - (intOf i).toNat)
  case atStart => exact ⟨0, by omega, rfl, rfl, rfl⟩
  case round =>
    obtain ⟨k, hk, rfl, rfl, rfl⟩ := hrel
    have hl := pw_lt k
    have hat := rowOf_at k (pw k) hl
    clear hz
    by_cases hlt : k < 255
    · have HN := Lib.hid (rowOf_succ k)
      generalize hT : tab k (pw k) = t0 at *
      clear hT
      generalize hR : rowOf k = R at *
      have HR := Lib.hid hR
      clear hR
      generalize rowOf 0 = Z at *
      generalize hx : pw k = x at *
      have HX := Lib.hid hx
      clear hx
      go_wp2_with (go_at_call 19; refine (double_any _ hl _).mono ?_; rintro e w' ⟨rfl, rfl⟩)
      have hN := HN.out
      have hX := HX.out
      subst hX
      go_roundw
      case rel => exact ⟨k + 1, by omega, by go_num, rfl, by rw [hN]⟩
      case measure => simp [intOf]; omega
    · obtain rfl : k = 255 := by omega
      have hg1 := heap_alloc2_new w (.cells (rowOf 0) 41) (.cells (rowOf 255) 41)
      have hg0 := heap_alloc2_old w (.cells (rowOf 0) 41) (.cells (rowOf 255) 41)
      have hq : Grown w ((w.alloc (.cells (rowOf 0) 41)).alloc (.cells (rowOf 255) 41)) := ((Grown.refl w).alloc _ _).alloc _ _
      have hs0 : (rowOf 0).size = (rowOf 255).size := by rw [rowOf_size, rowOf_size]
      have hi := info41 255
      have ho := rowOf_one 255
      clear hat hl hk hlt
      generalize hR : rowOf 255 = R at *
      have HR := Lib.hid hR
      clear hR
      generalize rowOf 0 = Z at *
      generalize (w.alloc (.cells Z 41)).alloc (.cells R 41) = W at *
      have G := Lib.hid hq
      have H1 := Lib.hid hg1
      have H0 := Lib.hid hg0
      have HI := Lib.hid hi
      have HO := Lib.hid ho
      have HS := Lib.hid hs0
      clear hq hg1 hg0 hi ho hs0
      go_wp2_with (first
        | (refine wpList_load_row rfl 41 _ rfl (w.heap.size + 1) rfl 41 R (0, 0) _ H1.out under41 rfl HI.out ?_)
        | (refine wpList_store_row rfl 41 _ _ rfl w.heap.size R rfl rfl 41 Z H0.out HI.out HS.out HO.out ?_))
      refine bodyPost_ret (results_cell_row rfl _ _ w.heap.size 41 R (0, 0) _ rfl (setRow_heap _ _ _ _ _ _ H0.out) under41 rfl HI.out) rfl ⟨by rw [HR.out], grown_setRow G.out (Nat.le_refl _) _⟩

/-! ### gf.Log, gf.Inv, gf.Div -/
set_option maxHeartbeats 400000 in
theorem log_zero (w : World) :
    Calls Try.prog 15 #[.int .u8 0] w fun e w' => e = .returned (.tuple #[.int .i64 0, .int .i64 1]) ∧ Grown w w' := by
  go_enter Try.func15, Try.ntmps15
  go_wp2_with fail
  go_ret2
  exact ⟨rfl, Grown.refl _⟩
theorem logs_some (w : World) (R : Array Value) (h : R = rowOf 255) :
    Calls Try.prog 20 #[] w fun e w' => e = .returned (.agg R) ∧ Grown w w' := by
  rw [h]; exact logs_any w
theorem index41 (a t : Nat) (R : Array Value) (ha : a < 256) (hat : R[a]? = some (Value.int .u8 t)) (w : World) :
    (Instr.index 41 (.agg R) (.int .u8 a)).run Try.prog w = .ok (.int .u8 t) w := by
  have h0 : (0 : Int) ≤ a ∧ (a : Int) < (256 : Nat) := by omega
  simp [Instr.index, run_underlying under41, asIntOf, h0, Sem.run_bind, part, hat, ha]
set_option maxRecDepth 100000 in
set_option maxHeartbeats 400000 in
theorem log_core (a t : Nat) (R : Array Value) (hn : ((a : Int) == 0) = false) (ht : t < 256) (hR : Hid (R = rowOf 255))
    (hi : ∀ w : World, (Instr.index 41 (.agg R) (.int .u8 a)).run Try.prog w = .ok (.int .u8 t) w) (w : World) :
    Calls Try.prog 15 #[.int .u8 a] w fun e w' => e = .returned (.tuple #[.int .i64 t, .int .i64 0]) ∧ Grown w w' := by
  go_enter Try.func15, Try.ntmps15
  go_wp2_with (go_at_call 20; refine (logs_some _ R hR.out).mono ?_; rintro e w' ⟨rfl, hg⟩)
  go_ret2
  exact ⟨rfl, hg⟩
theorem log_any (a : Nat) (h0 : a ≠ 0) (ha : a < 256) (w : World) :
    Calls Try.prog 15 #[.int .u8 a] w fun e w' => e = .returned (.tuple #[.int .i64 (lg a : Nat), .int .i64 0]) ∧ Grown w w' :=
  log_core a (lg a) (rowOf 255) (by simpa using h0) (Nat.lt_trans (lg_lt a h0 ha) (by decide)) (Lib.hid rfl) (index41 a _ _ ha (rowOf_at 255 a ha)) w

set_option maxHeartbeats 400000 in
theorem inv_zero (w : World) :
    Calls Try.prog 7 #[.int .u8 0] w fun e w' => e = .returned (.tuple #[.int .u8 0, .int .i64 1]) ∧ Grown w w' := by
  go_enter Try.func7, Try.ntmps7
  go_wp2_with (go_at_call 15; refine (log_zero _).mono ?_; rintro e w' ⟨rfl, hg⟩)
  go_ret2
  exact ⟨rfl, hg⟩
set_option maxRecDepth 100000 in
set_option maxHeartbeats 400000 in
theorem inv_any (a : Nat) (h0 : a ≠ 0) (ha : a < 256) (w : World) :
    Calls Try.prog 7 #[.int .u8 a] w fun e w' => e = .returned (.tuple #[.int .u8 (ginv a : Nat), .int .i64 0]) ∧ Grown w w' := by
  have hl := lg_lt a h0 ha
  have HI : Hid (ginv a = gexp (-(lg a : Int))) := Lib.hid rfl
  have HL := fun w => log_any a h0 ha w
  generalize lg a = l at *
  generalize ginv a = g at *
  have HL' := Lib.hid HL
  clear HL
  go_enter Try.func7, Try.ntmps7
  go_wp2_with (first | (go_at_call 15; refine (HL'.out _).mono ?_; rintro e w' ⟨rfl, hg⟩) | (go_at_call 17; refine (exp_any _ _).mono ?_; rintro e w' ⟨rfl, rfl⟩))
  go_ret2
  exact ⟨by rw [HI.out]; rfl, hg⟩
set_option maxHeartbeats 400000 in
theorem div_zero (a : Nat) (w : World) :
    Calls Try.prog 9 #[.int .u8 a, .int .u8 0] w fun e w' => e = .returned (.tuple #[.int .u8 0, .int .i64 1]) ∧ Grown w w' := by
  go_enter Try.func9, Try.ntmps9
  go_wp2_with (go_at_call 7; refine (inv_zero _).mono ?_; rintro e w' ⟨rfl, hg⟩)
  go_ret2
  exact ⟨rfl, hg⟩
set_option maxHeartbeats 400000 in
theorem div_any (a b : Nat) (ha : a < 256) (h0 : b ≠ 0) (hb : b < 256) (w : World) :
    Calls Try.prog 9 #[.int .u8 a, .int .u8 b] w fun e w' => e = .returned (.tuple #[.int .u8 (gmul a (ginv b) : Nat), .int .i64 0]) ∧ Grown w w' := by
  have hg : ginv b < 256 := gexp_lt _
  go_enter Try.func9, Try.ntmps9
  go_wp2_with (first | (go_at_call 7; refine (inv_any b h0 hb _).mono ?_; rintro e w' ⟨rfl, hw⟩) | (go_at_call 12; refine (mul_any a _ ha hg _).mono ?_; rintro e w' ⟨rfl, rfl⟩))
  go_ret2
  exact ⟨rfl, hw⟩

/-! ### the examples -/
theorem lg_two : lg 2 = 1 := by
  have h := lg_pw 1 (by decide)
  rwa [show pw 1 = 2 by decide +kernel] at h
theorem ginv_two : ginv 2 = 142 := (ginv_only 2 142 (by decide) (by decide) (by decide) (by decide +kernel)).symm
theorem inv_2 (w : World) : Calls Try.prog 7 #[.int .u8 2] w fun e w' => e = .returned (.tuple #[.int .u8 142, .int .i64 0]) ∧ Grown w w' := by
  have h := inv_any 2 (by decide) (by decide) w
  rw [ginv_two] at h
  exact h
theorem log_2 (w : World) : Calls Try.prog 15 #[.int .u8 2] w fun e w' => e = .returned (.tuple #[.int .i64 1, .int .i64 0]) ∧ Grown w w' := by
  have h := log_any 2 (by decide) (by decide) w
  rw [lg_two] at h
  exact h
theorem div_5 (w : World) : Calls Try.prog 9 #[.int .u8 5, .int .u8 0] w fun e w' => e = .returned (.tuple #[.int .u8 0, .int .i64 1]) ∧ Grown w w' := div_zero 5 w
theorem mul_128 (w : World) : Calls Try.prog 12 #[.int .u8 128, .int .u8 2] w fun e w' => e = .returned (.int .u8 29) ∧ w = w' := by
  have h := mul_any 128 2 (by decide) (by decide) w
  rw [show gmul 128 2 = 29 by decide +kernel] at h
  exact h
theorem add_5 (w : World) : Calls Try.prog 11 #[.int .u8 5, .int .u8 3] w fun e w' => e = .returned (.int .u8 6) ∧ w = w' := by
  have h := add_any 5 3 (by decide) (by decide) w
  rw [show 5 ^^^ 3 = 6 by decide +kernel] at h
  exact h
theorem exp_at (n : Int) (v : Nat) (e : gexp n = v) (w : World) : Calls Try.prog 17 #[.int .i64 n] w fun e w' => e = .returned (.int .u8 v) ∧ w = w' := by
  rw [← e]; exact exp_any n w
theorem exp_0 (w : World) : Calls Try.prog 17 #[.int .i64 0] w fun e w' => e = .returned (.int .u8 1) ∧ w = w' := exp_at 0 1 (by decide +kernel) w
theorem exp_255 (w : World) : Calls Try.prog 17 #[.int .i64 255] w fun e w' => e = .returned (.int .u8 1) ∧ w = w' := exp_at 255 1 (by decide +kernel) w
theorem exp_neg (w : World) : Calls Try.prog 17 #[.int .i64 (-1)] w fun e w' => e = .returned (.int .u8 142) ∧ w = w' := exp_at (-1) 142 (by decide +kernel) w

set_option maxRecDepth 100000 in
set_option maxHeartbeats 800000 in
theorem awake_any (w : World) : Calls Try.prog 14 #[] w fun e w' => e = .returned (.bool true) ∧ Grown w w' := by
  go_enter Try.func14, Try.ntmps14
  go_wp2_with fail
  refine (inv_zero _).mono ?_; rintro e w1 ⟨rfl, g1⟩
  go_wp2_with fail
  refine (inv_2 _).mono ?_; rintro e w2 ⟨rfl, g2⟩
  go_wp2_with fail
  refine (div_5 _).mono ?_; rintro e w3 ⟨rfl, g3⟩
  go_wp2_with fail
  refine (log_2 _).mono ?_; rintro e w4 ⟨rfl, g4⟩
  go_wp2_with fail
  refine (log_zero _).mono ?_; rintro e w5 ⟨rfl, g5⟩
  have G := Lib.hid (grown_trans (grown_trans (grown_trans (grown_trans g1 g2) g3) g4) g5)
  clear g1 g2 g3 g4 g5
  go_wp2_with fail
  refine (mul_128 _).mono ?_; rintro e w6 ⟨rfl, rfl⟩
  go_wp2_with fail
  refine (add_5 _).mono ?_; rintro e w6 ⟨rfl, rfl⟩
  go_wp2_with fail
  refine (exp_0 _).mono ?_; rintro e w6 ⟨rfl, rfl⟩
  go_wp2_with fail
  refine (exp_255 _).mono ?_; rintro e w6 ⟨rfl, rfl⟩
  go_wp2_with fail
  refine (exp_neg _).mono ?_; rintro e w6 ⟨rfl, rfl⟩
  go_wp2_with fail
  go_ret
  exact ⟨rfl, G.out⟩
end Go.Proofs.Ytldckbeoeklicaa

/- Proved: lemmas of one statement's proof, merged by program: what each part proves stands ahead of it. Conditions: those that the lemmas name. -/
import Derived.Test.YtodokgkchmpmnaaGreatM6
import Derived.Test.YtodokgkchmpmnaaGreatM9

/- Proved: what Exp of package gf answers for every int. Conditions: none but those that the theorems name. -/
namespace Go.Proofs.YtodokgkchmpmnaaGreat
open Go.ChangeShapes Go.WideShapes Go.ChangeAt Go.RowKit

theorem tmod_down (n : Int) (h : n < 0) : -255 < n.tmod 255 ∧ n.tmod 255 ≤ 0 ∧ (n.tmod 255 < 0 → n % 255 = n.tmod 255 + 255) ∧ (n.tmod 255 = 0 → n % 255 = 0) := by
  obtain ⟨m, rfl⟩ : ∃ m : Nat, n = -(m : Int) := ⟨n.natAbs, by omega⟩
  rw [Int.neg_tmod, Int.tmod_eq_emod_of_nonneg (by omega)]
  omega

set_option maxHeartbeats 400000 in
theorem exp_up (n : Int) (h0 : 0 ≤ n) (w : World) :
    Calls Tryz.prog 136 #[.int .i64 n] w fun e w' => e = .returned (.int .u8 (gexp n : Nat)) ∧ w = w' := by
  go_enter Tryz.func136, Tryz.ntmps136
  go_wp2_with fail
  go_loop [3, 11] (fun x i => ∃ k : Nat, (k : Int) ≤ n % 255 ∧ i = .int .i64 k ∧ x = .int .u8 (pw k : Nat)) (fun _ i => (n % 255).toNat - (intOf i).toNat)
  case atStart => exact ⟨0, by omega, rfl, rfl⟩
  case round =>
    obtain ⟨k, hk, rfl, rfl⟩ := hrel
    have hl := pw_lt k
    by_cases hlt : (k : Int) < n % 255
    · go_wp2_with (go_at_call 137; refine (double_any _ hl _).mono ?_; rintro e w' ⟨rfl, rfl⟩)
      go_round
      case rel => exact ⟨k + 1, by omega, by go_num, rfl⟩
      case measure => simp [intOf]; omega
    · go_wp2_with fail
      go_ret
      refine ⟨ret_int ?_, rfl⟩
      unfold gexp
      congr 2
      omega

set_option maxHeartbeats 400000 in
theorem exp_down (n : Int) (h0 : n < 0) (w : World) :
    Calls Tryz.prog 136 #[.int .i64 n] w fun e w' => e = .returned (.int .u8 (gexp n : Nat)) ∧ w = w' := by
  obtain ⟨d1, d2, d3, d4⟩ := tmod_down n h0
  have D3 := Lib.hid d3
  have D4 := Lib.hid d4
  clear d3 d4
  by_cases hz : n.tmod 255 < 0
  · go_enter Tryz.func136, Tryz.ntmps136
    go_wp2_with fail
    go_loop [3, 11] (fun x i => ∃ k : Nat, (k : Int) ≤ n.tmod 255 + 255 ∧ i = .int .i64 k ∧ x = .int .u8 (pw k : Nat)) (fun _ i => (n.tmod 255 + 255).toNat - (intOf i).toNat)
    case atStart => exact ⟨0, by omega, rfl, rfl⟩
    case round =>
      obtain ⟨k, hk, rfl, rfl⟩ := hrel
      have hl := pw_lt k
      by_cases hlt : (k : Int) < n.tmod 255 + 255
      · go_wp2_with (go_at_call 137; refine (double_any _ hl _).mono ?_; rintro e w' ⟨rfl, rfl⟩)
        go_round
        case rel => exact ⟨k + 1, by omega, by go_num, rfl⟩
        case measure => simp [intOf]; omega
      · go_wp2_with fail
        go_ret
        refine ⟨ret_int ?_, rfl⟩
        unfold gexp
        have E := D3.out hz
        congr 2
        omega
  · go_enter Tryz.func136, Tryz.ntmps136
    go_wp2_with fail
    go_loop [3, 11] (fun x i => ∃ k : Nat, (k : Int) ≤ n.tmod 255 ∧ i = .int .i64 k ∧ x = .int .u8 (pw k : Nat)) (fun _ i => (n.tmod 255).toNat - (intOf i).toNat)
    case atStart => exact ⟨0, by omega, rfl, rfl⟩
    case round =>
      obtain ⟨k, hk, rfl, rfl⟩ := hrel
      have hl := pw_lt k
      by_cases hlt : (k : Int) < n.tmod 255
      · go_wp2_with (go_at_call 137; refine (double_any _ hl _).mono ?_; rintro e w' ⟨rfl, rfl⟩)
        go_round
        case rel => exact ⟨k + 1, by omega, by go_num, rfl⟩
        case measure => simp [intOf]; omega
      · go_wp2_with fail
        go_ret
        refine ⟨ret_int ?_, rfl⟩
        unfold gexp
        have E := D4.out (by omega)
        congr 2
        omega
theorem exp_any (n : Int) (w : World) :
    Calls Tryz.prog 136 #[.int .i64 n] w fun e w' => e = .returned (.int .u8 (gexp n : Nat)) ∧ w = w' := by
  by_cases h : 0 ≤ n
  · exact exp_up n h w
  · exact exp_down n (by omega) w
end Go.Proofs.YtodokgkchmpmnaaGreat

/- Proved: what Inv of package gf answers for every byte but 0, and that memory is kept. Conditions: those that the theorems name. -/
namespace Go.Proofs.YtodokgkchmpmnaaGreat
open Go.ChangeShapes Go.WideShapes Go.ChangeAt Go.RowKit

theorem below_setRow {B : Nat} {a w : World} (h : Below B a w) {g : Nat} (hg : B ≤ g) (cs : Array Value) : Below B a (w.setRow g cs) :=
  h.trans ⟨rfl, rfl, rfl, by rw [setRow_size]; exact Nat.le_refl _, fun k hk => setRow_other _ _ _ _ (by omega)⟩

set_option maxRecDepth 100000 in
set_option maxHeartbeats 400000 in
theorem logs_any_keep (w : World) :
    Calls Tryz.prog 139 #[] w fun e w' => e = .returned (.agg (rowOf 255)) ∧ Below w.heap.size w w' := by
  have hz := zero41
  go_enter Tryz.func139, Tryz.ntmps139
  go_wp2_with fail
  go_loopw [2, 3, 4] (fun x _ i wr => ∃ k : Nat, k ≤ 255 ∧ i = .int .i64 k ∧ x = .int .u8 (pw k : Nat) ∧ wr = (w.alloc (.cells (rowOf 0) 201)).alloc (.cells (rowOf k) 201)) (fun _ _ i _ => 255 - (intOf i).toNat)
  case atStart => exact ⟨0, by omega, rfl, rfl, rfl⟩
  case round =>
    obtain ⟨k, hk, rfl, rfl, rfl⟩ := hrel
    have hl := pw_lt k
    have hat := rowOf_at k (pw k) hl
    clear hz
    by_cases hlt : k < 255
    · have HN := Lib.hid (rowOf_succ k)
      generalize hT : tab k (pw k) = t0 at *
      clear hT
      generalize hR : rowOf k = R at *
      have HR := Lib.hid hR
      clear hR
      generalize rowOf 0 = Z at *
      generalize hx : pw k = x at *
      have HX := Lib.hid hx
      clear hx
      go_wp2_with (go_at_call 137; refine (double_any _ hl _).mono ?_; rintro e w' ⟨rfl, rfl⟩)
      have hN := HN.out
      have hX := HX.out
      subst hX
      go_roundw
      case rel => exact ⟨k + 1, by omega, by go_num, rfl, by rw [hN]⟩
      case measure => simp [intOf]; omega
    · obtain rfl : k = 255 := by omega
      have hg1 := heap_alloc2_new w (.cells (rowOf 0) 201) (.cells (rowOf 255) 201)
      have hg0 := heap_alloc2_old w (.cells (rowOf 0) 201) (.cells (rowOf 255) 201)
      have hq : Below w.heap.size w ((w.alloc (.cells (rowOf 0) 201)).alloc (.cells (rowOf 255) 201)) := ((Below.refl _ w).alloc (Nat.le_refl _) _).alloc (by simp) _
      have hs0 : (rowOf 0).size = (rowOf 255).size := by rw [rowOf_size, rowOf_size]
      have hi := info41 255
      have ho := rowOf_one 255
      clear hat hl hk hlt
      generalize hR : rowOf 255 = R at *
      have HR := Lib.hid hR
      clear hR
      generalize rowOf 0 = Z at *
      generalize (w.alloc (.cells Z 201)).alloc (.cells R 201) = W at *
      have G := Lib.hid hq
      have H1 := Lib.hid hg1
      have H0 := Lib.hid hg0
      have HI := Lib.hid hi
      have HO := Lib.hid ho
      have HS := Lib.hid hs0
      clear hq hg1 hg0 hi ho hs0
      go_wp2_with (first
        | (refine wpList_load_row rfl 201 _ rfl (w.heap.size + 1) rfl 201 R (0, 0) _ H1.out under41 rfl HI.out ?_)
        | (refine wpList_store_row rfl 201 _ _ rfl w.heap.size R rfl rfl 201 Z H0.out HI.out HS.out HO.out ?_))
      refine bodyPost_ret (results_cell_row rfl _ _ w.heap.size 201 R (0, 0) _ rfl (setRow_heap _ _ _ _ _ _ H0.out) under41 rfl HI.out) rfl ⟨by rw [HR.out], below_setRow G.out (Nat.le_refl _) _⟩

theorem logs_some_keep (w : World) (R : Array Value) (h : R = rowOf 255) :
    Calls Tryz.prog 139 #[] w fun e w' => e = .returned (.agg R) ∧ Below w.heap.size w w' := by
  rw [h]; exact logs_any_keep w
set_option maxRecDepth 100000 in
set_option maxHeartbeats 400000 in
theorem log_core_keep (a t : Nat) (R : Array Value) (hn : ((a : Int) == 0) = false) (ht : t < 256) (hR : Hid (R = rowOf 255))
    (hi : ∀ w : World, (Instr.index 201 (.agg R) (.int .u8 a)).run Tryz.prog w = .ok (.int .u8 t) w) (w : World) :
    Calls Tryz.prog 135 #[.int .u8 a] w fun e w' => e = .returned (.tuple #[.int .i64 t, .int .i64 0]) ∧ Below w.heap.size w w' := by
  go_enter Tryz.func135, Tryz.ntmps135
  go_wp2_with (go_at_call 139; refine (logs_some_keep _ R hR.out).mono ?_; rintro e w' ⟨rfl, hg⟩)
  go_ret2
  exact ⟨rfl, hg⟩
theorem log_any_keep (a : Nat) (h0 : a ≠ 0) (ha : a < 256) (w : World) :
    Calls Tryz.prog 135 #[.int .u8 a] w fun e w' => e = .returned (.tuple #[.int .i64 (lg a : Nat), .int .i64 0]) ∧ Below w.heap.size w w' :=
  log_core_keep a (lg a) (rowOf 255) (by simpa using h0) (Nat.lt_trans (lg_lt a h0 ha) (by decide)) (Lib.hid rfl) (index41 a _ _ ha (rowOf_at 255 a ha)) w
set_option maxRecDepth 100000 in
set_option maxHeartbeats 400000 in
theorem inv_keep (a : Nat) (h0 : a ≠ 0) (ha : a < 256) (w : World) :
    Calls Tryz.prog 126 #[.int .u8 a] w fun e w' => e = .returned (.tuple #[.int .u8 (ginv a : Nat), .int .i64 0]) ∧ Below w.heap.size w w' := by
  have hl := lg_lt a h0 ha
  have HI : Hid (ginv a = gexp (-(lg a : Int))) := Lib.hid rfl
  have HL := fun w => log_any_keep a h0 ha w
  generalize lg a = l at *
  generalize ginv a = g at *
  have HL' := Lib.hid HL
  clear HL
  go_enter Tryz.func126, Tryz.ntmps126
  go_wp2_with (first | (go_at_call 135; refine (HL'.out _).mono ?_; rintro e w' ⟨rfl, hg⟩) | (go_at_call 136; refine (exp_any _ _).mono ?_; rintro e w' ⟨rfl, rfl⟩))
  go_ret2
  exact ⟨by rw [HI.out]; rfl, hg⟩
end Go.Proofs.YtodokgkchmpmnaaGreat

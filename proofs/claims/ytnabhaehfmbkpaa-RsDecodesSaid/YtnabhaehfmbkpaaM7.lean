/- Proved: lemmas of one statement's proof, merged by program: what each part proves stands ahead of it. Conditions: those that the lemmas name. -/
import Derived.Test.YtnabhaehfmbkpaaM2
import Derived.Test.YtnabhaehfmbkpaaM6
import Derived.Test.YtnabhaehfmbkpaaM3
import Derived.WalkMore
import Derived.ScopeJumps

/- Proved: what Exp of package gf answers for every int. Conditions: none but those that the theorems name. -/
namespace Go.Proofs.Ytnabhaehfmbkpaa
open Go.ChangeShapes Go.WideShapes Go.ChangeAt Go.RowKit

theorem tmod_down (n : Int) (h : n < 0) : -255 < n.tmod 255 ∧ n.tmod 255 ≤ 0 ∧ (n.tmod 255 < 0 → n % 255 = n.tmod 255 + 255) ∧ (n.tmod 255 = 0 → n % 255 = 0) := by
  obtain ⟨m, rfl⟩ : ∃ m : Nat, n = -(m : Int) := ⟨n.natAbs, by omega⟩
  rw [Int.neg_tmod, Int.tmod_eq_emod_of_nonneg (by omega)]
  omega

set_option maxHeartbeats 400000 in
theorem exp_up (n : Int) (h0 : 0 ≤ n) (w : World) :
    Calls Try.prog 56 #[.int .i64 n] w fun e w' => e = .returned (.int .u8 (gexp n : Nat)) ∧ w = w' := by
  go_enter Try.func56, Try.ntmps56
  go_wp2_with fail
  go_loop [3, 11] (fun x i => ∃ k : Nat, (k : Int) ≤ n % 255 ∧ i = .int .i64 k ∧ x = .int .u8 (pw k : Nat)) (fun _ i => (n % 255).toNat - (intOf i).toNat)
  case atStart => exact ⟨0, by omega, rfl, rfl⟩
  case round =>
    obtain ⟨k, hk, rfl, rfl⟩ := hrel
    have hl := pw_lt k
    by_cases hlt : (k : Int) < n % 255
    · go_wp2_with (go_at_call 62; refine (double_any _ hl _).mono ?_; rintro e w' ⟨rfl, rfl⟩)
      go_round
      case rel => exact ⟨k + 1, by omega, by go_num, rfl⟩
      case measure => simp [intOf]; omega
    · go_wp2_with fail
      go_ret
      refine ⟨ret_int ?_, rfl⟩
      unfold gexp
      congr 2
      omega

set_option maxHeartbeats 400000 in
theorem exp_down (n : Int) (h0 : n < 0) (w : World) :
    Calls Try.prog 56 #[.int .i64 n] w fun e w' => e = .returned (.int .u8 (gexp n : Nat)) ∧ w = w' := by
  obtain ⟨d1, d2, d3, d4⟩ := tmod_down n h0
  have D3 := Lib.hid d3
  have D4 := Lib.hid d4
  clear d3 d4
  by_cases hz : n.tmod 255 < 0
  · go_enter Try.func56, Try.ntmps56
    go_wp2_with fail
    go_loop [3, 11] (fun x i => ∃ k : Nat, (k : Int) ≤ n.tmod 255 + 255 ∧ i = .int .i64 k ∧ x = .int .u8 (pw k : Nat)) (fun _ i => (n.tmod 255 + 255).toNat - (intOf i).toNat)
    case atStart => exact ⟨0, by omega, rfl, rfl⟩
    case round =>
      obtain ⟨k, hk, rfl, rfl⟩ := hrel
      have hl := pw_lt k
      by_cases hlt : (k : Int) < n.tmod 255 + 255
      · go_wp2_with (go_at_call 62; refine (double_any _ hl _).mono ?_; rintro e w' ⟨rfl, rfl⟩)
        go_round
        case rel => exact ⟨k + 1, by omega, by go_num, rfl⟩
        case measure => simp [intOf]; omega
      · go_wp2_with fail
        go_ret
        refine ⟨ret_int ?_, rfl⟩
        unfold gexp
        have E := D3.out hz
        congr 2
        omega
  · go_enter Try.func56, Try.ntmps56
    go_wp2_with fail
    go_loop [3, 11] (fun x i => ∃ k : Nat, (k : Int) ≤ n.tmod 255 ∧ i = .int .i64 k ∧ x = .int .u8 (pw k : Nat)) (fun _ i => (n.tmod 255).toNat - (intOf i).toNat)
    case atStart => exact ⟨0, by omega, rfl, rfl⟩
    case round =>
      obtain ⟨k, hk, rfl, rfl⟩ := hrel
      have hl := pw_lt k
      by_cases hlt : (k : Int) < n.tmod 255
      · go_wp2_with (go_at_call 62; refine (double_any _ hl _).mono ?_; rintro e w' ⟨rfl, rfl⟩)
        go_round
        case rel => exact ⟨k + 1, by omega, by go_num, rfl⟩
        case measure => simp [intOf]; omega
      · go_wp2_with fail
        go_ret
        refine ⟨ret_int ?_, rfl⟩
        unfold gexp
        have E := D4.out (by omega)
        congr 2
        omega
theorem exp_any (n : Int) (w : World) :
    Calls Try.prog 56 #[.int .i64 n] w fun e w' => e = .returned (.int .u8 (gexp n : Nat)) ∧ w = w' := by
  by_cases h : 0 ≤ n
  · exact exp_up n h w
  · exact exp_down n (by omega) w
end Go.Proofs.Ytnabhaehfmbkpaa

/- Proved: what Inv of package gf answers for every byte but 0, and that memory is kept. Conditions: those that the theorems name. -/
namespace Go.Proofs.Ytnabhaehfmbkpaa
open Go.ChangeShapes Go.WideShapes Go.ChangeAt Go.RowKit

theorem below_setRow {B : Nat} {a w : World} (h : Below B a w) {g : Nat} (hg : B ≤ g) (cs : Array Value) : Below B a (w.setRow g cs) :=
  h.trans ⟨rfl, rfl, rfl, by rw [setRow_size]; exact Nat.le_refl _, fun k hk => setRow_other _ _ _ _ (by omega)⟩

set_option maxRecDepth 100000 in
set_option maxHeartbeats 400000 in
theorem logs_any_keep (w : World) :
    Calls Try.prog 61 #[] w fun e w' => e = .returned (.agg (rowOf 255)) ∧ Below w.heap.size w w' := by
  have hz := zero41
  go_enter Try.func61, Try.ntmps61
  go_wp2_with fail
  go_loopw [2, 3, 4] (fun x _ i wr => ∃ k : Nat, k ≤ 255 ∧ i = .int .i64 k ∧ x = .int .u8 (pw k : Nat) ∧ wr = (w.alloc (.cells (rowOf 0) 97)).alloc (.cells (rowOf k) 97)) (fun _ _ i _ => 255 - (intOf i).toNat)
  case atStart => exact ⟨0, by omega, rfl, rfl, rfl⟩
  case round =>
    obtain ⟨k, hk, rfl, rfl, rfl⟩ := hrel
    have hl := pw_lt k
    have hat := rowOf_at k (pw k) hl
    clear hz
    by_cases hlt : k < 255
    · have HN := Lib.hid (rowOf_succ k)
      generalize hT : tab k (pw k) = t0 at *
      clear hT
      generalize hR : rowOf k = R at *
      have HR := Lib.hid hR
      clear hR
      generalize rowOf 0 = Z at *
      generalize hx : pw k = x at *
      have HX := Lib.hid hx
      clear hx
      go_wp2_with (go_at_call 62; refine (double_any _ hl _).mono ?_; rintro e w' ⟨rfl, rfl⟩)
      have hN := HN.out
      have hX := HX.out
      subst hX
      go_roundw
      case rel => exact ⟨k + 1, by omega, by go_num, rfl, by rw [hN]⟩
      case measure => simp [intOf]; omega
    · obtain rfl : k = 255 := by omega
      have hg1 := heap_alloc2_new w (.cells (rowOf 0) 97) (.cells (rowOf 255) 97)
      have hg0 := heap_alloc2_old w (.cells (rowOf 0) 97) (.cells (rowOf 255) 97)
      have hq : Below w.heap.size w ((w.alloc (.cells (rowOf 0) 97)).alloc (.cells (rowOf 255) 97)) := ((Below.refl _ w).alloc (Nat.le_refl _) _).alloc (by simp) _
      have hs0 : (rowOf 0).size = (rowOf 255).size := by rw [rowOf_size, rowOf_size]
      have hi := info41 255
      have ho := rowOf_one 255
      clear hat hl hk hlt
      generalize hR : rowOf 255 = R at *
      have HR := Lib.hid hR
      clear hR
      generalize rowOf 0 = Z at *
      generalize (w.alloc (.cells Z 97)).alloc (.cells R 97) = W at *
      have G := Lib.hid hq
      have H1 := Lib.hid hg1
      have H0 := Lib.hid hg0
      have HI := Lib.hid hi
      have HO := Lib.hid ho
      have HS := Lib.hid hs0
      clear hq hg1 hg0 hi ho hs0
      go_wp2_with (first
        | (refine wpList_load_row rfl 97 _ rfl (w.heap.size + 1) rfl 97 R (0, 0) _ H1.out under41 rfl HI.out ?_)
        | (refine wpList_store_row rfl 97 _ _ rfl w.heap.size R rfl rfl 97 Z H0.out HI.out HS.out HO.out ?_))
      refine bodyPost_ret (results_cell_row rfl _ _ w.heap.size 97 R (0, 0) _ rfl (setRow_heap _ _ _ _ _ _ H0.out) under41 rfl HI.out) rfl ⟨by rw [HR.out], below_setRow G.out (Nat.le_refl _) _⟩

theorem logs_some_keep (w : World) (R : Array Value) (h : R = rowOf 255) :
    Calls Try.prog 61 #[] w fun e w' => e = .returned (.agg R) ∧ Below w.heap.size w w' := by
  rw [h]; exact logs_any_keep w
set_option maxRecDepth 100000 in
set_option maxHeartbeats 400000 in
theorem log_core_keep (a t : Nat) (R : Array Value) (hn : ((a : Int) == 0) = false) (ht : t < 256) (hR : Hid (R = rowOf 255))
    (hi : ∀ w : World, (Instr.index 97 (.agg R) (.int .u8 a)).run Try.prog w = .ok (.int .u8 t) w) (w : World) :
    Calls Try.prog 55 #[.int .u8 a] w fun e w' => e = .returned (.tuple #[.int .i64 t, .int .i64 0]) ∧ Below w.heap.size w w' := by
  go_enter Try.func55, Try.ntmps55
  go_wp2_with (go_at_call 61; refine (logs_some_keep _ R hR.out).mono ?_; rintro e w' ⟨rfl, hg⟩)
  go_ret2
  exact ⟨rfl, hg⟩
theorem log_any_keep (a : Nat) (h0 : a ≠ 0) (ha : a < 256) (w : World) :
    Calls Try.prog 55 #[.int .u8 a] w fun e w' => e = .returned (.tuple #[.int .i64 (lg a : Nat), .int .i64 0]) ∧ Below w.heap.size w w' :=
  log_core_keep a (lg a) (rowOf 255) (by simpa using h0) (Nat.lt_trans (lg_lt a h0 ha) (by decide)) (Lib.hid rfl) (index41 a _ _ ha (rowOf_at 255 a ha)) w
set_option maxRecDepth 100000 in
set_option maxHeartbeats 400000 in
theorem inv_keep (a : Nat) (h0 : a ≠ 0) (ha : a < 256) (w : World) :
    Calls Try.prog 47 #[.int .u8 a] w fun e w' => e = .returned (.tuple #[.int .u8 (ginv a : Nat), .int .i64 0]) ∧ Below w.heap.size w w' := by
  have hl := lg_lt a h0 ha
  have HI : Hid (ginv a = gexp (-(lg a : Int))) := Lib.hid rfl
  have HL := fun w => log_any_keep a h0 ha w
  generalize lg a = l at *
  generalize ginv a = g at *
  have HL' := Lib.hid HL
  clear HL
  go_enter Try.func47, Try.ntmps47
  go_wp2_with (first | (go_at_call 55; refine (HL'.out _).mono ?_; rintro e w' ⟨rfl, hg⟩) | (go_at_call 56; refine (exp_any _ _).mono ?_; rintro e w' ⟨rfl, rfl⟩))
  go_ret2
  exact ⟨by rw [HI.out]; rfl, hg⟩
end Go.Proofs.Ytnabhaehfmbkpaa

/- Proved: what Scale and MulAdd of package vector answer for every byte and rows of bytes. Conditions: those that the theorems name. -/
namespace Go.Proofs.Ytnabhaehfmbkpaa
open Go.ChangeShapes Go.WideShapes Go.ChangeAt Go.RowKit

set_option maxHeartbeats 400000 in
theorem scale_none (B : Option Addr) (m d : Nat) (w : World) :
    Calls Try.prog 49 #[.int .u8 (m : Nat), .slice B 0 d] w (GivesC w 0 []) := by
  go_enter Try.func49, Try.ntmps49
  go_wp2_with (go_at_call 57; refine (row_none _ _ _).mono ?_; rintro e w' ⟨rfl, rfl⟩)
  go_loop [12] (fun i => i = .int .i64 0) (fun _ => 0)
  case atStart => rfl
  case round =>
    subst hrel
    go_wp2_with fail
    go_ret
    exact ⟨_, _, rfl, Nat.le_refl _, Bs.nil _ _, Below.refl _ _⟩

theorem mul_swap (m v : Nat) (hm : m < 256) (hv : v < 256) (w : World) :
    Calls Try.prog 59 #[.int .u8 (v : Nat), .int .u8 (m : Nat)] w fun e w' => e = .returned (.int .u8 (gmul m v : Nat)) ∧ w = w' := by
  rw [gmul_comm m v hm hv]; exact mul_any v m hv hm w

set_option maxHeartbeats 400000 in
theorem scale_some (bd : Addr) (m n d : Nat) (b : List Nat) (w : World) (hmm : m < 256) (hb : Bs w (some bd) n b) (h0 : 0 < n) (hm : n ≤ 140737488355328) :
    Calls Try.prog 49 #[.int .u8 (m : Nat), .slice (some bd) n d] w (GivesC w n (scaleL n m b)) := by
  have HB := Lib.hid hb
  clear hb
  go_enter Try.func49, Try.ntmps49
  go_wp2_with (go_at_call 57; refine (row_some bd n d b w HB.out h0 hm).mono ?_; rintro e w1 ⟨g, hg, rfl, ho, hbel⟩; have HO := Lib.hid ho; have HW := Lib.hid hbel; clear ho hbel)
  go_loopw [12] (fun i wr => ∃ k : Nat, k ≤ n ∧ i = .int .i64 k ∧ ∃ l, Upto n k (fun j => gmul m (b.getD j 0)) b l ∧ Own wr g n l ∧ Below w.heap.size w wr) (fun i _ => n - (intOf i).toNat)
  case atStart => exact ⟨0, by omega, rfl, b, Upto.start HB.out.len, HO.out, HW.out⟩
  case round =>
    obtain ⟨k, hk, rfl, l, hu, ho, hbel⟩ := hrel
    have HU := Lib.hid hu
    have HO' := Lib.hid ho
    have HW' := Lib.hid hbel
    clear hu ho hbel HO HW
    by_cases hlt : k < n
    · have hac : wr.cell? ⟨g, k, none⟩ = some (.int .u8 (b.getD k 0 : Nat)) := by
        rw [← HU.out.here hlt]; exact HO'.out.cell hlt
      have hfz := HO'.out.frozen k
      have hy := HB.out.lt k
      go_wp2_with (go_at_call 59; refine (mul_swap m _ hmm hy _).mono ?_; rintro e w' ⟨rfl, rfl⟩)
      go_roundw
      case rel => exact ⟨k + 1, by omega, by go_num, _, HU.out.next hlt, HO'.out.set_ hlt (gmul_lt _ hmm), HW'.out.setCell hg _⟩
      case measure => simp [intOf]; omega
    · obtain rfl : k = n := by omega
      go_wp2_with fail
      go_ret
      refine ⟨_, _, rfl, Nat.le_refl _, ?_, HW'.out⟩
      have e := HU.out.done
      have h := HO'.out.bs
      rw [e] at h
      exact h

theorem scale_cap (B : Option Addr) (m n d : Nat) (b : List Nat) (w : World) (hmm : m < 256) (hb : Bs w B n b) (hm : n ≤ 140737488355328) :
    Calls Try.prog 49 #[.int .u8 (m : Nat), .slice B n d] w (GivesC w n (scaleL n m b)) := by
  by_cases h0 : n = 0
  · subst h0; exact scale_none B m d w
  · obtain ⟨bd, rfl, _⟩ := hb.at_ (k := 0) (by omega)
    exact scale_some bd m n d b w hmm hb (by omega) hm
theorem scale_any (B : Option Addr) (m n d : Nat) (b : List Nat) (w : World) (hmm : m < 256) (hb : Bs w B n b) (hm : n ≤ 140737488355328) :
    Calls Try.prog 49 #[.int .u8 (m : Nat), .slice B n d] w (Gives w n (scaleL n m b)) := (scale_cap B m n d b w hmm hb hm).mono fun _ _ h => h.gives

set_option maxHeartbeats 400000 in
theorem muladd_cap (A B : Option Addr) (m n c d : Nat) (a b : List Nat) (w : World) (hmm : m < 256) (ha : Bs w A n a) (hb : Bs w B n b) (hm : n ≤ 140737488355328) :
    Calls Try.prog 36 #[.slice A n c, .int .u8 (m : Nat), .slice B n d] w (Gives2C w n (addL n a (scaleL n m b))) := by
  have HA := Lib.hid ha
  have HB := Lib.hid hb
  clear ha hb
  go_enter Try.func36, Try.ntmps36
  go_wp2_with fail
  refine (scale_any B m n d b w hmm HB.out hm).mono ?_; rintro e w1 ⟨A1, c1, rfl, h1, g1⟩
  have H1 := Lib.hid h1; have G1 := Lib.hid g1; clear h1 g1
  go_wp2_with fail
  refine (add_cap A A1 n c c1 a _ w1 (HA.out.below G1.out) H1.out hm).mono ?_; rintro e w2 ⟨A2, c2, rfl, k2, h2, g2⟩
  have H2 := Lib.hid h2; have G2 := Lib.hid g2; clear h2 g2
  go_wp2_with fail
  go_ret2
  exact ⟨_, _, rfl, k2, H2.out, G1.out.trans (G2.out.mono G1.out.size)⟩
theorem muladd_like (A B : Option Addr) (m n c d : Nat) (a b : List Nat) (w : World) (hmm : m < 256) (ha : Bs w A n a) (hb : Bs w B n b) (hm : n ≤ 140737488355328) :
    Calls Try.prog 36 #[.slice A n c, .int .u8 (m : Nat), .slice B n d] w (Gives2 w n (addL n a (scaleL n m b))) := (muladd_cap A B m n c d a b w hmm ha hb hm).mono fun _ _ h => h.gives

set_option maxHeartbeats 400000 in
theorem muladd_unlike (A B : Option Addr) (m n k c d : Nat) (b : List Nat) (w : World) (hmm : m < 256) (h : n ≠ k) (hb : Bs w B k b) (hm : k ≤ 140737488355328) :
    Calls Try.prog 36 #[.slice A n c, .int .u8 (m : Nat), .slice B k d] w fun e w' => e = .returned (.tuple #[.slice none 0 0, .int .i64 16]) ∧ Below w.heap.size w w' := by
  have HB := Lib.hid hb
  have HN := Lib.hid h
  clear hb h
  go_enter Try.func36, Try.ntmps36
  go_wp2_with fail
  refine (scale_any B m k d b w hmm HB.out hm).mono ?_; rintro e w1 ⟨A1, c1, rfl, h1, g1⟩
  have G1 := Lib.hid g1; clear h1 g1
  go_wp2_with fail
  refine (add_unlike A A1 n k c c1 w1 HN.out).mono ?_; rintro e w2 ⟨rfl, rfl⟩
  go_wp2_with fail
  go_ret2
  exact ⟨rfl, G1.out⟩
end Go.Proofs.Ytnabhaehfmbkpaa

/- Proved: what pivot, clearOthers and reduce of package matrix answer for every table. Conditions: those that the theorems name. -/
namespace Go.Proofs.Ytnabhaehfmbkpaa
open Go.ChangeShapes Go.WideShapes Go.ChangeAt Go.RowKit

set_option maxRecDepth 100000 in
set_option maxHeartbeats 800000 in
theorem pivot_any (A : Option Addr) (n c m done place places : Nat) (t : List (List Nat)) (w : World) (ht : Rows w A n t) (hl : ∀ r, r < n → (rw_ t r).length = m) (hn : n ≤ 255) (hd : done ≤ n) (hp : place ≤ places) (hm : places ≤ m) (hm2 : m ≤ 1000) :
    Calls Try.prog 52 #[.slice A n c, .int .i64 (done : Nat), .int .i64 (place : Nat), .int .i64 (places : Nat)] w fun e w' => w = w' ∧ ∃ v q, e = .returned (.tuple #[v, .int .i64 (q : Nat)]) ∧ PivAt t n done place places v q := by
  have HT := Lib.hid ht
  have HL := Lib.hid hl
  clear ht hl
  go_enter Try.func52, Try.ntmps52
  go_wp2_with fail
  go_step3
  go_wp2_with fail
  go_step3
  go_wp2_with fail
  go_loop [9] (fun i => ∃ q : Nat, place ≤ q ∧ q ≤ places ∧ i = .int .i64 q ∧ ∀ j, place ≤ j → j < q → ∀ i, done ≤ i → i < n → bt t i j = 0) (fun i => places - (intOf i).toNat)
  case atStart => exact ⟨place, by omega, by omega, rfl, fun j h1 h2 => absurd h2 (by omega)⟩
  case round =>
    obtain ⟨q, hq1, hq2, rfl, hz⟩ := hrel
    have HZ := Lib.hid hz
    clear hz
    by_cases hlt : q < places
    · go_wp2_with fail
      go_loop [8] (fun i => ∃ p : Nat, done ≤ p ∧ p ≤ n ∧ i = .int .i64 p ∧ ∀ i, done ≤ i → i < p → bt t i q = 0) (fun i => n - (intOf i).toNat)
      case atStart => exact ⟨done, by omega, by omega, rfl, fun j h1 h2 => absurd h2 (by omega)⟩
      case round =>
        obtain ⟨p, hp1, hp2, rfl, hy⟩ := hrel
        have HY := Lib.hid hy
        clear hy
        by_cases hpn : p < n
        · obtain ⟨ad, B, d, rfl, _, hac, hbs⟩ := HT.out.at_ hpn
          have hql : q < (rw_ t p).length := by rw [HL.out p hpn]; omega
          obtain ⟨bd, rfl, _, hbc⟩ := hbs.at_ hql
          rw [HL.out p hpn] at hac
          have hqm : q < m := by omega
          clear hbs hql
          obtain ⟨x, ex⟩ : ∃ x, x = (rw_ t p).getD q 0 := ⟨_, rfl⟩
          rw [← ex] at hbc
          have EX : Hid (bt t p q = x) := Lib.hid ex.symm
          clear ex
          by_cases hx : x = 0
          · subst hx
            go_wp2_with fail
            go_round
            case rel => exact ⟨p + 1, by omega, by omega, by go_num, fun i h1 h2 => by
              by_cases e : i = p
              · rw [e]; exact EX.out
              · exact HY.out i h1 (by omega)⟩
            case measure => simp [intOf]; omega
          · have hx' : ((x : Int) != 0) = true := by simp; omega
            have hx2 : ¬ (x : Int) = 0 := by omega
            have HX := Lib.hid hx
            clear hx
            go_wp2_with fail
            try rw [Exit.noGoto_ret]
            go_ret2
            exact ⟨rfl, _, _, rfl, hq1, hq2, HZ.out, fun _ => ⟨p, rfl, hp1, hpn, by rw [EX.out]; exact HX.out⟩⟩
        · obtain rfl : p = n := by omega
          go_wp2_with fail
          go_round
          case rel => exact ⟨q + 1, by omega, by omega, by go_num, fun j h1 h2 => by
            by_cases e : j = q
            · rw [e]; exact HY.out
            · exact HZ.out j h1 (by omega)⟩
          case measure => simp [intOf]; omega
    · obtain rfl : q = places := by omega
      go_wp2_with fail
      try rw [Exit.noGoto_ret]
      go_ret2
      exact ⟨rfl, _, _, rfl, hq1, hq2, HZ.out, fun h => absurd h (by omega)⟩
end Go.Proofs.Ytnabhaehfmbkpaa

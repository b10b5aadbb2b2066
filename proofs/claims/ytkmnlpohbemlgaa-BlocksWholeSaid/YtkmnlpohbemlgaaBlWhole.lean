/- Proved: the walk of the law on the order of bytes in package blocks. Conditions: those that the theorems name. -/
import Derived.Test.YtkmnlpohbemlgaaBlLaw
import Derived.Deep.RegionHeld3
namespace Go.Proofs.Ytkmnlpohbemlgaa
open Go.ChangeShapes Go.WideShapes Go.ChangeAt Go.RowKit

theorem bl_append_assoc (s t u : ByteArray) : s ++ t ++ u = s ++ (t ++ u) := by
  apply bts_inj
  rw [rg_bts_append, rg_bts_append, rg_bts_append, rg_bts_append, List.append_assoc]
theorem bl_append_empty (s t : ByteArray) (h : t.size = 0) : s ++ t = s := rg_ext (n := s.size) (by rw [rg_append_size]; omega) rfl fun j hj => by rw [rg_append_at, if_pos hj]
theorem bl_cut_both (s : ByteArray) (k : Nat) (h : k ≤ s.size) : s.extract 0 k ++ s.extract k s.size = s := by
  refine rg_ext (n := s.size) (by rw [rg_append_size, rg_cut_size, rg_cut_size]; omega) rfl fun j hj => ?_
  rw [rg_append_at, rg_cut_size]
  by_cases a : j < min k s.size - 0
  · rw [if_pos a, rg_cut_at _ _ _ (by omega)]
  · rw [if_neg a, rg_rest_at]
    congr 1
    omega
theorem nxK_le (n : Nat) (f : Bool) (s : ByteArray) : nxK n f s ≤ s.size := by unfold nxK; split <;> omega
theorem BB.drew {w wi : World} {b n r : Nat} {s : ByteArray} (h : BB w wi b n r s) : BB w wi.drew b n r s := h.below (Below.refl _ _).drew

set_option maxRecDepth 100000 in
set_option maxHeartbeats 6400000 in
theorem bl_whole_main (x : Nat) (A : Option Addr) (m c : Nat) (l : List ByteArray) (w : World) (hx : x < 256) (hm : (m : Int) ≤ 40) (hl : Ss w A m l) :
    Calls Try.prog 4 #[.int .u8 (x : Nat), .slice A m c] w fun e w' => e = .returned (.bool true) ∧ Below w.heap.size w w' := by
  have HL := Lib.hid hl
  have HN := bb_new w w (x + 1) 65536 (Below.refl _ _) (by omega) (by omega) (by omega) (by decide)
  have e1 : ((x + 1 : Nat) : Int) = (x : Int) + 1 := by omega
  rw [e1] at HN
  have HN := Lib.hid HN
  have hx0 : (0 : Int) ≤ (x : Int) := Int.natCast_nonneg _
  have hx1 : (x : Int) < 256 := by omega
  clear hl hx e1
  go_enter Try.func4, Try.ntmps4
  go_wp2_with fail
  refine HN.out.mono ?_; rintro e w1 ⟨b, rfl, r0⟩
  have R0 := Lib.hid r0
  clear r0 HN
  obtain ⟨N, hN⟩ : ∃ N, N = x + 1 := ⟨_, rfl⟩
  rw [← hN] at R0
  have HNN : Hid (1 ≤ N ∧ (N : Int) = (x : Int) + 1) := Lib.hid (by omega)
  clear hN
  go_wp2_with fail
  go_loopw [8, 9, 10] (fun u v i wr => ∃ k : Nat, k ≤ m ∧ i = .int .i64 k ∧ ∃ p q s : ByteArray, u = .string p ∧ v = .string q ∧ p = q ++ s ∧ p.size ≤ 300 * k ∧ BB w wr b N 65536 s) (fun _ _ i _ => m - (intOf i).toNat)
  case atStart => exact ⟨0, by omega, rfl, S0, S0, S0, rfl, rfl, rfl, Nat.zero_le _, R0.out⟩
  case round =>
    obtain ⟨k, hk, rfl, p, q, s, rfl, rfl, hpq, hps, hrb⟩ := hrel
    have HR := Lib.hid hrb
    have HPQ := Lib.hid hpq
    have HPS := Lib.hid hps
    clear R0 hrb hpq hps
    by_cases hlt : k < m
    · obtain ⟨ad, rfl, had, hc0⟩ := HL.out.at_ hlt
      have hlt' : (k : Int) < (m : Int) := by omega
      have hk0 : (0 : Int) ≤ (k : Int) := Int.natCast_nonneg _
      have hd0 := (HR.out.bel.cell (p := ad.add k) (by rw [add_block]; exact had)).trans hc0
      have HC : Hid (∀ W s', BB w W b N 65536 s' → W.cell? (ad.add k) = some (.string (st_ l k))) := Lib.hid fun W s' y => (y.bel.cell (p := ad.add k) (by rw [add_block]; exact had)).trans hc0
      clear hc0 had
      generalize st_ l k = t at *
      by_cases hbig : (300 : Int) < (t.size : Int)
      · go_wp2_with fail
        go_roundw
        case rel => exact ⟨k + 1, by omega, by go_num, p, q, s, rfl, rfl, HPQ.out, by have := HPS.out; omega, HR.out⟩
        case measure => simp [intOf]; omega
      · have HW := Lib.hid (bb_write HR.out.drew t)
        have hs0 : p.size = q.size + s.size := by rw [HPQ.out, rg_append_size]
        obtain ⟨j, hj⟩ : ∃ j, j = min t.size (65536 - s.size) := ⟨_, rfl⟩
        rw [← hj] at HW
        have hj0 : (0 : Int) ≤ (j : Int) := Int.natCast_nonneg _
        have hj1 : (j : Int) ≤ (t.size : Int) := by omega
        have hmm : min (j : Int) (t.size : Int) = (j : Int) := by omega
        have hmx : max (0 : Int) (j : Int) = (j : Int) := by omega
        have hsl : ∀ W, (Instr.slice 9 (Value.string t) none (some (Value.int .i64 (j : Int))) none).run Try.prog W = .ok (Value.string (t.extract 0 j)) W := fun W => by
          rw [run_slice_string_to_if W 9 t .i64 (j : Int) Try.underlying9, if_pos ⟨by omega, by omega⟩]; rfl
        have hT : (t.extract 0 j).size = j := by rw [rg_cut_size]; omega
        have hov : (p.size : Int) + ((t.extract 0 j).size : Int) ≤ 12300 := by have := HPS.out; omega
        have HNP : Hid (p ++ t.extract 0 j = q ++ (s ++ t.extract 0 j) ∧ (p ++ t.extract 0 j).size ≤ 300 * (k + 1)) := Lib.hid ⟨by rw [HPQ.out, bl_append_assoc], by rw [rg_append_size]; have := HPS.out; omega⟩
        have hqs2 : (q.size : Int) + ((s ++ t.extract 0 j).size : Int) ≤ 12300 := by rw [rg_append_size]; have := HPS.out; omega
        have HQS := Lib.hid hqs2
        generalize hST : s ++ t.extract 0 j = s' at *
        generalize t.extract 0 j = T at *
        have hadd : ∀ W, (Op.stringOp .add p T).run Try.prog W = .ok (.string (p ++ T)) W := fun W => run_string_add_sum W _ _ (by omega)
        clear hST hT hj hs0 hqs2
        have hd0d : wr.drew.cell? (ad.add k) = some (.string t) := hd0
        go_wp2_with fail
        go_region_held3 (fun w' => w'.cell? (ad.add k) = some (.string t))
          (first | go_keep | exact KC.out)
          (((with_reducible refine HW.out.mono ?_); rintro e wq ⟨rfl, rq⟩; have RQ := Lib.hid rq; have KC := Lib.hid (HC.out _ _ rq); clear rq))
        by_cases hN : N ≤ s'.size
        · have HY := Lib.hid (bb_next RQ.out false)
          have ey : nxB N false s' = true := by unfold nxB; rw [decide_eq_true hN]; rfl
          have ek : nxK N false s' = N := by unfold nxK; rw [if_pos ey]; omega
          rw [ey, ek] at HY
          have hV : ((s'.extract 0 N).size : Int) = (x : Int) + 1 := by rw [rg_cut_size]; have := HNN.out; omega
          have HV := Lib.hid (bl_cut_both s' N hN)
          have hov2 : (q.size : Int) + ((s'.extract 0 N).size : Int) ≤ 12300 := by rw [rg_cut_size]; have := HQS.out; omega
          clear ey ek
          generalize s'.extract 0 N = V at *
          generalize s'.extract N s'.size = s'' at *
          have hadd2 : ∀ W, (Op.stringOp .add q V).run Try.prog W = .ok (.string (q ++ V)) W := fun W => run_string_add_sum W _ _ (by omega)
          go_wp2_with fail
          refine HY.out.mono ?_; rintro e w3 ⟨rfl, r3⟩
          have R3 := Lib.hid r3
          clear r3 HY
          go_wp2_with fail
          go_roundw
          case rel => exact ⟨k + 1, by omega, by go_num, p ++ T, q ++ V, s'', rfl, rfl, by rw [HNP.out.1, ← HV.out, bl_append_assoc], HNP.out.2, R3.out⟩
          case measure => simp [intOf]; omega
        · have HY := Lib.hid (bb_next RQ.out false)
          have ey : nxB N false s' = false := by unfold nxB; rw [decide_eq_false hN]; rfl
          have ek : nxK N false s' = 0 := by unfold nxK; rw [ey]; rfl
          rw [ey, ek, nx_zero, rg_rest_none] at HY
          clear ey ek
          go_wp2_with fail
          refine HY.out.mono ?_; rintro e w3 ⟨rfl, r3⟩
          have R3 := Lib.hid r3
          clear r3 HY
          go_wp2_with fail
          go_roundw
          case rel => exact ⟨k + 1, by omega, by go_num, p ++ T, q, s', rfl, rfl, HNP.out.1, HNP.out.2, R3.out⟩
          case measure => simp [intOf]; omega
    · obtain rfl : k = m := by omega
      have hps : p.size ≤ 12000 := by have := HPS.out; omega
      have hs0 : p.size = q.size + s.size := by rw [HPQ.out, rg_append_size]
      have HS0 := Lib.hid (And.intro hps hs0)
      clear hps hs0
      go_wp2_with fail
      go_loopw [9, 13] (fun v i wr => ∃ k : Nat, i = .int .i64 k ∧ ∃ q s : ByteArray, v = .string q ∧ p = q ++ s ∧ k + s.size ≤ 12000 ∧ BB w wr b N 65536 s) (fun _ i _ => 12001 - (intOf i).toNat)
      case atStart => exact ⟨0, rfl, q, s, rfl, HPQ.out, by have := HS0.out; omega, HR.out⟩
      case round =>
        obtain ⟨k, rfl, q, s, rfl, hpq, hks, hrb⟩ := hrel
        have HR2 := Lib.hid hrb
        have HPQ2 := Lib.hid hpq
        have HKS := Lib.hid hks
        clear hrb hpq hks HR HPQ
        by_cases hs : 0 < s.size
        · have hs' : (0 : Int) < (s.size : Int) := by omega
          have hs3 : decide (0 < s.size) = true := decide_eq_true hs
          have hk0 : (0 : Int) ≤ (k : Int) := Int.natCast_nonneg _
          have hk1 : (k : Int) ≤ 12000 := by have := HKS.out; omega
          have ey : nxB N true s = true := by unfold nxB; rw [decide_eq_true hs, Bool.and_self, Bool.or_true]
          have ek : nxK N true s = min N s.size := by unfold nxK; rw [if_pos ey]
          have HY := Lib.hid (fun W (y : BB w W b N 65536 s) => bb_next y true)
          rw [ey, ek] at HY
          have HV := Lib.hid (bl_cut_both s (min N s.size) (by omega))
          have hz : (s.extract 0 (min N s.size)).size = min N s.size := by rw [rg_cut_size]; omega
          have hz2 : (s.extract (min N s.size) s.size).size = s.size - min N s.size := by rw [rg_cut_size]; omega
          have hqz : p.size = q.size + s.size := by rw [HPQ2.out, rg_append_size]
          have hov2 : (q.size : Int) + ((s.extract 0 (min N s.size)).size : Int) ≤ 12300 := by rw [hz]; have := HS0.out; omega
          have hway : ((s.extract 0 (min N s.size)).size : Int) = (x : Int) + 1 ∨ ¬ ((s.extract 0 (min N s.size)).size : Int) = (x : Int) + 1 ∧ (s.extract (min N s.size) s.size).size = 0 := by have := HNN.out; omega
          have HM : Hid (k + 1 + (s.extract (min N s.size) s.size).size ≤ 12000) := Lib.hid (by have := HKS.out; have := HNN.out; omega)
          clear ey ek hz hz2 hqz
          generalize s.extract 0 (min N s.size) = V at *
          generalize s.extract (min N s.size) s.size = s'' at *
          have hadd2 : ∀ W, (Op.stringOp .add q V).run Try.prog W = .ok (.string (q ++ V)) W := fun W => run_string_add_sum W _ _ (by omega)
          have HPV : Hid (p = q ++ V ++ s'') := Lib.hid (by rw [HPQ2.out, ← HV.out, bl_append_assoc])
          rcases hway with hw | ⟨hw, hw2⟩
          · go_wp2_with fail
            refine (bb_len HR2.out).mono ?_; rintro e w2 ⟨rfl, r2⟩
            have R2 := Lib.hid r2
            clear r2
            go_wp2_with fail
            refine (HY.out _ R2.out).mono ?_; rintro e w3 ⟨rfl, r3⟩
            have R3 := Lib.hid r3
            clear r3
            go_wp2_with fail
            go_roundw
            case rel => exact ⟨k + 1, by go_num, q ++ V, s'', rfl, HPV.out, HM.out, R3.out⟩
            case measure => simp [intOf]; omega
          · have hw3 : ((s''.size : Nat) : Int) = 0 := by omega
            go_wp2_with fail
            refine (bb_len HR2.out).mono ?_; rintro e w2 ⟨rfl, r2⟩
            have R2 := Lib.hid r2
            clear r2
            go_wp2_with fail
            refine (HY.out _ R2.out).mono ?_; rintro e w3 ⟨rfl, r3⟩
            have R3 := Lib.hid r3
            clear r3
            go_wp2_with fail
            refine (bb_len R3.out).mono ?_; rintro e w4 ⟨rfl, r4⟩
            have R4 := Lib.hid r4
            clear r4
            go_wp2_with fail
            go_roundw
            case rel => exact ⟨k + 1, by go_num, q ++ V, s'', rfl, HPV.out, HM.out, R4.out⟩
            case measure => simp [intOf]; omega
        · have hs1 : s.size = 0 := by omega
          have hs2 : ((s.size : Nat) : Int) = 0 := by omega
          have hp := HPQ2.out
          rw [bl_append_empty q s hs1] at hp
          subst hp
          go_wp2_with fail
          refine (bb_len HR2.out).mono ?_; rintro e w2 ⟨rfl, r2⟩
          have R2 := Lib.hid r2
          clear r2
          go_wp2_with fail
          refine (bl_awake_any _).mono ?_; rintro e w3 ⟨rfl, g3⟩
          have R4 := Lib.hid (R2.out.below g3)
          clear g3
          go_wp2_with fail
          go_ret
          exact ⟨rfl, R4.out.bel⟩
theorem bl_whole_walk (x : Nat) (A : Option Addr) (m c : Nat) (l : List ByteArray) (w : World) (hx : x < 256) (hl : Ss w A m l) :
    Calls Try.prog 4 #[.int .u8 (x : Nat), .slice A m c] w fun e w' => e = .returned (.bool true) ∧ Below w.heap.size w w' := by
  by_cases hm : (m : Int) ≤ 40
  · exact bl_whole_main x A m c l w hx hm hl
  · have h' : (40 : Int) < (m : Int) := by omega
    clear hl hm hx
    go_enter Try.func4, Try.ntmps4
    go_wp2_with fail
    refine (bl_awake_any _).mono ?_; rintro e w2 ⟨rfl, g2⟩
    have G2 := Lib.hid g2
    clear g2
    go_wp2_with fail
    go_ret
    exact ⟨rfl, G2.out⟩
end Go.Proofs.Ytkmnlpohbemlgaa

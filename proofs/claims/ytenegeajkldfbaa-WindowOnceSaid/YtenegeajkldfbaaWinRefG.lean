/- Proved: what the document's Missing of windows answers. Conditions: those that the theorems name. -/
import Derived.Test.YtenegeajkldfbaaWinRefM
namespace Go.Proofs.Ytenegeajkldfbaa
open Go.ChangeShapes Go.WideShapes Go.ChangeAt Go.RowKit

theorem wpl_i64 {B : Int} {i : Nat} : (B + (i : Int) % 4294967296) % 4294967296 = wpl B i := by unfold wpl; omega
set_option maxRecDepth 100000 in
set_option maxHeartbeats 3200000 in
theorem rmissing_any (B : Int) (n : Nat) (A : Option Addr) (k c : Nat) (l : List Int) (w : World) (hl : Uw w A k l) (hn : k ≤ 500) (hO : WOk B n l) :
    Calls Try.prog 17 #[rwV B n A k c] w (GivesU w (misL B l (topN B l n))) := by
  have A1 := At.new w 31 (rwC B n A k c)
  have B1 := (Below.refl w.heap.size w).alloc (Nat.le_refl _) (.cells (rwC B n A k c).toArray 31)
  have HU := Lib.hid (hl.below B1)
  have HA1 := Lib.hid A1
  have HB := Lib.hid B1
  have HZ : Hid (w.heap.size + 1 ≤ (w.alloc (.cells (rwC B n A k c).toArray 31)).heap.size) := Lib.hid (by simp)
  have hn64 := hO.high
  have HT : Hid (topN B l n < n) := Lib.hid hO.top
  have HLT := Lib.hid (fun i => @lat_top B l i n)
  have HUL : Hid (∀ ad, A = some ad → 0 < k → ad.block < w.heap.size) := Lib.hid hl.lt
  generalize htop : topN B l n = top at *
  clear A1 B1 hl hO htop
  go_enter Try.func17, Try.ntmps17
  go_wp2_with fail
  generalize w.alloc (.cells #[.int .u32 B, .int .i64 (n : Nat), .slice A k c] 31) = W at *
  go_loopw [3, 4] (fun v i wr => ∃ j : Nat, j ≤ n ∧ i = .int .i64 j ∧ wr.ownsRow (w.heap.size + 1) 22 1 v (misL B l (min j top)).length (ucells (misL B l (min j top))) ∧ At wr w.heap.size 31 (rwC B n A k c) ∧ Uw wr A k l ∧ Below w.heap.size w wr ∧ w.heap.size + 1 ≤ wr.heap.size) (fun _ i _ => n - (intOf i).toNat)
  case atStart => exact ⟨0, by omega, rfl, by rw [Nat.zero_min]; exact World.ownsRow_nil _ _ _ _, HA1.out, HU.out, HB.out, HZ.out⟩
  case round =>
    obtain ⟨j, hj, rfl, hown, ha, hu, hb, hz⟩ := hrel
    have HO2 := Lib.hid hown
    have HA2 := Lib.hid ha
    have HU2 := Lib.hid hu
    have HB2 := Lib.hid hb
    have HZ2 := Lib.hid hz
    have c0 := ha.cell 0 rfl
    have c1 := ha.cell 1 rfl
    have c2 := ha.cell 2 rfl
    have hj0 : (0 : Int) ≤ (j : Int) := Int.natCast_nonneg _
    clear hown ha hu hb hz HA1 HU HB HZ
    by_cases hlt : j < n
    · have hlt' : (j : Int) < (n : Int) := by omega
      have HI := Lib.hid (fun i => rin_any A k c l (wpl B i) wr HU2.out (by omega))
      have HLE := Lib.hid (HLT.out j)
      clear HLT
      go_wp2_with fail
      have HYB : Hid (Value.int .u32 ((B + (j : Int)) % 4294967296) = .int .u32 (wpl B j)) := Lib.hid rfl
      rw [HYB.out]
      generalize hy : wpl B j = y
      have HY := Lib.hid hy
      clear hy HYB
      have hj1 : (0 : Int) ≤ (j : Int) + 1 := by omega
      go_loopw [6, 7] (fun b i wi => ∃ q : Nat, j < q ∧ q ≤ n ∧ i = .int .i64 q ∧ b = .bool (lat B l j q) ∧ wi = wr) (fun _ i _ => n - (intOf i).toNat)
      case atStart => exact ⟨j + 1, by omega, by omega, by go_num, by rw [lat_start (Nat.le_refl _)], rfl⟩
      case round =>
        obtain ⟨q, hq, hqn, rfl, rfl, rfl⟩ := hrel
        have hq0 : (0 : Int) ≤ (q : Int) := Int.natCast_nonneg _
        by_cases hql : q < n
        · have hql' : (q : Int) < (n : Int) := by omega
          have HLN := Lib.hid (@lat_next B l j q hq)
          have HIq := Lib.hid (HI.out q)
          cases hb : lat B l j q
          · rw [hb, Bool.false_or] at HLN
            generalize decide (wpl B q ∈ l) = s at HLN HIq
            clear hb
            go_wp2_with fail
            refine HIq.out.mono ?_; rintro e w1 ⟨rfl, rfl⟩
            go_wp2_with fail
            go_roundw
            case rel => exact ⟨q + 1, by omega, by omega, by go_num, by rw [HLN.out], trivial⟩
            case measure => simp [intOf]; omega
          · rw [hb, Bool.true_or] at HLN
            clear hb
            go_wp2_with fail
            go_roundw
            case rel => exact ⟨q + 1, by omega, by omega, by go_num, by rw [HLN.out], trivial⟩
            case measure => simp [intOf]; omega
        · obtain rfl : q = n := by omega
          rw [HLE.out]
          by_cases ht : j < top
          · rw [decide_eq_true ht]
            have HIj := Lib.hid (HI.out j)
            rw [HY.out] at HIj
            by_cases hin : y ∈ l
            · rw [decide_eq_true hin] at HIj
              have HM := Lib.hid (misL_min_in ht (HY.out ▸ hin))
              clear hin HI
              go_wp2_with fail
              refine HIj.out.mono ?_; rintro e w1 ⟨rfl, rfl⟩
              go_wp2_with fail
              go_roundw
              case rel => exact ⟨j + 1, by omega, by go_num, by rw [HM.out]; exact HO2.out, HA2.out, HU2.out, HB2.out, HZ2.out⟩
              case measure => simp [intOf]; omega
            · rw [decide_eq_false hin] at HIj
              have HM := Lib.hid (misL_min_out (B := B) (L := l) ht (by rw [HY.out]; exact hin))
              rw [HY.out] at HM
              have HQ : Hid ((misL B l (min j top)).length ≤ 64) := Lib.hid (by have := misL_len B l (min j top); omega)
              generalize misL B l (min j top) = p at *
              have hg7 := World.grownBy_alloc wr (.cells #[.int .u32 y] 22) none
              have HO7 := Lib.hid (HO2.out.alloc (.cells #[.int .u32 y] 22))
              have HA7 := Lib.hid (HA2.out.kept hg7 (by simp))
              have HU7 := Lib.hid (HU2.out.below (below_grown hg7 (Nat.le_refl _) (by simp)))
              have HB7 := Lib.hid (HB2.out.grown hg7 HB2.out.size (by simp))
              have hz7 : w.heap.size + 1 ≤ (wr.alloc (.cells #[.int .u32 y] 22)).heap.size := Nat.le_trans HZ2.out hg7.size
              have HC7 := Lib.hid (uw_one wr y)
              have HR7 : Hid (∀ g, u3.ownBlock = some g → w.heap.size + 1 ≤ g) := Lib.hid fun g e => (HO2.out.lt g e).1
              have hqq := HQ.out
              clear hin HI hg7
              go_wp2_with fail
              refine HIj.out.mono ?_; rintro e w1 ⟨rfl, rfl⟩
              clear c0 c1 c2
              go_wp2_with (at_builtin; refine uw_append rfl _ _ rfl (w.heap.size + 1) _ _ p rfl HO7.out _ 1 1 [y] rfl HC7.out (fun e => nomatch e) (by omega) hz7 ?_; intro v9 w9 hown9 hg9; have HO9 := Lib.hid hown9; have HG9 := Lib.hid hg9; have HZ9 := Lib.hid hz7; clear hown9 hg9)
              go_roundw
              case rel =>
                refine ⟨j + 1, by omega, by go_num, by rw [HM.out, List.length_append]; exact HO9.out, HA7.out.kept HG9.out (fun e => by have := HR7.out _ e; omega), HU7.out.far HG9.out HR7.out (fun ad e h => Nat.lt_succ_of_lt (HUL.out ad e h)), HB7.out.grown HG9.out HB7.out.size (fun g e => by have := HR7.out _ e; omega), Nat.le_trans HZ9.out HG9.out.size⟩
              case measure => simp [intOf]; omega
          · rw [decide_eq_false ht]
            have HM := Lib.hid (misL_min (B := B) (L := l) ht)
            go_wp2_with fail
            go_roundw
            case rel => exact ⟨j + 1, by omega, by go_num, by rw [HM.out]; exact HO2.out, HA2.out, HU2.out, HB2.out, HZ2.out⟩
            case measure => simp [intOf]; omega
    · obtain rfl : j = n := by omega
      have HMn : Hid (misL B l (min j top) = misL B l top) := Lib.hid (by have := HT.out; rw [Nat.min_eq_right (by omega)])
      rw [HMn.out] at HO2
      go_wp2_with fail
      go_ret
      obtain ⟨A2, c2, e1, e2, e3, e4⟩ := uw_of HO2.out
      rw [e1]
      exact ⟨A2, c2, rfl, e2, e3, e4, HB2.out⟩
end Go.Proofs.Ytenegeajkldfbaa

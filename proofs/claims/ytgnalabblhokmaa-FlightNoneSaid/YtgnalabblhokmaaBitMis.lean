/- Proved: what Missing of package bits, and its twin of the document, answer for every string and all ints; and what the document's Ints answers of two lists that are the same. Conditions: those that the theorems name. -/
import Derived.Test.YtgnalabblhokmaaBitOf
namespace Go.Proofs.Ytgnalabblhokmaa
open Go.ChangeShapes Go.WideShapes Go.ChangeAt Go.RowKit

set_option maxRecDepth 100000 in
set_option maxHeartbeats 1600000 in
theorem mis_good (s : ByteArray) (n most : Int) (w : World) (hs : s.size = 32) :
    Calls Try.prog 18 #[.string s, .int .i64 n, .int .i64 most] w (GivesL w (misK s most (min n 255).toNat)) := by
  obtain ⟨i0, hi0, hz0, hz1, hz2⟩ := info_parts Try.zInfo
  have HS := Lib.hid (fun w => sized11_any s w)
  rw [decide_eq_true hs] at HS
  clear hs
  obtain ⟨M, hM⟩ : ∃ M, M = (min n 255).toNat := ⟨_, rfl⟩
  rw [← hM]
  have hk : 255 < n ∨ ¬ 255 < n := by omega
  rcases hk with hc | hc
  all_goals
    have hM1 : M ≤ 255 := by omega
    first | have HMC : Hid (M = 255) := Lib.hid (by omega) | have HMC : Hid (M = n.toNat) := Lib.hid (by omega)
    have HM2 : Hid ((M : Int) ≤ n ∨ M = 0) := Lib.hid (by omega)
    clear hM
    go_enter Try.func18, Try.ntmps18
    go_wp2_with fail
    refine (HS.out _).mono ?_; rintro e w1 ⟨rfl, rfl⟩
    go_wp2_with fail
    go_loopw [7, 14] (fun v i wr => ∃ k : Nat, k ≤ M ∧ i = .int .i64 k ∧ wr.ownsRow w.heap.size 3 1 v (misK s most k).length (zcells (misK s most k)) ∧ Below w.heap.size w wr) (fun _ i _ => M - (intOf i).toNat)
    case atStart => exact ⟨0, by omega, rfl, World.ownsRow_nil _ _ _ _, Below.refl _ _⟩
    case round =>
      obtain ⟨k, hk, rfl, hown, hb⟩ := hrel
      obtain ⟨A, c, rfl, hc, hi⟩ := is_zof hown
      have HO := Lib.hid hown
      have HI := Lib.hid hi
      have HB := Lib.hid hb
      clear hown hb hi hc
      have hk0 : (0 : Int) ≤ (k : Int) := Int.natCast_nonneg _
      have HLE := Lib.hid (misK_len s most k)
      by_cases hlt : k < M
      · have hlt1 : (k : Int) < 255 := by omega
        have hlt2 : (k : Int) < n := by have := HM2.out; omega
        by_cases hmo : ((misK s most k).length : Int) < most
        · have HM := Lib.hid (fun h => misK_more (k := k) hmo h)
          have HN := Lib.hid (fun h => misK_has (s := s) (most := most) (k := k) h)
          have HH := Lib.hid (fun w => has_any s k w)
          have hge : ¬ ((misK s most k).length : Int) ≥ most := by omega
          have hlz := Lib.hid (hlt)
          cases hv : hasB s (k : Int) with
          | true =>
            have HE := Lib.hid (HN.out hv)
            rw [hv] at HH
            clear hv HM HN
            generalize misK s most k = l at *
            go_wp2_with fail
            refine (HH.out _).mono ?_; rintro e w2 ⟨rfl, q, rfl⟩
            go_wp2_with fail
            go_roundw
            case rel => exact ⟨k + 1, hlz.out, by go_num, by rw [HE.out]; exact HO.out, below_drawn_of HB.out q⟩
            case measure => have := hlz.out; simp [intOf]; omega
          | false =>
            have HE := Lib.hid (HM.out hv)
            rw [hv] at HH
            clear hv HM HN
            generalize misK s most k = l at *
            have hmax : l.length + 1 ≤ maxLen := by have := HLE.out; unfold maxLen; omega
            have hlb : l.length ≤ 255 := by have := HLE.out; omega
            go_wp2_with fail
            refine (HH.out _).mono ?_; rintro e w2 ⟨rfl, q, rfl⟩
            have HO2 : Hid ((wr.drewN q).ownsRow w.heap.size 3 1 (.slice A l.length c) l.length (zcells l)) := Lib.hid HO.out
            have HB2 := Lib.hid (below_drawn_of HB.out q)
            clear HO HB HI
            generalize wr.drewN q = w3 at *
            have hws := HB2.out.size
            go_wp2_with (at_builtin; refine wpList_append_lies _ rfl _ _ _ rfl w.heap.size 3 i0 _ 1 8 Try.underlying53 hi0 hz0 hz1 hz2 rfl (by omega) _ l.length _ rfl (HO2.out.alloc _) ⟨w3.heap.size, 0, none⟩ 1 1 [Value.int .i64 (k : Int)] rfl rfl (World.news_of_block (cs := #[Value.int .i64 (k : Int)]) (t := 3) (fr := (0, 0)) (heap_alloc_new w3 _)) (by simp [Value.oneCell']) (by omega) hmax (by omega) (by simp; omega) (w3.heap.size + 1) (by simp) ?_; intro gg cap w4 hown1 hgrow hat hlt1)
            go_roundw
            case rel =>
              refine ⟨k + 1, hlz.out, by go_num, ?_, (HB2.out.alloc hws _).grown hgrow (by simp; omega) (fun i e => (HO2.out.lt i e).1)⟩
              rw [HE.out, ← zcells_snoc, List.length_append]
              exact hown1
            case measure => have := hlz.out; simp [intOf]; omega
        · have HE := Lib.hid (misK_stop_at hmo hk)
          have hge : ((misK s most k).length : Int) ≥ most := by omega
          generalize misK s most k = l at *
          clear hmo
          go_wp2_with fail
          go_ret
          rw [HE.out]
          exact ⟨_, _, rfl, HI.out, HB.out⟩
      · have HE : Hid (k = M) := Lib.hid (by omega)
        first | have hg : ¬ (k : Int) < 255 := by (have := HMC.out; omega) | have hg : ¬ (k : Int) < n := by (have := HMC.out; omega)
        go_wp2_with fail
        go_ret
        rw [← HE.out]
        exact ⟨_, _, rfl, HI.out, HB.out⟩
theorem misL_size {s : ByteArray} (h : s.size ≠ 32) (n most : Int) : misL s n most = [] := if_neg h
theorem misL_good {s : ByteArray} (h : s.size = 32) (n most : Int) : misL s n most = misK s most (min n 255).toNat := if_pos h
theorem missing_any (s : ByteArray) (n most : Int) (w : World) :
    Calls Try.prog 18 #[.string s, .int .i64 n, .int .i64 most] w (GivesL w (misL s n most)) := by
  by_cases h : s.size = 32
  · rw [misL_good h]; exact mis_good s n most w h
  · rw [misL_size h]
    have HS := Lib.hid (fun w => sized11_any s w)
    rw [decide_eq_false h] at HS
    clear h
    go_enter Try.func18, Try.ntmps18
    go_wp2_with fail
    refine (HS.out _).mono ?_; rintro e w1 ⟨rfl, rfl⟩
    go_wp2_with fail
    go_ret
    exact ⟨_, _, rfl, Is.nil _ _, Below.refl _ _⟩
end Go.Proofs.Ytgnalabblhokmaa

/- Proved: what a reader of the document answers, for every text and every number. Conditions: those that the theorems name. -/
import Derived.Test.YtekolkbahhbcjaaWirRead
import Derived.Test.YtekolkbahhbcjaaWirRefP
import Derived.RegionTactic
import Derived.ChangeAlike
namespace Go.Proofs.Ytekolkbahhbcjaa
open Go.ChangeShapes Go.WideShapes Go.ChangeAt Go.RowKit

/-- A reader and a value come back; nothing that was there has turned. -/
def GivesR9 (W : World) (s' : ByteArray) (e' : Int) (v : Value) (e : Ending) (w' : World) : Prop := e = .returned (.tuple #[.agg #[.string s', .int .i64 e'], v]) ∧ Below W.heap.size W w'
theorem below3 (w : World) (o p : Obj) : Below w.heap.size w ((w.alloc o).alloc p) := ((Below.refl _ _).alloc (Nat.le_refl _) _).alloc (by simp) _

set_option maxRecDepth 100000 in
set_option maxHeartbeats 800000 in
theorem rbytes_any (s : ByteArray) (e z : Int) (w : World) :
    Calls Try.prog 42 #[.agg #[.string s, .int .i64 e], .int .i64 z] w (GivesR9 w (tkR s e z (decide (0 ≤ z))) (tkE s e z (decide (0 ≤ z))) (.string (tkT s e z (decide (0 ≤ z))))) := by
  by_cases h : e = 0
  · subst h
    by_cases h0 : 0 ≤ z
    · rw [decide_eq_true h0]
      by_cases g : (s.size : Int) < z
      · obtain ⟨q1, q2, q3⟩ := tk_cut g
        rw [q1, q2, q3]
        clear q1 q2 q3
        go_enter Try.func42, Try.ntmps42
        go_wp2_with fail
        refine bodyPost_ret (v := .tuple #[.agg #[.string s, .int .i64 4], .string ⟨#[]⟩]) (by simp [results, Try.results42, go_sem]) rfl ⟨rfl, ?_⟩
        exact below3 _ _ _
      · obtain ⟨q1, q2, q3⟩ := tk_ok g
        rw [q1, q2, q3]
        clear q1 q2 q3
        have hs1 : ∀ W, (Instr.slice 9 (Value.string s) none (some (Value.int .i64 z)) none).run Try.prog W = .ok (Value.string (s.extract 0 z.toNat)) W := fun W => by
          rw [run_slice_string_to_if W 9 s .i64 z Try.underlying9, if_pos ⟨by omega, by omega⟩]
        have hs2 : ∀ W, (Instr.slice 9 (Value.string s) (some (Value.int .i64 z)) none none).run Try.prog W = .ok (Value.string (s.extract z.toNat s.size)) W := fun W => by
          rw [run_slice_string_from_if W 9 s .i64 z Try.underlying9, if_pos ⟨by omega, by omega⟩]
        generalize s.extract 0 z.toNat = X at *
        generalize s.extract z.toNat s.size = Y at *
        go_enter Try.func42, Try.ntmps42
        go_wp2_with fail
        go_region
        all_goals
          go_wp2_with fail
          refine bodyPost_ret (v := .tuple #[.agg #[.string Y, .int .i64 0], .string X]) (by simp [results, Try.results42, go_sem]) rfl ⟨rfl, ?_⟩
          exact (below3 _ _ _).drew
    · rw [decide_eq_false h0]
      obtain ⟨q1, q2, q3⟩ := tk_not (s := s) (z := z)
      rw [q1, q2, q3]
      clear q1 q2 q3
      go_enter Try.func42, Try.ntmps42
      go_wp2_with fail
      refine bodyPost_ret (v := .tuple #[.agg #[.string s, .int .i64 1], .string ⟨#[]⟩]) (by simp [results, Try.results42, go_sem]) rfl ⟨rfl, ?_⟩
      exact below3 _ _ _
  · obtain ⟨q1, q2, q3⟩ := tk_err (s := s) (z := z) (may := decide (0 ≤ z)) h
    rw [q1, q2, q3]
    have e1 : (e != 0) = true := by simpa using h
    have e2 : (e == 0) = false := by simpa using h
    clear q1 q2 q3 h
    go_enter Try.func42, Try.ntmps42
    go_wp2_with fail
    refine bodyPost_ret (v := .tuple #[.agg #[.string s, .int .i64 e], .string ⟨#[]⟩]) (by simp [results, Try.results42, go_sem]) rfl ⟨rfl, ?_⟩
    exact below3 _ _ _
theorem rd_bound {z : Int} (h : sizedB z = true) : 0 ≤ z ∧ z ≤ 4 := by
  have := sizedB_cases h
  omega
theorem numK_take (s : ByteArray) (m k : Nat) (hk : k ≤ m) (hm : m ≤ s.size) : numK k (bts (s.extract 0 m)) = numK k (bts s) := by
  induction k with
  | zero => rfl
  | succ k ih =>
    rw [numK_succ, numK_succ, ih (by omega)]
    congr 1
    unfold bts
    rw [ByteArray.data_extract]
    simp only [List.getD_eq_getElem?_getD, List.getElem?_map, Array.getElem?_toList]
    have hlt : k < s.data.size := by have : s.data.size = s.size := rfl; omega
    rw [Array.getElem?_extract_of_lt (by omega), Array.getElem?_eq_getElem hlt]
    simp

set_option maxRecDepth 100000 in
set_option maxHeartbeats 1600000 in
theorem rnum_any (s : ByteArray) (e z : Int) (w : World) (hs : s.size ≤ 281474976710656) :
    Calls Try.prog 27 #[.agg #[.string s, .int .i64 e], .int .i64 z] w (GivesR9 w (tkR s e z (sizedB z)) (tkE s e z (sizedB z)) (.int .u32 (numS (tkT s e z (sizedB z)) : Nat))) := by
  by_cases h : e = 0
  · subst h
    by_cases h0 : sizedB z = true
    · obtain ⟨hz0, hz4⟩ := rd_bound h0
      have hz := sizedB_cases h0
      rw [h0]
      by_cases g : (s.size : Int) < z
      · obtain ⟨q1, q2, q3⟩ := tk_cut g
        rw [q1, q2, q3]
        clear q1 q2 q3 h0
        rcases hz with rfl | rfl | rfl
        all_goals
          go_enter Try.func27, Try.ntmps27
          go_wp2_with fail
          refine bodyPost_ret (v := .tuple #[.agg #[.string s, .int .i64 4], .int .u32 0]) (by simp [results, Try.results27, go_sem]) rfl ⟨rfl, ?_⟩
          exact below3 _ _ _
      · obtain ⟨q1, q2, q3⟩ := tk_ok g
        rw [q1, q2, q3]
        clear q1 q2 q3 h0
        obtain ⟨m, rfl⟩ := Int.eq_ofNat_of_zero_le hz0
        have hs2 : ∀ W, (Instr.slice 9 (Value.string s) (some (Value.int .i64 (m : Int))) none none).run Try.prog W = .ok (Value.string (s.extract m s.size)) W := fun W => by
          rw [run_slice_string_from_if W 9 s .i64 (m : Int) Try.underlying9, if_pos ⟨by omega, by omega⟩]; rfl
        rw [Int.toNat_natCast]
        have hsz : (s.extract 0 m).size = m := by rw [extract_size]; omega
        have HQ : Hid (numS (s.extract 0 m) = numK m (bts s)) := Lib.hid (by unfold numS; rw [hsz, numK_take s m m (Nat.le_refl _) (by omega)])
        rw [HQ.out]
        have hms : m ≤ s.size := by omega
        generalize s.extract m s.size = Y at *
        obtain ⟨M, hM⟩ : ∃ M, M = m := ⟨_, rfl⟩
        have HM := Lib.hid hM
        have HK : Hid (numK m (bts s) = numK M (bts s)) := Lib.hid (by rw [hM])
        rw [HK.out]
        have hM4 : M ≤ 4 := by omega
        have hMs : M ≤ s.size := by omega
        clear hM HK HQ hz0 hz4 hsz g hms
        have hz' : m = 1 ∨ m = 2 ∨ m = 4 := by omega
        clear hz
        rcases hz' with rfl | rfl | rfl
        all_goals
          first
            | have hg : ¬ (s.size : Int) < 4 := by have := HM.out; omega
            | have hg : ¬ (s.size : Int) < 2 := by have := HM.out; omega
            | have hg : ¬ (s.size : Int) < 1 := by have := HM.out; omega
          first
            | have hs3 : ∀ W, (Instr.slice 9 (Value.string s) (some (Value.int .i64 1)) none none).run Try.prog W = .ok (Value.string Y) W := hs2
            | have hs3 : ∀ W, (Instr.slice 9 (Value.string s) (some (Value.int .i64 2)) none none).run Try.prog W = .ok (Value.string Y) W := hs2
            | have hs3 : ∀ W, (Instr.slice 9 (Value.string s) (some (Value.int .i64 4)) none none).run Try.prog W = .ok (Value.string Y) W := hs2
          clear hs2
          go_enter Try.func27, Try.ntmps27
          go_wp2_with fail
          go_loop [6, 7] (fun x i => ∃ k : Nat, k ≤ M ∧ i = .int .i64 k ∧ x = .int .u32 (numK k (bts s) : Nat)) (fun _ i => M - (intOf i).toNat)
          case atStart => exact ⟨0, by omega, rfl, rfl⟩
          case round =>
            obtain ⟨k, hk, rfl, rfl⟩ := hrel
            by_cases hlt : k < M
            · first
                | have hlt' : (k : Int) < 1 := by have := HM.out; omega
                | have hlt' : (k : Int) < 2 := by have := HM.out; omega
                | have hlt' : (k : Int) < 4 := by have := HM.out; omega
              have hi := index_at9 s k (by omega)
              have HB := Lib.hid (bts_lt s k)
              have HX : Hid (numK k (bts s) < 16777216) := Lib.hid (by have h1 := numK_lt (bts_lt s) k; have h2 := pow_le4 (k := k) (by omega); omega)
              have HN := Lib.hid (numK_succ k (bts s))
              generalize (bts s).getD k 0 = b at *
              generalize numK k (bts s) = x at *
              go_wp2_with fail
              go_round
              case rel => exact ⟨k + 1, by omega, by go_num, val_int (by rw [HN.out]; have := HB.out; have := HX.out; omega)⟩
              case measure => simp [intOf]; omega
            · have hkM : k = M := by omega
              first
                | have hlt' : ¬ (k : Int) < 4 := by have := HM.out; omega
                | have hlt' : ¬ (k : Int) < 2 := by have := HM.out; omega
                | have hlt' : ¬ (k : Int) < 1 := by have := HM.out; omega
              have HE : Hid (numK k (bts s) = numK M (bts s)) := Lib.hid (by rw [hkM])
              clear hkM
              generalize numK k (bts s) = x at *
              go_wp2_with fail
              refine bodyPost_ret (v := .tuple #[.agg #[.string Y, .int .i64 0], .int .u32 x]) (by simp [results, Try.results27, go_sem]) rfl ⟨by rw [HE.out], ?_⟩
              exact below3 _ _ _
    · have h0' : sizedB z = false := by simpa using h0
      rw [h0']
      obtain ⟨h1, h2, h4⟩ := sizedB_no h0'
      have e1 : (z != 1) = true := by simpa using h1
      have e2 : (z != 2) = true := by simpa using h2
      have e4 : (z != 4) = true := by simpa using h4
      obtain ⟨q1, q2, q3⟩ := tk_not (s := s) (z := z)
      rw [q1, q2, q3]
      clear q1 q2 q3 h1 h2 h4 h0 h0'
      go_enter Try.func27, Try.ntmps27
      go_wp2_with fail
      refine bodyPost_ret (v := .tuple #[.agg #[.string s, .int .i64 1], .int .u32 0]) (by simp [results, Try.results27, go_sem]) rfl ⟨rfl, ?_⟩
      exact below3 _ _ _
  · obtain ⟨q1, q2, q3⟩ := tk_err (s := s) (z := z) (may := sizedB z) h
    rw [q1, q2, q3]
    have e1 : (e != 0) = true := by simpa using h
    have e2 : (e == 0) = false := by simpa using h
    clear q1 q2 q3 h
    go_enter Try.func27, Try.ntmps27
    go_wp2_with fail
    refine bodyPost_ret (v := .tuple #[.agg #[.string s, .int .i64 e], .int .u32 0]) (by simp [results, Try.results27, go_sem]) rfl ⟨rfl, ?_⟩
    exact below3 _ _ _
end Go.Proofs.Ytekolkbahhbcjaa

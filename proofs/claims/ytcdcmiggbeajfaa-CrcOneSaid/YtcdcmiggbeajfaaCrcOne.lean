/- Proved: the walk of the law that rows of which one byte is another one have unlike sums. Conditions: those that the theorem names. -/
import Derived.Test.YtcdcmiggbeajfaaCrcLaw
import Derived.WalkSpells
import Derived.Deep.RegionWith
namespace Go.Proofs.Ytcdcmiggbeajfaa
open Go.ChangeShapes Go.WideShapes Go.ChangeAt Go.RowKit

set_option maxRecDepth 100000 in
set_option maxHeartbeats 800000 in
theorem one_easy (s : ByteArray) (j a : Int) (w : World) (h : 3000 < (s.size : Int) ∨ j < 0 ∨ (s.size : Int) ≤ j) :
    Calls Try.prog 5 #[.string s, .int .i64 j, .int .u8 a] w fun e w' => e = .returned (.bool true) ∧ Below w.heap.size w w' := by
  by_cases h1 : 3000 < (s.size : Int)
  · clear h
    go_enter Try.func5, Try.ntmps5
    go_wp2_with fail
    refine (cawake7_any _).mono ?_; rintro e w1 ⟨rfl, rfl⟩
    go_wp2_with fail
    go_ret
    exact ⟨rfl, Below.refl _ _⟩
  · by_cases h2 : j < 0
    · clear h
      go_enter Try.func5, Try.ntmps5
      go_wp2_with fail
      refine (cawake7_any _).mono ?_; rintro e w1 ⟨rfl, rfl⟩
      go_wp2_with fail
      go_ret
      exact ⟨rfl, Below.refl _ _⟩
    · have h3 : (s.size : Int) ≤ j := by omega
      have h4 : 0 ≤ j := by omega
      clear h
      go_enter Try.func5, Try.ntmps5
      go_wp2_with fail
      refine (cawake7_any _).mono ?_; rintro e w1 ⟨rfl, rfl⟩
      go_wp2_with fail
      go_ret
      exact ⟨rfl, Below.refl _ _⟩

set_option maxRecDepth 100000 in
set_option maxHeartbeats 800000 in
theorem one_main (s : ByteArray) (j b : Nat) (w : World) (hs : (s.size : Int) ≤ 3000) (hj : j < s.size) (hb : b < 256) :
    Calls Try.prog 5 #[.string s, .int .i64 (j : Nat), .int .u8 (b : Nat)] w fun e w' => e = .returned (.bool true) ∧ Below w.heap.size w w' := by
  have hj0 : (0 : Int) ≤ (j : Int) := Int.natCast_nonneg _
  have hj1 : (j : Int) < (s.size : Int) := by omega
  have hi := index_byte s j hj
  by_cases he : (bts s).getD j 0 = b
  · rw [he] at hi
    clear hj he
    go_enter Try.func5, Try.ntmps5
    go_wp2_with fail
    refine (cawake7_any _).mono ?_; rintro e w1 ⟨rfl, rfl⟩
    go_wp2_with fail
    go_ret
    exact ⟨rfl, Below.refl _ _⟩
  · have HO := Lib.hid (crcS_one (c := 0) (by decide) s j b hj hb he)
    have hne : (((((bts s).getD j 0 : Nat) : Int)) == ((b : Nat) : Int)) = false := by
      rw [beq_eq_false_iff_ne]; omega
    generalize (bts s).getD j 0 = x at *
    have HS := Lib.hid (fun w => csum_any s (by unfold maxLen; omega) w)
    have hz1 : (s.extract 0 j).size = j := by rw [ByteArray.size_extract]; omega
    have hz2 : (s.extract (j + 1) s.size).size = s.size - (j + 1) := by rw [ByteArray.size_extract]; omega
    have hsl1 : ∀ W, (Instr.slice 9 (Value.string s) none (some (Value.int .i64 (j : Int))) none).run Try.prog W = .ok (Value.string (s.extract 0 j)) W := fun W => by
      rw [run_slice_string_to_if W 9 s .i64 (j : Int) Try.underlying9, if_pos ⟨by omega, by omega⟩]; rfl
    have hsl2 : ∀ W, (Instr.slice 9 (Value.string s) (some (Value.int .i64 ((j : Int) + 1))) none none).run Try.prog W = .ok (Value.string (s.extract (j + 1) s.size)) W := fun W => by
      rw [run_slice_string_from_if W 9 s .i64 ((j : Int) + 1) Try.underlying9, if_pos ⟨by omega, by omega⟩]; rfl
    have hcv : (convert 28 9 (.slice (some ⟨w.heap.size, 0, none⟩) 1 1)).run Try.prog (w.alloc (.cells #[.int .u8 (b : Nat)] 5)).drew = .ok (.string (tx [b])) (w.alloc (.cells #[.int .u8 (b : Nat)] 5)).drew := by
      refine convert_back _ _ 1 1 [b] ?_ (by decide)
      refine ⟨rfl, fun i => ?_, fun _ => ⟨_, rfl, by simp, fun i hi => ?_⟩⟩
      · cases i with
        | zero => exact hb
        | succ i => simp
      · obtain rfl : i = 0 := by omega
        have e : (⟨w.heap.size, 0, none⟩ : Addr).add 0 = ⟨w.heap.size, 0, none⟩ := by unfold Addr.add; split <;> simp_all
        rw [e]
        show (w.alloc _).cell? _ = _
        rw [cell_of_row _ _ 0 _ _ (0, 0) (heap_alloc_new w _)]
        rfl
    have hwr : IntKind.i64.wrap ((j : Int) + 1) = (j : Int) + 1 := IntWalk.i64_in _ (by omega)
    have hz3 : (tx [b]).size = 1 := tx_size [b]
    have HT := Lib.hid (fun w => csum_any (s.extract 0 j ++ tx [b] ++ s.extract (j + 1) s.size) (by rw [ByteArray.size_append, ByteArray.size_append, hz1, hz2, hz3]; unfold maxLen; omega) w)
    have hov1 : ((s.extract 0 j).size : Int) + ((tx [b]).size : Int) ≤ 6000 := by omega
    have hov2 : ((s.extract 0 j ++ tx [b]).size : Int) + ((s.extract (j + 1) s.size).size : Int) ≤ 6000 := by rw [ByteArray.size_append]; omega
    clear he hz1 hz2 hz3
    generalize s.extract 0 j = p1 at *
    generalize s.extract (j + 1) s.size = p2 at *
    generalize tx [b] = p3 at *
    obtain ⟨z1, h1⟩ : ∃ z, z = crcS 0 s := ⟨_, rfl⟩
    obtain ⟨z2, h2⟩ : ∃ z, z = crcS 0 (p1 ++ p3 ++ p2) := ⟨_, rfl⟩
    rw [← h1, ← h2] at HO
    rw [← h1] at HS
    rw [← h2] at HT
    have hzz : ((z2 : Int) == (z1 : Int)) = false := by rw [beq_eq_false_iff_ne]; have := HO.out; omega
    have hz4 : ¬ z2 = z1 := HO.out
    have hz5 : ((z2 : Int) != (z1 : Int)) = true := by rw [bne, hzz]; rfl
    clear h1 h2
    go_enter Try.func5, Try.ntmps5
    go_wp2_with fail
    go_region_with (first
      | (go_at_call_of 9 (Value.string s); refine (HS.out _).mono ?_; rintro e w1 ⟨rfl, rfl⟩)
      | (go_at_call 9; refine (HT.out _).mono ?_; rintro e w1 ⟨rfl, rfl⟩)
      | (go_at_call 6; refine (cawake7_any _).mono ?_; rintro e w1 ⟨rfl, rfl⟩))
    go_wp2_with fail
    go_ret
    exact ⟨rfl, ((Below.refl w.heap.size w).alloc (Nat.le_refl _) _).drew⟩

theorem one_walk (s : ByteArray) (j a : Int) (w : World) (wa : (Lit.int .u8 a).wf = true) :
    Calls Try.prog 5 #[.string s, .int .i64 j, .int .u8 a] w fun e w' => e = .returned (.bool true) ∧ Below w.heap.size w w' := by
  have ha : 0 ≤ a ∧ a ≤ 255 := by simpa [Lit.wf, IntKind.min, IntKind.max, IntKind.signed, IntKind.bits] using wa
  obtain ⟨b, rfl⟩ := Int.eq_ofNat_of_zero_le ha.1
  by_cases h : 3000 < (s.size : Int) ∨ j < 0 ∨ (s.size : Int) ≤ j
  · exact one_easy s j b w h
  · obtain ⟨k, rfl⟩ := Int.eq_ofNat_of_zero_le (show 0 ≤ j by omega)
    exact one_main s k b w (by omega) (by omega) (by omega)
end Go.Proofs.Ytcdcmiggbeajfaa

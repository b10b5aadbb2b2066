/- Proved: what Put of package wire answers where there is an error, and what its twin of the document answers for every number and every size. Conditions: those that the theorems name. -/
import Derived.Test.YtekolkbahhbcjaaWirPut
import Derived.Test.YtekolkbahhbcjaaVecLits
namespace Go.Proofs.Ytekolkbahhbcjaa
open Go.ChangeShapes Go.WideShapes Go.ChangeAt Go.RowKit

theorem sizedB_cases {z : Int} (h : sizedB z = true) : z = 1 ∨ z = 2 ∨ z = 4 := by
  unfold sizedB at h
  simp at h; omega
theorem sizedB_no {z : Int} (h : sizedB z = false) : z ≠ 1 ∧ z ≠ 2 ∧ z ≠ 4 := by
  unfold sizedB at h
  simp at h; omega
set_option maxHeartbeats 800000 in
theorem put_arg (n : Nat) (z : Int) (w : World) (h : sizedB z = false) :
    Calls Try.prog 31 #[.int .u32 n, .int .i64 z] w (GivesSE9 w S0 1) := by
  have HZ := Lib.hid (fun w => h ▸ sized_any z w)
  clear h
  go_enter Try.func31, Try.ntmps31
  go_wp2_with fail
  refine (HZ.out _).mono ?_; rintro e w1 ⟨rfl, rfl⟩
  go_wp2_with fail
  go_ret2
  exact ⟨rfl, Below.refl _ _⟩
set_option maxRecDepth 100000 in
set_option maxHeartbeats 800000 in
theorem put_range (n m : Nat) (w : World) (hm : m = 1 ∨ m = 2) (hn : ¬ n < 256 ^ m) :
    Calls Try.prog 31 #[.int .u32 n, .int .i64 m] w (GivesSE9 w S0 2) := by
  have HZ : Hid (∀ w, Calls Try.prog 38 #[.int .i64 m] w fun e w' => e = .returned (.bool true) ∧ w = w') := Lib.hid fun w => by
    have h := sized_any m w
    have e : sizedB m = true := by unfold sizedB; rcases hm with rfl | rfl <;> rfl
    rwa [e] at h
  have hlt0 : decide ((0 : Int) < (n : Int) / 2 ^ (8 * m)) = true := decide_eq_true (by
    have e : 0 < n / 2 ^ (8 * m) := Nat.div_pos (by rw [pow_8]; omega) (Nat.two_pow_pos _)
    have e2 : (n : Int) / 2 ^ (8 * m) = ((n / 2 ^ (8 * m) : Nat) : Int) := by simp
    rw [e2]; omega)
  have h1 : (1 : Int) ≤ m := by omega
  have h4 : (m : Int) ≤ 4 := by omega
  clear hm hn
  go_enter Try.func31, Try.ntmps31
  go_wp2_with fail
  refine (HZ.out _).mono ?_; rintro e w1 ⟨rfl, rfl⟩
  go_wp2_with fail
  go_ret2
  exact ⟨rfl, Below.refl _ _⟩
theorem put_any (n : Nat) (z : Int) (w : World) (hn : n < 4294967296) :
    Calls Try.prog 31 #[.int .u32 n, .int .i64 z] w (GivesSE9 w (putS n z) (putZ n z)) := by
  unfold putS putZ
  by_cases h : sizedB z = true
  · have hz := sizedB_cases h
    obtain ⟨m, rfl⟩ := Int.eq_ofNat_of_zero_le (show 0 ≤ z by omega)
    rw [if_pos h, Int.toNat_natCast]
    by_cases g : n < 256 ^ m
    · rw [if_pos g, if_pos rfl]
      exact put_good n m w (by omega) g hn
    · rw [if_neg g, if_neg (by decide)]
      rcases (show m = 1 ∨ m = 2 ∨ m = 4 by omega) with rfl | rfl | rfl
      · exact put_range n 1 w (Or.inl rfl) g
      · exact put_range n 2 w (Or.inr rfl) g
      · exact absurd hn g
  · rw [if_neg h, if_neg (by decide)]
    exact put_arg n z w (by simpa using h)

theorem tx_cons (x : Nat) (l : List Nat) : tx [x] ++ tx l = tx (x :: l) := by
  apply ByteArray.ext
  rw [ByteArray.data_append]
  unfold tx
  simp
theorem byteL_front (n k : Nat) : (n / 256 ^ k % 256) :: byteL n k = byteL n (k + 1) := by
  induction k generalizing n with
  | zero => simp [byteL]
  | succ k ih =>
    have h := ih (n / 256)
    rw [Nat.div_div_eq_div_mul, Nat.mul_comm, ← Nat.pow_succ] at h
    show _ :: (byteL (n / 256) k ++ [n % 256]) = byteL (n / 256) (k + 1) ++ [n % 256]
    rw [← List.cons_append, h]

set_option maxRecDepth 100000 in
set_option maxHeartbeats 800000 in
theorem rput_loop (n m : Nat) (w : World) (hm : m = 1 ∨ m = 2 ∨ m = 4) (hn : n < 256 ^ m) (hn4 : n < 4294967296) :
    Calls Try.prog 33 #[.int .u32 n, .int .i64 m] w (GivesSE9 w (tx (byteL n m)) 0) := by
  have HN := Lib.hid hn4
  have HT : Hid (m = 1 → ¬ (256 : Int) ≤ (n : Int)) := Lib.hid fun e => by subst e; omega
  have HU : Hid (m = 2 → ¬ (65536 : Int) ≤ (n : Int)) := Lib.hid fun e => by subst e; omega
  obtain ⟨M, hM⟩ : ∃ M, M = m := ⟨_, rfl⟩
  have HM := Lib.hid hM
  have HX : Hid (tx (byteL n m) = tx (byteL n M)) := Lib.hid (by rw [hM])
  rw [HX.out]
  have hM4 : M ≤ 4 := by omega
  clear hn hn4 hM HX
  rcases hm with rfl | rfl | rfl
  all_goals
    try have hn1 := HT.out rfl
    try have hn2 := HU.out rfl
    clear HT HU
    go_enter Try.func33, Try.ntmps33
    go_wp2_with fail
    try clear hn1
    try clear hn2
    go_loopw [0, 6, 7] (fun q v i wr => ∃ k : Nat, k ≤ M ∧ i = .int .i64 k ∧ q = .int .u32 (n / 256 ^ k : Nat) ∧ v = .string (tx (byteL n k)) ∧ Below w.heap.size w wr) (fun _ _ i _ => M - (intOf i).toNat)
    case atStart => exact ⟨0, by omega, rfl, by simp, rfl, Below.refl _ _⟩
    case round =>
      obtain ⟨k, hk, rfl, rfl, rfl, hbel⟩ := hrel
      have HW' := Lib.hid hbel
      clear hbel
      by_cases hlt : k < M
      · first
          | have hlt' : (k : Int) < 1 := by have := HM.out; omega
          | have hlt' : (k : Int) < 2 := by have := HM.out; omega
          | have hlt' : (k : Int) < 4 := by have := HM.out; omega
        have hk0 : (0 : Int) ≤ (k : Int) := Int.natCast_nonneg _
        have HF := Lib.hid (byteL_front n k)
        have HT2 := Lib.hid (tx_cons (n / 256 ^ k % 256) (byteL n k))
        have hx : n / 256 ^ k % 256 < 256 := by omega
        have HD : Hid (n / 256 ^ k / 256 = n / 256 ^ (k + 1)) := Lib.hid (by rw [Nat.div_div_eq_div_mul, Nat.pow_succ])
        have HDl : Hid (n / 256 ^ k / 256 < 4294967296) := Lib.hid (Nat.lt_of_le_of_lt (Nat.le_trans (Nat.div_le_self _ _) (Nat.div_le_self _ _)) HN.out)
        have hm0 : ((n / 256 ^ k : Nat) : Int) % 256 = ((n / 256 ^ k % 256 : Nat) : Int) := by omega
        have hd0 : ((n / 256 ^ k : Nat) : Int) / 256 = ((n / 256 ^ k / 256 : Nat) : Int) := by omega
        have hs1 : (tx [n / 256 ^ k % 256]).size = 1 := tx_size _
        have hs2 : (tx (byteL n k)).size = k := by rw [tx_size, byteL_len]
        have hcv := convert_back (wr.alloc (.cells #[.int .u8 (n / 256 ^ k % 256 : Nat)] 5)) (some ⟨wr.heap.size, 0, none⟩) 1 1 _ (bs_one wr _ hx) (by omega)
        generalize tx [n / 256 ^ k % 256] = X at *
        generalize tx (byteL n k) = Y at *
        generalize n / 256 ^ k / 256 = d at *
        generalize n / 256 ^ k % 256 = x at *
        generalize n / 256 ^ k = q at *
        go_wp2_with fail
        go_roundw
        case rel => exact ⟨k + 1, by omega, by go_num, val_int (by rw [← HD.out]; have := HDl.out; omega), by rw [← HF.out, ← HT2.out], HW'.out.alloc HW'.out.size _⟩
        case measure => simp [intOf]; omega
      · have hkM : k = M := by omega
        have HB : Hid (byteL n k = byteL n M) := Lib.hid (by rw [hkM])
        first
          | have hlt' : ¬ (k : Int) < 4 := by have := HM.out; omega
          | have hlt' : ¬ (k : Int) < 2 := by have := HM.out; omega
          | have hlt' : ¬ (k : Int) < 1 := by have := HM.out; omega
        clear hkM
        go_wp2_with fail
        go_ret2
        rw [HB.out]
        exact ⟨rfl, HW'.out⟩
theorem rput_arg (n : Nat) (z : Int) (w : World) (h : sizedB z = false) :
    Calls Try.prog 33 #[.int .u32 n, .int .i64 z] w (GivesSE9 w S0 1) := by
  obtain ⟨h1, h2, h4⟩ := sizedB_no h
  have e1 : (z != 1) = true := by simpa using h1
  have e2 : (z != 2) = true := by simpa using h2
  have e4 : (z != 4) = true := by simpa using h4
  clear h h1 h2 h4
  go_enter Try.func33, Try.ntmps33
  go_wp2_with fail
  go_ret2
  exact ⟨rfl, Below.refl _ _⟩
set_option maxRecDepth 100000 in
set_option maxHeartbeats 800000 in
theorem rput_range (n m : Nat) (w : World) (hm : m = 1 ∨ m = 2) (hn : ¬ n < 256 ^ m) :
    Calls Try.prog 33 #[.int .u32 n, .int .i64 m] w (GivesSE9 w S0 2) := by
  have HT : Hid (m = 1 → (256 : Int) ≤ (n : Int)) := Lib.hid fun e => by subst e; omega
  have HU : Hid (m = 2 → (65536 : Int) ≤ (n : Int)) := Lib.hid fun e => by subst e; omega
  clear hn
  rcases hm with rfl | rfl
  all_goals
    try have hn1 := HT.out rfl
    try have hn2 := HU.out rfl
    clear HT HU
    go_enter Try.func33, Try.ntmps33
    go_wp2_with fail
    go_ret2
    exact ⟨rfl, Below.refl _ _⟩
theorem rput_any (n : Nat) (z : Int) (w : World) (hn : n < 4294967296) :
    Calls Try.prog 33 #[.int .u32 n, .int .i64 z] w (GivesSE9 w (putS n z) (putZ n z)) := by
  unfold putS putZ
  by_cases h : sizedB z = true
  · have hz := sizedB_cases h
    obtain ⟨m, rfl⟩ := Int.eq_ofNat_of_zero_le (show 0 ≤ z by omega)
    rw [if_pos h, Int.toNat_natCast]
    by_cases g : n < 256 ^ m
    · rw [if_pos g, if_pos rfl]
      exact rput_loop n m w (by omega) g hn
    · rw [if_neg g, if_neg (by decide)]
      rcases (show m = 1 ∨ m = 2 ∨ m = 4 by omega) with rfl | rfl | rfl
      · exact rput_range n 1 w (Or.inl rfl) g
      · exact rput_range n 2 w (Or.inr rfl) g
      · exact absurd hn g
  · rw [if_neg h, if_neg (by decide)]
    exact rput_arg n z w (by simpa using h)
end Go.Proofs.Ytekolkbahhbcjaa

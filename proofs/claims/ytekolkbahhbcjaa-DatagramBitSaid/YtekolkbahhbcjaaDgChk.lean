/- Proved: what the functions of each layout that check its own fields answer. Conditions: those that the theorems name. -/
import Derived.Test.YtekolkbahhbcjaaDgLay
import Derived.BigQuiet
namespace Go.Proofs.Ytekolkbahhbcjaa
open Go.ChangeShapes Go.WideShapes Go.ChangeAt Go.RowKit

theorem below_drewN {B : Nat} {a w : World} (h : Below B a w) (q : Nat) : Below B a (w.drewN q) := ⟨h.os, h.tape, h.output, h.size, h.block⟩
theorem bcell {W w1 : World} (hb : Below W.heap.size W w1) : (∀ b o, b < W.heap.size → w1.cell? ⟨b, o, none⟩ = W.cell? ⟨b, o, none⟩) ∧ (∀ b o, b < W.heap.size → w1.frozen? ⟨b, o, none⟩ = W.frozen? ⟨b, o, none⟩) :=
  ⟨fun b o h => hb.cell (p := ⟨b, o, none⟩) h, fun b o h => hb.frozen (p := ⟨b, o, none⟩) h⟩
/-- A number comes back; nothing that was there has turned. -/
def GivesZ (W : World) (z : Int) (e : Ending) (w' : World) : Prop := e = .returned (.int .i64 z) ∧ Below W.heap.size W w'
/-- the bounds of a datagram's fields. -/
def Dg.In (d : Dg) : Prop := d.block < 4294967296 ∧ d.has.size ≤ maxLen ∧ d.body.size ≤ maxLen
theorem size_up {n k : Int} (hn : 1 ≤ n) (hk : 1 ≤ k) : sizeZ n k = (n + k - 1) / k := by
  have h0 := Int.mul_ediv_add_emod n k
  have h1 := Int.emod_nonneg n (show k ≠ 0 by omega)
  have h2 := Int.emod_lt_of_pos n (show 0 < k by omega)
  by_cases h : n % k = 0
  · rw [sizeZ_even (by omega) hk h]
    have e : n + k - 1 = (k - 1) + k * (n / k) := by omega
    have q : (k - 1) / k = 0 := Int.ediv_eq_zero_of_lt (by omega) (by omega)
    rw [e, Int.add_mul_ediv_left _ _ (by omega), q]
    omega
  · rw [sizeZ_odd (by omega) hk h]
    have e : n + k - 1 = (n % k - 1) + k * (n / k + 1) := by rw [Int.mul_add]; omega
    have q : (n % k - 1) / k = 0 := Int.ediv_eq_zero_of_lt (by omega) (by omega)
    rw [e, Int.add_mul_ediv_left _ _ (by omega), q]
    omega

set_option maxHeartbeats 400000 in
theorem chk_hav (d : Dg) (w : World) : Calls Try.prog 47 #[d.val] w (GivesZ w (grpE .hav d)) := by
  obtain ⟨a0, a1, a2, a3, a4, a5, a6, a7, a8, a9⟩ := d
  unfold Dg.val grpE
  simp only
  by_cases h : a8.size = 32
  · have e : ((a8.size : Int) != 32) = false := by rw [h]; rfl
    rw [if_pos h]
    clear h
    go_enter Try.func47, Try.ntmps47
    go_wp2_with fail
    go_ret
    exact ⟨rfl, (Below.refl _ _).alloc (Nat.le_refl _) _⟩
  · have e : ((a8.size : Int) != 32) = true := by simp; omega
    rw [if_neg h]
    clear h
    go_enter Try.func47, Try.ntmps47
    go_wp2_with fail
    go_ret
    exact ⟨rfl, (Below.refl _ _).alloc (Nat.le_refl _) _⟩
set_option maxHeartbeats 400000 in
theorem chk_cred (d : Dg) (w : World) : Calls Try.prog 51 #[d.val] w (GivesZ w (grpE .cred d)) := by
  obtain ⟨a0, a1, a2, a3, a4, a5, a6, a7, a8, a9⟩ := d
  unfold Dg.val grpE
  simp only
  by_cases h : 0 ≤ a7 ∧ a7 ≤ 65535
  · rw [if_pos h]
    go_enter Try.func51, Try.ntmps51
    go_wp2_with fail
    refine (within_yes _ _ _ _ h.1 h.2).mono ?_; rintro e w1 ⟨rfl, rfl⟩
    go_wp2_with fail
    go_ret
    exact ⟨rfl, (Below.refl _ _).alloc (Nat.le_refl _) _⟩
  · rw [if_neg h]
    have H := Lib.hid (show a7 < 0 ∨ 65535 < a7 by omega)
    clear h
    go_enter Try.func51, Try.ntmps51
    go_wp2_with fail
    refine (within_no _ _ _ _ H.out).mono ?_; rintro e w1 ⟨rfl, rfl⟩
    go_wp2_with fail
    go_ret
    exact ⟨rfl, (Below.refl _ _).alloc (Nat.le_refl _) _⟩
theorem chk_bare (d : Dg) (w : World) : Calls Try.prog 55 #[d.val] w (GivesZ w (grpE .bare d)) := by
  obtain ⟨a0, a1, a2, a3, a4, a5, a6, a7, a8, a9⟩ := d
  unfold Dg.val grpE
  simp only
  go_enter Try.func55, Try.ntmps55
  go_wp2_with fail
  go_ret
  exact ⟨rfl, (Below.refl _ _).alloc (Nat.le_refl _) _⟩
set_option maxRecDepth 100000 in
set_option maxHeartbeats 1600000 in
theorem chk_shard_k (a0 a1 : Int) (a2 : Nat) (a3 a4 a5 a6 a7 : Int) (a8 a9 : ByteArray) (w : World) (h1 : ¬ (1 ≤ a4 ∧ a4 ≤ 32)) : Calls Try.prog 43 #[Dg.val ⟨a0, a1, a2, a3, a4, a5, a6, a7, a8, a9⟩] w (GivesZ w 2) := by
  have H := Lib.hid (show a4 < 1 ∨ 32 < a4 by omega)
  clear h1
  unfold Dg.val
  simp only
  go_enter Try.func43, Try.ntmps43
  go_wp2_with fail
  refine (within_no _ _ _ _ H.out).mono ?_; rintro e w1 ⟨rfl, rfl⟩
  go_wp2_with fail
  go_ret
  exact ⟨rfl, (Below.refl _ _).alloc (Nat.le_refl _) _⟩
set_option maxRecDepth 100000 in
set_option maxHeartbeats 1600000 in
theorem chk_shard_n (a0 a1 : Int) (a2 : Nat) (a3 a4 a5 a6 a7 : Int) (a8 a9 : ByteArray) (w : World) (k1 : 1 ≤ a4) (k2 : a4 ≤ 32) (h2 : ¬ (a4 ≤ a5 ∧ a5 ≤ 255)) : Calls Try.prog 43 #[Dg.val ⟨a0, a1, a2, a3, a4, a5, a6, a7, a8, a9⟩] w (GivesZ w 2) := by
  have K := Lib.hid (And.intro k1 k2)
  have H := Lib.hid (show a5 < a4 ∨ 255 < a5 by omega)
  clear h2 k1 k2
  unfold Dg.val
  simp only
  go_enter Try.func43, Try.ntmps43
  go_wp2_with fail
  refine (within_yes _ _ _ _ K.out.1 K.out.2).mono ?_; rintro e w1 ⟨rfl, rfl⟩
  go_wp2_with fail
  refine (within_no _ _ _ _ H.out).mono ?_; rintro e w1 ⟨rfl, rfl⟩
  go_wp2_with fail
  go_ret
  exact ⟨rfl, (Below.refl _ _).alloc (Nat.le_refl _) _⟩
set_option maxRecDepth 100000 in
set_option maxHeartbeats 1600000 in
theorem chk_shard_i (a0 a1 : Int) (a2 : Nat) (a3 a4 a5 a6 a7 : Int) (a8 a9 : ByteArray) (w : World) (k1 : 1 ≤ a4) (k2 : a4 ≤ 32) (n1 : a4 ≤ a5) (n2 : a5 ≤ 255) (h3 : ¬ (0 ≤ a3 ∧ a3 < a5)) : Calls Try.prog 43 #[Dg.val ⟨a0, a1, a2, a3, a4, a5, a6, a7, a8, a9⟩] w (GivesZ w 2) := by
  have H := Lib.hid (show a3 < 0 ∨ a5 - 1 < a3 by omega)
  clear h3
  unfold Dg.val
  simp only
  go_enter Try.func43, Try.ntmps43
  go_wp2_with fail
  refine (within_yes _ _ _ _ k1 k2).mono ?_; rintro e w1 ⟨rfl, rfl⟩
  go_wp2_with fail
  refine (within_yes _ _ _ _ n1 n2).mono ?_; rintro e w1 ⟨rfl, rfl⟩
  go_wp2_with fail
  refine (within_no _ _ _ _ H.out).mono ?_; rintro e w1 ⟨rfl, rfl⟩
  go_wp2_with fail
  go_ret
  exact ⟨rfl, (Below.refl _ _).alloc (Nat.le_refl _) _⟩
set_option maxRecDepth 100000 in
set_option maxHeartbeats 1600000 in
theorem chk_shard_half (a0 a1 : Int) (a2 : Nat) (a3 a4 a5 a6 a7 : Int) (a8 a9 : ByteArray) (w : World) (k1 : 1 ≤ a4) (k2 : a4 ≤ 32) (n1 : a4 ≤ a5) (n2 : a5 ≤ 255) (i1 : 0 ≤ a3) (i2 : a3 < a5) (h4 : ¬ (a3 < a4 ↔ a0 = 1)) : Calls Try.prog 43 #[Dg.val ⟨a0, a1, a2, a3, a4, a5, a6, a7, a8, a9⟩] w (GivesZ w 2) := by
  have hx : (decide (a3 < a4) == (a0 == 1)) = false := by
    by_cases p : a3 < a4 <;> by_cases q : a0 = 1 <;> simp [p, q] at h4 ⊢
  have H := Lib.hid (show a3 ≤ a5 - 1 by omega)
  clear h4
  unfold Dg.val
  simp only
  go_enter Try.func43, Try.ntmps43
  go_wp2_with fail
  refine (within_yes _ _ _ _ k1 k2).mono ?_; rintro e w1 ⟨rfl, rfl⟩
  go_wp2_with fail
  refine (within_yes _ _ _ _ n1 n2).mono ?_; rintro e w1 ⟨rfl, rfl⟩
  go_wp2_with fail
  refine (within_yes _ _ _ _ i1 H.out).mono ?_; rintro e w1 ⟨rfl, rfl⟩
  go_wp2_with fail
  go_ret
  exact ⟨rfl, (Below.refl _ _).alloc (Nat.le_refl _) _⟩
set_option maxRecDepth 100000 in
set_option maxHeartbeats 1600000 in
theorem chk_shard_l (a0 a1 : Int) (a2 : Nat) (a3 a4 a5 a6 a7 : Int) (a8 a9 : ByteArray) (w : World) (k1 : 1 ≤ a4) (k2 : a4 ≤ 32) (n1 : a4 ≤ a5) (n2 : a5 ≤ 255) (i1 : 0 ≤ a3) (i2 : a3 < a5) (h4 : a3 < a4 ↔ a0 = 1) (h5 : ¬ (1 ≤ a6 ∧ a6 ≤ 32768)) : Calls Try.prog 43 #[Dg.val ⟨a0, a1, a2, a3, a4, a5, a6, a7, a8, a9⟩] w (GivesZ w 2) := by
  have hx : (decide (a3 < a4) == (a0 == 1)) = true := by
    by_cases p : a3 < a4 <;> by_cases q : a0 = 1 <;> simp [p, q] at h4 ⊢
  have H := Lib.hid (show a3 ≤ a5 - 1 by omega)
  have L := Lib.hid (show a6 < 1 ∨ 32768 < a6 by omega)
  clear h4 h5
  unfold Dg.val
  simp only
  go_enter Try.func43, Try.ntmps43
  go_wp2_with fail
  refine (within_yes _ _ _ _ k1 k2).mono ?_; rintro e w1 ⟨rfl, rfl⟩
  go_wp2_with fail
  refine (within_yes _ _ _ _ n1 n2).mono ?_; rintro e w1 ⟨rfl, rfl⟩
  go_wp2_with fail
  refine (within_yes _ _ _ _ i1 H.out).mono ?_; rintro e w1 ⟨rfl, rfl⟩
  go_wp2_with fail
  refine (within_no _ _ _ _ L.out).mono ?_; rintro e w1 ⟨rfl, rfl⟩
  go_wp2_with fail
  go_ret
  exact ⟨rfl, (Below.refl _ _).alloc (Nat.le_refl _) _⟩
set_option maxRecDepth 100000 in
set_option maxHeartbeats 1600000 in
theorem chk_shard_b (a0 a1 : Int) (a2 : Nat) (a3 a4 a5 a6 a7 : Int) (a8 a9 : ByteArray) (w : World) (k1 : 1 ≤ a4) (k2 : a4 ≤ 32) (n1 : a4 ≤ a5) (n2 : a5 ≤ 255) (i1 : 0 ≤ a3) (i2 : a3 < a5) (h4 : a3 < a4 ↔ a0 = 1) (l1 : 1 ≤ a6) (l2 : a6 ≤ 32768) (hb : a9.size ≤ maxLen) (z : Int)
    (hz : z = if ¬ ((a9.size : Int) = sizeZ a6 a4 ∧ a9.size ≤ 1024) then 3 else 0) : Calls Try.prog 43 #[Dg.val ⟨a0, a1, a2, a3, a4, a5, a6, a7, a8, a9⟩] w (GivesZ w z) := by
  unfold maxLen at hb
  have hx : (decide (a3 < a4) == (a0 == 1)) = true := by
    by_cases p : a3 < a4 <;> by_cases q : a0 = 1 <;> simp [p, q] at h4 ⊢
  have H := Lib.hid (show a3 ≤ a5 - 1 by omega)
  rw [size_up l1 k1] at hz
  have hw1 : IntKind.i64.wrap (a6 + a4) = a6 + a4 := IntWalk.i64_in _ (by omega)
  have hw2 : IntKind.i64.wrap (a6 + a4 - 1) = a6 + a4 - 1 := IntWalk.i64_in _ (by omega)
  have hq1 : (a6 + a4 - 1).tdiv a4 = (a6 + a4 - 1) / a4 := Int.tdiv_eq_ediv_of_nonneg (by omega)
  have hq2 : 0 ≤ (a6 + a4 - 1) / a4 := Int.ediv_nonneg (by omega) (by omega)
  have hq3 : (a6 + a4 - 1) / a4 ≤ a6 + a4 - 1 := Int.ediv_le_self _ (by omega)
  have hw3 : IntKind.i64.wrap ((a6 + a4 - 1) / a4) = (a6 + a4 - 1) / a4 := IntWalk.i64_in _ (by omega)
  generalize hQ : (a6 + a4 - 1) / a4 = Q at *
  have HQ := Lib.hid hQ
  clear h4 hQ
  unfold Dg.val
  simp only
  by_cases hs : (a9.size : Int) = Q
  · have hne : ((a9.size : Int) != Q) = false := by simp [hs]
    have hne2 : ((a9.size : Int) == Q) = true := by simp [hs]
    have hQm : Q ≤ 70000 := by omega
    by_cases hl : a9.size ≤ 1024
    · obtain rfl : z = 0 := by rw [hz, if_neg (fun q => q ⟨hs, hl⟩)]
      have hl2 : (a9.size : Int) ≤ 1024 := by omega
      clear hz hs hl
      go_enter Try.func43, Try.ntmps43
      go_wp2_with fail
      refine (within_yes _ _ _ _ k1 k2).mono ?_; rintro e w1 ⟨rfl, rfl⟩
      go_wp2_with fail
      refine (within_yes _ _ _ _ n1 n2).mono ?_; rintro e w1 ⟨rfl, rfl⟩
      go_wp2_with fail
      refine (within_yes _ _ _ _ i1 H.out).mono ?_; rintro e w1 ⟨rfl, rfl⟩
      go_wp2_with fail
      refine (within_yes _ _ _ _ l1 l2).mono ?_; rintro e w1 ⟨rfl, rfl⟩
      go_wp2_with fail
      go_quiet (fail)
      go_wp2_with fail
      go_ret
      exact ⟨rfl, below_drewN ((Below.refl _ _).alloc (Nat.le_refl _) _) _⟩
    · obtain rfl : z = 3 := by rw [hz, if_pos (fun q => hl q.2)]
      have hl2 : (1024 : Int) < (a9.size : Int) := by omega
      clear hz hs hl
      go_enter Try.func43, Try.ntmps43
      go_wp2_with fail
      refine (within_yes _ _ _ _ k1 k2).mono ?_; rintro e w1 ⟨rfl, rfl⟩
      go_wp2_with fail
      refine (within_yes _ _ _ _ n1 n2).mono ?_; rintro e w1 ⟨rfl, rfl⟩
      go_wp2_with fail
      refine (within_yes _ _ _ _ i1 H.out).mono ?_; rintro e w1 ⟨rfl, rfl⟩
      go_wp2_with fail
      refine (within_yes _ _ _ _ l1 l2).mono ?_; rintro e w1 ⟨rfl, rfl⟩
      go_wp2_with fail
      go_quiet (fail)
      go_wp2_with fail
      go_ret
      exact ⟨rfl, below_drewN ((Below.refl _ _).alloc (Nat.le_refl _) _) _⟩
  · obtain rfl : z = 3 := by rw [hz, if_pos (fun q => hs q.1)]
    have hne : ((a9.size : Int) != Q) = true := by simp [hs]
    have hne2 : ((a9.size : Int) == Q) = false := by simp [hs]
    clear hz hs
    go_enter Try.func43, Try.ntmps43
    go_wp2_with fail
    refine (within_yes _ _ _ _ k1 k2).mono ?_; rintro e w1 ⟨rfl, rfl⟩
    go_wp2_with fail
    refine (within_yes _ _ _ _ n1 n2).mono ?_; rintro e w1 ⟨rfl, rfl⟩
    go_wp2_with fail
    refine (within_yes _ _ _ _ i1 H.out).mono ?_; rintro e w1 ⟨rfl, rfl⟩
    go_wp2_with fail
    refine (within_yes _ _ _ _ l1 l2).mono ?_; rintro e w1 ⟨rfl, rfl⟩
    go_wp2_with fail
    go_quiet (fail)
    go_wp2_with fail
    go_ret
    exact ⟨rfl, below_drewN ((Below.refl _ _).alloc (Nat.le_refl _) _) _⟩
theorem chk_shard (d : Dg) (w : World) (hb : d.body.size ≤ maxLen) : Calls Try.prog 43 #[d.val] w (GivesZ w (grpE .shard d)) := by
  obtain ⟨a0, a1, a2, a3, a4, a5, a6, a7, a8, a9⟩ := d
  unfold grpE shardE
  simp only at hb ⊢
  by_cases h1 : 1 ≤ a4 ∧ a4 ≤ 32
  · obtain ⟨k1, k2⟩ := h1
    by_cases h2 : a4 ≤ a5 ∧ a5 ≤ 255
    · obtain ⟨n1, n2⟩ := h2
      by_cases h3 : 0 ≤ a3 ∧ a3 < a5
      · obtain ⟨i1, i2⟩ := h3
        rw [if_neg (fun q => q ⟨k1, k2, n1, n2, i1, i2⟩)]
        by_cases h4 : a3 < a4 ↔ a0 = 1
        · by_cases h5 : 1 ≤ a6 ∧ a6 ≤ 32768
          · obtain ⟨l1, l2⟩ := h5
            rw [if_neg (fun q => q ⟨h4, l1, l2⟩)]
            exact chk_shard_b _ _ _ _ _ _ _ _ _ _ w k1 k2 n1 n2 i1 i2 h4 l1 l2 hb _ rfl
          · rw [if_pos (fun q => h5 ⟨q.2.1, q.2.2⟩)]
            exact chk_shard_l _ _ _ _ _ _ _ _ _ _ w k1 k2 n1 n2 i1 i2 h4 h5
        · rw [if_pos (fun q => h4 q.1)]
          exact chk_shard_half _ _ _ _ _ _ _ _ _ _ w k1 k2 n1 n2 i1 i2 h4
      · rw [if_pos (fun q => h3 ⟨q.2.2.2.2.1, q.2.2.2.2.2⟩)]
        exact chk_shard_i _ _ _ _ _ _ _ _ _ _ w k1 k2 n1 n2 h3
    · rw [if_pos (fun q => h2 ⟨q.2.2.1, q.2.2.2.1⟩)]
      exact chk_shard_n _ _ _ _ _ _ _ _ _ _ w k1 k2 h2
  · rw [if_pos (fun q => h1 ⟨q.1, q.2.1⟩)]
    exact chk_shard_k _ _ _ _ _ _ _ _ _ _ w h1
theorem gchk_any (g : Grp) (d : Dg) (w : World) (hb : d.body.size ≤ maxLen) : Calls Try.prog (fChk g) #[d.val] w (GivesZ w (grpE g d)) := by
  cases g with
  | shard => exact chk_shard d w hb
  | hav => exact chk_hav d w
  | cred => exact chk_cred d w
  | bare => exact chk_bare d w
end Go.Proofs.Ytekolkbahhbcjaa

/- Proved: lemmas of one statement's proof, merged by program: what each part proves stands ahead of it. Conditions: those that the lemmas name. -/
import Derived.Test.YtodokgkchmpmnaaGreatM25
import Derived.BigQuiet
import Derived.Deep.RegionHeld3

/- Proved: what the functions of each layout that check its own fields answer. Conditions: those that the theorems name. -/
namespace Go.Proofs.YtodokgkchmpmnaaGreat
open Go.ChangeShapes Go.WideShapes Go.ChangeAt Go.RowKit

theorem below_drewN {B : Nat} {a w : World} (h : Below B a w) (q : Nat) : Below B a (w.drewN q) := ⟨h.os, h.tape, h.output, h.size, h.block⟩
theorem bcell {W w1 : World} (hb : Below W.heap.size W w1) : (∀ b o, b < W.heap.size → w1.cell? ⟨b, o, none⟩ = W.cell? ⟨b, o, none⟩) ∧ (∀ b o, b < W.heap.size → w1.frozen? ⟨b, o, none⟩ = W.frozen? ⟨b, o, none⟩) :=
  ⟨fun b o h => hb.cell (p := ⟨b, o, none⟩) h, fun b o h => hb.frozen (p := ⟨b, o, none⟩) h⟩
/-- A number comes back; nothing that was there has turned. -/
def GivesZ (W : World) (z : Int) (e : Ending) (w' : World) : Prop := e = .returned (.int .i64 z) ∧ Below W.heap.size W w'
theorem size_up {n k : Int} (hn : 1 ≤ n) (hk : 1 ≤ k) : sizeZ n k = (n + k - 1) / k := by
  have h0 := Int.mul_ediv_add_emod n k
  have h1 := Int.emod_nonneg n (show k ≠ 0 by omega)
  have h2 := Int.emod_lt_of_pos n (show 0 < k by omega)
  by_cases h : n % k = 0
  · rw [sizeZ_even (by omega) hk h]
    have e : n + k - 1 = (k - 1) + k * (n / k) := by omega
    have q : (k - 1) / k = 0 := Int.ediv_eq_zero_of_lt (by omega) (by omega)
    rw [e, Int.add_mul_ediv_left _ _ (by omega), q]
    omega
  · rw [sizeZ_odd (by omega) hk h]
    have e : n + k - 1 = (n % k - 1) + k * (n / k + 1) := by rw [Int.mul_add]; omega
    have q : (n % k - 1) / k = 0 := Int.ediv_eq_zero_of_lt (by omega) (by omega)
    rw [e, Int.add_mul_ediv_left _ _ (by omega), q]
    omega

set_option maxHeartbeats 400000 in
theorem chk_hav (d : Dg) (w : World) : Calls Tryz.prog 106 #[d.val] w (GivesZ w (grpE .hav d)) := by
  obtain ⟨a0, a1, a2, a3, a4, a5, a6, a7, a8, a9⟩ := d
  unfold Dg.val grpE
  simp only
  by_cases h : a8.size = 32
  · have e : ((a8.size : Int) != 32) = false := by rw [h]; rfl
    rw [if_pos h]
    clear h
    go_enter Tryz.func106, Tryz.ntmps106
    go_wp2_with fail
    go_ret
    exact ⟨rfl, (Below.refl _ _).alloc (Nat.le_refl _) _⟩
  · have e : ((a8.size : Int) != 32) = true := by simp; omega
    rw [if_neg h]
    clear h
    go_enter Tryz.func106, Tryz.ntmps106
    go_wp2_with fail
    go_ret
    exact ⟨rfl, (Below.refl _ _).alloc (Nat.le_refl _) _⟩
set_option maxHeartbeats 400000 in
theorem chk_cred (d : Dg) (w : World) : Calls Tryz.prog 110 #[d.val] w (GivesZ w (grpE .cred d)) := by
  obtain ⟨a0, a1, a2, a3, a4, a5, a6, a7, a8, a9⟩ := d
  unfold Dg.val grpE
  simp only
  by_cases h : 0 ≤ a7 ∧ a7 ≤ 65535
  · rw [if_pos h]
    go_enter Tryz.func110, Tryz.ntmps110
    go_wp2_with fail
    refine (within_yes _ _ _ _ h.1 h.2).mono ?_; rintro e w1 ⟨rfl, rfl⟩
    go_wp2_with fail
    go_ret
    exact ⟨rfl, (Below.refl _ _).alloc (Nat.le_refl _) _⟩
  · rw [if_neg h]
    have H := Lib.hid (show a7 < 0 ∨ 65535 < a7 by omega)
    clear h
    go_enter Tryz.func110, Tryz.ntmps110
    go_wp2_with fail
    refine (within_no _ _ _ _ H.out).mono ?_; rintro e w1 ⟨rfl, rfl⟩
    go_wp2_with fail
    go_ret
    exact ⟨rfl, (Below.refl _ _).alloc (Nat.le_refl _) _⟩
theorem chk_bare (d : Dg) (w : World) : Calls Tryz.prog 114 #[d.val] w (GivesZ w (grpE .bare d)) := by
  obtain ⟨a0, a1, a2, a3, a4, a5, a6, a7, a8, a9⟩ := d
  unfold Dg.val grpE
  simp only
  go_enter Tryz.func114, Tryz.ntmps114
  go_wp2_with fail
  go_ret
  exact ⟨rfl, (Below.refl _ _).alloc (Nat.le_refl _) _⟩
set_option maxRecDepth 100000 in
set_option maxHeartbeats 1600000 in
theorem chk_shard_k (a0 a1 : Int) (a2 : Nat) (a3 a4 a5 a6 a7 : Int) (a8 a9 : ByteArray) (w : World) (h1 : ¬ (1 ≤ a4 ∧ a4 ≤ 32)) : Calls Tryz.prog 102 #[Dg.val ⟨a0, a1, a2, a3, a4, a5, a6, a7, a8, a9⟩] w (GivesZ w 2) := by
  have H := Lib.hid (show a4 < 1 ∨ 32 < a4 by omega)
  clear h1
  unfold Dg.val
  simp only
  go_enter Tryz.func102, Tryz.ntmps102
  go_wp2_with fail
  refine (within_no _ _ _ _ H.out).mono ?_; rintro e w1 ⟨rfl, rfl⟩
  go_wp2_with fail
  go_ret
  exact ⟨rfl, (Below.refl _ _).alloc (Nat.le_refl _) _⟩
set_option maxRecDepth 100000 in
set_option maxHeartbeats 1600000 in
theorem chk_shard_n (a0 a1 : Int) (a2 : Nat) (a3 a4 a5 a6 a7 : Int) (a8 a9 : ByteArray) (w : World) (k1 : 1 ≤ a4) (k2 : a4 ≤ 32) (h2 : ¬ (a4 ≤ a5 ∧ a5 ≤ 255)) : Calls Tryz.prog 102 #[Dg.val ⟨a0, a1, a2, a3, a4, a5, a6, a7, a8, a9⟩] w (GivesZ w 2) := by
  have K := Lib.hid (And.intro k1 k2)
  have H := Lib.hid (show a5 < a4 ∨ 255 < a5 by omega)
  clear h2 k1 k2
  unfold Dg.val
  simp only
  go_enter Tryz.func102, Tryz.ntmps102
  go_wp2_with fail
  refine (within_yes _ _ _ _ K.out.1 K.out.2).mono ?_; rintro e w1 ⟨rfl, rfl⟩
  go_wp2_with fail
  refine (within_no _ _ _ _ H.out).mono ?_; rintro e w1 ⟨rfl, rfl⟩
  go_wp2_with fail
  go_ret
  exact ⟨rfl, (Below.refl _ _).alloc (Nat.le_refl _) _⟩
set_option maxRecDepth 100000 in
set_option maxHeartbeats 1600000 in
theorem chk_shard_i (a0 a1 : Int) (a2 : Nat) (a3 a4 a5 a6 a7 : Int) (a8 a9 : ByteArray) (w : World) (k1 : 1 ≤ a4) (k2 : a4 ≤ 32) (n1 : a4 ≤ a5) (n2 : a5 ≤ 255) (h3 : ¬ (0 ≤ a3 ∧ a3 < a5)) : Calls Tryz.prog 102 #[Dg.val ⟨a0, a1, a2, a3, a4, a5, a6, a7, a8, a9⟩] w (GivesZ w 2) := by
  have H := Lib.hid (show a3 < 0 ∨ a5 - 1 < a3 by omega)
  clear h3
  unfold Dg.val
  simp only
  go_enter Tryz.func102, Tryz.ntmps102
  go_wp2_with fail
  refine (within_yes _ _ _ _ k1 k2).mono ?_; rintro e w1 ⟨rfl, rfl⟩
  go_wp2_with fail
  refine (within_yes _ _ _ _ n1 n2).mono ?_; rintro e w1 ⟨rfl, rfl⟩
  go_wp2_with fail
  refine (within_no _ _ _ _ H.out).mono ?_; rintro e w1 ⟨rfl, rfl⟩
  go_wp2_with fail
  go_ret
  exact ⟨rfl, (Below.refl _ _).alloc (Nat.le_refl _) _⟩
set_option maxRecDepth 100000 in
set_option maxHeartbeats 1600000 in
theorem chk_shard_half (a0 a1 : Int) (a2 : Nat) (a3 a4 a5 a6 a7 : Int) (a8 a9 : ByteArray) (w : World) (k1 : 1 ≤ a4) (k2 : a4 ≤ 32) (n1 : a4 ≤ a5) (n2 : a5 ≤ 255) (i1 : 0 ≤ a3) (i2 : a3 < a5) (h4 : ¬ (a3 < a4 ↔ a0 = 1)) : Calls Tryz.prog 102 #[Dg.val ⟨a0, a1, a2, a3, a4, a5, a6, a7, a8, a9⟩] w (GivesZ w 2) := by
  have hx : (decide (a3 < a4) == (a0 == 1)) = false := by
    by_cases p : a3 < a4 <;> by_cases q : a0 = 1 <;> simp [p, q] at h4 ⊢
  have H := Lib.hid (show a3 ≤ a5 - 1 by omega)
  clear h4
  unfold Dg.val
  simp only
  go_enter Tryz.func102, Tryz.ntmps102
  go_wp2_with fail
  refine (within_yes _ _ _ _ k1 k2).mono ?_; rintro e w1 ⟨rfl, rfl⟩
  go_wp2_with fail
  refine (within_yes _ _ _ _ n1 n2).mono ?_; rintro e w1 ⟨rfl, rfl⟩
  go_wp2_with fail
  refine (within_yes _ _ _ _ i1 H.out).mono ?_; rintro e w1 ⟨rfl, rfl⟩
  go_wp2_with fail
  go_ret
  exact ⟨rfl, (Below.refl _ _).alloc (Nat.le_refl _) _⟩
set_option maxRecDepth 100000 in
set_option maxHeartbeats 1600000 in
theorem chk_shard_l (a0 a1 : Int) (a2 : Nat) (a3 a4 a5 a6 a7 : Int) (a8 a9 : ByteArray) (w : World) (k1 : 1 ≤ a4) (k2 : a4 ≤ 32) (n1 : a4 ≤ a5) (n2 : a5 ≤ 255) (i1 : 0 ≤ a3) (i2 : a3 < a5) (h4 : a3 < a4 ↔ a0 = 1) (h5 : ¬ (1 ≤ a6 ∧ a6 ≤ 32768)) : Calls Tryz.prog 102 #[Dg.val ⟨a0, a1, a2, a3, a4, a5, a6, a7, a8, a9⟩] w (GivesZ w 2) := by
  have hx : (decide (a3 < a4) == (a0 == 1)) = true := by
    by_cases p : a3 < a4 <;> by_cases q : a0 = 1 <;> simp [p, q] at h4 ⊢
  have H := Lib.hid (show a3 ≤ a5 - 1 by omega)
  have L := Lib.hid (show a6 < 1 ∨ 32768 < a6 by omega)
  clear h4 h5
  unfold Dg.val
  simp only
  go_enter Tryz.func102, Tryz.ntmps102
  go_wp2_with fail
  refine (within_yes _ _ _ _ k1 k2).mono ?_; rintro e w1 ⟨rfl, rfl⟩
  go_wp2_with fail
  refine (within_yes _ _ _ _ n1 n2).mono ?_; rintro e w1 ⟨rfl, rfl⟩
  go_wp2_with fail
  refine (within_yes _ _ _ _ i1 H.out).mono ?_; rintro e w1 ⟨rfl, rfl⟩
  go_wp2_with fail
  refine (within_no _ _ _ _ L.out).mono ?_; rintro e w1 ⟨rfl, rfl⟩
  go_wp2_with fail
  go_ret
  exact ⟨rfl, (Below.refl _ _).alloc (Nat.le_refl _) _⟩
set_option maxRecDepth 100000 in
set_option maxHeartbeats 1600000 in
theorem chk_shard_b (a0 a1 : Int) (a2 : Nat) (a3 a4 a5 a6 a7 : Int) (a8 a9 : ByteArray) (w : World) (k1 : 1 ≤ a4) (k2 : a4 ≤ 32) (n1 : a4 ≤ a5) (n2 : a5 ≤ 255) (i1 : 0 ≤ a3) (i2 : a3 < a5) (h4 : a3 < a4 ↔ a0 = 1) (l1 : 1 ≤ a6) (l2 : a6 ≤ 32768) (hb : a9.size ≤ maxLen) (z : Int)
    (hz : z = if ¬ ((a9.size : Int) = sizeZ a6 a4 ∧ a9.size ≤ 1024) then 3 else 0) : Calls Tryz.prog 102 #[Dg.val ⟨a0, a1, a2, a3, a4, a5, a6, a7, a8, a9⟩] w (GivesZ w z) := by
  unfold maxLen at hb
  have hx : (decide (a3 < a4) == (a0 == 1)) = true := by
    by_cases p : a3 < a4 <;> by_cases q : a0 = 1 <;> simp [p, q] at h4 ⊢
  have H := Lib.hid (show a3 ≤ a5 - 1 by omega)
  rw [size_up l1 k1] at hz
  have hw1 : IntKind.i64.wrap (a6 + a4) = a6 + a4 := IntWalk.i64_in _ (by omega)
  have hw2 : IntKind.i64.wrap (a6 + a4 - 1) = a6 + a4 - 1 := IntWalk.i64_in _ (by omega)
  have hq1 : (a6 + a4 - 1).tdiv a4 = (a6 + a4 - 1) / a4 := Int.tdiv_eq_ediv_of_nonneg (by omega)
  have hq2 : 0 ≤ (a6 + a4 - 1) / a4 := Int.ediv_nonneg (by omega) (by omega)
  have hq3 : (a6 + a4 - 1) / a4 ≤ a6 + a4 - 1 := Int.ediv_le_self _ (by omega)
  have hw3 : IntKind.i64.wrap ((a6 + a4 - 1) / a4) = (a6 + a4 - 1) / a4 := IntWalk.i64_in _ (by omega)
  generalize hQ : (a6 + a4 - 1) / a4 = Q at *
  have HQ := Lib.hid hQ
  clear h4 hQ
  unfold Dg.val
  simp only
  by_cases hs : (a9.size : Int) = Q
  · have hne : ((a9.size : Int) != Q) = false := by simp [hs]
    have hne2 : ((a9.size : Int) == Q) = true := by simp [hs]
    have hQm : Q ≤ 70000 := by omega
    by_cases hl : a9.size ≤ 1024
    · obtain rfl : z = 0 := by rw [hz, if_neg (fun q => q ⟨hs, hl⟩)]
      have hl2 : (a9.size : Int) ≤ 1024 := by omega
      clear hz hs hl
      go_enter Tryz.func102, Tryz.ntmps102
      go_wp2_with fail
      refine (within_yes _ _ _ _ k1 k2).mono ?_; rintro e w1 ⟨rfl, rfl⟩
      go_wp2_with fail
      refine (within_yes _ _ _ _ n1 n2).mono ?_; rintro e w1 ⟨rfl, rfl⟩
      go_wp2_with fail
      refine (within_yes _ _ _ _ i1 H.out).mono ?_; rintro e w1 ⟨rfl, rfl⟩
      go_wp2_with fail
      refine (within_yes _ _ _ _ l1 l2).mono ?_; rintro e w1 ⟨rfl, rfl⟩
      go_wp2_with fail
      go_quiet (fail)
      go_wp2_with fail
      go_ret
      exact ⟨rfl, below_drewN ((Below.refl _ _).alloc (Nat.le_refl _) _) _⟩
    · obtain rfl : z = 3 := by rw [hz, if_pos (fun q => hl q.2)]
      have hl2 : (1024 : Int) < (a9.size : Int) := by omega
      clear hz hs hl
      go_enter Tryz.func102, Tryz.ntmps102
      go_wp2_with fail
      refine (within_yes _ _ _ _ k1 k2).mono ?_; rintro e w1 ⟨rfl, rfl⟩
      go_wp2_with fail
      refine (within_yes _ _ _ _ n1 n2).mono ?_; rintro e w1 ⟨rfl, rfl⟩
      go_wp2_with fail
      refine (within_yes _ _ _ _ i1 H.out).mono ?_; rintro e w1 ⟨rfl, rfl⟩
      go_wp2_with fail
      refine (within_yes _ _ _ _ l1 l2).mono ?_; rintro e w1 ⟨rfl, rfl⟩
      go_wp2_with fail
      go_quiet (fail)
      go_wp2_with fail
      go_ret
      exact ⟨rfl, below_drewN ((Below.refl _ _).alloc (Nat.le_refl _) _) _⟩
  · obtain rfl : z = 3 := by rw [hz, if_pos (fun q => hs q.1)]
    have hne : ((a9.size : Int) != Q) = true := by simp [hs]
    have hne2 : ((a9.size : Int) == Q) = false := by simp [hs]
    clear hz hs
    go_enter Tryz.func102, Tryz.ntmps102
    go_wp2_with fail
    refine (within_yes _ _ _ _ k1 k2).mono ?_; rintro e w1 ⟨rfl, rfl⟩
    go_wp2_with fail
    refine (within_yes _ _ _ _ n1 n2).mono ?_; rintro e w1 ⟨rfl, rfl⟩
    go_wp2_with fail
    refine (within_yes _ _ _ _ i1 H.out).mono ?_; rintro e w1 ⟨rfl, rfl⟩
    go_wp2_with fail
    refine (within_yes _ _ _ _ l1 l2).mono ?_; rintro e w1 ⟨rfl, rfl⟩
    go_wp2_with fail
    go_quiet (fail)
    go_wp2_with fail
    go_ret
    exact ⟨rfl, below_drewN ((Below.refl _ _).alloc (Nat.le_refl _) _) _⟩
theorem chk_shard (d : Dg) (w : World) (hb : d.body.size ≤ maxLen) : Calls Tryz.prog 102 #[d.val] w (GivesZ w (grpE .shard d)) := by
  obtain ⟨a0, a1, a2, a3, a4, a5, a6, a7, a8, a9⟩ := d
  unfold grpE shardE
  simp only at hb ⊢
  by_cases h1 : 1 ≤ a4 ∧ a4 ≤ 32
  · obtain ⟨k1, k2⟩ := h1
    by_cases h2 : a4 ≤ a5 ∧ a5 ≤ 255
    · obtain ⟨n1, n2⟩ := h2
      by_cases h3 : 0 ≤ a3 ∧ a3 < a5
      · obtain ⟨i1, i2⟩ := h3
        rw [if_neg (fun q => q ⟨k1, k2, n1, n2, i1, i2⟩)]
        by_cases h4 : a3 < a4 ↔ a0 = 1
        · by_cases h5 : 1 ≤ a6 ∧ a6 ≤ 32768
          · obtain ⟨l1, l2⟩ := h5
            rw [if_neg (fun q => q ⟨h4, l1, l2⟩)]
            exact chk_shard_b _ _ _ _ _ _ _ _ _ _ w k1 k2 n1 n2 i1 i2 h4 l1 l2 hb _ rfl
          · rw [if_pos (fun q => h5 ⟨q.2.1, q.2.2⟩)]
            exact chk_shard_l _ _ _ _ _ _ _ _ _ _ w k1 k2 n1 n2 i1 i2 h4 h5
        · rw [if_pos (fun q => h4 q.1)]
          exact chk_shard_half _ _ _ _ _ _ _ _ _ _ w k1 k2 n1 n2 i1 i2 h4
      · rw [if_pos (fun q => h3 ⟨q.2.2.2.2.1, q.2.2.2.2.2⟩)]
        exact chk_shard_i _ _ _ _ _ _ _ _ _ _ w k1 k2 n1 n2 h3
    · rw [if_pos (fun q => h2 ⟨q.2.2.1, q.2.2.2.1⟩)]
      exact chk_shard_n _ _ _ _ _ _ _ _ _ _ w k1 k2 h2
  · rw [if_pos (fun q => h1 ⟨q.1, q.2.1⟩)]
    exact chk_shard_k _ _ _ _ _ _ _ _ _ _ w h1
theorem gchk_any (g : Grp) (d : Dg) (w : World) (hb : d.body.size ≤ maxLen) : Calls Tryz.prog (fChk g) #[d.val] w (GivesZ w (grpE g d)) := by
  cases g with
  | shard => exact chk_shard d w hb
  | hav => exact chk_hav d w
  | cred => exact chk_cred d w
  | bare => exact chk_bare d w
end Go.Proofs.YtodokgkchmpmnaaGreat

/- Proved: what checked, Check and Size of package datagram answer. Conditions: those that the theorems name. -/
namespace Go.Proofs.YtodokgkchmpmnaaGreat
open Go.ChangeShapes Go.WideShapes Go.ChangeAt Go.RowKit

/-- A layout and a number come back; nothing that was there has turned. -/
def GivesLZ (W : World) (v : Value) (z : Int) (e : Ending) (w' : World) : Prop := e = .returned (.tuple #[v, .int .i64 z]) ∧ Below W.heap.size W w'
/-- the layout that checked answers. -/
def layT (d : Dg) : Value := if dchk d = 0 then layV (grpOf d.kind) else layNone
/-- what a layout and a number in the call's own memory read as. -/
theorem res_lay {T : Array Value} {W : World} {b : Nat} {z : Int} {v0 v1 v2 v3 v4 : Value} (h2 : T.getD 2 undef = .pointer (some ⟨b, 0, none⟩)) (h3 : T.getD 3 undef = .int .i64 z) (A : At W b 162 [v0, v1, v2, v3, v4]) : (results Tryz.f85 T).run Tryz.prog W = .ok (.tuple #[.agg #[v0, v1, v2, v3, v4], .int .i64 z]) W := by
  have h2' : T[2]?.getD undef = .pointer (some ⟨b, 0, none⟩) := by simpa using h2
  have h3' : T[3]?.getD undef = .int .i64 z := by simpa using h3
  have c0 := A.cell 0 rfl
  have c1 := A.cell 1 rfl
  have c2 := A.cell 2 rfl
  have c3 := A.cell 3 rfl
  have c4 := A.cell 4 rfl
  simp [results, Tryz.results85, h2', h3', c0, c1, c2, c3, c4, go_sem]
set_option maxRecDepth 100000 in
set_option maxHeartbeats 1600000 in
theorem checked_no (d : Dg) (w : World) (h : ¬ (1 ≤ d.kind ∧ d.kind ≤ 6)) : Calls Tryz.prog 85 #[d.val] w (GivesLZ w layNone 1) := by
  obtain ⟨a0, a1, a2, a3, a4, a5, a6, a7, a8, a9⟩ := d
  simp only at h
  have HL := Lib.hid (fun w => layout_no a0 w h)
  unfold layNone at HL
  clear h
  unfold Dg.val
  simp only
  go_enter Tryz.func85, Tryz.ntmps85
  go_wp2_with fail
  refine (HL.out _).mono ?_; rintro e w1 ⟨rfl, g1⟩
  obtain ⟨hc, hf⟩ := bcell g1
  have hz : w.heap.size + 1 < w1.heap.size := by have := g1.size; simp at this; omega
  have hz0 : w.heap.size < w1.heap.size := by omega
  have G1 := Lib.hid g1
  clear g1
  have A1 : Hid (At w1 (w.heap.size + 1) 162 [.nilFunc, .nilFunc, .nilFunc, .nilFunc, .int .i64 0]) := Lib.hid (At.below (by have := At.new (w.alloc (.cells #[.int .i64 a0, .int .i64 a1, .int .u32 (a2 : Nat), .int .i64 a3, .int .i64 a4, .int .i64 a5, .int .i64 a6, .int .i64 a7, .string a8, .string a9] 27)) 162 [.nilFunc, .nilFunc, .nilFunc, .nilFunc, .int .i64 0]; simpa using this) G1.out (by simp))
  have B1 : Hid (Below w.heap.size w w1) := Lib.hid ((((Below.refl _ _).alloc (Nat.le_refl _) _).alloc (by simp) _).trans (G1.out.mono (by simp; omega)))
  go_wp2_with fail
  refine bodyPost_ret (v := .tuple #[layNone, .int .i64 1]) (res_lay rfl rfl ((((((A1.out.set_ 0 _).set_ 1 _).set_ 2 _).set_ 3 _).set_ 4 _).alloc _)) rfl ⟨rfl, ?_⟩
  repeat (first | with_reducible exact B1.out | with_reducible refine Below.setCell ?_ (by first | omega | (simp; done) | (simp; omega)) _ | with_reducible refine Below.alloc ?_ (by first | omega | (simp; done) | (simp; omega)) _ | with_reducible refine Below.drew ?_)
set_option maxRecDepth 100000 in
set_option maxHeartbeats 1600000 in
theorem checked_stream (g : Grp) (d : Dg) (w : World) (h : 1 ≤ d.kind ∧ d.kind ≤ 6) (hg : grpOf d.kind = g) (h2 : ¬ (0 ≤ d.stream ∧ d.stream ≤ 255)) : Calls Tryz.prog 85 #[d.val] w (GivesLZ w layNone 2) := by
  obtain ⟨a0, a1, a2, a3, a4, a5, a6, a7, a8, a9⟩ := d
  simp only at h hg h2
  have HL := Lib.hid (fun w => layout_yes a0 w h)
  rw [hg] at HL
  unfold layV at HL
  have HS := Lib.hid (show a1 < 0 ∨ 255 < a1 by omega)
  clear h hg h2
  unfold Dg.val
  simp only
  go_enter Tryz.func85, Tryz.ntmps85
  go_wp2_with fail
  refine (HL.out _).mono ?_; rintro e w1 ⟨rfl, g1⟩
  obtain ⟨hc, hf⟩ := bcell g1
  have hz : w.heap.size + 1 < w1.heap.size := by have := g1.size; simp at this; omega
  have hz0 : w.heap.size < w1.heap.size := by omega
  have G1 := Lib.hid g1
  clear g1
  have A1 : Hid (At w1 (w.heap.size + 1) 162 [.nilFunc, .nilFunc, .nilFunc, .nilFunc, .int .i64 0]) := Lib.hid (At.below (by have := At.new (w.alloc (.cells #[.int .i64 a0, .int .i64 a1, .int .u32 (a2 : Nat), .int .i64 a3, .int .i64 a4, .int .i64 a5, .int .i64 a6, .int .i64 a7, .string a8, .string a9] 27)) 162 [.nilFunc, .nilFunc, .nilFunc, .nilFunc, .int .i64 0]; simpa using this) G1.out (by simp))
  have B1 : Hid (Below w.heap.size w w1) := Lib.hid ((((Below.refl _ _).alloc (Nat.le_refl _) _).alloc (by simp) _).trans (G1.out.mono (by simp; omega)))
  go_wp2_with fail
  refine (within_no _ _ _ _ HS.out).mono ?_; rintro e w2 ⟨rfl, rfl⟩
  go_wp2_with fail
  refine bodyPost_ret (v := .tuple #[layNone, .int .i64 2]) (res_lay rfl rfl ((((((A1.out.set_ 0 _).set_ 1 _).set_ 2 _).set_ 3 _).set_ 4 _).alloc _)) rfl ⟨rfl, ?_⟩
  repeat (first | with_reducible exact B1.out | with_reducible refine Below.setCell ?_ (by first | omega | (simp; done) | (simp; omega)) _ | with_reducible refine Below.alloc ?_ (by first | omega | (simp; done) | (simp; omega)) _ | with_reducible refine Below.drew ?_)
set_option maxRecDepth 100000 in
set_option maxHeartbeats 1600000 in
theorem checked_grp (g : Grp) (d : Dg) (w : World) (h : 1 ≤ d.kind ∧ d.kind ≤ 6) (hg : grpOf d.kind = g) (h2 : 0 ≤ d.stream ∧ d.stream ≤ 255) (h3 : grpE g d ≠ 0) (hb : d.body.size ≤ maxLen) : Calls Tryz.prog 85 #[d.val] w (GivesLZ w layNone (grpE g d)) := by
  obtain ⟨a0, a1, a2, a3, a4, a5, a6, a7, a8, a9⟩ := d
  simp only at h hg h2 hb
  have HL := Lib.hid (fun w => layout_yes a0 w h)
  rw [hg] at HL
  unfold layV at HL
  have HC := Lib.hid (fun w => gchk_any g ⟨a0, a1, a2, a3, a4, a5, a6, a7, a8, a9⟩ w hb)
  unfold Dg.val at HC
  have hcall := call_chk g
  have h3a : (grpE g ⟨a0, a1, a2, a3, a4, a5, a6, a7, a8, a9⟩ == 0) = false := by rw [beq_eq_false_iff_ne]; exact h3
  have h3b : (grpE g ⟨a0, a1, a2, a3, a4, a5, a6, a7, a8, a9⟩ != 0) = true := by rw [bne, h3a]; rfl
  generalize grpE g ⟨a0, a1, a2, a3, a4, a5, a6, a7, a8, a9⟩ = z at *
  clear h h3 hb hg
  obtain ⟨s1, s2⟩ := h2
  unfold Dg.val
  simp only
  go_enter Tryz.func85, Tryz.ntmps85
  go_wp2_with fail
  refine (HL.out _).mono ?_; rintro e w1 ⟨rfl, g1⟩
  obtain ⟨hc, hf⟩ := bcell g1
  have hz : w.heap.size + 1 < w1.heap.size := by have := g1.size; simp at this; omega
  have hz0 : w.heap.size < w1.heap.size := by omega
  have G1 := Lib.hid g1
  clear g1
  have A1 : Hid (At w1 (w.heap.size + 1) 162 [.nilFunc, .nilFunc, .nilFunc, .nilFunc, .int .i64 0]) := Lib.hid (At.below (by have := At.new (w.alloc (.cells #[.int .i64 a0, .int .i64 a1, .int .u32 (a2 : Nat), .int .i64 a3, .int .i64 a4, .int .i64 a5, .int .i64 a6, .int .i64 a7, .string a8, .string a9] 27)) 162 [.nilFunc, .nilFunc, .nilFunc, .nilFunc, .int .i64 0]; simpa using this) G1.out (by simp))
  have B1 : Hid (Below w.heap.size w w1) := Lib.hid ((((Below.refl _ _).alloc (Nat.le_refl _) _).alloc (by simp) _).trans (G1.out.mono (by simp; omega)))
  go_wp2_with fail
  refine (within_yes _ _ _ _ s1 s2).mono ?_; rintro e w2 ⟨rfl, rfl⟩
  go_wp2_with fail
  refine (HC.out _).mono ?_; rintro e w2 ⟨rfl, g2⟩
  obtain ⟨hc2, hf2⟩ := bcell g2
  have hz2 : w1.heap.size < w2.heap.size := by have := g2.size; simp at this; omega
  have hz3 : w.heap.size + 1 < w2.heap.size := by omega
  have hz4 : w.heap.size < w2.heap.size := by omega
  have A2 : Hid (At w2 (w.heap.size + 1) 162 [.nilFunc, .nilFunc, .nilFunc, .nilFunc, .int .i64 0]) := Lib.hid ((A1.out.alloc _).below g2 (by simp; omega))
  have B2 : Hid (Below w.heap.size w w2) := Lib.hid ((B1.out.alloc (by omega) _).trans (g2.mono (by simp; omega)))
  clear g2
  go_wp2_with fail
  refine bodyPost_ret (v := .tuple #[layNone, .int .i64 z]) (res_lay rfl rfl (((((A2.out.set_ 0 _).set_ 1 _).set_ 2 _).set_ 3 _).set_ 4 _)) rfl ⟨rfl, ?_⟩
  repeat (first | with_reducible exact B2.out | with_reducible refine Below.setCell ?_ (by first | omega | (simp; done) | (simp; omega)) _ | with_reducible refine Below.alloc ?_ (by first | omega | (simp; done) | (simp; omega)) _ | with_reducible refine Below.drew ?_)
set_option maxRecDepth 100000 in
set_option maxHeartbeats 3200000 in
theorem checked_form (g : Grp) (d : Dg) (w : World) (h : 1 ≤ d.kind ∧ d.kind ≤ 6) (hg : grpOf d.kind = g) (h2 : 0 ≤ d.stream ∧ d.stream ≤ 255) (h3 : grpE g d = 0) (h4 : (d.without g).eqB d.common = false) (hb : d.body.size ≤ maxLen) : Calls Tryz.prog 85 #[d.val] w (GivesLZ w layNone 5) := by
  obtain ⟨a0, a1, a2, a3, a4, a5, a6, a7, a8, a9⟩ := d
  simp only at h hg h2 hb
  have HL := Lib.hid (fun w => layout_yes a0 w h)
  rw [hg] at HL
  unfold layV at HL
  have HC := Lib.hid (fun w => gchk_any g ⟨a0, a1, a2, a3, a4, a5, a6, a7, a8, a9⟩ w hb)
  rw [h3] at HC
  have HO := Lib.hid (fun w => out_any g ⟨a0, a1, a2, a3, a4, a5, a6, a7, a8, a9⟩ w)
  have HQ := Lib.hid (fun W => neq_dg (Dg.without g ⟨a0, a1, a2, a3, a4, a5, a6, a7, a8, a9⟩) (Dg.common ⟨a0, a1, a2, a3, a4, a5, a6, a7, a8, a9⟩) W)
  rw [h4] at HQ
  generalize Dg.without g ⟨a0, a1, a2, a3, a4, a5, a6, a7, a8, a9⟩ = X at *
  obtain ⟨b0, b1, b2, b3, b4, b5, b6, b7, b8, b9⟩ := X
  have hq : ∀ W, (binOp .neq 27 (.agg #[.int .i64 b0, .int .i64 b1, .int .u32 (b2 : Nat), .int .i64 b3, .int .i64 b4, .int .i64 b5, .int .i64 b6, .int .i64 b7, .string b8, .string b9]) (.agg #[.int .i64 a0, .int .i64 a1, .int .u32 (a2 : Nat), .int .i64 0, .int .i64 0, .int .i64 0, .int .i64 0, .int .i64 0, .string ⟨#[]⟩, .string ⟨#[]⟩])).run Tryz.prog W = .ok (.bool (!false)) W := HQ.out
  unfold GivesD Dg.val at HO
  simp only at HO
  unfold Dg.val at HC
  have hcall := call_chk g
  have hcall2 := call_out g
  clear h h3 h4 hb hg HQ
  obtain ⟨s1, s2⟩ := h2
  unfold Dg.val
  simp only
  go_enter Tryz.func85, Tryz.ntmps85
  go_wp2_with fail
  refine (HL.out _).mono ?_; rintro e w1 ⟨rfl, g1⟩
  obtain ⟨hc, hf⟩ := bcell g1
  have hz : w.heap.size + 1 < w1.heap.size := by have := g1.size; simp at this; omega
  have hz0 : w.heap.size < w1.heap.size := by omega
  have G1 := Lib.hid g1
  clear g1
  have D1 : Hid (At w1 w.heap.size 27 [.int .i64 a0, .int .i64 a1, .int .u32 (a2 : Nat), .int .i64 a3, .int .i64 a4, .int .i64 a5, .int .i64 a6, .int .i64 a7, .string a8, .string a9]) := Lib.hid (((At.new w 27 [.int .i64 a0, .int .i64 a1, .int .u32 (a2 : Nat), .int .i64 a3, .int .i64 a4, .int .i64 a5, .int .i64 a6, .int .i64 a7, .string a8, .string a9]).alloc _).below G1.out (by simp; omega))
  have A1 : Hid (At w1 (w.heap.size + 1) 162 [.nilFunc, .nilFunc, .nilFunc, .nilFunc, .int .i64 0]) := Lib.hid (At.below (by have := At.new (w.alloc (.cells #[.int .i64 a0, .int .i64 a1, .int .u32 (a2 : Nat), .int .i64 a3, .int .i64 a4, .int .i64 a5, .int .i64 a6, .int .i64 a7, .string a8, .string a9] 27)) 162 [.nilFunc, .nilFunc, .nilFunc, .nilFunc, .int .i64 0]; simpa using this) G1.out (by simp))
  have B1 : Hid (Below w.heap.size w w1) := Lib.hid ((((Below.refl _ _).alloc (Nat.le_refl _) _).alloc (by simp) _).trans (G1.out.mono (by simp; omega)))
  have L1 := Lib.hid (At.new w1 162 [.func (.func (fChk g)) #[] #[], .func (.func (fOut g)) #[] #[], .func (.func (fPut g)) #[] #[], .func (.func (fRead g)) #[] #[], .int .i64 (grpSz g : Nat)])
  go_wp2_with fail
  refine (within_yes _ _ _ _ s1 s2).mono ?_; rintro e w2 ⟨rfl, rfl⟩
  go_wp2_with fail
  refine (HC.out _).mono ?_; rintro e w2 ⟨rfl, g2⟩
  obtain ⟨hc2, hf2⟩ := bcell g2
  have hz2 : w1.heap.size < w2.heap.size := by have := g2.size; simp at this; omega
  have hz3 : w.heap.size + 1 < w2.heap.size := by omega
  have hz4 : w.heap.size < w2.heap.size := by omega
  have D2 := Lib.hid ((D1.out.alloc _).below g2 (by simp; omega))
  have A2 := Lib.hid ((A1.out.alloc _).below g2 (by simp; omega))
  have L2 := Lib.hid (L1.out.below g2 (by simp))
  have B2 : Hid (Below w.heap.size w w2) := Lib.hid ((B1.out.alloc (by omega) _).trans (g2.mono (by simp; omega)))
  clear g2
  go_wp2_with fail
  clear hc hf hc2 hf2
  have D3 := Lib.hid (D2.out.alloc (.cells #[.int .i64 a0, .int .i64 a1, .int .u32 (a2 : Nat), .int .i64 0, .int .i64 0, .int .i64 0, .int .i64 0, .int .i64 0, .string ⟨#[]⟩, .string ⟨#[]⟩] 27))
  have A3 := Lib.hid (A2.out.alloc (.cells #[.int .i64 a0, .int .i64 a1, .int .u32 (a2 : Nat), .int .i64 0, .int .i64 0, .int .i64 0, .int .i64 0, .int .i64 0, .string ⟨#[]⟩, .string ⟨#[]⟩] 27))
  have L3 := Lib.hid (L2.out.alloc (.cells #[.int .i64 a0, .int .i64 a1, .int .u32 (a2 : Nat), .int .i64 0, .int .i64 0, .int .i64 0, .int .i64 0, .int .i64 0, .string ⟨#[]⟩, .string ⟨#[]⟩] 27))
  have C3 : Hid (At (w2.alloc (.cells #[.int .i64 a0, .int .i64 a1, .int .u32 (a2 : Nat), .int .i64 0, .int .i64 0, .int .i64 0, .int .i64 0, .int .i64 0, .string ⟨#[]⟩, .string ⟨#[]⟩] 27)) w2.heap.size 27 [.int .i64 a0, .int .i64 a1, .int .u32 (a2 : Nat), .int .i64 0, .int .i64 0, .int .i64 0, .int .i64 0, .int .i64 0, .string ⟨#[]⟩, .string ⟨#[]⟩]) := Lib.hid (At.new w2 27 [.int .i64 a0, .int .i64 a1, .int .u32 (a2 : Nat), .int .i64 0, .int .i64 0, .int .i64 0, .int .i64 0, .int .i64 0, .string ⟨#[]⟩, .string ⟨#[]⟩])
  have B3 := Lib.hid (B2.out.alloc (by omega) (.cells #[.int .i64 a0, .int .i64 a1, .int .u32 (a2 : Nat), .int .i64 0, .int .i64 0, .int .i64 0, .int .i64 0, .int .i64 0, .string ⟨#[]⟩, .string ⟨#[]⟩] 27))
  have hz5 : w2.heap.size < (w2.alloc (.cells #[.int .i64 a0, .int .i64 a1, .int .u32 (a2 : Nat), .int .i64 0, .int .i64 0, .int .i64 0, .int .i64 0, .int .i64 0, .string ⟨#[]⟩, .string ⟨#[]⟩] 27)).heap.size := by simp
  generalize w2.alloc (.cells #[.int .i64 a0, .int .i64 a1, .int .u32 (a2 : Nat), .int .i64 0, .int .i64 0, .int .i64 0, .int .i64 0, .int .i64 0, .string ⟨#[]⟩, .string ⟨#[]⟩] 27) = w3 at *
  have KP : Hid (∀ w6, Below w3.heap.size w3 w6 → w6.cell? ⟨w.heap.size, 0, none⟩ = some (.int .i64 a0) ∧ w6.cell? ⟨w.heap.size, 1, none⟩ = some (.int .i64 a1) ∧ w6.cell? ⟨w.heap.size, 2, none⟩ = some (.int .u32 (a2 : Nat)) ∧ w6.cell? ⟨w.heap.size, 3, none⟩ = some (.int .i64 a3) ∧ w6.cell? ⟨w.heap.size, 4, none⟩ = some (.int .i64 a4) ∧ w6.cell? ⟨w.heap.size, 5, none⟩ = some (.int .i64 a5) ∧ w6.cell? ⟨w.heap.size, 6, none⟩ = some (.int .i64 a6) ∧ w6.cell? ⟨w.heap.size, 7, none⟩ = some (.int .i64 a7) ∧ w6.cell? ⟨w.heap.size, 8, none⟩ = some (.string a8) ∧ w6.cell? ⟨w.heap.size, 9, none⟩ = some (.string a9) ∧ w6.cell? ⟨w1.heap.size, 1, none⟩ = some (.func (.func (fOut g)) #[] #[]) ∧ w6.cell? ⟨w2.heap.size, 0, none⟩ = some (.int .i64 a0) ∧ w6.cell? ⟨w2.heap.size, 1, none⟩ = some (.int .i64 a1) ∧ w6.cell? ⟨w2.heap.size, 2, none⟩ = some (.int .u32 (a2 : Nat)) ∧ w6.cell? ⟨w2.heap.size, 3, none⟩ = some (.int .i64 0) ∧ w6.cell? ⟨w2.heap.size, 4, none⟩ = some (.int .i64 0) ∧ w6.cell? ⟨w2.heap.size, 5, none⟩ = some (.int .i64 0) ∧ w6.cell? ⟨w2.heap.size, 6, none⟩ = some (.int .i64 0) ∧ w6.cell? ⟨w2.heap.size, 7, none⟩ = some (.int .i64 0) ∧ w6.cell? ⟨w2.heap.size, 8, none⟩ = some (.string ⟨#[]⟩) ∧ w6.cell? ⟨w2.heap.size, 9, none⟩ = some (.string ⟨#[]⟩)) := Lib.hid fun w6 h => by
    have d := D3.out.below h D3.out.lt
    have l := L3.out.below h L3.out.lt
    have c := C3.out.below h C3.out.lt
    exact ⟨d.cell 0 rfl, d.cell 1 rfl, d.cell 2 rfl, d.cell 3 rfl, d.cell 4 rfl, d.cell 5 rfl, d.cell 6 rfl, d.cell 7 rfl, d.cell 8 rfl, d.cell 9 rfl, l.cell 1 rfl, c.cell 0 rfl, c.cell 1 rfl, c.cell 2 rfl, c.cell 3 rfl, c.cell 4 rfl, c.cell 5 rfl, c.cell 6 rfl, c.cell 7 rfl, c.cell 8 rfl, c.cell 9 rfl⟩
  have BA : Hid (∀ w6, Below w3.drew.heap.size w3.drew w6 → Below w3.heap.size w3 w6) := Lib.hid fun w6 h => (Below.refl w3.heap.size w3).drew.trans h
  obtain ⟨k0, k1, k2, k3, k4, k5, k6, k7, k8, k9, l1, c0, c1, c2, c3, c4, c5, c6, c7, c8, c9⟩ := KP.out w3.drew (BA.out _ (Below.refl _ _))
  go_region_held3 (fun w' => w'.cell? ⟨w.heap.size, 0, none⟩ = some (.int .i64 a0) ∧ w'.cell? ⟨w.heap.size, 1, none⟩ = some (.int .i64 a1) ∧ w'.cell? ⟨w.heap.size, 2, none⟩ = some (.int .u32 (a2 : Nat)) ∧ w'.cell? ⟨w.heap.size, 3, none⟩ = some (.int .i64 a3) ∧ w'.cell? ⟨w.heap.size, 4, none⟩ = some (.int .i64 a4) ∧ w'.cell? ⟨w.heap.size, 5, none⟩ = some (.int .i64 a5) ∧ w'.cell? ⟨w.heap.size, 6, none⟩ = some (.int .i64 a6) ∧ w'.cell? ⟨w.heap.size, 7, none⟩ = some (.int .i64 a7) ∧ w'.cell? ⟨w.heap.size, 8, none⟩ = some (.string a8) ∧ w'.cell? ⟨w.heap.size, 9, none⟩ = some (.string a9) ∧ w'.cell? ⟨w1.heap.size, 1, none⟩ = some (.func (.func (fOut g)) #[] #[]) ∧ w'.cell? ⟨w2.heap.size, 0, none⟩ = some (.int .i64 a0) ∧ w'.cell? ⟨w2.heap.size, 1, none⟩ = some (.int .i64 a1) ∧ w'.cell? ⟨w2.heap.size, 2, none⟩ = some (.int .u32 (a2 : Nat)) ∧ w'.cell? ⟨w2.heap.size, 3, none⟩ = some (.int .i64 0) ∧ w'.cell? ⟨w2.heap.size, 4, none⟩ = some (.int .i64 0) ∧ w'.cell? ⟨w2.heap.size, 5, none⟩ = some (.int .i64 0) ∧ w'.cell? ⟨w2.heap.size, 6, none⟩ = some (.int .i64 0) ∧ w'.cell? ⟨w2.heap.size, 7, none⟩ = some (.int .i64 0) ∧ w'.cell? ⟨w2.heap.size, 8, none⟩ = some (.string ⟨#[]⟩) ∧ w'.cell? ⟨w2.heap.size, 9, none⟩ = some (.string ⟨#[]⟩))
    (first | go_keep | exact KP.out _ (Below.refl _ _) | exact KP.out _ (BA.out _ (Below.refl _ _)) | exact KP.out _ (BA.out _ G4.out))
    ((with_reducible refine (HO.out _).mono ?_; rintro e w4 ⟨rfl, g4⟩; have G4 := Lib.hid g4; clear g4))
  have W4 := Lib.hid (BA.out _ G4.out)
  have A4 := Lib.hid (A3.out.below W4.out A3.out.lt)
  have B4 := Lib.hid (B3.out.trans (W4.out.mono B3.out.size))
  have r0 := A4.out.cell 0 rfl
  have r1 := A4.out.cell 1 rfl
  have r2 := A4.out.cell 2 rfl
  have r3 := A4.out.cell 3 rfl
  have r4 := A4.out.cell 4 rfl
  have f0 := A4.out.free 0
  have f1 := A4.out.free 1
  have f2 := A4.out.free 2
  have f3 := A4.out.free 3
  have f4 := A4.out.free 4
  go_wp2_with fail
  refine bodyPost_ret (v := .tuple #[layNone, .int .i64 5]) (res_lay rfl rfl (((((A4.out.set_ 0 _).set_ 1 _).set_ 2 _).set_ 3 _).set_ 4 _)) rfl ⟨rfl, ?_⟩
  repeat (first | with_reducible exact B4.out | with_reducible refine Below.setCell ?_ (by first | omega | (simp; done) | (simp; omega)) _ | with_reducible refine Below.alloc ?_ (by first | omega | (simp; done) | (simp; omega)) _ | with_reducible refine Below.drew ?_)
set_option maxRecDepth 100000 in
set_option maxHeartbeats 3200000 in
theorem checked_ok (g : Grp) (d : Dg) (w : World) (h : 1 ≤ d.kind ∧ d.kind ≤ 6) (hg : grpOf d.kind = g) (h2 : 0 ≤ d.stream ∧ d.stream ≤ 255) (h3 : grpE g d = 0) (h4 : (d.without g).eqB d.common = true) (hb : d.body.size ≤ maxLen) : Calls Tryz.prog 85 #[d.val] w (GivesLZ w (layV g) 0) := by
  obtain ⟨a0, a1, a2, a3, a4, a5, a6, a7, a8, a9⟩ := d
  simp only at h hg h2 hb
  have HL := Lib.hid (fun w => layout_yes a0 w h)
  rw [hg] at HL
  unfold layV at HL
  have HC := Lib.hid (fun w => gchk_any g ⟨a0, a1, a2, a3, a4, a5, a6, a7, a8, a9⟩ w hb)
  rw [h3] at HC
  have HO := Lib.hid (fun w => out_any g ⟨a0, a1, a2, a3, a4, a5, a6, a7, a8, a9⟩ w)
  have HQ := Lib.hid (fun W => neq_dg (Dg.without g ⟨a0, a1, a2, a3, a4, a5, a6, a7, a8, a9⟩) (Dg.common ⟨a0, a1, a2, a3, a4, a5, a6, a7, a8, a9⟩) W)
  rw [h4] at HQ
  generalize Dg.without g ⟨a0, a1, a2, a3, a4, a5, a6, a7, a8, a9⟩ = X at *
  obtain ⟨b0, b1, b2, b3, b4, b5, b6, b7, b8, b9⟩ := X
  have hq : ∀ W, (binOp .neq 27 (.agg #[.int .i64 b0, .int .i64 b1, .int .u32 (b2 : Nat), .int .i64 b3, .int .i64 b4, .int .i64 b5, .int .i64 b6, .int .i64 b7, .string b8, .string b9]) (.agg #[.int .i64 a0, .int .i64 a1, .int .u32 (a2 : Nat), .int .i64 0, .int .i64 0, .int .i64 0, .int .i64 0, .int .i64 0, .string ⟨#[]⟩, .string ⟨#[]⟩])).run Tryz.prog W = .ok (.bool (!true)) W := HQ.out
  unfold GivesD Dg.val at HO
  simp only at HO
  unfold Dg.val at HC
  have hcall := call_chk g
  have hcall2 := call_out g
  clear h h3 h4 hb hg HQ
  obtain ⟨s1, s2⟩ := h2
  unfold Dg.val
  simp only
  go_enter Tryz.func85, Tryz.ntmps85
  go_wp2_with fail
  refine (HL.out _).mono ?_; rintro e w1 ⟨rfl, g1⟩
  obtain ⟨hc, hf⟩ := bcell g1
  have hz : w.heap.size + 1 < w1.heap.size := by have := g1.size; simp at this; omega
  have hz0 : w.heap.size < w1.heap.size := by omega
  have G1 := Lib.hid g1
  clear g1
  have D1 : Hid (At w1 w.heap.size 27 [.int .i64 a0, .int .i64 a1, .int .u32 (a2 : Nat), .int .i64 a3, .int .i64 a4, .int .i64 a5, .int .i64 a6, .int .i64 a7, .string a8, .string a9]) := Lib.hid (((At.new w 27 [.int .i64 a0, .int .i64 a1, .int .u32 (a2 : Nat), .int .i64 a3, .int .i64 a4, .int .i64 a5, .int .i64 a6, .int .i64 a7, .string a8, .string a9]).alloc _).below G1.out (by simp; omega))
  have A1 : Hid (At w1 (w.heap.size + 1) 162 [.nilFunc, .nilFunc, .nilFunc, .nilFunc, .int .i64 0]) := Lib.hid (At.below (by have := At.new (w.alloc (.cells #[.int .i64 a0, .int .i64 a1, .int .u32 (a2 : Nat), .int .i64 a3, .int .i64 a4, .int .i64 a5, .int .i64 a6, .int .i64 a7, .string a8, .string a9] 27)) 162 [.nilFunc, .nilFunc, .nilFunc, .nilFunc, .int .i64 0]; simpa using this) G1.out (by simp))
  have B1 : Hid (Below w.heap.size w w1) := Lib.hid ((((Below.refl _ _).alloc (Nat.le_refl _) _).alloc (by simp) _).trans (G1.out.mono (by simp; omega)))
  have L1 := Lib.hid (At.new w1 162 [.func (.func (fChk g)) #[] #[], .func (.func (fOut g)) #[] #[], .func (.func (fPut g)) #[] #[], .func (.func (fRead g)) #[] #[], .int .i64 (grpSz g : Nat)])
  go_wp2_with fail
  refine (within_yes _ _ _ _ s1 s2).mono ?_; rintro e w2 ⟨rfl, rfl⟩
  go_wp2_with fail
  refine (HC.out _).mono ?_; rintro e w2 ⟨rfl, g2⟩
  obtain ⟨hc2, hf2⟩ := bcell g2
  have hz2 : w1.heap.size < w2.heap.size := by have := g2.size; simp at this; omega
  have hz3 : w.heap.size + 1 < w2.heap.size := by omega
  have hz4 : w.heap.size < w2.heap.size := by omega
  have D2 := Lib.hid ((D1.out.alloc _).below g2 (by simp; omega))
  have A2 := Lib.hid ((A1.out.alloc _).below g2 (by simp; omega))
  have L2 := Lib.hid (L1.out.below g2 (by simp))
  have B2 : Hid (Below w.heap.size w w2) := Lib.hid ((B1.out.alloc (by omega) _).trans (g2.mono (by simp; omega)))
  clear g2
  go_wp2_with fail
  clear hc hf hc2 hf2
  have D3 := Lib.hid (D2.out.alloc (.cells #[.int .i64 a0, .int .i64 a1, .int .u32 (a2 : Nat), .int .i64 0, .int .i64 0, .int .i64 0, .int .i64 0, .int .i64 0, .string ⟨#[]⟩, .string ⟨#[]⟩] 27))
  have A3 := Lib.hid (A2.out.alloc (.cells #[.int .i64 a0, .int .i64 a1, .int .u32 (a2 : Nat), .int .i64 0, .int .i64 0, .int .i64 0, .int .i64 0, .int .i64 0, .string ⟨#[]⟩, .string ⟨#[]⟩] 27))
  have L3 := Lib.hid (L2.out.alloc (.cells #[.int .i64 a0, .int .i64 a1, .int .u32 (a2 : Nat), .int .i64 0, .int .i64 0, .int .i64 0, .int .i64 0, .int .i64 0, .string ⟨#[]⟩, .string ⟨#[]⟩] 27))
  have C3 : Hid (At (w2.alloc (.cells #[.int .i64 a0, .int .i64 a1, .int .u32 (a2 : Nat), .int .i64 0, .int .i64 0, .int .i64 0, .int .i64 0, .int .i64 0, .string ⟨#[]⟩, .string ⟨#[]⟩] 27)) w2.heap.size 27 [.int .i64 a0, .int .i64 a1, .int .u32 (a2 : Nat), .int .i64 0, .int .i64 0, .int .i64 0, .int .i64 0, .int .i64 0, .string ⟨#[]⟩, .string ⟨#[]⟩]) := Lib.hid (At.new w2 27 [.int .i64 a0, .int .i64 a1, .int .u32 (a2 : Nat), .int .i64 0, .int .i64 0, .int .i64 0, .int .i64 0, .int .i64 0, .string ⟨#[]⟩, .string ⟨#[]⟩])
  have B3 := Lib.hid (B2.out.alloc (by omega) (.cells #[.int .i64 a0, .int .i64 a1, .int .u32 (a2 : Nat), .int .i64 0, .int .i64 0, .int .i64 0, .int .i64 0, .int .i64 0, .string ⟨#[]⟩, .string ⟨#[]⟩] 27))
  have hz5 : w2.heap.size < (w2.alloc (.cells #[.int .i64 a0, .int .i64 a1, .int .u32 (a2 : Nat), .int .i64 0, .int .i64 0, .int .i64 0, .int .i64 0, .int .i64 0, .string ⟨#[]⟩, .string ⟨#[]⟩] 27)).heap.size := by simp
  generalize w2.alloc (.cells #[.int .i64 a0, .int .i64 a1, .int .u32 (a2 : Nat), .int .i64 0, .int .i64 0, .int .i64 0, .int .i64 0, .int .i64 0, .string ⟨#[]⟩, .string ⟨#[]⟩] 27) = w3 at *
  have KP : Hid (∀ w6, Below w3.heap.size w3 w6 → w6.cell? ⟨w.heap.size, 0, none⟩ = some (.int .i64 a0) ∧ w6.cell? ⟨w.heap.size, 1, none⟩ = some (.int .i64 a1) ∧ w6.cell? ⟨w.heap.size, 2, none⟩ = some (.int .u32 (a2 : Nat)) ∧ w6.cell? ⟨w.heap.size, 3, none⟩ = some (.int .i64 a3) ∧ w6.cell? ⟨w.heap.size, 4, none⟩ = some (.int .i64 a4) ∧ w6.cell? ⟨w.heap.size, 5, none⟩ = some (.int .i64 a5) ∧ w6.cell? ⟨w.heap.size, 6, none⟩ = some (.int .i64 a6) ∧ w6.cell? ⟨w.heap.size, 7, none⟩ = some (.int .i64 a7) ∧ w6.cell? ⟨w.heap.size, 8, none⟩ = some (.string a8) ∧ w6.cell? ⟨w.heap.size, 9, none⟩ = some (.string a9) ∧ w6.cell? ⟨w1.heap.size, 1, none⟩ = some (.func (.func (fOut g)) #[] #[]) ∧ w6.cell? ⟨w2.heap.size, 0, none⟩ = some (.int .i64 a0) ∧ w6.cell? ⟨w2.heap.size, 1, none⟩ = some (.int .i64 a1) ∧ w6.cell? ⟨w2.heap.size, 2, none⟩ = some (.int .u32 (a2 : Nat)) ∧ w6.cell? ⟨w2.heap.size, 3, none⟩ = some (.int .i64 0) ∧ w6.cell? ⟨w2.heap.size, 4, none⟩ = some (.int .i64 0) ∧ w6.cell? ⟨w2.heap.size, 5, none⟩ = some (.int .i64 0) ∧ w6.cell? ⟨w2.heap.size, 6, none⟩ = some (.int .i64 0) ∧ w6.cell? ⟨w2.heap.size, 7, none⟩ = some (.int .i64 0) ∧ w6.cell? ⟨w2.heap.size, 8, none⟩ = some (.string ⟨#[]⟩) ∧ w6.cell? ⟨w2.heap.size, 9, none⟩ = some (.string ⟨#[]⟩)) := Lib.hid fun w6 h => by
    have d := D3.out.below h D3.out.lt
    have l := L3.out.below h L3.out.lt
    have c := C3.out.below h C3.out.lt
    exact ⟨d.cell 0 rfl, d.cell 1 rfl, d.cell 2 rfl, d.cell 3 rfl, d.cell 4 rfl, d.cell 5 rfl, d.cell 6 rfl, d.cell 7 rfl, d.cell 8 rfl, d.cell 9 rfl, l.cell 1 rfl, c.cell 0 rfl, c.cell 1 rfl, c.cell 2 rfl, c.cell 3 rfl, c.cell 4 rfl, c.cell 5 rfl, c.cell 6 rfl, c.cell 7 rfl, c.cell 8 rfl, c.cell 9 rfl⟩
  have BA : Hid (∀ w6, Below w3.drew.heap.size w3.drew w6 → Below w3.heap.size w3 w6) := Lib.hid fun w6 h => (Below.refl w3.heap.size w3).drew.trans h
  obtain ⟨k0, k1, k2, k3, k4, k5, k6, k7, k8, k9, l1, c0, c1, c2, c3, c4, c5, c6, c7, c8, c9⟩ := KP.out w3.drew (BA.out _ (Below.refl _ _))
  go_region_held3 (fun w' => w'.cell? ⟨w.heap.size, 0, none⟩ = some (.int .i64 a0) ∧ w'.cell? ⟨w.heap.size, 1, none⟩ = some (.int .i64 a1) ∧ w'.cell? ⟨w.heap.size, 2, none⟩ = some (.int .u32 (a2 : Nat)) ∧ w'.cell? ⟨w.heap.size, 3, none⟩ = some (.int .i64 a3) ∧ w'.cell? ⟨w.heap.size, 4, none⟩ = some (.int .i64 a4) ∧ w'.cell? ⟨w.heap.size, 5, none⟩ = some (.int .i64 a5) ∧ w'.cell? ⟨w.heap.size, 6, none⟩ = some (.int .i64 a6) ∧ w'.cell? ⟨w.heap.size, 7, none⟩ = some (.int .i64 a7) ∧ w'.cell? ⟨w.heap.size, 8, none⟩ = some (.string a8) ∧ w'.cell? ⟨w.heap.size, 9, none⟩ = some (.string a9) ∧ w'.cell? ⟨w1.heap.size, 1, none⟩ = some (.func (.func (fOut g)) #[] #[]) ∧ w'.cell? ⟨w2.heap.size, 0, none⟩ = some (.int .i64 a0) ∧ w'.cell? ⟨w2.heap.size, 1, none⟩ = some (.int .i64 a1) ∧ w'.cell? ⟨w2.heap.size, 2, none⟩ = some (.int .u32 (a2 : Nat)) ∧ w'.cell? ⟨w2.heap.size, 3, none⟩ = some (.int .i64 0) ∧ w'.cell? ⟨w2.heap.size, 4, none⟩ = some (.int .i64 0) ∧ w'.cell? ⟨w2.heap.size, 5, none⟩ = some (.int .i64 0) ∧ w'.cell? ⟨w2.heap.size, 6, none⟩ = some (.int .i64 0) ∧ w'.cell? ⟨w2.heap.size, 7, none⟩ = some (.int .i64 0) ∧ w'.cell? ⟨w2.heap.size, 8, none⟩ = some (.string ⟨#[]⟩) ∧ w'.cell? ⟨w2.heap.size, 9, none⟩ = some (.string ⟨#[]⟩))
    (first | go_keep | exact KP.out _ (Below.refl _ _) | exact KP.out _ (BA.out _ (Below.refl _ _)) | exact KP.out _ (BA.out _ G4.out))
    ((with_reducible refine (HO.out _).mono ?_; rintro e w4 ⟨rfl, g4⟩; have G4 := Lib.hid g4; clear g4))
  have W4 := Lib.hid (BA.out _ G4.out)
  have A4 := Lib.hid (A3.out.below W4.out A3.out.lt)
  have B4 := Lib.hid (B3.out.trans (W4.out.mono B3.out.size))
  have r0 := A4.out.cell 0 rfl
  have r1 := A4.out.cell 1 rfl
  have r2 := A4.out.cell 2 rfl
  have r3 := A4.out.cell 3 rfl
  have r4 := A4.out.cell 4 rfl
  have f0 := A4.out.free 0
  have f1 := A4.out.free 1
  have f2 := A4.out.free 2
  have f3 := A4.out.free 3
  have f4 := A4.out.free 4
  have L4 := Lib.hid (L3.out.below W4.out L3.out.lt)
  have m0 := L4.out.cell 0 rfl
  have m1 := L4.out.cell 1 rfl
  have m2 := L4.out.cell 2 rfl
  have m3 := L4.out.cell 3 rfl
  have m4 := L4.out.cell 4 rfl
  go_wp2_with fail
  refine bodyPost_ret (v := .tuple #[layV g, .int .i64 0]) (res_lay rfl rfl (((((A4.out.set_ 0 _).set_ 1 _).set_ 2 _).set_ 3 _).set_ 4 _)) rfl ⟨rfl, ?_⟩
  repeat (first | with_reducible exact B4.out | with_reducible refine Below.setCell ?_ (by first | omega | (simp; done) | (simp; omega)) _ | with_reducible refine Below.alloc ?_ (by first | omega | (simp; done) | (simp; omega)) _ | with_reducible refine Below.drew ?_)
theorem checked_any (d : Dg) (w : World) (hb : d.body.size ≤ maxLen) : Calls Tryz.prog 85 #[d.val] w (GivesLZ w (layT d) (dchk d)) := by
  unfold layT
  by_cases h1 : 1 ≤ d.kind ∧ d.kind ≤ 6
  · by_cases h2 : 0 ≤ d.stream ∧ d.stream ≤ 255
    · by_cases h3 : grpE (grpOf d.kind) d = 0
      · cases h4 : (d.without (grpOf d.kind)).eqB d.common with
        | true =>
          rw [dchk_ok h1 h2 h3 h4, if_pos rfl]
          exact checked_ok _ d w h1 rfl h2 h3 h4 hb
        | false =>
          rw [chk_form h1 h2 h3 h4, if_neg (by decide)]
          exact checked_form _ d w h1 rfl h2 h3 h4 hb
      · rw [chk_grp h1 h2 h3, if_neg h3]
        exact checked_grp _ d w h1 rfl h2 h3 hb
    · rw [chk_stream h1 h2, if_neg (by decide)]
      exact checked_stream _ d w h1 rfl h2
  · rw [chk_kind h1, if_neg (by decide)]
    exact checked_no d w h1
end Go.Proofs.YtodokgkchmpmnaaGreat

/- Proved: what Check and Size of package datagram answer. Conditions: those that the theorems name. -/
namespace Go.Proofs.YtodokgkchmpmnaaGreat
open Go.ChangeShapes Go.WideShapes Go.ChangeAt Go.RowKit

theorem sizeT_ok {d : Dg} (h : dchk d = 0) : sizeT d = 12 + (grpSz (grpOf d.kind) : Nat) + (d.body.size : Nat) := by
  obtain ⟨_, _, h3, h4⟩ := dchk_zero h
  unfold sizeT
  rw [if_pos h, fullS_size, headS_size, ownS_size h3 h4]
  omega
theorem sizeT_no {d : Dg} (h : dchk d ≠ 0) : sizeT d = 0 := if_neg h
theorem body_le {d : Dg} (h : dchk d = 0) : d.body.size ≤ 1024 := by
  obtain ⟨_, _, h3, h4⟩ := dchk_zero h
  generalize grpOf d.kind = g at *
  cases g with
  | shard => exact (shardE_zero (show shardE d = 0 from h3)).2.2.2
  | _ => rw [sub_body h4 (by simp)]; decide
theorem grpSz_le (g : Grp) : grpSz g ≤ 32 := by cases g <;> decide
set_option maxHeartbeats 1600000 in
theorem dsize_any (d : Dg) (w : World) (hb : d.body.size ≤ maxLen) : Calls Tryz.prog 73 #[d.val] w (GivesZ w (sizeT d)) := by
  have HC := Lib.hid (fun w => checked_any d w hb)
  unfold layT at HC
  by_cases h : dchk d = 0
  · have hb := body_le h
    have HS := Lib.hid (sizeT_ok h)
    generalize sizeT d = sz at *
    rw [if_pos h, h] at HC
    have hg := grpSz_le (grpOf d.kind)
    unfold layV at HC
    generalize grpOf d.kind = g at *
    clear h
    obtain ⟨a0, a1, a2, a3, a4, a5, a6, a7, a8, a9⟩ := d
    unfold Dg.val at HC ⊢
    simp only at HC hb HS ⊢
    have hg2 : (grpSz g : Int) ≤ 32 := by omega
    have hg3 : (0 : Int) ≤ (grpSz g : Int) := by omega
    have hb2 : (a9.size : Int) ≤ 1024 := by omega
    clear hg hb
    generalize grpSz g = gs at *
    go_enter Tryz.func73, Tryz.ntmps73
    go_wp2_with fail
    refine (HC.out _).mono ?_; rintro e w1 ⟨rfl, g1⟩
    have D1 := (At.new w 27 [.int .i64 a0, .int .i64 a1, .int .u32 (a2 : Nat), .int .i64 a3, .int .i64 a4, .int .i64 a5, .int .i64 a6, .int .i64 a7, .string a8, .string a9]).below g1 (by simp)
    have hc := D1.cell 9 rfl
    have hlt := D1.lt
    have B1 : Hid (Below w.heap.size w w1) := Lib.hid (((Below.refl _ _).alloc (Nat.le_refl _) _).trans (g1.mono (by simp)))
    clear g1 D1
    go_wp2_with fail
    go_ret
    exact ⟨ret_int (by rw [HS.out]), B1.out.alloc B1.out.size _⟩
  · have h1 : (dchk d != 0) = true := by simpa using h
    rw [if_neg h] at HC
    rw [sizeT_no h]
    unfold layNone at HC
    generalize dchk d = z at *
    obtain ⟨a0, a1, a2, a3, a4, a5, a6, a7, a8, a9⟩ := d
    unfold Dg.val at HC ⊢
    simp only at HC ⊢
    clear hb h
    go_enter Tryz.func73, Tryz.ntmps73
    go_wp2_with fail
    refine (HC.out _).mono ?_; rintro e w1 ⟨rfl, g1⟩
    have B1 : Hid (Below w.heap.size w w1) := Lib.hid (((Below.refl _ _).alloc (Nat.le_refl _) _).trans (g1.mono (by simp)))
    clear g1
    go_wp2_with fail
    go_ret
    exact ⟨rfl, B1.out.alloc B1.out.size _⟩
end Go.Proofs.YtodokgkchmpmnaaGreat

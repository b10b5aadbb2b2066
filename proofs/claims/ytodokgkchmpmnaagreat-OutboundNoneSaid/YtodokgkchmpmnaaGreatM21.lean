/- Proved: lemmas of one statement's proof, merged by program: what each part proves stands ahead of it. Conditions: those that the lemmas name. -/
import Derived.Test.YtodokgkchmpmnaaGreatM20
import Derived.Deep.DeepCutAuto
import Derived.IntWalk
import Derived.Test.YtodokgkchmpmnaaGreatM17

/- Proved: what Shards of package decode tells of every text and every two numbers. Conditions: those that the theorems name. -/
namespace Go.Proofs.YtodokgkchmpmnaaGreat
open Go.ChangeShapes Go.WideShapes Go.ChangeAt Go.RowKit

/-- the error of a text of n bytes. -/
def shE (n : Nat) (k r : Int) : Int := if k < 1 ∨ 32 < k ∨ r < 0 ∨ 255 - k < r then 1 else if n < 1 ∨ k * 1024 < n then 3 else 0
/-- how many of its shards are data. -/
def shM (n : Nat) (k r : Int) : Nat := if shE n k r = 0 then min k.toNat n else 0
/-- its shards. -/
def shO (s : ByteArray) (k r : Int) : List ByteArray :=
  if shE s.size k r = 0 then eOut (mkS (shM s.size k r) (piece (szN s.size (shM s.size k r)) s)) ((shM s.size k r + r.toNat : Nat) : Int) else []
theorem shE_arg {n : Nat} {k r : Int} (h : k < 1 ∨ 32 < k ∨ r < 0 ∨ 255 - k < r) : shE n k r = 1 := if_pos h
theorem shE_long {n : Nat} {k r : Int} (h : ¬ (k < 1 ∨ 32 < k ∨ r < 0 ∨ 255 - k < r)) (g : n < 1 ∨ k * 1024 < n) : shE n k r = 3 := by unfold shE; rw [if_neg h, if_pos g]
theorem shE_ok {n : Nat} {k r : Int} (h : ¬ (k < 1 ∨ 32 < k ∨ r < 0 ∨ 255 - k < r)) (g : ¬ (n < 1 ∨ k * 1024 < n)) : shE n k r = 0 := by unfold shE; rw [if_neg h, if_neg g]
theorem shM_ok {n k r : Nat} (h : shE n k r = 0) : shM n k r = min k n := by unfold shM; rw [if_pos h]; rfl
theorem shM_err {n : Nat} {k r : Int} (h : shE n k r ≠ 0) : shM n k r = 0 := if_neg h
theorem shO_err {s : ByteArray} {k r : Int} (h : shE s.size k r ≠ 0) : shO s k r = [] := if_neg h
theorem shO_ok {s : ByteArray} {k r m : Nat} (h : shE s.size k r = 0) (hm : m = min k s.size) : shO s k r = eOut (mkS m (piece (szN s.size m) s)) ((m + r : Nat) : Int) := by
  unfold shO; rw [if_pos h, shM_ok h, ← hm]; rfl
/-- the shards of a text are data that may be. -/
theorem pieces_data {s : ByteArray} {m : Nat} (h1 : 1 ≤ m) (h2 : m ≤ 32) (h3 : 1 ≤ s.size) (h4 : s.size ≤ m * 1024) : dErr (mkS m (piece (szN s.size m) s)) = 0 := by
  have hp := szN_pos (k := m) h1 h3
  have hl := szN_le (n := s.size) (k := m) (m := 1024) h1 h4
  have h0 : (st_ (mkS m (piece (szN s.size m) s)) 0).size = szN s.size m := by rw [mkS_at _ _ _ (by omega), piece_size]
  refine dErr_ok (by rw [mkS_len]; exact ⟨h1, h2⟩) (by unfold Fits; rw [h0]; exact ⟨hp, hl⟩) fun i hi => ?_
  rw [mkS_len] at hi
  rw [h0, mkS_at _ _ _ hi, piece_size]
/-- Texts, a number and an error come back; nothing that was there has turned. -/
def GivesSh (W : World) (l : List ByteArray) (m : Nat) (z : Int) (e : Ending) (w' : World) : Prop :=
  ∃ A n c, e = .returned (.tuple #[.slice A n c, .int .i64 (m : Nat), .int .i64 z]) ∧ Ss w' A n l ∧ Below W.heap.size W w'

set_option maxRecDepth 100000 in
set_option maxHeartbeats 1600000 in
theorem dshards_err (s : ByteArray) (k r : Int) (w : World) (hs : s.size ≤ maxLen) (h : shE s.size k r ≠ 0) :
    Calls Tryz.prog 47 #[.string s, .int .i64 k, .int .i64 r] w (GivesSh w (shO s k r) (shM s.size k r) (shE s.size k r)) := by
  rw [shO_err h, shM_err h]
  unfold maxLen at hs
  by_cases g : k < 1 ∨ 32 < k ∨ r < 0 ∨ 255 - k < r
  · rw [shE_arg g]
    have key : k < 1 ∨ ¬ k < 1 ∧ k > 32 ∨ ¬ k < 1 ∧ ¬ k > 32 ∧ r < 0 ∨ ¬ k < 1 ∧ ¬ k > 32 ∧ ¬ r < 0 ∧ r > 255 - k ∧ wrap64 (255 - k) = 255 - k := by
      have : k < 1 ∨ 32 < k ∨ wrap64 (255 - k) = 255 - k := by
        by_cases hk : k < 1 ∨ 32 < k
        · rcases hk with hk | hk
          · exact .inl hk
          · exact .inr (.inl hk)
        · exact .inr (.inr (IntWalk.wrap64_in _ (by omega)))
      omega
    clear h g
    rcases key with h1 | ⟨h1, h2⟩ | ⟨h1, h2, h3⟩ | ⟨h1, h2, h3, h4, h5⟩
    all_goals
      go_enter Tryz.func47, Tryz.ntmps47
      go_wp2_with fail
      go_ret3
      exact ⟨_, _, _, rfl, Ss.nil _ _, Below.refl _ _⟩
  · have gl : s.size < 1 ∨ k * 1024 < s.size := by
      by_cases gl : s.size < 1 ∨ k * 1024 < s.size
      · exact gl
      · exact absurd (shE_ok g gl) h
    rw [shE_long g gl]
    have h1 : ¬ k < 1 := by omega
    have h2 : ¬ k > 32 := by omega
    have h3 : ¬ r < 0 := by omega
    have h4 : ¬ r > 255 - k := by omega
    have h5 : wrap64 (255 - k) = 255 - k := IntWalk.wrap64_in _ (by omega)
    have h6 : wrap64 (k * 1024) = k * 1024 := IntWalk.wrap64_in _ (by omega)
    have key : (s.size : Int) < 1 ∨ ¬ (s.size : Int) < 1 ∧ (s.size : Int) > k * 1024 := by omega
    clear h g gl
    rcases key with g1 | ⟨g1, g2⟩
    all_goals
      go_enter Tryz.func47, Tryz.ntmps47
      go_wp2_with fail
      go_ret3
      exact ⟨_, _, _, rfl, Ss.nil _ _, Below.refl _ _⟩

/-- the same: they lie in a row of the call's own. -/
def GivesShO (W : World) (n : Nat) (l : List ByteArray) (m : Nat) (e : Ending) (w' : World) : Prop :=
  ∃ g, e = .returned (.tuple #[.slice (some ⟨g, 0, none⟩) n n, .int .i64 (m : Nat), .int .i64 0]) ∧ W.heap.size ≤ g ∧ OwnS w' g n l ∧ Below W.heap.size W w'
set_option maxRecDepth 100000 in
set_option maxHeartbeats 1600000 in
theorem dshards_own (s : ByteArray) (k r : Nat) (w : World) (h1 : 1 ≤ k) (h2 : k ≤ 32) (h3 : r ≤ 255 - k) (h4 : 1 ≤ s.size) (h5 : s.size ≤ k * 1024) :
    Calls Tryz.prog 47 #[.string s, .int .i64 k, .int .i64 r] w (GivesShO w (min k s.size + r) (shO s k r) (shM s.size k r)) := by
  have hz : shE s.size k r = 0 := shE_ok (by omega) (by omega)
  obtain ⟨m, hm⟩ : ∃ m, m = min k s.size := ⟨_, rfl⟩
  have hM : shM s.size k r = m := (shM_ok hz).trans hm.symm
  rw [shO_ok hz hm, hM, ← hm]
  have hm1 : 1 ≤ m := by omega
  have hm2 : m ≤ 32 := by omega
  have hm4 : s.size ≤ m * 1024 := by omega
  have HD := Lib.hid (pieces_data (s := s) hm1 hm2 h4 hm4)
  have HC := Lib.hid (fun W => cut_any s m W (by unfold maxLen; omega))
  rw [show cOut s (m : Nat) = _ from cOut_ok hm1 hm2 h4 hm4, show cErrZ s.size (m : Nat) = 0 from cErrZ_ok (by omega) (by omega) h4 (by omega)] at HC
  have HL := Lib.hid (mkS_len m (piece (szN s.size m) s))
  generalize mkS m (piece (szN s.size m) s) = o at *
  have he : eErr o ((m + r : Nat) : Int) = 0 := by
    unfold eErr
    rw [if_pos HD.out, HL.out]
    exact if_neg (by unfold NoTab; omega)
  have HE : Hid (∀ A n c W, Ss W A n o → Calls Tryz.prog 72 #[.slice A n c, .int .i64 ((m + r : Nat) : Int)] W (GivesSEO W (m + r) (eOut o ((m + r : Nat) : Int)))) := Lib.hid fun A n c W h => by
    have e := encode_own A n c (m + r) o W h HD.out (by rw [← h.len, HL.out]; unfold NoTab; omega)
    rw [← h.len] at e
    unfold eOut
    rw [if_pos he, Int.toNat_natCast]
    rw [h.len] at e
    rw [h.len]
    exact e
  generalize eOut o ((m + r : Nat) : Int) = q at *
  have k1 : ¬ (k : Int) < 1 := by omega
  have k2 : ¬ (k : Int) > 32 := by omega
  have k3 : ¬ (r : Int) < 0 := by omega
  have k4 : ¬ (r : Int) > 255 - (k : Int) := by omega
  have k5 : wrap64 (255 - (k : Int)) = 255 - (k : Int) := IntWalk.wrap64_in _ (by omega)
  have k6 : wrap64 ((k : Int) * 1024) = (k : Int) * 1024 := IntWalk.wrap64_in _ (by omega)
  have k7 : ¬ (s.size : Int) < 1 := by omega
  have k8 : ¬ (s.size : Int) > (k : Int) * 1024 := by omega
  have k9 : wrap64 ((m : Int) + (r : Int)) = ((m + r : Nat) : Int) := by rw [IntWalk.wrap64_in _ (by omega)]; rfl
  have HMn := Lib.hid hm
  clear hz hM he hm
  go_enter Tryz.func47, Tryz.ntmps47
  go_upto_region 5 with fail
  go_cut [9] (fun v wx => v = .int .i64 (m : Nat) ∧ w = wx)
  case first =>
    by_cases hx : (s.size : Int) < (k : Int)
    · obtain rfl : m = s.size := by have := HMn.out; omega
      go_wp2_with fail
      go_meet
      first
        | exact ⟨rfl, rfl⟩
        | exact ⟨congrArg (Value.int IntKind.i64) (by omega), rfl⟩
    · obtain rfl : m = k := by have := HMn.out; omega
      go_wp2_with fail
      go_meet
      first
        | exact ⟨rfl, rfl⟩
        | exact ⟨congrArg (Value.int IntKind.i64) (by omega), rfl⟩
  case rest =>
    obtain ⟨rfl, rfl⟩ := hcut
    go_wp2_with fail
    refine (HC.out _).mono ?_; rintro e w1 ⟨A1, n1, c1, rfl, hs1, g1⟩
    have HB1 := Lib.hid g1; have HS1 := Lib.hid hs1
    clear hs1 g1
    go_wp2_with fail
    refine (HE.out _ _ _ _ HS1.out).mono ?_; rintro e w2 ⟨z2, rfl, hc2, hs2, g2⟩
    have HS2 := Lib.hid hs2; have HC2 := Lib.hid (Nat.le_trans HB1.out.size hc2); have HB2 := Lib.hid (HB1.out.trans (g2.mono HB1.out.size))
    clear hs2 hc2 g2
    go_wp2_with fail
    go_ret3
    exact ⟨_, rfl, HC2.out, HS2.out, HB2.out⟩
end Go.Proofs.YtodokgkchmpmnaaGreat

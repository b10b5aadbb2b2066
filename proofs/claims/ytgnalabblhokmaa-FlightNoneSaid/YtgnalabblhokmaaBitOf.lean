/- Proved: what Set, Of and Count of package bits, and their twins of the document, answer for every string, int and slice of ints. Conditions: those that the theorems name. -/
import Derived.Test.YtgnalabblhokmaaBitSet
namespace Go.Proofs.Ytgnalabblhokmaa
open Go.ChangeShapes Go.WideShapes Go.ChangeAt Go.RowKit

/-- a text and an error come back. -/
def GivesSE (W : World) (s : ByteArray) (z : Int) (e : Ending) (w' : World) : Prop := e = .returned (.tuple #[.string s, .int .i64 z]) ∧ Below W.heap.size W w'
theorem setE_size {s : ByteArray} (h : s.size ≠ 32) (i : Int) : setE s i = 5 ∧ setS s i = S0 := by unfold setE setS; rw [if_neg h, if_neg h]; exact ⟨rfl, rfl⟩
theorem setE_out {s : ByteArray} {i : Int} (h : s.size = 32) (hi : inB i = false) : setE s i = 2 ∧ setS s i = S0 := by
  unfold setE setS
  rw [if_pos h, if_pos h, if_neg (by simp [hi]), if_neg (by simp [hi])]; exact ⟨rfl, rfl⟩
theorem setE_in {s : ByteArray} {i : Int} (h : s.size = 32) (hi : inB i = true) : setE s i = 0 ∧ setS s i = tx (withB (bts s) i) := by
  unfold setE setS
  rw [if_pos h, if_pos h, if_pos hi, if_pos hi]; exact ⟨rfl, rfl⟩
set_option maxRecDepth 100000 in
set_option maxHeartbeats 800000 in
theorem rset11_bad (s : ByteArray) (i : Int) (w : World) (h : s.size ≠ 32 ∨ s.size = 32 ∧ i < 0 ∨ s.size = 32 ∧ 0 ≤ i ∧ 256 ≤ i) :
    Calls Try.prog 28 #[.string s, .int .i64 i] w (GivesSE w (setS s i) (setE s i)) := by
  rcases h with h | ⟨h, h0⟩ | ⟨h, h0, h1⟩
  · obtain ⟨e1, e2⟩ := setE_size h i
    rw [e1, e2]
    have h1 : ((s.size : Int) != 32) = true := by simp; omega
    clear h e1 e2
    go_enter Try.func28, Try.ntmps28
    go_wp2_with fail
    go_ret2
    exact ⟨rfl, Below.refl _ _⟩
  · obtain ⟨e1, e2⟩ := setE_out (i := i) h (by unfold inB; simp; omega)
    rw [e1, e2]
    have h1 : ((s.size : Int) != 32) = false := by simp; omega
    clear h e1 e2
    go_enter Try.func28, Try.ntmps28
    go_wp2_with fail
    go_ret2
    exact ⟨rfl, Below.refl _ _⟩
  · obtain ⟨e1, e2⟩ := setE_out (i := i) h (by unfold inB; simp; omega)
    rw [e1, e2]
    have h2 : ((s.size : Int) != 32) = false := by simp; omega
    have h3 : i > 255 := by omega
    clear h e1 e2
    go_enter Try.func28, Try.ntmps28
    go_wp2_with fail
    go_ret2
    exact ⟨rfl, Below.refl _ _⟩
set_option maxRecDepth 100000 in
set_option maxHeartbeats 800000 in
theorem rset11_good (s : ByteArray) (m : Nat) (w : World) (hs : s.size = 32) (hm : m < 256) :
    Calls Try.prog 28 #[.string s, .int .i64 m] w (GivesSE w (tx (withB (bts s) m)) 0) := by
  obtain ⟨cap, w1, hcap, hcv, hown, hbel⟩ := convert_own w s
  rw [hs] at hcv hown
  have h1 : ((s.size : Int) != 32) = false := by simp; omega
  have HE := Lib.hid (withB_at (bts s) hm)
  have hj : m / 8 < 32 := by omega
  have hyl := bts_lt s (m / 8)
  have hor := u8_or_nat ((bts s).getD (m / 8) 0) (2 ^ (m % 8)) hyl (pow_byte (by omega))
  rw [← pow_mod (r := m % 8) (by omega)] at hor
  have hzl := or_bit_lt (x := (bts s).getD (m / 8) 0) (r := m % 8) hyl (by omega)
  have e1 : (m : Int) / 8 = ((m / 8 : Nat) : Int) := by omega
  have e2 : (m : Int) % 8 = ((m % 8 : Nat) : Int) := by omega
  have hm1 : (m : Int) ≤ 255 := by omega
  have hm0 : (0 : Int) ≤ (m : Int) := Int.natCast_nonneg _
  have hoc := hown.cell hj
  have hfz := hown.frozen hj
  have O2 := hown.set_ hj hzl
  have B2 := Lib.hid (hbel.setCell (p := ⟨w.heap.size, m / 8, none⟩) (Nat.le_refl _) (.int .u8 ((bts s).getD (m / 8) 0 ||| 2 ^ (m % 8) : Nat)))
  have hcb := convert_back _ (some ⟨w.heap.size, 0, none⟩) 32 cap _ O2.bs (by decide)
  rw [← HE.out] at hcb
  generalize withB (bts s) (m : Int) = bb at *
  have hgl := hown.lt
  generalize (bts s).getD (m / 8) 0 ||| 2 ^ (m % 8) = z at *
  generalize (bts s).getD (m / 8) 0 = y at *
  have hj0 : (0 : Int) ≤ ((m / 8 : Nat) : Int) := Int.natCast_nonneg _
  have hj1 : ((m / 8 : Nat) : Int) < 32 := by omega
  have hr0 : (0 : Int) ≤ ((m % 8 : Nat) : Int) := Int.natCast_nonneg _
  have hr1 : ((m % 8 : Nat) : Int) < 8 := by omega
  generalize m / 8 = j at *
  generalize m % 8 = r at *
  generalize hg : w.heap.size = g at *
  have HG := Lib.hid hg
  clear hg
  clear hs hm hj hyl hzl hown hbel HE O2 hcap
  go_enter Try.func28, Try.ntmps28
  go_wp2_with fail
  go_ret2
  exact ⟨rfl, by rw [HG.out]; exact B2.out⟩
theorem rset11_any (s : ByteArray) (i : Int) (w : World) :
    Calls Try.prog 28 #[.string s, .int .i64 i] w (GivesSE w (setS s i) (setE s i)) := by
  by_cases h : s.size = 32
  · cases hi : inB i with
    | false =>
      refine rset11_bad s i w ?_
      rcases inB_no hi with h' | h'
      · exact Or.inr (Or.inl ⟨h, h'⟩)
      · exact Or.inr (Or.inr ⟨h, by omega, h'⟩)
    | true =>
      obtain ⟨h1, h2⟩ := setE_in h hi
      rw [h1, h2]
      obtain ⟨h0, h1⟩ := inB_yes hi
      obtain ⟨m, rfl⟩ := Int.eq_ofNat_of_zero_le h0
      exact rset11_good s m w h (by omega)
  · exact rset11_bad s i w (Or.inl h)

theorem noB_bts : bts (tx noB) = noB := bts_tx noB_lt
theorem noB_size : (tx noB).size = 32 := by rw [tx_size, noB_len]
theorem withK_size (l : List Int) (k : Nat) : (tx (withK noB l k)).size = 32 := by rw [tx_size, withK_len, noB_len]
set_option maxRecDepth 100000 in
set_option maxHeartbeats 1600000 in
theorem rof_any (A : Option Addr) (n c : Nat) (l : List Int) (w : World) (hl : Is w A n l) (hn : n ≤ 140737488355328) :
    Calls Try.prog 20 #[.slice A n c] w (GivesS w (ofS l)) := by
  obtain rfl : l.length = n := hl.len
  have HL := Lib.hid hl
  clear hl
  have HE := Lib.hid (fun w => rempty_any w)
  go_enter Try.func20, Try.ntmps20
  go_wp2_with fail
  refine (HE.out _).mono ?_; rintro e w1 ⟨rfl, g1⟩
  have B1 := Lib.hid g1
  clear g1
  go_wp2_with fail
  go_loopw [3, 4] (fun v i wr => ∃ k : Nat, k ≤ l.length ∧ i = .int .i64 k ∧ v = .string (tx (withK noB l k)) ∧ Below w.heap.size w wr) (fun _ i _ => l.length - (intOf i).toNat)
  case atStart => exact ⟨0, by omega, rfl, rfl, B1.out⟩
  case round =>
    clear B1
    obtain ⟨k, hk, rfl, rfl, hb⟩ := hrel
    have HB := Lib.hid hb
    clear hb
    by_cases hlt : k < l.length
    · obtain ⟨ad, rfl, had, hac⟩ := HL.out.at_ hlt
      have hac1 : wr.cell? (ad.add k) = some (.int .i64 (l.getD k 0)) := (HB.out.cell (by rw [add_block]; exact had)).trans hac
      clear hac
      have hlt' : (k : Int) < (l.length : Int) := by omega
      have hk0 : (0 : Int) ≤ (k : Int) := Int.natCast_nonneg _
      have hs := withK_size l k
      have HX := Lib.hid (withK_succ noB l k)
      have HR := fun w => rset11_any (tx (withK noB l k)) (l.getD k 0) w
      generalize l.getD k 0 = x at *
      cases hi : inB x with
      | false =>
        obtain ⟨h1, h2⟩ := setE_out (i := x) hs hi
        rw [h1, h2] at HR
        have HR' := Lib.hid HR
        have HE : Hid (withK noB l (k + 1) = withK noB l k) := Lib.hid (by rw [HX.out, withB_out hi])
        clear HR h1 h2 hs hi
        generalize hT : tx (withK noB l k) = t at *
        have HT := Lib.hid hT
        clear hT
        go_wp2_with fail
        refine (HR'.out _).mono ?_; rintro e w2 ⟨rfl, g2⟩
        have HB2 := Lib.hid (HB.out.trans (g2.mono HB.out.size))
        clear g2
        go_wp2_with fail
        go_roundw
        case rel => exact ⟨k + 1, by omega, by go_num, by rw [HE.out, HT.out], HB2.out⟩
        case measure => simp [intOf]; omega
      | true =>
        obtain ⟨h1, h2⟩ := setE_in (i := x) hs hi
        rw [h1, h2, bts_tx (withK_lt noB_lt l k), ← HX.out] at HR
        have HR' := Lib.hid HR
        clear HR h1 h2 hs hi
        go_wp2_with fail
        refine (HR'.out _).mono ?_; rintro e w2 ⟨rfl, g2⟩
        have HB2 := Lib.hid (HB.out.trans (g2.mono HB.out.size))
        clear g2
        go_wp2_with fail
        go_roundw
        case rel => exact ⟨k + 1, by omega, by go_num, rfl, HB2.out⟩
        case measure => simp [intOf]; omega
    · obtain rfl : k = l.length := by omega
      go_wp2_with fail
      go_ret
      exact ⟨rfl, HB.out⟩
set_option maxRecDepth 100000 in
set_option maxHeartbeats 800000 in
theorem count_any (s : ByteArray) (w : World) :
    Calls Try.prog 17 #[.string s] w fun e w' => e = .returned (.int .i64 (cntN s 256 : Nat)) ∧ Below w.heap.size w w' := by
  go_enter Try.func17, Try.ntmps17
  go_wp2_with fail
  go_loopw [3, 5] (fun v i wr => ∃ k : Nat, k ≤ 256 ∧ i = .int .i64 k ∧ v = .int .i64 (cntN s k : Nat) ∧ Below w.heap.size w wr) (fun _ i _ => 256 - (intOf i).toNat)
  case atStart => exact ⟨0, by omega, rfl, rfl, Below.refl _ _⟩
  case round =>
    obtain ⟨k, hk, rfl, rfl, hb⟩ := hrel
    have HB := Lib.hid hb
    clear hb
    by_cases hlt : k < 256
    · have hlt' : (k : Int) < 256 := by omega
      have hk0 : (0 : Int) ≤ (k : Int) := Int.natCast_nonneg _
      have HX := Lib.hid (cntN_succ s k)
      have hle : (cntN s k : Int) ≤ 256 := by have := cntN_le s k; omega
      have hge : (0 : Int) ≤ (cntN s k : Int) := Int.natCast_nonneg _
      have HH := Lib.hid (fun w => has_any s k w)
      cases hv : hasB s (k : Int) with
      | false =>
        have HE : Hid (cntN s (k + 1) = cntN s k) := Lib.hid (by rw [HX.out, if_neg (by simp [hv])]; rfl)
        rw [hv] at HH
        clear hv HX
        generalize cntN s k = q at *
        go_wp2_with fail
        refine (HH.out _).mono ?_; rintro e w2 ⟨rfl, g2⟩
        have HB2 := Lib.hid (HB.out.trans ((two_drawn (B := wr.heap.size) g2).mono HB.out.size))
        clear g2
        go_wp2_with fail
        go_roundw
        case rel => exact ⟨k + 1, by omega, by go_num, by rw [HE.out], HB2.out⟩
        case measure => simp [intOf]; omega
      | true =>
        have HE : Hid (cntN s (k + 1) = cntN s k + 1) := Lib.hid (by rw [HX.out, if_pos hv])
        rw [hv] at HH
        clear hv HX
        generalize cntN s k = q at *
        go_wp2_with fail
        refine (HH.out _).mono ?_; rintro e w2 ⟨rfl, g2⟩
        have HB2 := Lib.hid (HB.out.trans ((two_drawn (B := wr.heap.size) g2).mono HB.out.size))
        clear g2
        go_wp2_with fail
        go_roundw
        case rel => exact ⟨k + 1, by omega, by go_num, by rw [HE.out]; go_num, HB2.out⟩
        case measure => simp [intOf]; omega
    · obtain rfl : k = 256 := by omega
      go_wp2_with fail
      go_ret
      exact ⟨rfl, HB.out⟩
end Go.Proofs.Ytgnalabblhokmaa

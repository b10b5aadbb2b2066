/- Proved: the walks of two laws of package wire: numbers as bytes, and a reader that is none. Conditions: those that the theorems name. -/
import Derived.Test.YtnlmeoecbjbcgaaWirRefR
namespace Go.Proofs.Ytnlmeoecbjbcgaa
open Go.ChangeShapes Go.WideShapes Go.ChangeAt Go.RowKit

/-- A new reader comes back; nothing that was there has turned. -/
def GivesNew (W : World) (s : ByteArray) (e : Ending) (w' : World) : Prop := ∃ b, e = .returned (.pointer (some ⟨b, 0, none⟩)) ∧ W.heap.size ≤ b ∧ Rd w' b s 0 ∧ Below W.heap.size W w'
theorem new_gives (s : ByteArray) (w : World) : Calls Try.prog 8 #[.string s] w (GivesNew w s) :=
  (new_any s w).mono fun _ _ ⟨h1, h2⟩ => ⟨_, h1, Nat.le_refl _, by subst h2; exact At.new w 48 [.string s, .int .i64 0], by subst h2; exact (Below.refl _ _).alloc (Nat.le_refl _) _⟩
/-- what a method of a reader leaves, seen from the head of the call. -/
theorem rd_below {W w w' : World} {B b : Nat} (h : Below B W w) (hB : B ≤ w.heap.size) (hb : B ≤ b) (hg : w.grownBy w' (some b)) : Below B W w' :=
  h.grown hg hB (fun k e => by injection e with e; omega)
theorem put_as (n : Nat) (z : Int) (t : ByteArray) (q : Int) (w : World) (hn : n < 4294967296) (ht : putS n z = t) (hq : putZ n z = q) :
    Calls Try.prog 6 #[.int .u32 n, .int .i64 z] w (GivesSE9 w t q) := by rw [← ht, ← hq]; exact put_any n z w hn
theorem num_as (b : Nat) (s : ByteArray) (e z : Int) (v : Int) (s' : ByteArray) (e' : Int) (w : World) (hr : Rd w b s e) (hv : ((numS (tkT s e z (sizedB z)) : Nat) : Int) = v) (hs : tkR s e z (sizedB z) = s') (he : tkE s e z (sizedB z) = e') :
    Calls Try.prog 9 #[.pointer (some ⟨b, 0, none⟩), .int .i64 z] w (GivesRd w b (.int .u32 v) s' e') := by
  rw [← hv, ← hs, ← he]; exact num_any b s e z w hr
theorem bytes_as (b : Nat) (s : ByteArray) (e z : Int) (v : ByteArray) (s' : ByteArray) (e' : Int) (w : World) (hr : Rd w b s e) (h0 : s.size ≤ 281474976710656) (hv : tkT s e z (decide (0 ≤ z)) = v) (hs : tkR s e z (decide (0 ≤ z)) = s') (he : tkE s e z (decide (0 ≤ z)) = e') :
    Calls Try.prog 15 #[.pointer (some ⟨b, 0, none⟩), .int .i64 z] w (GivesRd w b (.string v) s' e') := by
  rw [← hv, ← hs, ← he]; exact bytes_any b s e z w hr h0
abbrev x12ab : ByteArray := ⟨#[1, 2, 97, 98]⟩
abbrev xab : ByteArray := ⟨#[97, 98]⟩
abbrev xb : ByteArray := ⟨#[98]⟩
abbrev xa : ByteArray := ⟨#[97]⟩
abbrev x12 : ByteArray := ⟨#[1, 2]⟩

set_option maxRecDepth 100000 in
set_option maxHeartbeats 1600000 in
theorem wawake9_any (w : World) :
    Calls Try.prog 12 #[] w fun e w' => e = .returned (.bool true) ∧ Below w.heap.size w w' := by
  go_enter Try.func12, Try.ntmps12
  go_wp2_with fail
  refine (put_as 258 2 x12 0 _ (by decide) (by decide +kernel) (by decide +kernel)).mono ?_; rintro e w1 ⟨rfl, g1⟩
  have G1 := Lib.hid g1
  clear g1
  go_wp2_with fail
  refine (put_as 256 1 S0 2 _ (by decide) (by decide +kernel) (by decide +kernel)).mono ?_; rintro e w2 ⟨rfl, g2⟩
  have G2 := Lib.hid (G1.out.trans (g2.mono G1.out.size))
  clear g2 G1
  go_wp2_with fail
  refine (put_as 1 3 S0 1 _ (by decide) (by decide +kernel) (by decide +kernel)).mono ?_; rintro e w3 ⟨rfl, g3⟩
  have G3 := Lib.hid (G2.out.trans (g3.mono G2.out.size))
  clear g3 G2
  go_wp2_with fail
  refine (new_gives x12ab _).mono ?_; rintro e w4 ⟨b, rfl, hb, hr, g4⟩
  have HB := Lib.hid (Nat.le_trans G3.out.size hb)
  have R4 := Lib.hid hr
  have G4 := Lib.hid (G3.out.trans (g4.mono G3.out.size))
  clear hb hr g4 G3
  go_wp2_with fail
  refine (num_as b x12ab 0 2 258 xab 0 _ R4.out (by decide +kernel) (by decide +kernel) (by decide +kernel)).mono ?_; rintro e w5 ⟨rfl, hr, hg⟩
  have R5 := Lib.hid hr
  have G5 := Lib.hid (rd_below G4.out G4.out.size HB.out hg)
  clear hr hg R4 G4
  go_wp2_with fail
  refine (bytes_as b xab 0 1 xa xb 0 _ R5.out (by decide) (by decide +kernel) (by decide +kernel) (by decide +kernel)).mono ?_; rintro e w6 ⟨rfl, hr, hg⟩
  have R6 := Lib.hid hr
  have G6 := Lib.hid (rd_below G5.out G5.out.size HB.out hg)
  clear hr hg R5 G5
  go_wp2_with fail
  refine (left_any b xb 0 _ R6.out).mono ?_; rintro e w7 ⟨rfl, rfl⟩
  go_wp2_with fail
  refine (err_any b xb 0 _ R6.out).mono ?_; rintro e w7 ⟨rfl, rfl⟩
  go_wp2_with fail
  refine (num_as b xb 0 4 0 xb 4 _ R6.out (by decide +kernel) (by decide +kernel) (by decide +kernel)).mono ?_; rintro e w7 ⟨rfl, hr, hg⟩
  have R7 := Lib.hid hr
  have G7 := Lib.hid (rd_below G6.out G6.out.size HB.out hg)
  clear hr hg R6 G6
  go_wp2_with fail
  refine (err_any b xb 4 _ R7.out).mono ?_; rintro e w8 ⟨rfl, rfl⟩
  go_wp2_with fail
  refine (bytes_as b xb 4 1 S0 xb 4 _ R7.out (by decide) (by decide +kernel) (by decide +kernel) (by decide +kernel)).mono ?_; rintro e w8 ⟨rfl, hr, hg⟩
  have R8 := Lib.hid hr
  have G8 := Lib.hid (rd_below G7.out G7.out.size HB.out hg)
  clear hr hg R7 G7
  go_wp2_with fail
  refine (left_any b xb 4 _ R8.out).mono ?_; rintro e w9 ⟨rfl, rfl⟩
  go_wp2_with fail
  go_ret
  exact ⟨rfl, G8.out⟩

set_option maxRecDepth 100000 in
set_option maxHeartbeats 800000 in
theorem none_walk (n : Int) (w : World) :
    Calls Try.prog 5 #[.int .i64 n] w fun e w' => e = .returned (.bool true) ∧ Below w.heap.size w w' := by
  go_enter Try.func5, Try.ntmps5
  go_wp2_with fail
  refine (num_nil n _).mono ?_; rintro e w1 ⟨rfl, rfl⟩
  go_wp2_with fail
  refine (bytes_nil n _).mono ?_; rintro e w2 ⟨rfl, g2⟩
  have G2 := Lib.hid g2
  clear g2
  go_wp2_with fail
  refine (left_nil _).mono ?_; rintro e w3 ⟨rfl, rfl⟩
  go_wp2_with fail
  refine (err_nil _).mono ?_; rintro e w3 ⟨rfl, rfl⟩
  go_wp2_with fail
  refine (wawake9_any _).mono ?_; rintro e w3 ⟨rfl, g3⟩
  have G3 := Lib.hid (G2.out.trans (g3.mono G2.out.size))
  clear g3 G2
  go_wp2_with fail
  go_ret
  exact ⟨rfl, G3.out⟩

theorem numK_append (k : Nat) (l r : List Nat) (h : k ≤ l.length) : numK k (l ++ r) = numK k l := by
  induction k with
  | zero => rfl
  | succ k ih =>
    rw [numK_succ, numK_succ, ih (by omega), List.getD_eq_getElem?_getD, List.getElem?_append_left (by omega), ← List.getD_eq_getElem?_getD]
theorem numK_byteL (n k : Nat) (h : n < 256 ^ k) : numK k (byteL n k) = n := by
  induction k generalizing n with
  | zero => rw [Nat.pow_zero] at h; show 0 = n; omega
  | succ k ih =>
    have h2 : n / 256 < 256 ^ k := by rw [Nat.pow_succ] at h; omega
    rw [numK_succ]
    show numK k (byteL (n / 256) k ++ [n % 256]) * 256 + (byteL (n / 256) k ++ [n % 256]).getD k 0 = n
    rw [numK_append _ _ _ (by rw [byteL_len]; exact Nat.le_refl _), ih _ h2, List.getD_eq_getElem?_getD, List.getElem?_append_right (by rw [byteL_len]; exact Nat.le_refl _), byteL_len, Nat.sub_self]
    show n / 256 * 256 + n % 256 = n
    omega
/-- a number that was put is read as it was, and nothing is left. -/
theorem put_back {n : Nat} {z : Int} (h : putZ n z = 0) : numS (tkT (putS n z) 0 z (sizedB z)) = n ∧ (tkR (putS n z) 0 z (sizedB z)).size = 0 ∧ tkE (putS n z) 0 z (sizedB z) = 0 := by
  have hp : putS n z = tx (byteL n z.toNat) := if_pos h
  unfold putZ at h
  by_cases g : sizedB z = true
  · rw [if_pos g] at h
    have hlt : n < 256 ^ z.toNat := by
      by_cases q : n < 256 ^ z.toNat
      · exact q
      · rw [if_neg q] at h; exact absurd h (by decide)
    obtain ⟨h0, h4⟩ := rd_bound g
    obtain ⟨m, rfl⟩ := Int.eq_ofNat_of_zero_le h0
    rw [Int.toNat_natCast] at hp hlt
    have hsz : (putS n (m : Int)).size = m := by rw [hp, tx_size, byteL_len]
    obtain ⟨q1, q2, q3⟩ := tk_ok (s := putS n (m : Int)) (z := (m : Int)) (by omega)
    rw [g, q1, q2, q3, Int.toNat_natCast]
    have hx : (putS n (m : Int)).extract 0 m = putS n (m : Int) := by
      have e := ByteArray.extract_zero_size (b := putS n (m : Int))
      rwa [hsz] at e
    refine ⟨?_, by rw [extract_size]; omega, rfl⟩
    rw [hx]
    unfold numS
    rw [hsz, hp, bts_tx (byteL_lt n m), numK_byteL n m hlt]
  · rw [if_neg g] at h
    exact absurd h (by decide)

set_option maxRecDepth 100000 in
set_option maxHeartbeats 1600000 in
theorem wputs_walk (a z : Int) (w : World) (wa : (Lit.int .u32 a).wf = true) :
    Calls Try.prog 3 #[.int .u32 a, .int .i64 z] w fun e w' => e = .returned (.bool true) ∧ Below w.heap.size w w' := by
  have ha : 0 ≤ a ∧ a ≤ 4294967295 := by simpa [Lit.wf, IntKind.min, IntKind.max, IntKind.signed, IntKind.bits] using wa
  obtain ⟨ha0, ha1⟩ := ha
  obtain ⟨n, rfl⟩ := Int.eq_ofNat_of_zero_le ha0
  have H1 := Lib.hid (fun w => put_any n z w (by omega))
  have H2 := Lib.hid (fun w => rput_any n z w (by omega))
  have HP := Lib.hid (fun h => put_back (n := n) (z := z) h)
  clear wa ha0 ha1
  generalize putS n z = S at *
  generalize putZ n z = q at *
  by_cases h : q = 0
  · subst h
    obtain ⟨p1, p2, p3⟩ := HP.out rfl
    have K1 := Lib.hid p1
    have K2 := Lib.hid p2
    have K3 := Lib.hid p3
    clear p1 p2 p3 HP
    go_enter Try.func3, Try.ntmps3
    go_wp2_with fail
    refine (H1.out _).mono ?_; rintro e w1 ⟨rfl, g1⟩
    have G1 := Lib.hid g1
    clear g1
    go_wp2_with fail
    refine (H2.out _).mono ?_; rintro e w2 ⟨rfl, g2⟩
    have G2 := Lib.hid (G1.out.trans (g2.mono G1.out.size))
    clear g2 G1
    go_wp2_with fail
    refine (new_gives S _).mono ?_; rintro e w4 ⟨b, rfl, hb, hr, g4⟩
    have HB := Lib.hid (Nat.le_trans G2.out.size hb)
    have R4 := Lib.hid hr
    have G4 := Lib.hid (G2.out.trans (g4.mono G2.out.size))
    clear hb hr g4 G2
    go_wp2_with fail
    refine (num_any b S 0 z _ R4.out).mono ?_; rintro e w5 ⟨rfl, hr, hg⟩
    rw [K1.out]
    have HL : Hid (∀ W, Rd W b (tkR S 0 z (sizedB z)) (tkE S 0 z (sizedB z)) → Calls Try.prog 10 #[.pointer (some ⟨b, 0, none⟩)] W fun e' w' => e' = .returned (.int .i64 0) ∧ W = w') := Lib.hid fun W h => by
      have := left_any b _ _ W h
      rwa [K2.out] at this
    have HE : Hid (∀ W, Rd W b (tkR S 0 z (sizedB z)) (tkE S 0 z (sizedB z)) → Calls Try.prog 11 #[.pointer (some ⟨b, 0, none⟩)] W fun e' w' => e' = .returned (.int .i64 0) ∧ W = w') := Lib.hid fun W h => by
      have := err_any b _ _ W h
      rwa [K3.out] at this
    have R5 := Lib.hid hr
    have G5 := Lib.hid (rd_below G4.out G4.out.size HB.out hg)
    clear hr hg R4 G4
    go_wp2_with fail
    refine (HL.out _ R5.out).mono ?_; rintro e w6 ⟨rfl, rfl⟩
    go_wp2_with fail
    refine (HE.out _ R5.out).mono ?_; rintro e w6 ⟨rfl, rfl⟩
    go_wp2_with fail
    refine (wawake9_any _).mono ?_; rintro e w7 ⟨rfl, g7⟩
    have G7 := Lib.hid (G5.out.trans (g7.mono G5.out.size))
    clear g7 G5
    go_wp2_with fail
    go_ret
    exact ⟨rfl, G7.out⟩
  · have e1 : (q != 0) = true := by simpa using h
    have e2 : (q == 0) = false := by simpa using h
    clear HP h
    go_enter Try.func3, Try.ntmps3
    go_wp2_with fail
    refine (H1.out _).mono ?_; rintro e w1 ⟨rfl, g1⟩
    have G1 := Lib.hid g1
    clear g1
    go_wp2_with fail
    refine (H2.out _).mono ?_; rintro e w2 ⟨rfl, g2⟩
    have G2 := Lib.hid (G1.out.trans (g2.mono G1.out.size))
    clear g2 G1
    go_wp2_with fail
    refine (new_gives S _).mono ?_; rintro e w4 ⟨b, rfl, hb, hr, g4⟩
    have G4 := Lib.hid (G2.out.trans (g4.mono G2.out.size))
    clear hb hr g4 G2
    go_wp2_with fail
    refine (wawake9_any _).mono ?_; rintro e w7 ⟨rfl, g7⟩
    have G7 := Lib.hid (G4.out.trans (g7.mono G4.out.size))
    clear g7 G4
    go_wp2_with fail
    go_ret
    exact ⟨rfl, G7.out⟩
end Go.Proofs.Ytnlmeoecbjbcgaa

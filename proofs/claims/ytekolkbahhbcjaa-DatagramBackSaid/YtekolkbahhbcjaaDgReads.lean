/- Proved: what the functions of each layout that read its own fields leave. Conditions: those that the theorems name. -/
import Derived.Test.YtekolkbahhbcjaaDgPut
namespace Go.Proofs.Ytekolkbahhbcjaa
open Go.ChangeShapes Go.WideShapes Go.ChangeAt Go.RowKit

/-- Two blocks alone may have turned. -/
structure Kept2 (w w' : World) (b c : Nat) : Prop where
  os : w'.os = w.os
  tape : w'.tape = w.tape
  output : w'.output = w.output
  size : w.heap.size ≤ w'.heap.size
  block : ∀ k, k < w.heap.size → k ≠ b → k ≠ c → w'.heap[k]? = w.heap[k]?
theorem Kept2.refl (w : World) (b c : Nat) : Kept2 w w b c := ⟨rfl, rfl, rfl, Nat.le_refl _, fun _ _ _ _ => rfl⟩
theorem Kept2.grown1 {W w w' : World} {b c : Nat} (h : Kept2 W w b c) (g : w.grownBy w' (some b)) : Kept2 W w' b c :=
  ⟨g.os.trans h.os, g.tape.trans h.tape, g.output.trans h.output, Nat.le_trans h.size g.size, fun k hk h1 h2 => (g.block k (Nat.lt_of_lt_of_le hk h.size) (fun e => by injection e with e; exact h1 e)).trans (h.block k hk h1 h2)⟩
theorem Kept2.grown2 {W w w' : World} {b c : Nat} (h : Kept2 W w b c) (g : w.grownBy w' (some c)) : Kept2 W w' b c :=
  ⟨g.os.trans h.os, g.tape.trans h.tape, g.output.trans h.output, Nat.le_trans h.size g.size, fun k hk h1 h2 => (g.block k (Nat.lt_of_lt_of_le hk h.size) (fun e => by injection e with e; exact h2 e)).trans (h.block k hk h1 h2)⟩
theorem Kept2.set1 {W w : World} {b c : Nat} (h : Kept2 W w b c) (j : Nat) (v : Value) : Kept2 W (w.setCell ⟨b, j, none⟩ v) b c := h.grown1 (grown_set w ⟨b, j, none⟩ v)
theorem Kept2.grown {W w w' : World} {b c : Nat} (g : W.grownBy w (some c)) (hb : W.heap.size ≤ b) (h : Kept2 w w' b c) : W.grownBy w' (some c) :=
  ⟨h.os.trans g.os, h.tape.trans g.tape, h.output.trans g.output, Nat.le_trans g.size h.size, fun k hk hn => (h.block k (Nat.lt_of_lt_of_le hk g.size) (by omega) (fun e => hn (by rw [e]))).trans (g.block k hk hn)⟩

/-! ### a reader at a place of a text -/
def sfx (a : ByteArray) (p : Nat) : ByteArray := a.extract p a.size
theorem sfx_size (a : ByteArray) (p : Nat) : (sfx a p).size = a.size - p := by
  unfold sfx
  rw [ByteArray.size_extract]; omega
theorem sfx_zero (a : ByteArray) : sfx a 0 = a := extract_all a
theorem sfx_take {a : ByteArray} {p m : Nat} (h : p + m ≤ a.size) : tkT (sfx a p) 0 m true = a.extract p (p + m) ∧ tkR (sfx a p) 0 m true = sfx a (p + m) ∧ tkE (sfx a p) 0 m true = 0 := by
  obtain ⟨q1, q2, q3⟩ := tk_ok (s := sfx a p) (z := (m : Int)) (by rw [sfx_size]; omega)
  rw [q1, q2, q3, Int.toNat_natCast, sfx_size]
  refine ⟨?_, ?_, rfl⟩
  · unfold sfx
    rw [extract_extract' a (by omega)]
    rfl
  · unfold sfx
    rw [extract_extract' a (by omega), show p + (a.size - p) = a.size by omega]
theorem num_at (b : Nat) (a : ByteArray) (p m q : Nat) (w : World) (hr : Rd w b (sfx a p) 0) (hp : p + m = q) (hq : q ≤ a.size) (hm : m = 1 ∨ m = 2 ∨ m = 4) :
    Calls Try.prog 25 #[.pointer (some ⟨b, 0, none⟩), .int .i64 m] w (GivesRd w b (.int .u32 (cutN a p q : Nat)) (sfx a q) 0) := by
  subst hp
  have h := num_any b (sfx a p) 0 m w hr
  have e : sizedB (m : Int) = true := by unfold sizedB; rcases hm with rfl | rfl | rfl <;> rfl
  obtain ⟨q1, q2, q3⟩ := sfx_take hq
  rw [e, q1, q2, q3] at h
  exact h
theorem bytes_at (b : Nat) (a : ByteArray) (p m q : Nat) (w : World) (hr : Rd w b (sfx a p) 0) (hp : p + m = q) (hq : q ≤ a.size) (ha : a.size ≤ 281474976710656) :
    Calls Try.prog 39 #[.pointer (some ⟨b, 0, none⟩), .int .i64 m] w (GivesRd w b (.string (a.extract p q)) (sfx a q) 0) := by
  subst hp
  have h := bytes_any b (sfx a p) 0 m w hr (by rw [sfx_size]; omega)
  have e : decide (0 ≤ (m : Int)) = true := decide_eq_true (by omega)
  obtain ⟨q1, q2, q3⟩ := sfx_take hq
  rw [e, q1, q2, q3] at h
  exact h
/-! ### too few bytes -/
/-- so many bytes are left, or there is an error. -/
def Short (s : ByteArray) (e : Int) (n : Nat) : Prop := (e = 0 ∧ s.size = n) ∨ e = 4
theorem Short.step {s : ByteArray} {e : Int} {n z : Nat} (h : Short s e n) (hz : z ≤ n) : Short (tkR s e z true) (tkE s e z true) (n - z) := by
  rcases h with ⟨rfl, h2⟩ | rfl
  · obtain ⟨q1, q2, q3⟩ := tk_ok (s := s) (z := (z : Int)) (by omega)
    rw [q1, q2]
    exact Or.inl ⟨rfl, by rw [ByteArray.size_extract, Int.toNat_natCast]; omega⟩
  · obtain ⟨q1, q2, q3⟩ := tk_err (s := s) (z := (z : Int)) (may := true) (e := 4) (by decide)
    rw [q1]
    exact Or.inr rfl
theorem Short.fail {s : ByteArray} {e : Int} {n z : Nat} (h : Short s e n) (hz : n < z) : tkE s e z true = 4 := by
  rcases h with ⟨rfl, h2⟩ | rfl
  · exact (tk_cut (s := s) (z := (z : Int)) (by omega)).1
  · exact (tk_err (s := s) (z := (z : Int)) (may := true) (e := 4) (by decide)).1
theorem stay4 (s : ByteArray) (z : Int) (may : Bool) : tkE s 4 z may = 4 := (tk_err (s := s) (z := z) (may := may) (e := 4) (by decide)).1
/-- one number more of a reader that has too few bytes for all. -/
theorem num_short (b : Nat) (s : ByteArray) (e : Int) (m : Nat) (w : World) (hr : Rd w b s e) (hm : m = 1 ∨ m = 2 ∨ m = 4) :
    ∃ v : Nat, v < 4294967296 ∧ Calls Try.prog 25 #[.pointer (some ⟨b, 0, none⟩), .int .i64 m] w (GivesRd w b (.int .u32 v) (tkR s e m true) (tkE s e m true)) := by
  have h := num_any b s e m w hr
  have hz := num_size s e (m : Int)
  have e1 : sizedB (m : Int) = true := by unfold sizedB; rcases hm with rfl | rfl | rfl <;> rfl
  rw [e1] at h hz
  refine ⟨_, ?_, h⟩
  exact Nat.lt_of_lt_of_le (numS_lt _) (Nat.pow_le_pow_right (by decide) hz)

/-! ### the fields of a layout -/
/-- how many bytes are left behind the fields of a layout, of so many. -/
def leftN (g : Grp) (n : Nat) : Nat := match g with
  | .shard => 0
  | _ => n - grpSz g
theorem grpF_is (g : Grp) (n : Nat) : grpF g n = if n < grpSz g then 4 else if 0 < leftN g n then 5 else 0 := by
  cases g with
  | shard =>
    show (if n < 5 then (4 : Int) else 0) = if n < 5 then 4 else if 0 < 0 then 5 else 0
    simp
  | hav =>
    show (if n < 32 then (4 : Int) else if 32 < n then 5 else 0) = if n < 32 then 4 else if 0 < n - 32 then 5 else 0
    by_cases h : n < 32
    · rw [if_pos h, if_pos h]
    · by_cases h2 : 32 < n
      · rw [if_neg h, if_neg h, if_pos h2, if_pos (by omega)]
      · rw [if_neg h, if_neg h, if_neg h2, if_neg (by omega)]
  | cred =>
    show (if n < 2 then (4 : Int) else if 2 < n then 5 else 0) = if n < 2 then 4 else if 0 < n - 2 then 5 else 0
    by_cases h : n < 2
    · rw [if_pos h, if_pos h]
    · by_cases h2 : 2 < n
      · rw [if_neg h, if_neg h, if_pos h2, if_pos (by omega)]
      · rw [if_neg h, if_neg h, if_neg h2, if_neg (by omega)]
  | bare =>
    show (if 0 < n then (5 : Int) else 0) = if n < 0 then 4 else if 0 < n - 0 then 5 else 0
    rw [if_neg (Nat.not_lt_zero n), Nat.sub_zero]
/-- The fields are read into block b, off the reader in block c; nothing else has turned. -/
def GivesFd (W : World) (g : Grp) (a : ByteArray) (b c : Nat) (e : Ending) (w' : World) : Prop :=
  e = .returned (.tuple #[]) ∧ ∃ d s z, At w' b 24 (Dg.cells d) ∧ Rd w' c s z ∧ Kept2 W w' b c ∧ (a.size - 8 < grpSz g → z = 4) ∧ (grpSz g ≤ a.size - 8 → z = 0 ∧ d = pD g a ∧ s.size = leftN g (a.size - 8))
theorem Rd.far {w : World} {b c : Nat} {s : ByteArray} {e : Int} (h : Rd w c s e) (hb : c ≠ b) (j : Nat) (v : Value) : Rd (w.setCell ⟨b, j, none⟩ v) c s e := At.far h (p := ⟨b, j, none⟩) hb v

theorem read_bare (a : ByteArray) (b c : Nat) (w : World) (hd : At w b 24 (Dg.cells (pD .bare a))) (hr : Rd w c (sfx a 8) 0) : Calls Try.prog 58 #[.pointer (some ⟨b, 0, none⟩), .pointer (some ⟨c, 0, none⟩)] w (GivesFd w .bare a b c) := by
  go_enter Try.func58, Try.ntmps58
  go_wp2_with fail
  go_end0
  exact ⟨rfl, _, _, _, hd, hr, Kept2.refl _ _ _, fun h => absurd h (Nat.not_lt_zero _), fun _ => ⟨rfl, rfl, by rw [sfx_size]; rfl⟩⟩
set_option maxHeartbeats 1600000 in
theorem read_hav (a : ByteArray) (b c : Nat) (w : World) (ha : a.size ≤ 281474976710656) (h8 : 8 ≤ a.size) (hd : At w b 24 (Dg.cells (pD .bare a))) (hr : Rd w c (sfx a 8) 0) (hbc : b ≠ c) : Calls Try.prog 50 #[.pointer (some ⟨b, 0, none⟩), .pointer (some ⟨c, 0, none⟩)] w (GivesFd w .hav a b c) := by
  by_cases h : 40 ≤ a.size
  · have HB : Hid (∀ w, Rd w c (sfx a 8) 0 → Calls Try.prog 39 #[.pointer (some ⟨c, 0, none⟩), .int .i64 32] w (GivesRd w c (.string (a.extract 8 40)) (sfx a 40) 0)) := Lib.hid fun w hr => bytes_at c a 8 32 40 w hr rfl h ha
    have HD := Lib.hid hd
    have HR := Lib.hid hr
    have HH := Lib.hid (And.intro h (And.intro h8 hbc))
    clear hd hr ha h h8 hbc
    go_enter Try.func50, Try.ntmps50
    go_wp2_with fail
    refine (HB.out _ HR.out).mono ?_; rintro e w1 ⟨rfl, hr1, hg1⟩
    have D1 := Lib.hid (HD.out.kept hg1 (by intro e; injection e with e; exact HH.out.2.2 e.symm))
    have c8 := D1.out.cell 8 rfl
    have f8 := D1.out.free 8
    have R1 := Lib.hid hr1
    have K1 := Lib.hid ((Kept2.refl w b c).grown2 hg1)
    clear hr1 hg1
    go_wp2_with fail
    go_end0
    refine ⟨rfl, pD .hav a, _, _, ?_, R1.out.far (fun e => HH.out.2.2 e.symm) _ _, K1.out.set1 _ _, fun q => ?_, fun _ => ⟨rfl, rfl, ?_⟩⟩
    · exact D1.out.set_ 8 _
    · have q' : a.size - 8 < 32 := q
      have := HH.out.1; omega
    · rw [sfx_size]
      show a.size - 40 = a.size - 8 - 32
      omega
  · have hs := (Short.fail (s := sfx a 8) (e := 0) (n := a.size - 8) (z := 32) (Or.inl ⟨rfl, sfx_size a 8⟩) (by omega))
    have HB : Hid (∀ w, Rd w c (sfx a 8) 0 → Calls Try.prog 39 #[.pointer (some ⟨c, 0, none⟩), .int .i64 32] w (GivesRd w c (.string (tkT (sfx a 8) 0 32 true)) (tkR (sfx a 8) 0 32 true) 4)) := Lib.hid fun w hr => by
      have h := bytes_any c (sfx a 8) 0 32 w hr (by rw [sfx_size]; omega)
      rw [show decide (0 ≤ (32 : Int)) = true from rfl, show tkE (sfx a 8) 0 32 true = 4 from hs] at h
      exact h
    have HD := Lib.hid hd
    have HR := Lib.hid hr
    have HH := Lib.hid (And.intro h (And.intro h8 hbc))
    clear hd hr ha h h8 hbc hs
    generalize tkT (sfx a 8) 0 32 true = X at *
    generalize tkR (sfx a 8) 0 32 true = Y at *
    go_enter Try.func50, Try.ntmps50
    go_wp2_with fail
    refine (HB.out _ HR.out).mono ?_; rintro e w1 ⟨rfl, hr1, hg1⟩
    have D1 := Lib.hid (HD.out.kept hg1 (by intro e; injection e with e; exact HH.out.2.2 e.symm))
    have c8 := D1.out.cell 8 rfl
    have f8 := D1.out.free 8
    have R1 := Lib.hid hr1
    have K1 := Lib.hid ((Kept2.refl w b c).grown2 hg1)
    clear hr1 hg1
    go_wp2_with fail
    go_end0
    refine ⟨rfl, { pD .bare a with has := X }, _, _, ?_, R1.out.far (fun e => HH.out.2.2 e.symm) _ _, K1.out.set1 _ _, fun _ => rfl, fun q => ?_⟩
    · exact D1.out.set_ 8 _
    · have q' : 32 ≤ a.size - 8 := q
      exact absurd q' (by have := HH.out.1; omega)
set_option maxHeartbeats 1600000 in
theorem read_cred (a : ByteArray) (b c : Nat) (w : World) (h8 : 8 ≤ a.size) (hd : At w b 24 (Dg.cells (pD .bare a))) (hr : Rd w c (sfx a 8) 0) (hbc : b ≠ c) : Calls Try.prog 54 #[.pointer (some ⟨b, 0, none⟩), .pointer (some ⟨c, 0, none⟩)] w (GivesFd w .cred a b c) := by
  by_cases h : 10 ≤ a.size
  · have HB : Hid (∀ w, Rd w c (sfx a 8) 0 → Calls Try.prog 25 #[.pointer (some ⟨c, 0, none⟩), .int .i64 2] w (GivesRd w c (.int .u32 (cutN a 8 10 : Nat)) (sfx a 10) 0)) := Lib.hid fun w hr => num_at c a 8 2 10 w hr rfl h (by simp)
    have hv := cutN_lt (a := a) (i := 8) (j := 10) (k := 2) (by omega) rfl
    have HP : Hid (pD .cred a = { pD .bare a with credit := (cutN a 8 10 : Nat) }) := Lib.hid rfl
    generalize cutN a 8 10 = v at *
    have v0 : (0 : Int) ≤ (v : Int) := Int.natCast_nonneg _
    have v1 : (v : Int) < 65536 := by omega
    have HD := Lib.hid hd
    have HR := Lib.hid hr
    have HH := Lib.hid (And.intro h (And.intro h8 hbc))
    clear hd hr h h8 hbc hv
    go_enter Try.func54, Try.ntmps54
    go_wp2_with fail
    refine (HB.out _ HR.out).mono ?_; rintro e w1 ⟨rfl, hr1, hg1⟩
    have D1 := Lib.hid (HD.out.kept hg1 (by intro e; injection e with e; exact HH.out.2.2 e.symm))
    have c8 := D1.out.cell 7 rfl
    have f8 := D1.out.free 7
    have R1 := Lib.hid hr1
    have K1 := Lib.hid ((Kept2.refl w b c).grown2 hg1)
    clear hr1 hg1
    go_wp2_with fail
    go_end0
    refine ⟨rfl, pD .cred a, _, _, ?_, R1.out.far (fun e => HH.out.2.2 e.symm) _ _, K1.out.set1 _ _, fun q => ?_, fun _ => ⟨rfl, rfl, ?_⟩⟩
    · rw [HP.out]; exact D1.out.set_ 7 _
    · have q' : a.size - 8 < 2 := q
      have := HH.out.1; omega
    · rw [sfx_size]
      show a.size - 10 = a.size - 8 - 2
      omega
  · have hs := (Short.fail (s := sfx a 8) (e := 0) (n := a.size - 8) (z := 2) (Or.inl ⟨rfl, sfx_size a 8⟩) (by omega))
    have HB : Hid (∀ w, Rd w c (sfx a 8) 0 → ∃ v : Nat, v < 4294967296 ∧ Calls Try.prog 25 #[.pointer (some ⟨c, 0, none⟩), .int .i64 2] w (GivesRd w c (.int .u32 v) (tkR (sfx a 8) 0 2 true) 4)) := Lib.hid fun w hr => by
      have h := num_short c (sfx a 8) 0 2 w hr (by simp)
      rw [hs] at h
      exact h
    obtain ⟨v, hv, hq⟩ := HB.out w hr
    have HN := Lib.hid hq
    have v0 : (0 : Int) ≤ (v : Int) := Int.natCast_nonneg _
    have v1 : (v : Int) < 4294967296 := by omega
    have HD := Lib.hid hd
    have HR := Lib.hid hr
    have HH := Lib.hid (And.intro h (And.intro h8 hbc))
    clear hd hr h h8 hbc hs hv hq HB
    generalize tkR (sfx a 8) 0 2 true = Y at *
    go_enter Try.func54, Try.ntmps54
    go_wp2_with fail
    refine HN.out.mono ?_; rintro e w1 ⟨rfl, hr1, hg1⟩
    have D1 := Lib.hid (HD.out.kept hg1 (by intro e; injection e with e; exact HH.out.2.2 e.symm))
    have c8 := D1.out.cell 7 rfl
    have f8 := D1.out.free 7
    have R1 := Lib.hid hr1
    have K1 := Lib.hid ((Kept2.refl w b c).grown2 hg1)
    clear hr1 hg1
    go_wp2_with fail
    go_end0
    refine ⟨rfl, { pD .bare a with credit := (v : Int) }, _, _, ?_, R1.out.far (fun e => HH.out.2.2 e.symm) _ _, K1.out.set1 _ _, fun _ => rfl, fun q => ?_⟩
    · exact D1.out.set_ 7 _
    · have q' : 2 ≤ a.size - 8 := q
      exact absurd q' (by have := HH.out.1; omega)
end Go.Proofs.Ytekolkbahhbcjaa

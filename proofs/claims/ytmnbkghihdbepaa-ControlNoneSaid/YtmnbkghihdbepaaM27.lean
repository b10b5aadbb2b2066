/- Proved: lemmas of one statement's proof, merged by program: what each part proves stands ahead of it. Conditions: those that the lemmas name. -/
import Derived.Test.YtmnbkghihdbepaaM26

/- Proved: what the functions of each layout that read its own fields leave. Conditions: those that the theorems name. -/
namespace Go.Proofs.Ytmnbkghihdbepaa
open Go.ChangeShapes Go.WideShapes Go.ChangeAt Go.RowKit

/-- Two blocks alone may have turned. -/
structure Kept2 (w w' : World) (b c : Nat) : Prop where
  os : w'.os = w.os
  tape : w'.tape = w.tape
  output : w'.output = w.output
  size : w.heap.size ≤ w'.heap.size
  block : ∀ k, k < w.heap.size → k ≠ b → k ≠ c → w'.heap[k]? = w.heap[k]?
theorem Kept2.refl (w : World) (b c : Nat) : Kept2 w w b c := ⟨rfl, rfl, rfl, Nat.le_refl _, fun _ _ _ _ => rfl⟩
theorem Kept2.grown1 {W w w' : World} {b c : Nat} (h : Kept2 W w b c) (g : w.grownBy w' (some b)) : Kept2 W w' b c :=
  ⟨g.os.trans h.os, g.tape.trans h.tape, g.output.trans h.output, Nat.le_trans h.size g.size, fun k hk h1 h2 => (g.block k (Nat.lt_of_lt_of_le hk h.size) (fun e => by injection e with e; exact h1 e)).trans (h.block k hk h1 h2)⟩
theorem Kept2.grown2 {W w w' : World} {b c : Nat} (h : Kept2 W w b c) (g : w.grownBy w' (some c)) : Kept2 W w' b c :=
  ⟨g.os.trans h.os, g.tape.trans h.tape, g.output.trans h.output, Nat.le_trans h.size g.size, fun k hk h1 h2 => (g.block k (Nat.lt_of_lt_of_le hk h.size) (fun e => by injection e with e; exact h2 e)).trans (h.block k hk h1 h2)⟩
theorem Kept2.set1 {W w : World} {b c : Nat} (h : Kept2 W w b c) (j : Nat) (v : Value) : Kept2 W (w.setCell ⟨b, j, none⟩ v) b c := h.grown1 (grown_set w ⟨b, j, none⟩ v)
theorem Kept2.grown {W w w' : World} {b c : Nat} (g : W.grownBy w (some c)) (hb : W.heap.size ≤ b) (h : Kept2 w w' b c) : W.grownBy w' (some c) :=
  ⟨h.os.trans g.os, h.tape.trans g.tape, h.output.trans g.output, Nat.le_trans g.size h.size, fun k hk hn => (h.block k (Nat.lt_of_lt_of_le hk g.size) (by omega) (fun e => hn (by rw [e]))).trans (g.block k hk hn)⟩

/-! ### a reader at a place of a text -/
def sfx (a : ByteArray) (p : Nat) : ByteArray := a.extract p a.size
theorem sfx_size (a : ByteArray) (p : Nat) : (sfx a p).size = a.size - p := by
  unfold sfx
  rw [ByteArray.size_extract]; omega
theorem sfx_zero (a : ByteArray) : sfx a 0 = a := extract_all a
theorem sfx_take {a : ByteArray} {p m : Nat} (h : p + m ≤ a.size) : tkT (sfx a p) 0 m true = a.extract p (p + m) ∧ tkR (sfx a p) 0 m true = sfx a (p + m) ∧ tkE (sfx a p) 0 m true = 0 := by
  obtain ⟨q1, q2, q3⟩ := tk_ok (s := sfx a p) (z := (m : Int)) (by rw [sfx_size]; omega)
  rw [q1, q2, q3, Int.toNat_natCast, sfx_size]
  refine ⟨?_, ?_, rfl⟩
  · unfold sfx
    rw [extract_extract' a (by omega)]
    rfl
  · unfold sfx
    rw [extract_extract' a (by omega), show p + (a.size - p) = a.size by omega]
theorem num_at (b : Nat) (a : ByteArray) (p m q : Nat) (w : World) (hr : Rd w b (sfx a p) 0) (hp : p + m = q) (hq : q ≤ a.size) (hm : m = 1 ∨ m = 2 ∨ m = 4) :
    Calls Try.prog 56 #[.pointer (some ⟨b, 0, none⟩), .int .i64 m] w (GivesRd w b (.int .u32 (cutN a p q : Nat)) (sfx a q) 0) := by
  subst hp
  have h := num_any b (sfx a p) 0 m w hr
  have e : sizedB (m : Int) = true := by unfold sizedB; rcases hm with rfl | rfl | rfl <;> rfl
  obtain ⟨q1, q2, q3⟩ := sfx_take hq
  rw [e, q1, q2, q3] at h
  exact h
theorem bytes_at (b : Nat) (a : ByteArray) (p m q : Nat) (w : World) (hr : Rd w b (sfx a p) 0) (hp : p + m = q) (hq : q ≤ a.size) (ha : a.size ≤ 281474976710656) :
    Calls Try.prog 57 #[.pointer (some ⟨b, 0, none⟩), .int .i64 m] w (GivesRd w b (.string (a.extract p q)) (sfx a q) 0) := by
  subst hp
  have h := bytes_any b (sfx a p) 0 m w hr (by rw [sfx_size]; omega)
  have e : decide (0 ≤ (m : Int)) = true := decide_eq_true (by omega)
  obtain ⟨q1, q2, q3⟩ := sfx_take hq
  rw [e, q1, q2, q3] at h
  exact h
/-! ### too few bytes -/
/-- so many bytes are left, or there is an error. -/
def Short (s : ByteArray) (e : Int) (n : Nat) : Prop := (e = 0 ∧ s.size = n) ∨ e = 4
theorem Short.step {s : ByteArray} {e : Int} {n z : Nat} (h : Short s e n) (hz : z ≤ n) : Short (tkR s e z true) (tkE s e z true) (n - z) := by
  rcases h with ⟨rfl, h2⟩ | rfl
  · obtain ⟨q1, q2, q3⟩ := tk_ok (s := s) (z := (z : Int)) (by omega)
    rw [q1, q2]
    exact Or.inl ⟨rfl, by rw [ByteArray.size_extract, Int.toNat_natCast]; omega⟩
  · obtain ⟨q1, q2, q3⟩ := tk_err (s := s) (z := (z : Int)) (may := true) (e := 4) (by decide)
    rw [q1]
    exact Or.inr rfl
theorem Short.fail {s : ByteArray} {e : Int} {n z : Nat} (h : Short s e n) (hz : n < z) : tkE s e z true = 4 := by
  rcases h with ⟨rfl, h2⟩ | rfl
  · exact (tk_cut (s := s) (z := (z : Int)) (by omega)).1
  · exact (tk_err (s := s) (z := (z : Int)) (may := true) (e := 4) (by decide)).1
theorem stay4 (s : ByteArray) (z : Int) (may : Bool) : tkE s 4 z may = 4 := (tk_err (s := s) (z := z) (may := may) (e := 4) (by decide)).1
/-- one number more of a reader that has too few bytes for all. -/
theorem num_short (b : Nat) (s : ByteArray) (e : Int) (m : Nat) (w : World) (hr : Rd w b s e) (hm : m = 1 ∨ m = 2 ∨ m = 4) :
    ∃ v : Nat, v < 4294967296 ∧ Calls Try.prog 56 #[.pointer (some ⟨b, 0, none⟩), .int .i64 m] w (GivesRd w b (.int .u32 v) (tkR s e m true) (tkE s e m true)) := by
  have h := num_any b s e m w hr
  have hz := num_size s e (m : Int)
  have e1 : sizedB (m : Int) = true := by unfold sizedB; rcases hm with rfl | rfl | rfl <;> rfl
  rw [e1] at h hz
  refine ⟨_, ?_, h⟩
  exact Nat.lt_of_lt_of_le (numS_lt _) (Nat.pow_le_pow_right (by decide) hz)

/-! ### the fields of a layout -/
/-- how many bytes are left behind the fields of a layout, of so many. -/
def leftN (g : Grp) (n : Nat) : Nat := match g with
  | .shard => 0
  | _ => n - grpSz g
theorem grpF_is (g : Grp) (n : Nat) : grpF g n = if n < grpSz g then 4 else if 0 < leftN g n then 5 else 0 := by
  cases g with
  | shard =>
    show (if n < 5 then (4 : Int) else 0) = if n < 5 then 4 else if 0 < 0 then 5 else 0
    simp
  | hav =>
    show (if n < 32 then (4 : Int) else if 32 < n then 5 else 0) = if n < 32 then 4 else if 0 < n - 32 then 5 else 0
    by_cases h : n < 32
    · rw [if_pos h, if_pos h]
    · by_cases h2 : 32 < n
      · rw [if_neg h, if_neg h, if_pos h2, if_pos (by omega)]
      · rw [if_neg h, if_neg h, if_neg h2, if_neg (by omega)]
  | cred =>
    show (if n < 2 then (4 : Int) else if 2 < n then 5 else 0) = if n < 2 then 4 else if 0 < n - 2 then 5 else 0
    by_cases h : n < 2
    · rw [if_pos h, if_pos h]
    · by_cases h2 : 2 < n
      · rw [if_neg h, if_neg h, if_pos h2, if_pos (by omega)]
      · rw [if_neg h, if_neg h, if_neg h2, if_neg (by omega)]
  | bare =>
    show (if 0 < n then (5 : Int) else 0) = if n < 0 then 4 else if 0 < n - 0 then 5 else 0
    rw [if_neg (Nat.not_lt_zero n), Nat.sub_zero]
/-- The fields are read into block b, off the reader in block c; nothing else has turned. -/
def GivesFd (W : World) (g : Grp) (a : ByteArray) (b c : Nat) (e : Ending) (w' : World) : Prop :=
  e = .returned (.tuple #[]) ∧ ∃ d s z, At w' b 29 (Dg.cells d) ∧ Rd w' c s z ∧ Kept2 W w' b c ∧ (a.size - 8 < grpSz g → z = 4) ∧ (grpSz g ≤ a.size - 8 → z = 0 ∧ d = pD g a ∧ s.size = leftN g (a.size - 8))
theorem Rd.far {w : World} {b c : Nat} {s : ByteArray} {e : Int} (h : Rd w c s e) (hb : c ≠ b) (j : Nat) (v : Value) : Rd (w.setCell ⟨b, j, none⟩ v) c s e := At.far h (p := ⟨b, j, none⟩) hb v

theorem read_bare (a : ByteArray) (b c : Nat) (w : World) (hd : At w b 29 (Dg.cells (pD .bare a))) (hr : Rd w c (sfx a 8) 0) : Calls Try.prog 54 #[.pointer (some ⟨b, 0, none⟩), .pointer (some ⟨c, 0, none⟩)] w (GivesFd w .bare a b c) := by
  go_enter Try.func54, Try.ntmps54
  go_wp2_with fail
  go_end0
  exact ⟨rfl, _, _, _, hd, hr, Kept2.refl _ _ _, fun h => absurd h (Nat.not_lt_zero _), fun _ => ⟨rfl, rfl, by rw [sfx_size]; rfl⟩⟩
set_option maxHeartbeats 1600000 in
theorem read_hav (a : ByteArray) (b c : Nat) (w : World) (ha : a.size ≤ 281474976710656) (h8 : 8 ≤ a.size) (hd : At w b 29 (Dg.cells (pD .bare a))) (hr : Rd w c (sfx a 8) 0) (hbc : b ≠ c) : Calls Try.prog 46 #[.pointer (some ⟨b, 0, none⟩), .pointer (some ⟨c, 0, none⟩)] w (GivesFd w .hav a b c) := by
  by_cases h : 40 ≤ a.size
  · have HB : Hid (∀ w, Rd w c (sfx a 8) 0 → Calls Try.prog 57 #[.pointer (some ⟨c, 0, none⟩), .int .i64 32] w (GivesRd w c (.string (a.extract 8 40)) (sfx a 40) 0)) := Lib.hid fun w hr => bytes_at c a 8 32 40 w hr rfl h ha
    have HD := Lib.hid hd
    have HR := Lib.hid hr
    have HH := Lib.hid (And.intro h (And.intro h8 hbc))
    clear hd hr ha h h8 hbc
    go_enter Try.func46, Try.ntmps46
    go_wp2_with fail
    refine (HB.out _ HR.out).mono ?_; rintro e w1 ⟨rfl, hr1, hg1⟩
    have D1 := Lib.hid (HD.out.kept hg1 (by intro e; injection e with e; exact HH.out.2.2 e.symm))
    have c8 := D1.out.cell 8 rfl
    have f8 := D1.out.free 8
    have R1 := Lib.hid hr1
    have K1 := Lib.hid ((Kept2.refl w b c).grown2 hg1)
    clear hr1 hg1
    go_wp2_with fail
    go_end0
    refine ⟨rfl, pD .hav a, _, _, ?_, R1.out.far (fun e => HH.out.2.2 e.symm) _ _, K1.out.set1 _ _, fun q => ?_, fun _ => ⟨rfl, rfl, ?_⟩⟩
    · exact D1.out.set_ 8 _
    · have q' : a.size - 8 < 32 := q
      have := HH.out.1; omega
    · rw [sfx_size]
      show a.size - 40 = a.size - 8 - 32
      omega
  · have hs := (Short.fail (s := sfx a 8) (e := 0) (n := a.size - 8) (z := 32) (Or.inl ⟨rfl, sfx_size a 8⟩) (by omega))
    have HB : Hid (∀ w, Rd w c (sfx a 8) 0 → Calls Try.prog 57 #[.pointer (some ⟨c, 0, none⟩), .int .i64 32] w (GivesRd w c (.string (tkT (sfx a 8) 0 32 true)) (tkR (sfx a 8) 0 32 true) 4)) := Lib.hid fun w hr => by
      have h := bytes_any c (sfx a 8) 0 32 w hr (by rw [sfx_size]; omega)
      rw [show decide (0 ≤ (32 : Int)) = true from rfl, show tkE (sfx a 8) 0 32 true = 4 from hs] at h
      exact h
    have HD := Lib.hid hd
    have HR := Lib.hid hr
    have HH := Lib.hid (And.intro h (And.intro h8 hbc))
    clear hd hr ha h h8 hbc hs
    generalize tkT (sfx a 8) 0 32 true = X at *
    generalize tkR (sfx a 8) 0 32 true = Y at *
    go_enter Try.func46, Try.ntmps46
    go_wp2_with fail
    refine (HB.out _ HR.out).mono ?_; rintro e w1 ⟨rfl, hr1, hg1⟩
    have D1 := Lib.hid (HD.out.kept hg1 (by intro e; injection e with e; exact HH.out.2.2 e.symm))
    have c8 := D1.out.cell 8 rfl
    have f8 := D1.out.free 8
    have R1 := Lib.hid hr1
    have K1 := Lib.hid ((Kept2.refl w b c).grown2 hg1)
    clear hr1 hg1
    go_wp2_with fail
    go_end0
    refine ⟨rfl, { pD .bare a with has := X }, _, _, ?_, R1.out.far (fun e => HH.out.2.2 e.symm) _ _, K1.out.set1 _ _, fun _ => rfl, fun q => ?_⟩
    · exact D1.out.set_ 8 _
    · have q' : 32 ≤ a.size - 8 := q
      exact absurd q' (by have := HH.out.1; omega)
set_option maxHeartbeats 1600000 in
theorem read_cred (a : ByteArray) (b c : Nat) (w : World) (h8 : 8 ≤ a.size) (hd : At w b 29 (Dg.cells (pD .bare a))) (hr : Rd w c (sfx a 8) 0) (hbc : b ≠ c) : Calls Try.prog 50 #[.pointer (some ⟨b, 0, none⟩), .pointer (some ⟨c, 0, none⟩)] w (GivesFd w .cred a b c) := by
  by_cases h : 10 ≤ a.size
  · have HB : Hid (∀ w, Rd w c (sfx a 8) 0 → Calls Try.prog 56 #[.pointer (some ⟨c, 0, none⟩), .int .i64 2] w (GivesRd w c (.int .u32 (cutN a 8 10 : Nat)) (sfx a 10) 0)) := Lib.hid fun w hr => num_at c a 8 2 10 w hr rfl h (by simp)
    have hv := cutN_lt (a := a) (i := 8) (j := 10) (k := 2) (by omega) rfl
    have HP : Hid (pD .cred a = { pD .bare a with credit := (cutN a 8 10 : Nat) }) := Lib.hid rfl
    generalize cutN a 8 10 = v at *
    have v0 : (0 : Int) ≤ (v : Int) := Int.natCast_nonneg _
    have v1 : (v : Int) < 65536 := by omega
    have HD := Lib.hid hd
    have HR := Lib.hid hr
    have HH := Lib.hid (And.intro h (And.intro h8 hbc))
    clear hd hr h h8 hbc hv
    go_enter Try.func50, Try.ntmps50
    go_wp2_with fail
    refine (HB.out _ HR.out).mono ?_; rintro e w1 ⟨rfl, hr1, hg1⟩
    have D1 := Lib.hid (HD.out.kept hg1 (by intro e; injection e with e; exact HH.out.2.2 e.symm))
    have c8 := D1.out.cell 7 rfl
    have f8 := D1.out.free 7
    have R1 := Lib.hid hr1
    have K1 := Lib.hid ((Kept2.refl w b c).grown2 hg1)
    clear hr1 hg1
    go_wp2_with fail
    go_end0
    refine ⟨rfl, pD .cred a, _, _, ?_, R1.out.far (fun e => HH.out.2.2 e.symm) _ _, K1.out.set1 _ _, fun q => ?_, fun _ => ⟨rfl, rfl, ?_⟩⟩
    · rw [HP.out]; exact D1.out.set_ 7 _
    · have q' : a.size - 8 < 2 := q
      have := HH.out.1; omega
    · rw [sfx_size]
      show a.size - 10 = a.size - 8 - 2
      omega
  · have hs := (Short.fail (s := sfx a 8) (e := 0) (n := a.size - 8) (z := 2) (Or.inl ⟨rfl, sfx_size a 8⟩) (by omega))
    have HB : Hid (∀ w, Rd w c (sfx a 8) 0 → ∃ v : Nat, v < 4294967296 ∧ Calls Try.prog 56 #[.pointer (some ⟨c, 0, none⟩), .int .i64 2] w (GivesRd w c (.int .u32 v) (tkR (sfx a 8) 0 2 true) 4)) := Lib.hid fun w hr => by
      have h := num_short c (sfx a 8) 0 2 w hr (by simp)
      rw [hs] at h
      exact h
    obtain ⟨v, hv, hq⟩ := HB.out w hr
    have HN := Lib.hid hq
    have v0 : (0 : Int) ≤ (v : Int) := Int.natCast_nonneg _
    have v1 : (v : Int) < 4294967296 := by omega
    have HD := Lib.hid hd
    have HR := Lib.hid hr
    have HH := Lib.hid (And.intro h (And.intro h8 hbc))
    clear hd hr h h8 hbc hs hv hq HB
    generalize tkR (sfx a 8) 0 2 true = Y at *
    go_enter Try.func50, Try.ntmps50
    go_wp2_with fail
    refine HN.out.mono ?_; rintro e w1 ⟨rfl, hr1, hg1⟩
    have D1 := Lib.hid (HD.out.kept hg1 (by intro e; injection e with e; exact HH.out.2.2 e.symm))
    have c8 := D1.out.cell 7 rfl
    have f8 := D1.out.free 7
    have R1 := Lib.hid hr1
    have K1 := Lib.hid ((Kept2.refl w b c).grown2 hg1)
    clear hr1 hg1
    go_wp2_with fail
    go_end0
    refine ⟨rfl, { pD .bare a with credit := (v : Int) }, _, _, ?_, R1.out.far (fun e => HH.out.2.2 e.symm) _ _, K1.out.set1 _ _, fun _ => rfl, fun q => ?_⟩
    · exact D1.out.set_ 7 _
    · have q' : 2 ≤ a.size - 8 := q
      exact absurd q' (by have := HH.out.1; omega)
end Go.Proofs.Ytmnbkghihdbepaa

/- Proved: what the function of a shard's layout that reads its own fields leaves, and that of any layout. Conditions: those that the theorems name. -/
namespace Go.Proofs.Ytmnbkghihdbepaa
open Go.ChangeShapes Go.WideShapes Go.ChangeAt Go.RowKit

set_option maxRecDepth 100000 in
set_option maxHeartbeats 3200000 in
theorem read_shard_ok (a : ByteArray) (b c : Nat) (w : World) (ha : a.size ≤ 281474976710656) (h : 13 ≤ a.size) (hd : At w b 29 (Dg.cells (pD .bare a))) (hr : Rd w c (sfx a 8) 0) (hbc : b ≠ c) : Calls Try.prog 42 #[.pointer (some ⟨b, 0, none⟩), .pointer (some ⟨c, 0, none⟩)] w (GivesFd w .shard a b c) := by
  have HI : Hid (∀ w, Rd w c (sfx a 8) 0 → Calls Try.prog 56 #[.pointer (some ⟨c, 0, none⟩), .int .i64 1] w (GivesRd w c (.int .u32 (cutN a 8 9 : Nat)) (sfx a 9) 0)) := Lib.hid fun w hr => num_at c a 8 1 9 w hr rfl (by omega) (by simp)
  have HK : Hid (∀ w, Rd w c (sfx a 9) 0 → Calls Try.prog 56 #[.pointer (some ⟨c, 0, none⟩), .int .i64 1] w (GivesRd w c (.int .u32 (cutN a 9 10 : Nat)) (sfx a 10) 0)) := Lib.hid fun w hr => num_at c a 9 1 10 w hr rfl (by omega) (by simp)
  have HN : Hid (∀ w, Rd w c (sfx a 10) 0 → Calls Try.prog 56 #[.pointer (some ⟨c, 0, none⟩), .int .i64 1] w (GivesRd w c (.int .u32 (cutN a 10 11 : Nat)) (sfx a 11) 0)) := Lib.hid fun w hr => num_at c a 10 1 11 w hr rfl (by omega) (by simp)
  have HL : Hid (∀ w, Rd w c (sfx a 11) 0 → Calls Try.prog 56 #[.pointer (some ⟨c, 0, none⟩), .int .i64 2] w (GivesRd w c (.int .u32 (cutN a 11 13 : Nat)) (sfx a 13) 0)) := Lib.hid fun w hr => num_at c a 11 2 13 w hr rfl (by omega) (by simp)
  have HF : Hid (∀ w, Rd w c (sfx a 13) 0 → Calls Try.prog 58 #[.pointer (some ⟨c, 0, none⟩)] w fun e' w' => e' = .returned (.int .i64 (a.size - 13 : Nat)) ∧ w = w') := Lib.hid fun w hr => by
    have h := left_any c _ _ w hr
    rwa [sfx_size] at h
  have HB : Hid (∀ w, Rd w c (sfx a 13) 0 → Calls Try.prog 57 #[.pointer (some ⟨c, 0, none⟩), .int .i64 (a.size - 13 : Nat)] w (GivesRd w c (.string (a.extract 13 a.size)) (sfx a a.size) 0)) := Lib.hid fun w hr => bytes_at c a 13 (a.size - 13) a.size w hr (by omega) (Nat.le_refl _) ha
  have hvi := cutN_lt (a := a) (i := 8) (j := 9) (k := 1) (by omega) rfl
  have hvk := cutN_lt (a := a) (i := 9) (j := 10) (k := 1) (by omega) rfl
  have hvn := cutN_lt (a := a) (i := 10) (j := 11) (k := 1) (by omega) rfl
  have hvl := cutN_lt (a := a) (i := 11) (j := 13) (k := 2) (by omega) rfl
  have HP : Hid (Dg.cells (pD .shard a) = [.int .i64 (cutN a 2 3 : Nat), .int .i64 (cutN a 3 4 : Nat), .int .u32 (cutN a 4 8 : Nat), .int .i64 (cutN a 8 9 : Nat), .int .i64 (cutN a 9 10 : Nat), .int .i64 (cutN a 10 11 : Nat), .int .i64 ((cutN a 11 13 : Nat) + 1), .int .i64 0, .string S0, .string (a.extract 13 a.size)]) := Lib.hid rfl
  generalize cutN a 8 9 = vi at *
  generalize cutN a 9 10 = vk at *
  generalize cutN a 10 11 = vn at *
  generalize cutN a 11 13 = vl at *
  generalize a.extract 13 a.size = X at *
  have i0 : (0 : Int) ≤ (vi : Int) := Int.natCast_nonneg _
  have i1 : (vi : Int) < 256 := by omega
  have k0 : (0 : Int) ≤ (vk : Int) := Int.natCast_nonneg _
  have k1 : (vk : Int) < 256 := by omega
  have n0 : (0 : Int) ≤ (vn : Int) := Int.natCast_nonneg _
  have n1 : (vn : Int) < 256 := by omega
  have l0 : (0 : Int) ≤ (vl : Int) := Int.natCast_nonneg _
  have l1 : (vl : Int) < 65536 := by omega
  have HD := Lib.hid hd
  have HR := Lib.hid hr
  have HH := Lib.hid (And.intro h hbc)
  generalize a.size - 13 = lf at *
  clear hd hr h hbc ha hvi hvk hvn hvl
  go_enter Try.func42, Try.ntmps42
  go_wp2_with fail
  refine (HI.out _ HR.out).mono ?_; rintro e w1 ⟨rfl, hr1, hg1⟩
  have D1 := Lib.hid (HD.out.kept hg1 (by intro e; injection e with e; exact HH.out.2 e.symm))
  have R1 := Lib.hid hr1
  have K1 := Lib.hid ((Kept2.refl w b c).grown2 hg1)
  clear hr1 hg1
  go_wp2_with fail
  refine (HK.out _ R1.out).mono ?_; rintro e w2 ⟨rfl, hr1, hg1⟩
  have D2 := Lib.hid (D1.out.kept hg1 (by intro e; injection e with e; exact HH.out.2 e.symm))
  have R2 := Lib.hid hr1
  have K2 := Lib.hid (K1.out.grown2 hg1)
  clear hr1 hg1
  go_wp2_with fail
  refine (HN.out _ R2.out).mono ?_; rintro e w3 ⟨rfl, hr1, hg1⟩
  have D3 := Lib.hid (D2.out.kept hg1 (by intro e; injection e with e; exact HH.out.2 e.symm))
  have R3 := Lib.hid hr1
  have K3 := Lib.hid (K2.out.grown2 hg1)
  have c3 := D3.out.cell 3 rfl
  have c4 := D3.out.cell 4 rfl
  have c5 := D3.out.cell 5 rfl
  have f3 := D3.out.free 3
  have f4 := D3.out.free 4
  have f5 := D3.out.free 5
  clear hr1 hg1
  go_wp2_with fail
  have D4 := Lib.hid (((D3.out.set_ 3 (.int .i64 vi)).set_ 4 (.int .i64 vk)).set_ 5 (.int .i64 vn))
  have R4 := Lib.hid (((R3.out.far (fun e => HH.out.2 e.symm) 3 (.int .i64 vi)).far (fun e => HH.out.2 e.symm) 4 (.int .i64 vk)).far (fun e => HH.out.2 e.symm) 5 (.int .i64 vn))
  have K4 := Lib.hid (((K3.out.set1 3 (.int .i64 vi)).set1 4 (.int .i64 vk)).set1 5 (.int .i64 vn))
  generalize ((w3.setCell ⟨b, 3, none⟩ (.int .i64 vi)).setCell ⟨b, 4, none⟩ (.int .i64 vk)).setCell ⟨b, 5, none⟩ (.int .i64 vn) = w4 at *
  clear c3 c4 c5 f3 f4 f5
  refine (HL.out _ R4.out).mono ?_; rintro e w5 ⟨rfl, hr1, hg1⟩
  have D5 := Lib.hid (D4.out.kept hg1 (by intro e; injection e with e; exact HH.out.2 e.symm))
  have R5 := Lib.hid hr1
  have K5 := Lib.hid (K4.out.grown2 hg1)
  have c6 := D5.out.cell 6 rfl
  have f6 := D5.out.free 6
  clear hr1 hg1
  go_wp2_with fail
  have D6 := Lib.hid (D5.out.set_ 6 (.int .i64 ((vl : Int) + 1)))
  have R6 := Lib.hid (R5.out.far (fun e => HH.out.2 e.symm) 6 (.int .i64 ((vl : Int) + 1)))
  have K6 := Lib.hid (K5.out.set1 6 (.int .i64 ((vl : Int) + 1)))
  generalize w5.setCell ⟨b, 6, none⟩ (.int .i64 ((vl : Int) + 1)) = w6 at *
  clear c6 f6
  refine (HF.out _ R6.out).mono ?_; rintro e w7 ⟨rfl, rfl⟩
  go_wp2_with fail
  refine (HB.out _ R6.out).mono ?_; rintro e w8 ⟨rfl, hr1, hg1⟩
  have D8 := Lib.hid (D6.out.kept hg1 (by intro e; injection e with e; exact HH.out.2 e.symm))
  have R8 := Lib.hid hr1
  have K8 := Lib.hid (K6.out.grown2 hg1)
  have c9 := D8.out.cell 9 rfl
  have f9 := D8.out.free 9
  clear hr1 hg1
  go_wp2_with fail
  go_end0
  refine ⟨rfl, pD .shard a, _, _, ?_, R8.out.far (fun e => HH.out.2 e.symm) _ _, K8.out.set1 _ _, fun q => ?_, fun _ => ⟨rfl, rfl, ?_⟩⟩
  · rw [HP.out]; exact D8.out.set_ 9 _
  · have q' : a.size - 8 < 5 := q
    have := HH.out.1; omega
  · rw [sfx_size]
    show a.size - a.size = 0
    omega
set_option maxRecDepth 100000 in
set_option maxHeartbeats 3200000 in
theorem read_shard_no (a : ByteArray) (b c : Nat) (w : World) (h8 : 8 ≤ a.size) (h : a.size < 13) (hd : At w b 29 (Dg.cells (pD .bare a))) (hr : Rd w c (sfx a 8) 0) (hbc : b ≠ c) : Calls Try.prog 42 #[.pointer (some ⟨b, 0, none⟩), .pointer (some ⟨c, 0, none⟩)] w (GivesFd w .shard a b c) := by
  have HN : Hid (∀ w s e, Rd w c s e → ∃ v : Nat, v < 4294967296 ∧ Calls Try.prog 56 #[.pointer (some ⟨c, 0, none⟩), .int .i64 1] w (GivesRd w c (.int .u32 v) (tkR s e 1 true) (tkE s e 1 true))) := Lib.hid fun w s e hr => num_short c s e 1 w hr (by simp)
  have HL : Hid (∀ w s e, Rd w c s e → ∃ v : Nat, v < 4294967296 ∧ Calls Try.prog 56 #[.pointer (some ⟨c, 0, none⟩), .int .i64 2] w (GivesRd w c (.int .u32 v) (tkR s e 2 true) (tkE s e 2 true))) := Lib.hid fun w s e hr => num_short c s e 2 w hr (by simp)
  have HF : Hid (∀ w s e, Rd w c s e → Calls Try.prog 58 #[.pointer (some ⟨c, 0, none⟩)] w fun e' w' => e' = .returned (.int .i64 (s.size : Nat)) ∧ w = w') := Lib.hid fun w s e hr => left_any c s e w hr
  have HB : Hid (∀ w s (z : Int), s.size ≤ 281474976710656 → Rd w c s 4 → ∃ t s', Calls Try.prog 57 #[.pointer (some ⟨c, 0, none⟩), .int .i64 z] w (GivesRd w c (.string t) s' 4)) := Lib.hid fun w s z hs hr => by
    have h := bytes_any c s 4 z w hr hs
    rw [stay4] at h
    exact ⟨_, _, h⟩
  -- what the reader holds behind each number
  have s0 : Short (sfx a 8) 0 (a.size - 8) := Or.inl ⟨rfl, sfx_size a 8⟩
  have hsz : (sfx a 8).size ≤ 100 := by rw [sfx_size]; omega
  obtain ⟨r1, hr1⟩ : ∃ r, r = tkR (sfx a 8) 0 1 true := ⟨_, rfl⟩
  obtain ⟨e1, he1⟩ : ∃ r, r = tkE (sfx a 8) 0 1 true := ⟨_, rfl⟩
  obtain ⟨r2, hr2⟩ : ∃ r, r = tkR r1 e1 1 true := ⟨_, rfl⟩
  obtain ⟨e2, he2⟩ : ∃ r, r = tkE r1 e1 1 true := ⟨_, rfl⟩
  obtain ⟨r3, hr3⟩ : ∃ r, r = tkR r2 e2 1 true := ⟨_, rfl⟩
  obtain ⟨e3, he3⟩ : ∃ r, r = tkE r2 e2 1 true := ⟨_, rfl⟩
  obtain ⟨r4, hr4⟩ : ∃ r, r = tkR r3 e3 2 true := ⟨_, rfl⟩
  have z1 : r1.size ≤ 100 := by rw [hr1]; exact Nat.le_trans (tkR_size _ _ _ _) hsz
  have z2 : r2.size ≤ 100 := by rw [hr2]; exact Nat.le_trans (tkR_size _ _ _ _) z1
  have z3 : r3.size ≤ 100 := by rw [hr3]; exact Nat.le_trans (tkR_size _ _ _ _) z2
  have z4 : r4.size ≤ 100 := by rw [hr4]; exact Nat.le_trans (tkR_size _ _ _ _) z3
  have e4 : tkE r3 e3 2 true = 4 := by
    have q4 : ∀ s, tkE s 4 1 true = 4 := fun s => stay4 s 1 true
    by_cases g1 : 1 ≤ a.size - 8
    · have s1 : Short r1 e1 (a.size - 8 - 1) := by rw [hr1, he1]; exact s0.step g1
      by_cases g2 : 1 ≤ a.size - 8 - 1
      · have s2 : Short r2 e2 (a.size - 8 - 1 - 1) := by rw [hr2, he2]; exact s1.step g2
        by_cases g3 : 1 ≤ a.size - 8 - 1 - 1
        · have s3 : Short r3 e3 (a.size - 8 - 1 - 1 - 1) := by rw [hr3, he3]; exact s2.step g3
          exact s3.fail (z := 2) (by omega)
        · have : e3 = 4 := by rw [he3]; exact s2.fail (z := 1) (by omega)
          rw [this]; exact stay4 _ _ _
      · have e2' : e2 = 4 := by rw [he2]; exact s1.fail (z := 1) (by omega)
        have : e3 = 4 := by rw [he3, e2']; exact q4 _
        rw [this]; exact stay4 _ _ _
    · have e1' : e1 = 4 := by rw [he1]; exact s0.fail (z := 1) (by omega)
      have e2' : e2 = 4 := by rw [he2, e1']; exact q4 _
      have : e3 = 4 := by rw [he3, e2']; exact q4 _
      rw [this]; exact stay4 _ _ _
  have HS1 : Hid (tkR (sfx a 8) 0 1 true = r1 ∧ tkE (sfx a 8) 0 1 true = e1) := Lib.hid ⟨hr1.symm, he1.symm⟩
  have HS2 : Hid (tkR r1 e1 1 true = r2 ∧ tkE r1 e1 1 true = e2) := Lib.hid ⟨hr2.symm, he2.symm⟩
  have HS3 : Hid (tkR r2 e2 1 true = r3 ∧ tkE r2 e2 1 true = e3) := Lib.hid ⟨hr3.symm, he3.symm⟩
  have HS4 : Hid (tkR r3 e3 2 true = r4 ∧ tkE r3 e3 2 true = 4) := Lib.hid ⟨hr4.symm, e4⟩
  have HZ : Hid (r4.size ≤ 100) := Lib.hid z4
  clear hr1 he1 hr2 he2 hr3 he3 hr4 e4 z1 z2 z3 z4 s0 hsz
  have HD := Lib.hid hd
  have HR := Lib.hid hr
  have HH := Lib.hid (And.intro h (And.intro h8 hbc))
  clear hd hr h h8 hbc
  go_enter Try.func42, Try.ntmps42
  go_wp2_with fail
  obtain ⟨vi, hvi, hcl⟩ := HN.out _ _ _ HR.out
  rw [HS1.out.1, HS1.out.2] at hcl
  have i0 : (0 : Int) ≤ (vi : Int) := Int.natCast_nonneg _
  have i1 : (vi : Int) < 4294967296 := by omega
  clear hvi
  refine hcl.mono ?_; rintro e w1 ⟨rfl, hr1, hg1⟩
  clear hcl
  have D1 := Lib.hid (HD.out.kept hg1 (by intro e; injection e with e; exact HH.out.2.2 e.symm))
  have R1 := Lib.hid hr1
  have K1 := Lib.hid ((Kept2.refl w b c).grown2 hg1)
  clear hr1 hg1
  go_wp2_with fail
  obtain ⟨vk, hvk, hcl⟩ := HN.out _ _ _ R1.out
  rw [HS2.out.1, HS2.out.2] at hcl
  have k0 : (0 : Int) ≤ (vk : Int) := Int.natCast_nonneg _
  have k1 : (vk : Int) < 4294967296 := by omega
  clear hvk
  refine hcl.mono ?_; rintro e w2 ⟨rfl, hr1, hg1⟩
  clear hcl
  have D2 := Lib.hid (D1.out.kept hg1 (by intro e; injection e with e; exact HH.out.2.2 e.symm))
  have R2 := Lib.hid hr1
  have K2 := Lib.hid (K1.out.grown2 hg1)
  clear hr1 hg1
  go_wp2_with fail
  obtain ⟨vn, hvn, hcl⟩ := HN.out _ _ _ R2.out
  rw [HS3.out.1, HS3.out.2] at hcl
  have n0 : (0 : Int) ≤ (vn : Int) := Int.natCast_nonneg _
  have n1 : (vn : Int) < 4294967296 := by omega
  clear hvn
  refine hcl.mono ?_; rintro e w3 ⟨rfl, hr1, hg1⟩
  clear hcl
  have D3 := Lib.hid (D2.out.kept hg1 (by intro e; injection e with e; exact HH.out.2.2 e.symm))
  have R3 := Lib.hid hr1
  have K3 := Lib.hid (K2.out.grown2 hg1)
  have c3 := D3.out.cell 3 rfl
  have c4 := D3.out.cell 4 rfl
  have c5 := D3.out.cell 5 rfl
  have f3 := D3.out.free 3
  have f4 := D3.out.free 4
  have f5 := D3.out.free 5
  clear hr1 hg1
  go_wp2_with fail
  have D4 := Lib.hid (((D3.out.set_ 3 (.int .i64 vi)).set_ 4 (.int .i64 vk)).set_ 5 (.int .i64 vn))
  have R4 := Lib.hid (((R3.out.far (fun e => HH.out.2.2 e.symm) 3 (.int .i64 vi)).far (fun e => HH.out.2.2 e.symm) 4 (.int .i64 vk)).far (fun e => HH.out.2.2 e.symm) 5 (.int .i64 vn))
  have K4 := Lib.hid (((K3.out.set1 3 (.int .i64 vi)).set1 4 (.int .i64 vk)).set1 5 (.int .i64 vn))
  generalize ((w3.setCell ⟨b, 3, none⟩ (.int .i64 vi)).setCell ⟨b, 4, none⟩ (.int .i64 vk)).setCell ⟨b, 5, none⟩ (.int .i64 vn) = w4 at *
  clear c3 c4 c5 f3 f4 f5
  obtain ⟨vl, hvl, hcl⟩ := HL.out _ _ _ R4.out
  rw [HS4.out.1, HS4.out.2] at hcl
  have l0 : (0 : Int) ≤ (vl : Int) := Int.natCast_nonneg _
  have l1 : (vl : Int) < 4294967296 := by omega
  clear hvl
  refine hcl.mono ?_; rintro e w5 ⟨rfl, hr1, hg1⟩
  clear hcl
  have D5 := Lib.hid (D4.out.kept hg1 (by intro e; injection e with e; exact HH.out.2.2 e.symm))
  have R5 := Lib.hid hr1
  have K5 := Lib.hid (K4.out.grown2 hg1)
  have c6 := D5.out.cell 6 rfl
  have f6 := D5.out.free 6
  clear hr1 hg1
  go_wp2_with fail
  have D6 := Lib.hid (D5.out.set_ 6 (.int .i64 ((vl : Int) + 1)))
  have R6 := Lib.hid (R5.out.far (fun e => HH.out.2.2 e.symm) 6 (.int .i64 ((vl : Int) + 1)))
  have K6 := Lib.hid (K5.out.set1 6 (.int .i64 ((vl : Int) + 1)))
  generalize w5.setCell ⟨b, 6, none⟩ (.int .i64 ((vl : Int) + 1)) = w6 at *
  clear c6 f6
  refine (HF.out _ _ _ R6.out).mono ?_; rintro e w7 ⟨rfl, rfl⟩
  go_wp2_with fail
  obtain ⟨t, s', hcl⟩ := HB.out _ _ (r4.size : Nat) (by have := HZ.out; omega) R6.out
  refine hcl.mono ?_; rintro e w8 ⟨rfl, hr1, hg1⟩
  clear hcl
  have D8 := Lib.hid (D6.out.kept hg1 (by intro e; injection e with e; exact HH.out.2.2 e.symm))
  have R8 := Lib.hid hr1
  have K8 := Lib.hid (K6.out.grown2 hg1)
  have c9 := D8.out.cell 9 rfl
  have f9 := D8.out.free 9
  clear hr1 hg1
  go_wp2_with fail
  go_end0
  refine ⟨rfl, ⟨cutN a 2 3, cutN a 3 4, cutN a 4 8, vi, vk, vn, (vl : Int) + 1, 0, S0, t⟩, _, _, ?_, R8.out.far (fun e => HH.out.2.2 e.symm) _ _, K8.out.set1 _ _, fun _ => rfl, fun q => ?_⟩
  · exact D8.out.set_ 9 _
  · have q' : 5 ≤ a.size - 8 := q
    exact absurd q' (by have := HH.out.1; omega)
/-- the fields of any layout. -/
theorem gread_any (g : Grp) (a : ByteArray) (b c : Nat) (w : World) (ha : a.size ≤ 281474976710656) (h8 : 8 ≤ a.size) (hd : At w b 29 (Dg.cells (pD .bare a))) (hr : Rd w c (sfx a 8) 0) (hbc : b ≠ c) : Calls Try.prog (fRead g) #[.pointer (some ⟨b, 0, none⟩), .pointer (some ⟨c, 0, none⟩)] w (GivesFd w g a b c) := by
  cases g with
  | shard =>
    by_cases h : 13 ≤ a.size
    · exact read_shard_ok a b c w ha h hd hr hbc
    · exact read_shard_no a b c w h8 (by omega) hd hr hbc
  | hav => exact read_hav a b c w ha h8 hd hr hbc
  | cred => exact read_cred a b c w h8 hd hr hbc
  | bare => exact read_bare a b c w hd hr
end Go.Proofs.Ytmnbkghihdbepaa

/- Proved: lemmas of one statement's proof, merged by program: what each part proves stands ahead of it. Conditions: those that the lemmas name. -/
import Derived.Test.YtooegclblgeicaaGreatDoorM19
import Derived.Deep.QuietTactic
import Derived.BigQuiet

/- Proved: what Encode and Shard of package rs answer for all texts and every two ints. Conditions: those that the theorems name. -/
namespace Go.Proofs.YtooegclblgeicaaGreatDoor
open Go.ChangeShapes Go.WideShapes Go.ChangeAt Go.RowKit

def Fits (s : ByteArray) : Prop := 1 ≤ s.size ∧ s.size ≤ 1024
instance (s : ByteArray) : Decidable (Fits s) := by unfold Fits; infer_instance
/-- check's error. -/
def dErr (l : List ByteArray) : Nat :=
  if 1 ≤ l.length ∧ l.length ≤ 32 then (if Fits (st_ l 0) then (if ∀ i, i < l.length → (st_ l i).size = (st_ l 0).size then 0 else 16) else 3) else 1
theorem dErr_len {l : List ByteArray} (h : ¬ (1 ≤ l.length ∧ l.length ≤ 32)) : dErr l = 1 := if_neg h
theorem dErr_long {l : List ByteArray} (h : 1 ≤ l.length ∧ l.length ≤ 32) (g : ¬ Fits (st_ l 0)) : dErr l = 3 := by unfold dErr; rw [if_pos h, if_neg g]
theorem dErr_unlike {l : List ByteArray} (h : 1 ≤ l.length ∧ l.length ≤ 32) (g : Fits (st_ l 0)) {i : Nat} (hi : i < l.length) (hs : (st_ l i).size ≠ (st_ l 0).size) : dErr l = 16 := by
  unfold dErr; rw [if_pos h, if_pos g, if_neg (fun q => hs (q i hi))]
theorem dErr_ok {l : List ByteArray} (h : 1 ≤ l.length ∧ l.length ≤ 32) (g : Fits (st_ l 0)) (hs : ∀ i, i < l.length → (st_ l i).size = (st_ l 0).size) : dErr l = 0 := by
  unfold dErr; rw [if_pos h, if_pos g, if_pos hs]
theorem dErr_zero {l : List ByteArray} (h : dErr l = 0) : (1 ≤ l.length ∧ l.length ≤ 32) ∧ Fits (st_ l 0) ∧ ∀ i, i < l.length → (st_ l i).size = (st_ l 0).size := by
  unfold dErr at h
  split at h
  · split at h
    · split at h
      · exact ⟨‹_›, ‹_›, ‹_›⟩
      · exact absurd h (by decide)
    · exact absurd h (by decide)
  · exact absurd h (by decide)

set_option maxHeartbeats 400000 in
theorem sfits_yes (s : ByteArray) (h : Fits s) (w : World) :
    Calls Tryz.prog 43 #[.string s] w fun e w' => e = .returned (.bool true) ∧ w = w' := by
  have h1 : (s.size : Int) ≥ 1 := by have := h.1; omega
  have h2 : (s.size : Int) ≤ 1024 := by have := h.2; omega
  clear h
  go_enter Tryz.func43, Tryz.ntmps43
  go_wp2_with fail
  go_ret
  exact ⟨rfl, rfl⟩
set_option maxHeartbeats 400000 in
theorem sfits_no (s : ByteArray) (h : ¬ Fits s) (w : World) :
    Calls Tryz.prog 43 #[.string s] w fun e w' => e = .returned (.bool false) ∧ w = w' := by
  unfold Fits at h
  by_cases h1 : (s.size : Int) ≥ 1
  · have h2 : ¬ (s.size : Int) ≤ 1024 := by omega
    clear h
    go_enter Tryz.func43, Tryz.ntmps43
    go_wp2_with fail
    go_ret
    exact ⟨rfl, rfl⟩
  · clear h
    go_enter Tryz.func43, Tryz.ntmps43
    go_wp2_with fail
    go_ret
    exact ⟨rfl, rfl⟩

set_option maxHeartbeats 400000 in
theorem scheck_len (A : Option Addr) (n c : Nat) (w : World) (h : ¬ (1 ≤ n ∧ n ≤ 32)) :
    Calls Tryz.prog 25 #[.slice A n c] w fun e w' => e = .returned (.int .i64 1) ∧ w = w' := by
  by_cases h1 : (n : Int) < 1
  · clear h
    go_enter Tryz.func25, Tryz.ntmps25
    go_wp2_with fail
    go_ret
    exact ⟨rfl, rfl⟩
  · have h2 : (n : Int) > 32 := by omega
    clear h
    go_enter Tryz.func25, Tryz.ntmps25
    go_wp2_with fail
    go_ret
    exact ⟨rfl, rfl⟩
set_option maxHeartbeats 400000 in
theorem scheck_long (A : Option Addr) (n c : Nat) (l : List ByteArray) (w : World) (hl : Ss w A n l) (h : 1 ≤ n ∧ n ≤ 32) (g : ¬ Fits (st_ l 0)) :
    Calls Tryz.prog 25 #[.slice A n c] w fun e w' => e = .returned (.int .i64 3) ∧ w = w' := by
  obtain ⟨ad, rfl, had, hac⟩ := hl.at_ (k := 0) h.1
  rw [Addr.add_zero' ad] at hac
  have HF := Lib.hid (sfits_no _ g w)
  have h1 : ¬ (n : Int) < 1 := by omega
  have h2 : ¬ (n : Int) > 32 := by omega
  have h3 : (0 : Int) < (n : Int) := by omega
  clear hl h g
  generalize st_ l 0 = s at *
  go_enter Tryz.func25, Tryz.ntmps25
  go_wp2_with (go_at_call 43; refine HF.out.mono ?_; rintro e w' ⟨rfl, rfl⟩)
  go_ret
  exact ⟨rfl, rfl⟩
set_option maxHeartbeats 800000 in
theorem scheck_rest (A : Option Addr) (n c : Nat) (l : List ByteArray) (w : World) (hl : Ss w A n l) (h : 1 ≤ n ∧ n ≤ 32) (g : Fits (st_ l 0)) :
    Calls Tryz.prog 25 #[.slice A n c] w fun e w' => e = .returned (.int .i64 (dErr l : Nat)) ∧ w = w' := by
  obtain ⟨ad, rfl, had, hac⟩ := hl.at_ (k := 0) h.1
  rw [Addr.add_zero' ad] at hac
  have HF := Lib.hid (sfits_yes _ g w)
  have HL := Lib.hid hl
  have HG := Lib.hid g
  have h1 : ¬ (n : Int) < 1 := by omega
  have h2 : ¬ (n : Int) > 32 := by omega
  have h3 : (0 : Int) < (n : Int) := by omega
  have HH : Hid (1 ≤ l.length ∧ l.length ≤ 32) := Lib.hid (by rw [hl.len]; exact h)
  have HLen := Lib.hid hl.len
  clear hl h g
  generalize hs0 : st_ l 0 = s0 at *
  have HS0 := Lib.hid hs0
  clear hs0
  go_enter Tryz.func25, Tryz.ntmps25
  go_wp2_with (go_at_call 43; refine HF.out.mono ?_; rintro e w' ⟨rfl, rfl⟩)
  go_loop [20] (fun v => ∃ q : Nat, q ≤ n ∧ v = .int .i64 q ∧ ∀ i, i < q → (st_ l i).size = s0.size) (fun v => n - (intOf v).toNat)
  case atStart => exact ⟨0, by omega, rfl, fun i h => absurd h (by omega)⟩
  case round =>
    obtain ⟨q, hq, rfl, hi⟩ := hrel
    have HI := Lib.hid hi
    clear hi
    by_cases hlt : q < n
    · have hlt' : (q : Int) < (n : Int) := by omega
      have hq0 : (0 : Int) ≤ (q : Int) := Int.natCast_nonneg _
      obtain ⟨ad', e', _, hqc⟩ := HL.out.at_ hlt
      cases e'
      generalize hs : st_ l q = s at *
      have HS := Lib.hid hs
      clear hs
      by_cases hsz : s.size = s0.size
      · have HZ := Lib.hid hsz
        have hsz1 : ((s.size : Int) != (s0.size : Int)) = false := by simp; omega
        clear hsz
        go_wp2_with fail
        go_round
        case rel => exact ⟨q + 1, by omega, by go_num, fun i hi => by
          rcases Nat.lt_or_ge i q with h | h
          · exact HI.out i h
          · rw [show i = q by omega, HS.out]; exact HZ.out⟩
        case measure => simp [intOf]; omega
      · have HD : Hid (dErr l = 16) := Lib.hid (dErr_unlike HH.out (by rw [HS0.out]; exact HG.out) (i := q) (by rw [HLen.out]; exact hlt) (by rw [HS.out, HS0.out]; exact hsz))
        have hsz1 : ((s.size : Int) != (s0.size : Int)) = true := by simp; omega
        clear hsz
        go_wp2_with fail
        go_ret
        exact ⟨by rw [HD.out]; rfl, rfl⟩
    · obtain rfl : q = n := by omega
      have HD : Hid (dErr l = 0) := Lib.hid (dErr_ok HH.out (by rw [HS0.out]; exact HG.out) (fun i hi => by rw [HS0.out]; exact HI.out i (by rw [← HLen.out]; exact hi)))
      go_wp2_with fail
      go_ret
      exact ⟨by rw [HD.out]; rfl, rfl⟩
theorem scheck_any (A : Option Addr) (n c : Nat) (l : List ByteArray) (w : World) (hl : Ss w A n l) :
    Calls Tryz.prog 25 #[.slice A n c] w fun e w' => e = .returned (.int .i64 (dErr l : Nat)) ∧ w = w' := by
  by_cases h : 1 ≤ n ∧ n ≤ 32
  · by_cases g : Fits (st_ l 0)
    · exact scheck_rest A n c l w hl h g
    · rw [dErr_long (by rw [hl.len]; exact h) g]; exact scheck_long A n c l w hl h g
  · rw [dErr_len (by rw [hl.len]; exact h)]; exact scheck_len A n c w h

/-! ### Encode and Shard -/
/-- Texts come back, and the error k; nothing that was there has turned. -/
def GivesSE (W : World) (l : List ByteArray) (k : Nat) (e : Ending) (w' : World) : Prop :=
  ∃ A n c, e = .returned (.tuple #[.slice A n c, .int .i64 (k : Nat)]) ∧ Ss w' A n l ∧ Below W.heap.size W w'
def eErr (l : List ByteArray) (n : Int) : Nat := if dErr l = 0 then aErr l.length n else dErr l
def eOut (l : List ByteArray) (n : Int) : List ByteArray :=
  if eErr l n = 0 then txS (mulL n.toNat l.length (st_ l 0).size (rowsC l.length (upL n.toNat)) (tabS l)) else []

set_option maxHeartbeats 800000 in
theorem encode_bad (A : Option Addr) (k c : Nat) (l : List ByteArray) (n : Int) (w : World) (hl : Ss w A k l) (h : dErr l ≠ 0) :
    Calls Tryz.prog 16 #[.slice A k c, .int .i64 n] w (GivesSE w [] (dErr l)) := by
  have HC := Lib.hid (scheck_any A k c l w hl)
  generalize dErr l = z at *
  have hz : ((z : Int) != 0) = true := by simp; omega
  have hz2 : ¬ (z : Int) = 0 := by omega
  clear hl h
  go_enter Tryz.func16, Tryz.ntmps16
  go_wp2_with (go_at_call 25; refine HC.out.mono ?_; rintro e w' ⟨rfl, rfl⟩)
  go_ret2
  exact ⟨_, _, _, rfl, Ss.nil _ _, Below.refl _ _⟩

set_option maxHeartbeats 800000 in
theorem encode_no (A : Option Addr) (k c : Nat) (l : List ByteArray) (n : Int) (w : World) (hl : Ss w A k l) (h : dErr l = 0) (hn : aErr k n ≠ 0) :
    Calls Tryz.prog 16 #[.slice A k c, .int .i64 n] w (GivesSE w [] (aErr k n)) := by
  have HC := scheck_any A k c l w hl
  rw [h] at HC
  have HC' := Lib.hid HC
  have HR := Lib.hid (fun W => rows_any k n W)
  generalize aErr k n = z at *
  generalize aRows k n = t at *
  have hz : ((z : Int) != 0) = true := by simp; omega
  have hz2 : ¬ (z : Int) = 0 := by omega
  clear hl h hn HC
  go_enter Tryz.func16, Tryz.ntmps16
  go_wp2_with (first
    | (go_at_call 25; refine HC'.out.mono ?_; rintro e w' ⟨rfl, rfl⟩)
    | (go_at_call 26; refine (HR.out _).mono ?_; rintro e w' ⟨A1, n1, c1, rfl, _, hw⟩; have HW := Lib.hid hw; clear hw))
  go_ret2
  exact ⟨_, _, _, rfl, Ss.nil _ _, HW.out⟩

set_option maxHeartbeats 1600000 in
theorem encode_good (A : Option Addr) (k c n : Nat) (l : List ByteArray) (w : World) (hl : Ss w A k l) (h : dErr l = 0) (hn : ¬ NoTab k n) :
    Calls Tryz.prog 16 #[.slice A k c, .int .i64 (n : Nat)] w (GivesSE w (txS (mulL n k (st_ l 0).size (rowsC k (upL n)) (tabS l))) 0) := by
  have HC := scheck_any A k c l w hl
  rw [h] at HC
  have HC' := Lib.hid HC
  have HR := fun W => rows_any k n W
  have e1 : aErr k n = 0 := if_neg hn
  have e2 : aRows k n = rowsC k (upL n) := if_neg hn
  rw [e1, e2] at HR
  have HR' := Lib.hid HR
  obtain ⟨h1, h2, h3⟩ := dErr_zero h
  rw [hl.len] at h1 h3
  have hnt : 1 ≤ k ∧ k ≤ n ∧ n ≤ 255 := by unfold NoTab at hn; omega
  have hlu : (upL n).length = n := upL_len n
  have HGd : Hid (Good n k (rowsC k (upL n))) := Lib.hid (by have := rowsC_good k (upL n); rw [hlu] at this; exact this)
  have HL := Lib.hid hl
  have HS := Lib.hid h3
  unfold Fits at h2
  have hm1 := h2.1
  have hm2 := h2.2
  generalize (st_ l 0).size = m at *
  generalize rowsC k (upL n) = t at *
  clear hl h hn HC HR e1 e2 hlu h2 h3
  go_enter Tryz.func16, Tryz.ntmps16
  go_wp2_with (go_at_call 25; refine HC'.out.mono ?_; rintro e w' ⟨rfl, rfl⟩)
  go_wp2_with fail
  refine (HR'.out _).mono ?_; rintro e w1 ⟨A1, n1, c1, rfl, hr1, hw1⟩
  obtain rfl : n1 = n := hr1.len.symm.trans HGd.out.len
  have HR1 := Lib.hid hr1; have HW1 := Lib.hid hw1; have HL1 := Lib.hid (HL.out.below hw1)
  clear hr1 hw1
  go_wp2_with fail
  refine (blends_any A1 A n1 k c1 c m t l _ HR1.out HGd.out HL1.out HS.out hnt.2.2 hnt.1 (by omega) hm1 hm2).mono ?_; rintro e w2 ⟨A2, n2, c2, rfl, hc2, hs2, hw2⟩
  have HS2 := Lib.hid hs2; have HW2 := Lib.hid (HW1.out.trans (hw2.mono HW1.out.size))
  clear hc2 hs2 hw2
  go_wp2_with fail
  go_ret2
  exact ⟨_, _, _, rfl, HS2.out, HW2.out⟩

theorem encode_any (A : Option Addr) (k c : Nat) (l : List ByteArray) (n : Int) (w : World) (hl : Ss w A k l) :
    Calls Tryz.prog 16 #[.slice A k c, .int .i64 n] w (GivesSE w (eOut l n) (eErr l n)) := by
  have hk := hl.len
  by_cases h : dErr l = 0
  · by_cases hn : NoTab k n
    · have e0 : aErr k n = 1 := if_pos hn
      have e1 : eErr l n = aErr k n := by unfold eErr; rw [if_pos h, hk]
      have e2 : eOut l n = [] := if_neg (by omega)
      rw [e1, e2]
      exact encode_no A k c l n w hl h (by omega)
    · have e0 : aErr k n = 0 := if_neg hn
      have e1 : eErr l n = 0 := by unfold eErr; rw [if_pos h, hk, e0]
      have e2 : eOut l n = txS (mulL n.toNat k (st_ l 0).size (rowsC k (upL n.toNat)) (tabS l)) := by unfold eOut; rw [if_pos e1, hk]
      rw [e1, e2]
      have hn' := hn
      unfold NoTab at hn'
      obtain ⟨n', rfl⟩ := Int.eq_ofNat_of_zero_le (show 0 ≤ n by omega)
      exact encode_good A k c n' l w hl h hn
  · have e1 : eErr l n = dErr l := if_neg h
    have e2 : eOut l n = [] := if_neg (by omega)
    rw [e1, e2]
    exact encode_bad A k c l n w hl h

end Go.Proofs.YtooegclblgeicaaGreatDoor

/- Plain lemmas on shards with unlike indexes: which are kept, and which error is told first. No condition beyond those that each lemma names. -/
namespace Go.Proofs.YtooegclblgeicaaGreatDoor

/-! ### the first number that is not 0 -/
def firstE : Nat → (Nat → Nat) → Nat
  | 0, _ => 0
  | k + 1, f => if firstE k f = 0 then f k else firstE k f
theorem firstE_zero {k : Nat} {f : Nat → Nat} (h : ∀ i, i < k → f i = 0) : firstE k f = 0 := by
  induction k with
  | zero => rfl
  | succ k ih =>
    have h1 := ih fun i hi => h i (by omega)
    unfold firstE
    rw [if_pos h1]; exact h k (by omega)
theorem firstE_stop {k j : Nat} {f : Nat → Nat} (h : ∀ i, i < j → f i = 0) (hj : j < k) (hf : f j ≠ 0) : firstE k f = f j := by
  induction k with
  | zero => omega
  | succ k ih =>
    unfold firstE
    by_cases e : j = k
    · subst e
      rw [if_pos (firstE_zero h)]
    · have := ih (by omega)
      rw [if_neg (by omega)]; exact this
theorem firstE_all {k : Nat} {f : Nat → Nat} (h : firstE k f = 0) : ∀ i, i < k → f i = 0 := by
  induction k with
  | zero => intro i hi; omega
  | succ k ih =>
    unfold firstE at h
    split at h
    · rename_i h0
      intro i hi
      rcases Nat.lt_or_ge i k with hlt | hge
      · exact ih h0 i hlt
      · rw [show i = k by omega]; exact h
    · rename_i h0; exact absurd h h0

/-! ### unlike indexes -/
/-- no one of a has the index i. -/
def Free (a : List Shd) (i : Int) : Prop := ∀ p, p < a.length → (sh_ a p).1 ≠ i
/-- those of a with x's index have its text. -/
def Meets (a : List Shd) (x : Shd) : Prop := ∀ p, p < a.length → (sh_ a p).1 = x.1 → (sh_ a p).2 = x.2
instance (a : List Shd) (i : Int) : Decidable (Free a i) := by unfold Free; infer_instance
instance (a : List Shd) (x : Shd) : Decidable (Meets a x) := by unfold Meets; infer_instance
/-- the error of one shard, where a came ahead of it. -/
def sErr (n : Int) (m : Nat) (a : List Shd) (x : Shd) : Nat :=
  if 0 ≤ x.1 ∧ x.1 < n then (if Fits x.2 then (if x.2.size = m ∧ Meets a x then 0 else 16) else 3) else 2
def stepA (a : List Shd) (x : Shd) : List Shd := if Free a x.1 then a ++ [x] else a
def accL (l : List Shd) : List Shd := l.foldl stepA []
def errU (n : Int) (l : List Shd) (j : Nat) : Nat := sErr n (sh_ l 0).2.size (accL (l.take j)) (sh_ l j)
/-- Unlike's error and answer. -/
def uErr (n : Int) (l : List Shd) : Nat := firstE l.length (errU n l)
def uOut (n : Int) (l : List Shd) : List Shd := if uErr n l = 0 then accL l else []
theorem sErr_range {n : Int} {m : Nat} {a : List Shd} {x : Shd} (h : ¬ (0 ≤ x.1 ∧ x.1 < n)) : sErr n m a x = 2 := if_neg h
theorem sErr_long {n : Int} {m : Nat} {a : List Shd} {x : Shd} (h : 0 ≤ x.1 ∧ x.1 < n) (g : ¬ Fits x.2) : sErr n m a x = 3 := by unfold sErr; rw [if_pos h, if_neg g]
theorem sErr_unlike {n : Int} {m : Nat} {a : List Shd} {x : Shd} (h : 0 ≤ x.1 ∧ x.1 < n) (g : Fits x.2) (u : ¬ (x.2.size = m ∧ Meets a x)) : sErr n m a x = 16 := by unfold sErr; rw [if_pos h, if_pos g, if_neg u]
theorem sErr_ok {n : Int} {m : Nat} {a : List Shd} {x : Shd} (h : 0 ≤ x.1 ∧ x.1 < n) (g : Fits x.2) (u : x.2.size = m ∧ Meets a x) : sErr n m a x = 0 := by unfold sErr; rw [if_pos h, if_pos g, if_pos u]
theorem sErr_zero {n : Int} {m : Nat} {a : List Shd} {x : Shd} (h : sErr n m a x = 0) : (0 ≤ x.1 ∧ x.1 < n) ∧ Fits x.2 ∧ x.2.size = m ∧ Meets a x := by
  unfold sErr at h
  split at h
  · split at h
    · split at h
      · exact ⟨‹_›, ‹_›, ‹_ ∧ _›⟩
      · exact absurd h (by decide)
    · exact absurd h (by decide)
  · exact absurd h (by decide)
theorem stepA_free {a : List Shd} {x : Shd} (h : Free a x.1) : stepA a x = a ++ [x] := if_pos h
theorem stepA_there {a : List Shd} {x : Shd} (h : ¬ Free a x.1) : stepA a x = a := if_neg h
theorem accL_snoc (l : List Shd) (x : Shd) : accL (l ++ [x]) = stepA (accL l) x := by unfold accL; rw [List.foldl_append]; rfl
theorem take_succ {l : List Shd} {j : Nat} (h : j < l.length) : l.take (j + 1) = l.take j ++ [sh_ l j] := by
  rw [List.take_succ_eq_append_getElem h, sh_at h]
theorem accL_take {l : List Shd} {j : Nat} (h : j < l.length) : accL (l.take (j + 1)) = stepA (accL (l.take j)) (sh_ l j) := by rw [take_succ h, accL_snoc]
theorem Free.meets {a : List Shd} {x : Shd} (h : Free a x.1) : Meets a x := fun p hp e => absurd e (h p hp)
theorem not_free {a : List Shd} {i : Int} (h : ¬ Free a i) : ∃ p, p < a.length ∧ (sh_ a p).1 = i := by
  unfold Free at h
  have := Classical.not_forall.1 h
  obtain ⟨p, hp⟩ := this
  have hp := Classical.not_imp.1 hp
  exact ⟨p, hp.1, Classical.not_not.1 hp.2⟩
theorem Free.nil (i : Int) : Free [] i := fun p hp => absurd hp (by simp)
theorem Free.snoc {a : List Shd} {x : Shd} {i : Int} : Free (a ++ [x]) i ↔ Free a i ∧ x.1 ≠ i := by
  unfold Free
  constructor
  · intro h
    refine ⟨fun p hp => ?_, ?_⟩
    · have := h p (by simp; omega)
      rwa [sh_snoc _ _ _ (by omega), if_pos hp] at this
    · have := h a.length (by simp)
      rwa [sh_snoc _ _ _ (by omega), if_neg (by omega)] at this
  · rintro ⟨h1, h2⟩ p hp
    rw [List.length_append, List.length_singleton] at hp
    rw [sh_snoc _ _ _ hp]
    split
    · exact h1 p ‹_›
    · exact h2
/-- the first j have no error. -/
def NoU (n : Int) (l : List Shd) (j : Nat) : Prop := ∀ i, i < j → errU n l i = 0
theorem NoU.start (n : Int) (l : List Shd) : NoU n l 0 := fun _ h => absurd h (by omega)
theorem NoU.next {n : Int} {l : List Shd} {j : Nat} (h : NoU n l j) (g : errU n l j = 0) : NoU n l (j + 1) := fun i hi => by
  rcases Nat.lt_or_ge i j with hlt | hge
  · exact h i hlt
  · rw [show i = j by omega]; exact g
theorem NoU.stop {n : Int} {l : List Shd} {j k : Nat} (h : NoU n l j) (hj : j < l.length) (e : errU n l j = k) (hk : k ≠ 0) : uErr n l = k ∧ uOut n l = [] := by
  have : uErr n l = k := by rw [← e]; exact firstE_stop h hj (by rw [e]; exact hk)
  exact ⟨this, if_neg (by rw [this]; exact hk)⟩
theorem NoU.done {n : Int} {l : List Shd} (h : NoU n l l.length) : uErr n l = 0 ∧ uOut n l = accL l := by
  have : uErr n l = 0 := firstE_zero h
  exact ⟨this, if_pos this⟩

/-! ### texts by their index -/
/-- b has the text of each index of a, and none for the others. -/
def There (n : Nat) (b : List ByteArray) (a : List Shd) : Prop :=
  ∀ i, i < n → (st_ b i = S0 ↔ Free a (i : Nat)) ∧ ∀ p, p < a.length → (sh_ a p).1 = (i : Nat) → (sh_ a p).2 = st_ b i
theorem There.start {n : Nat} {b : List ByteArray} (h : ∀ i, i < n → st_ b i = S0) : There n b [] :=
  fun i hi => ⟨⟨fun _ => Free.nil _, fun _ => h i hi⟩, fun p hp => absurd hp (by simp)⟩
theorem There.free {n i : Nat} {b : List ByteArray} {a : List Shd} (h : There n b a) (hi : i < n) : st_ b i = S0 ↔ Free a (i : Nat) := (h i hi).1
theorem There.meets {n i : Nat} {b : List ByteArray} {a : List Shd} {s : ByteArray} (h : There n b a) (hi : i < n) (h0 : st_ b i ≠ S0) : Meets a (((i : Nat) : Int), s) ↔ st_ b i = s := by
  obtain ⟨h1, h2⟩ := h i hi
  constructor
  · intro hm
    obtain ⟨p, hp, e⟩ := not_free (fun q => h0 (h1.2 q))
    rw [← h2 p hp e]
    exact hm p hp e
  · intro e p hp e'
    rw [h2 p hp e', e]
theorem There.snoc {n i : Nat} {b : List ByteArray} {a : List Shd} {s : ByteArray} (h : There n b a) (hb : b.length = n) (hi : i < n) (h0 : st_ b i = S0) (hs : s ≠ S0) : There n (b.set i s) (a ++ [(((i : Nat) : Int), s)]) := by
  intro j hj
  obtain ⟨h1, h2⟩ := h j hj
  rw [st_set _ _ _ _ (by omega), Free.snoc]
  by_cases e : i = j
  · subst e
    rw [if_pos rfl]
    refine ⟨⟨fun q => absurd q hs, fun q => absurd rfl q.2⟩, fun p hp e' => ?_⟩
    rw [List.length_append, List.length_singleton] at hp
    rw [sh_snoc _ _ _ hp] at e' ⊢
    split
    · rename_i hlt
      rw [if_pos hlt] at e'
      exact absurd e' ((h1.1 h0) p hlt)
    · rfl
  · rw [if_neg e]
    refine ⟨⟨fun q => ⟨h1.1 q, fun q' => e (Int.ofNat.inj q')⟩, fun q => h1.2 q.1⟩, fun p hp e' => ?_⟩
    rw [List.length_append, List.length_singleton] at hp
    rw [sh_snoc _ _ _ hp] at e' ⊢
    split
    · rename_i hlt
      rw [if_pos hlt] at e'
      exact h2 p hlt e'
    · rename_i hge
      rw [if_neg hge] at e'
      exact absurd (Int.ofNat.inj e') e
end Go.Proofs.YtooegclblgeicaaGreatDoor

/- Proved: what unlike of package rs answers for all shards. Conditions: those that the theorems name. -/
namespace Go.Proofs.YtooegclblgeicaaGreatDoor
open Go.ChangeShapes Go.WideShapes Go.ChangeAt Go.RowKit

theorem Tryz.infoShard : (Tryz.prog.info? 42).map (fun i => (i.zero, i.size, i.bytes)) = some (some (.agg #[.int .i64 0, .string S0]), 2, 24) := by kernel_rfl
/-- Shards come back, and the error k; nothing that was there has turned. -/
def GivesHE (W : World) (l : List Shd) (k : Nat) (e : Ending) (w' : World) : Prop :=
  ∃ A n c, e = .returned (.tuple #[.slice A n c, .int .i64 (k : Nat)]) ∧ n ≤ c ∧ Sh w' A n l ∧ Below W.heap.size W w'

set_option maxRecDepth 100000 in
set_option maxHeartbeats 3200000 in
theorem unlike_any (A : Option Addr) (m c n : Nat) (l : List Shd) (w : World) (hl : Sh w A m l) (hm : m ≤ 100) (hn : n ≤ 255) :
    Calls Tryz.prog 33 #[.int .i64 (n : Nat), .slice A m c] w (GivesHE w (uOut n l) (uErr n l)) := by
  have hmS := run_make_row' (P := Tryz.prog) 38 9 (.string S0) 16 Tryz.underlying38 Tryz.infoString rfl .i64 .i64 n (by omega) (by omega)
  obtain ⟨i0, hi0, hz0, hz1, hz2⟩ := info_parts Tryz.infoShard
  have HL := Lib.hid hl
  clear hl
  have hpos : (0 : Int) ≤ (n : Int) := by omega
  go_enter Tryz.func33, Tryz.ntmps33
  go_wp2_with fail
  have HO := Lib.hid (ownS_new w n)
  have HW := Lib.hid ((Below.refl w.heap.size w).alloc (Nat.le_refl _) (.cells (madeCells #[.string S0] n) 9))
  have hgs : w.heap.size + 1 ≤ (w.alloc (.cells (madeCells #[.string S0] n) 9)).heap.size := by simp
  have HGS := Lib.hid hgs
  clear hgs
  generalize hgg : w.heap.size = g at *
  go_loopw [6, 15] (fun v i wr => ∃ j : Nat, j ≤ m ∧ i = .int .i64 j ∧ NoU n l j ∧ ∃ b, There n b (accL (l.take j)) ∧ OwnS wr g n b ∧ wr.ownsRow (g + 1) 42 2 v (accL (l.take j)).length (hcells (accL (l.take j))) ∧ (accL (l.take j)).length ≤ j ∧ Below g w wr ∧ g + 1 ≤ wr.heap.size) (fun _ i _ => m - (intOf i).toNat)
  case atStart => exact ⟨0, by omega, rfl, NoU.start _ _, _, There.start (fun i _ => rep_st n i), HO.out, World.ownsRow_nil _ _ _ _, Nat.le_refl _, HW.out, HGS.out⟩
  case round =>
    obtain ⟨j, hj, rfl, he, b, ht, ho, hown, hle, hbel, hgs⟩ := hrel
    have HE := Lib.hid he
    have HT := Lib.hid ht
    have HOS := Lib.hid ho
    have HO' := Lib.hid hown
    have HW' := Lib.hid hbel
    clear he ht ho hown hbel HO HW HGS
    by_cases hlt : j < m
    · obtain ⟨ad, rfl, had, hc1, hc2⟩ := HL.out.at_ hlt
      have hc1' : wr.cell? (ad.add (j * 2)) = some (.int .i64 (sh_ l j).1) := (HW'.out.cell (by rw [add_block]; omega)).trans hc1
      have hc2' : wr.cell? ⟨(ad.add (j * 2)).block, (ad.add (j * 2)).off + 1, none⟩ = some (.string (sh_ l j).2) := (HW'.out.cell (by show (ad.add (j * 2)).block < g; rw [add_block]; omega)).trans hc2
      clear hc1 hc2
      have hlt' : (j : Int) < (m : Int) := by omega
      have hj0 : (0 : Int) ≤ (j : Int) := Int.natCast_nonneg _
      have hm0 : (0 : Int) < (m : Int) := by omega
      have hm00 : 0 < m := by omega
      have hadr : ad.block < wr.heap.size := by omega
      obtain ⟨ad', e', _, _, hd0⟩ := HL.out.at_ (k := 0) (by omega)
      cases e'
      rw [Nat.zero_mul, Addr.add_zero' ad] at hd0
      have hd0' : wr.cell? ⟨ad.block, ad.off + 1, none⟩ = some (.string (sh_ l 0).2) := (HW'.out.cell (by show ad.block < g; omega)).trans hd0
      clear hd0
      have HJ : Hid (j < l.length) := Lib.hid (by rw [HL.out.len]; exact hlt)
      have EU : Hid (errU n l j = sErr n (sh_ l 0).2.size (accL (l.take j)) (sh_ l j)) := Lib.hid rfl
      have AT := Lib.hid (accL_take HJ.out)
      generalize hx : sh_ l j = x at *
      generalize hx0 : (sh_ l 0).2 = x0 at *
      have HX := Lib.hid hx
      clear hx hx0
      obtain ⟨xi, xs⟩ := x
      by_cases hin : 0 ≤ xi ∧ xi < (n : Int)
      · obtain ⟨i, rfl⟩ := Int.eq_ofNat_of_zero_le hin.1
        have hil : i < n := by omega
        have h0 : ¬ ((i : Nat) : Int) < 0 := by omega
        have h1 : ¬ ((i : Nat) : Int) ≥ (n : Int) := by omega
        have hi0' : (0 : Int) ≤ (i : Int) := by omega
        have hil' : (i : Int) < (n : Int) := by omega
        by_cases hf : Fits xs
        · have HF := Lib.hid (fun W => sfits_yes xs hf W)
          have hcb := HOS.out.cell hil
          have hfz := HOS.out.frozen i
          have hgl := HOS.out.block_lt
          have HHin := Lib.hid hin
          have HHf := Lib.hid hf
          have hne : xs ≠ S0 := size_ne hf.1
          have HNE := Lib.hid hne
          have hTf := HT.out.free hil
          have hTm := fun h => HT.out.meets (s := xs) hil h
          generalize ht : st_ b i = t at *
          have HTT := Lib.hid ht
          have HTf := Lib.hid hTf
          have HTm := Lib.hid hTm
          clear hin hf hne ht hTf hTm
          by_cases hsz : xs.size = x0.size
          · have hsz1 : ((xs.size : Int) != (x0.size : Int)) = false := by simp; omega
            have hsz2 : decide ((xs.size : Int) = (x0.size : Int)) = true := by simp; omega
            have HSZ := Lib.hid hsz
            clear hsz
            have HO1 : Hid (∀ q, ((wr.alloc (.cells #[.int .i64 (i : Nat), .string xs] 42)).drewN q).ownsRow (g + 1) 42 2 u6 (accL (l.take j)).length (hcells (accL (l.take j)))) := Lib.hid fun q => HO'.out.alloc _
            have HS1 : Hid (∀ q, OwnS ((wr.alloc (.cells #[.int .i64 (i : Nat), .string xs] 42)).drewN q) g n b) := Lib.hid fun q => HOS.out.below (below_drawn_of ((Below.refl _ _).alloc (Nat.le_refl _) _) q)
            have HW1 : Hid (∀ q, Below g w ((wr.alloc (.cells #[.int .i64 (i : Nat), .string xs] 42)).drewN q)) := Lib.hid fun q => below_drawn_of (HW'.out.alloc (by omega) _) q
            have HZ1 : Hid (∀ q, wr.heap.size < ((wr.alloc (.cells #[.int .i64 (i : Nat), .string xs] 42)).drewN q).heap.size) := Lib.hid fun q => by
              show wr.heap.size < (wr.alloc (.cells #[.int .i64 (i : Nat), .string xs] 42)).heap.size
              simp
            have HC1 : Hid (∀ q, ((wr.alloc (.cells #[.int .i64 (i : Nat), .string xs] 42)).drewN q).cell? ⟨wr.heap.size, 0, none⟩ = some (.int .i64 (i : Nat)) ∧ ((wr.alloc (.cells #[.int .i64 (i : Nat), .string xs] 42)).drewN q).cell? ⟨wr.heap.size, 1, none⟩ = some (.string xs)) := Lib.hid fun q => by
              constructor
              · show (wr.alloc (.cells #[.int .i64 (i : Nat), .string xs] 42)).cell? ⟨wr.heap.size, 0, none⟩ = _
                rw [World.cell?_alloc_at _ _ _ _ rfl]; rfl
              · show (wr.alloc (.cells #[.int .i64 (i : Nat), .string xs] 42)).cell? ⟨wr.heap.size, 1, none⟩ = _
                rw [World.cell?_alloc_at _ _ _ _ rfl]; rfl
            by_cases hts : t = S0
            · subst hts
              have hfree := HTf.out.1 rfl
              have HN : Hid (NoU n l (j + 1)) := Lib.hid (HE.out.next (EU.out.trans (sErr_ok HHin.out HHf.out ⟨HSZ.out, hfree.meets⟩)))
              have HA : Hid (accL (l.take (j + 1)) = accL (l.take j) ++ [(((i : Nat) : Int), xs)]) := Lib.hid (by rw [AT.out]; exact stepA_free hfree)
              have HT1 : Hid (There n (b.set i xs) (accL (l.take (j + 1)))) := Lib.hid (by rw [HA.out]; exact HT.out.snoc HOS.out.1 hil HTT.out HNE.out)
              clear hfree
              go_wp2_with (go_at_call 43; refine (HF.out _).mono ?_; rintro e w' ⟨rfl, rfl⟩)
              go_quiet (fail)
              have HO2 := Lib.hid (HO1.out nq)
              have HS2 := Lib.hid (HS1.out nq)
              have HW2 := Lib.hid (HW1.out nq)
              have HZ2 := Lib.hid (HZ1.out nq)
              have hs1 := (HC1.out nq).1
              have hs2 := (HC1.out nq).2
              clear HO1 HS1 HW1 HZ1 HC1 hcb hfz hgl hc1' hc2' hd0'
              generalize (wr.alloc (.cells #[.int .i64 (i : Nat), .string xs] 42)).drewN nq = w2 at *
              have HB : Hid (g + 1 ≤ wr.heap.size) := Lib.hid hgs
              clear hgs hadr HO' HOS HW'
              generalize wr.heap.size = B at *
              have hcb := HS2.out.cell hil
              have hfz := HS2.out.frozen i
              have HS3 := Lib.hid (HS2.out.set_ hil xs)
              have HO3 := Lib.hid (own_far HO2.out (p := ⟨g, i, none⟩) (fun e => by have := (HO2.out.lt _ e).1; simp at this; omega) (.string xs))
              have HW3 := Lib.hid (HW2.out.setCell (p := ⟨g, i, none⟩) (Nat.le_refl _) (.string xs))
              have hs1' : (w2.setCell ⟨g, i, none⟩ (.string xs)).cell? ⟨B, 0, none⟩ = some (.int .i64 (i : Nat)) := by rw [World.cell?_setCell_other _ _ _ _ (by intro e; injection e; have := HB.out; omega)]; exact hs1
              have hs2' : (w2.setCell ⟨g, i, none⟩ (.string xs)).cell? ⟨B, 1, none⟩ = some (.string xs) := by rw [World.cell?_setCell_other _ _ _ _ (by intro e; injection e; have := HB.out; omega)]; exact hs2
              have HNB : Hid (((w2.setCell ⟨g, i, none⟩ (.string xs)).alloc (.cells #[.int .i64 (i : Nat), .string xs] 42)).heap[w2.heap.size]? = some (.cells #[.int .i64 (i : Nat), .string xs] 42)) := Lib.hid (by simpa using heap_alloc_new (w2.setCell ⟨g, i, none⟩ (.string xs)) (.cells #[.int .i64 (i : Nat), .string xs] 42))
              have HN4 : Hid ((accL (l.take (j + 1))).length = (accL (l.take j)).length + 1 ∧ hcells (accL (l.take j)) ++ [.int .i64 (i : Nat), .string xs] = hcells (accL (l.take (j + 1)))) := Lib.hid (by rw [HA.out]; exact ⟨by simp, hcells_snoc _ _ _⟩)
              have HG2 : Hid (g + 1 ≤ w2.heap.size) := Lib.hid (by have := HB.out; have := HZ2.out; omega)
              have hgl2 := HG2.out
              clear HS2 HO2 HW2
              generalize (accL (l.take j)).length = Q at *
              generalize hcells (accL (l.take j)) = CS at *
              have hmax : Q + 1 ≤ maxLen := by unfold maxLen; omega
              go_wp2_with (at_builtin; refine wpList_append_lies _ rfl _ _ _ rfl (g + 1) 42 i0 _ 2 24 Tryz.underlying28 hi0 hz0 hz1 hz2 rfl (by omega) _ Q CS rfl (HO3.out.alloc _) ⟨w2.heap.size, 0, none⟩ 1 1 [.int .i64 (i : Nat), .string xs] rfl rfl (World.news_of_block (cs := #[.int .i64 (i : Nat), .string xs]) (t := 42) (fr := (0, 0)) HNB.out) (by simp [Value.oneCell']) (by omega) hmax (by omega) (by simp; omega) (w2.heap.size + 1) (by simp) ?_; intro gg cap w4 hown1 hgrow hat hlt1)
              have hbr : ∀ k, u6.ownBlock = some k → g + 1 ≤ k := fun k e => (HO3.out.lt k e).1
              have HBR := Lib.hid hbr
              clear hbr
              go_roundw
              case rel =>
                refine ⟨j + 1, by omega, by go_num, HN.out, _, HT1.out, ?_, by rw [HN4.out.1, ← HN4.out.2]; exact hown1, by rw [HN4.out.1]; omega, (HW3.out.alloc (by simp; omega) _).grown hgrow (by simp; omega) (fun k e => by have := HBR.out k e; omega), by have := hgrow.size; simp at this; omega⟩
                have hal : Below (w2.setCell ⟨g, i, none⟩ (.string xs)).heap.size (w2.setCell ⟨g, i, none⟩ (.string xs)) ((w2.setCell ⟨g, i, none⟩ (.string xs)).alloc (.cells #[.int .i64 (i : Nat), .string xs] 42)) := (Below.refl _ _).alloc (Nat.le_refl _) _
                exact (HS3.out.below hal).grown hgrow (fun e => by have := HBR.out g e; omega)
              case measure => simp [intOf]; omega
            · have hte : t.toList.isEmpty = false := by rw [← decide_eq_emptyBytes]; exact decide_eq_false hts
              have hte2 : ¬ t.toList = [] := fun e => by rw [e] at hte; exact absurd hte (by decide)
              have hnf := fun q => hts (HTf.out.2 q)
              have hmm := HTm.out hts
              by_cases htx : t = xs
              · subst htx
                have HN : Hid (NoU n l (j + 1)) := Lib.hid (HE.out.next (EU.out.trans (sErr_ok HHin.out HHf.out ⟨HSZ.out, hmm.2 rfl⟩)))
                have HA : Hid (accL (l.take (j + 1)) = accL (l.take j)) := Lib.hid (by rw [AT.out]; exact stepA_there hnf)
                clear hnf hmm
                go_wp2_with (go_at_call 43; refine (HF.out _).mono ?_; rintro e w' ⟨rfl, rfl⟩)
                go_quiet (fail)
                go_wp2_with fail
                go_roundw
                case rel => exact ⟨j + 1, by omega, by go_num, HN.out, b, by rw [HA.out]; exact HT.out, HS1.out nq, by rw [HA.out]; exact HO1.out nq, by rw [HA.out]; omega, HW1.out nq, by have := HZ1.out nq; omega⟩
                case measure => simp [intOf]; omega
              · have HD := Lib.hid (HE.out.stop HJ.out (EU.out.trans (sErr_unlike HHin.out HHf.out (fun q => htx (hmm.1 q.2)))) (by decide))
                have htn : (t.toList == xs.toList) = false := list_ne htx
                clear hnf hmm
                go_wp2_with (go_at_call 43; refine (HF.out _).mono ?_; rintro e w' ⟨rfl, rfl⟩)
                go_quiet (fail)
                go_wp2_with fail
                go_ret2
                exact ⟨_, _, _, by rw [HD.out.1]; rfl, Nat.le_refl _, by rw [HD.out.2]; exact Sh.nil _ _, by rw [hgg]; exact HW1.out nq⟩
          · have hsz1 : ((xs.size : Int) != (x0.size : Int)) = true := by simp; omega
            have HD := Lib.hid (HE.out.stop HJ.out (EU.out.trans (sErr_unlike HHin.out HHf.out (fun q => hsz q.1))) (by decide))
            clear hsz
            go_wp2_with (go_at_call 43; refine (HF.out _).mono ?_; rintro e w' ⟨rfl, rfl⟩)
            go_quiet (fail)
            go_wp2_with fail
            go_ret2
            exact ⟨_, _, _, by rw [HD.out.1]; rfl, Nat.le_refl _, by rw [HD.out.2]; exact Sh.nil _ _, by rw [hgg]; exact below_drawn_of (HW'.out.alloc (by omega) _) _⟩
        · have HF := Lib.hid (fun W => sfits_no xs hf W)
          have HD := Lib.hid (HE.out.stop HJ.out (EU.out.trans (sErr_long hin hf)) (by decide))
          clear hin hf
          go_wp2_with (go_at_call 43; refine (HF.out _).mono ?_; rintro e w' ⟨rfl, rfl⟩)
          go_ret2
          exact ⟨_, _, _, by rw [HD.out.1]; rfl, Nat.le_refl _, by rw [HD.out.2]; exact Sh.nil _ _, by rw [hgg]; exact HW'.out.alloc (by omega) _⟩
      · have HD := Lib.hid (HE.out.stop HJ.out (EU.out.trans (sErr_range hin)) (by decide))
        by_cases h0 : xi < 0
        · clear hin
          go_wp2_with fail
          go_ret2
          exact ⟨_, _, _, by rw [HD.out.1]; rfl, Nat.le_refl _, by rw [HD.out.2]; exact Sh.nil _ _, by rw [hgg]; exact HW'.out.alloc (by omega) _⟩
        · have h1 : xi ≥ (n : Int) := by omega
          clear hin
          go_wp2_with fail
          go_ret2
          exact ⟨_, _, _, by rw [HD.out.1]; rfl, Nat.le_refl _, by rw [HD.out.2]; exact Sh.nil _ _, by rw [hgg]; exact HW'.out.alloc (by omega) _⟩
    · obtain rfl : j = m := by omega
      have hjl : l.take j = l := List.take_of_length_le (by rw [HL.out.len]; exact Nat.le_refl _)
      rw [hjl] at HT HO' hle
      have HD := Lib.hid (NoU.done (n := n) (l := l) (by rw [HL.out.len]; exact HE.out))
      obtain ⟨A', c', rfl, hcap, hsh⟩ := sh_of HO'.out
      have HSH := Lib.hid hsh
      have HCAP := Lib.hid hcap
      clear hjl hsh hcap
      go_wp2_with fail
      go_ret2
      exact ⟨_, _, _, by rw [HD.out.1]; rfl, HCAP.out, by rw [HD.out.2]; exact HSH.out, by rw [hgg]; exact HW'.out⟩
end Go.Proofs.YtooegclblgeicaaGreatDoor

/- Proved: lemmas of one statement's proof, merged by program: what each part proves stands ahead of it. Conditions: those that the lemmas name. -/
import Derived.Test.YtodokgkchmpmnaaGreatM16

/- Proved: what Encode and Shard of package rs answer for all texts and every two ints. Conditions: those that the theorems name. -/
namespace Go.Proofs.YtodokgkchmpmnaaGreat
open Go.ChangeShapes Go.WideShapes Go.ChangeAt Go.RowKit

def Fits (s : ByteArray) : Prop := 1 ≤ s.size ∧ s.size ≤ 1024
instance (s : ByteArray) : Decidable (Fits s) := by unfold Fits; infer_instance
/-- check's error. -/
def dErr (l : List ByteArray) : Nat :=
  if 1 ≤ l.length ∧ l.length ≤ 32 then (if Fits (st_ l 0) then (if ∀ i, i < l.length → (st_ l i).size = (st_ l 0).size then 0 else 16) else 3) else 1
theorem dErr_len {l : List ByteArray} (h : ¬ (1 ≤ l.length ∧ l.length ≤ 32)) : dErr l = 1 := if_neg h
theorem dErr_long {l : List ByteArray} (h : 1 ≤ l.length ∧ l.length ≤ 32) (g : ¬ Fits (st_ l 0)) : dErr l = 3 := by unfold dErr; rw [if_pos h, if_neg g]
theorem dErr_unlike {l : List ByteArray} (h : 1 ≤ l.length ∧ l.length ≤ 32) (g : Fits (st_ l 0)) {i : Nat} (hi : i < l.length) (hs : (st_ l i).size ≠ (st_ l 0).size) : dErr l = 16 := by
  unfold dErr; rw [if_pos h, if_pos g, if_neg (fun q => hs (q i hi))]
theorem dErr_ok {l : List ByteArray} (h : 1 ≤ l.length ∧ l.length ≤ 32) (g : Fits (st_ l 0)) (hs : ∀ i, i < l.length → (st_ l i).size = (st_ l 0).size) : dErr l = 0 := by
  unfold dErr; rw [if_pos h, if_pos g, if_pos hs]
theorem dErr_zero {l : List ByteArray} (h : dErr l = 0) : (1 ≤ l.length ∧ l.length ≤ 32) ∧ Fits (st_ l 0) ∧ ∀ i, i < l.length → (st_ l i).size = (st_ l 0).size := by
  unfold dErr at h
  split at h
  · split at h
    · split at h
      · exact ⟨‹_›, ‹_›, ‹_›⟩
      · exact absurd h (by decide)
    · exact absurd h (by decide)
  · exact absurd h (by decide)

set_option maxHeartbeats 400000 in
theorem sfits_yes (s : ByteArray) (h : Fits s) (w : World) :
    Calls Tryz.prog 91 #[.string s] w fun e w' => e = .returned (.bool true) ∧ w = w' := by
  have h1 : (s.size : Int) ≥ 1 := by have := h.1; omega
  have h2 : (s.size : Int) ≤ 1024 := by have := h.2; omega
  clear h
  go_enter Tryz.func91, Tryz.ntmps91
  go_wp2_with fail
  go_ret
  exact ⟨rfl, rfl⟩
set_option maxHeartbeats 400000 in
theorem sfits_no (s : ByteArray) (h : ¬ Fits s) (w : World) :
    Calls Tryz.prog 91 #[.string s] w fun e w' => e = .returned (.bool false) ∧ w = w' := by
  unfold Fits at h
  by_cases h1 : (s.size : Int) ≥ 1
  · have h2 : ¬ (s.size : Int) ≤ 1024 := by omega
    clear h
    go_enter Tryz.func91, Tryz.ntmps91
    go_wp2_with fail
    go_ret
    exact ⟨rfl, rfl⟩
  · clear h
    go_enter Tryz.func91, Tryz.ntmps91
    go_wp2_with fail
    go_ret
    exact ⟨rfl, rfl⟩

set_option maxHeartbeats 400000 in
theorem scheck_len (A : Option Addr) (n c : Nat) (w : World) (h : ¬ (1 ≤ n ∧ n ≤ 32)) :
    Calls Tryz.prog 82 #[.slice A n c] w fun e w' => e = .returned (.int .i64 1) ∧ w = w' := by
  by_cases h1 : (n : Int) < 1
  · clear h
    go_enter Tryz.func82, Tryz.ntmps82
    go_wp2_with fail
    go_ret
    exact ⟨rfl, rfl⟩
  · have h2 : (n : Int) > 32 := by omega
    clear h
    go_enter Tryz.func82, Tryz.ntmps82
    go_wp2_with fail
    go_ret
    exact ⟨rfl, rfl⟩
set_option maxHeartbeats 400000 in
theorem scheck_long (A : Option Addr) (n c : Nat) (l : List ByteArray) (w : World) (hl : Ss w A n l) (h : 1 ≤ n ∧ n ≤ 32) (g : ¬ Fits (st_ l 0)) :
    Calls Tryz.prog 82 #[.slice A n c] w fun e w' => e = .returned (.int .i64 3) ∧ w = w' := by
  obtain ⟨ad, rfl, had, hac⟩ := hl.at_ (k := 0) h.1
  rw [Addr.add_zero' ad] at hac
  have HF := Lib.hid (sfits_no _ g w)
  have h1 : ¬ (n : Int) < 1 := by omega
  have h2 : ¬ (n : Int) > 32 := by omega
  have h3 : (0 : Int) < (n : Int) := by omega
  clear hl h g
  generalize st_ l 0 = s at *
  go_enter Tryz.func82, Tryz.ntmps82
  go_wp2_with (go_at_call 91; refine HF.out.mono ?_; rintro e w' ⟨rfl, rfl⟩)
  go_ret
  exact ⟨rfl, rfl⟩
set_option maxHeartbeats 800000 in
theorem scheck_rest (A : Option Addr) (n c : Nat) (l : List ByteArray) (w : World) (hl : Ss w A n l) (h : 1 ≤ n ∧ n ≤ 32) (g : Fits (st_ l 0)) :
    Calls Tryz.prog 82 #[.slice A n c] w fun e w' => e = .returned (.int .i64 (dErr l : Nat)) ∧ w = w' := by
  obtain ⟨ad, rfl, had, hac⟩ := hl.at_ (k := 0) h.1
  rw [Addr.add_zero' ad] at hac
  have HF := Lib.hid (sfits_yes _ g w)
  have HL := Lib.hid hl
  have HG := Lib.hid g
  have h1 : ¬ (n : Int) < 1 := by omega
  have h2 : ¬ (n : Int) > 32 := by omega
  have h3 : (0 : Int) < (n : Int) := by omega
  have HH : Hid (1 ≤ l.length ∧ l.length ≤ 32) := Lib.hid (by rw [hl.len]; exact h)
  have HLen := Lib.hid hl.len
  clear hl h g
  generalize hs0 : st_ l 0 = s0 at *
  have HS0 := Lib.hid hs0
  clear hs0
  go_enter Tryz.func82, Tryz.ntmps82
  go_wp2_with (go_at_call 91; refine HF.out.mono ?_; rintro e w' ⟨rfl, rfl⟩)
  go_loop [20] (fun v => ∃ q : Nat, q ≤ n ∧ v = .int .i64 q ∧ ∀ i, i < q → (st_ l i).size = s0.size) (fun v => n - (intOf v).toNat)
  case atStart => exact ⟨0, by omega, rfl, fun i h => absurd h (by omega)⟩
  case round =>
    obtain ⟨q, hq, rfl, hi⟩ := hrel
    have HI := Lib.hid hi
    clear hi
    by_cases hlt : q < n
    · have hlt' : (q : Int) < (n : Int) := by omega
      have hq0 : (0 : Int) ≤ (q : Int) := Int.natCast_nonneg _
      obtain ⟨ad', e', _, hqc⟩ := HL.out.at_ hlt
      cases e'
      generalize hs : st_ l q = s at *
      have HS := Lib.hid hs
      clear hs
      by_cases hsz : s.size = s0.size
      · have HZ := Lib.hid hsz
        have hsz1 : ((s.size : Int) != (s0.size : Int)) = false := by simp; omega
        clear hsz
        go_wp2_with fail
        go_round
        case rel => exact ⟨q + 1, by omega, by go_num, fun i hi => by
          rcases Nat.lt_or_ge i q with h | h
          · exact HI.out i h
          · rw [show i = q by omega, HS.out]; exact HZ.out⟩
        case measure => simp [intOf]; omega
      · have HD : Hid (dErr l = 16) := Lib.hid (dErr_unlike HH.out (by rw [HS0.out]; exact HG.out) (i := q) (by rw [HLen.out]; exact hlt) (by rw [HS.out, HS0.out]; exact hsz))
        have hsz1 : ((s.size : Int) != (s0.size : Int)) = true := by simp; omega
        clear hsz
        go_wp2_with fail
        go_ret
        exact ⟨by rw [HD.out]; rfl, rfl⟩
    · obtain rfl : q = n := by omega
      have HD : Hid (dErr l = 0) := Lib.hid (dErr_ok HH.out (by rw [HS0.out]; exact HG.out) (fun i hi => by rw [HS0.out]; exact HI.out i (by rw [← HLen.out]; exact hi)))
      go_wp2_with fail
      go_ret
      exact ⟨by rw [HD.out]; rfl, rfl⟩
theorem scheck_any (A : Option Addr) (n c : Nat) (l : List ByteArray) (w : World) (hl : Ss w A n l) :
    Calls Tryz.prog 82 #[.slice A n c] w fun e w' => e = .returned (.int .i64 (dErr l : Nat)) ∧ w = w' := by
  by_cases h : 1 ≤ n ∧ n ≤ 32
  · by_cases g : Fits (st_ l 0)
    · exact scheck_rest A n c l w hl h g
    · rw [dErr_long (by rw [hl.len]; exact h) g]; exact scheck_long A n c l w hl h g
  · rw [dErr_len (by rw [hl.len]; exact h)]; exact scheck_len A n c w h

/-! ### Encode and Shard -/
def eErr (l : List ByteArray) (n : Int) : Nat := if dErr l = 0 then aErr l.length n else dErr l
def eOut (l : List ByteArray) (n : Int) : List ByteArray :=
  if eErr l n = 0 then txS (mulL n.toNat l.length (st_ l 0).size (rowsC l.length (upL n.toNat)) (tabS l)) else []

/-- the same: they lie in a row of the call's own. -/
def GivesSEO (W : World) (n : Nat) (l : List ByteArray) (e : Ending) (w' : World) : Prop :=
  ∃ g, e = .returned (.tuple #[.slice (some ⟨g, 0, none⟩) n n, .int .i64 0]) ∧ W.heap.size ≤ g ∧ OwnS w' g n l ∧ Below W.heap.size W w'
set_option maxHeartbeats 1600000 in
theorem encode_own (A : Option Addr) (k c n : Nat) (l : List ByteArray) (w : World) (hl : Ss w A k l) (h : dErr l = 0) (hn : ¬ NoTab k n) :
    Calls Tryz.prog 72 #[.slice A k c, .int .i64 (n : Nat)] w (GivesSEO w n (txS (mulL n k (st_ l 0).size (rowsC k (upL n)) (tabS l)))) := by
  have HC := scheck_any A k c l w hl
  rw [h] at HC
  have HC' := Lib.hid HC
  have HR := fun W => rows_any k n W
  have e1 : aErr k n = 0 := if_neg hn
  have e2 : aRows k n = rowsC k (upL n) := if_neg hn
  rw [e1, e2] at HR
  have HR' := Lib.hid HR
  obtain ⟨h1, h2, h3⟩ := dErr_zero h
  rw [hl.len] at h1 h3
  have hnt : 1 ≤ k ∧ k ≤ n ∧ n ≤ 255 := by unfold NoTab at hn; omega
  have hlu : (upL n).length = n := upL_len n
  have HGd : Hid (Good n k (rowsC k (upL n))) := Lib.hid (by have := rowsC_good k (upL n); rw [hlu] at this; exact this)
  have HL := Lib.hid hl
  have HS := Lib.hid h3
  unfold Fits at h2
  have hm1 := h2.1
  have hm2 := h2.2
  generalize (st_ l 0).size = m at *
  generalize rowsC k (upL n) = t at *
  clear hl h hn HC HR e1 e2 hlu h2 h3
  go_enter Tryz.func72, Tryz.ntmps72
  go_wp2_with (go_at_call 82; refine HC'.out.mono ?_; rintro e w' ⟨rfl, rfl⟩)
  go_wp2_with fail
  refine (HR'.out _).mono ?_; rintro e w1 ⟨A1, n1, c1, rfl, hr1, hw1⟩
  obtain rfl : n1 = n := hr1.len.symm.trans HGd.out.len
  have HR1 := Lib.hid hr1; have HW1 := Lib.hid hw1; have HL1 := Lib.hid (HL.out.below hw1)
  clear hr1 hw1
  go_wp2_with fail
  refine (blends_own A1 A n1 k c1 c m t l _ HR1.out HGd.out HL1.out HS.out hnt.2.2 hnt.1 (by omega) hm1 hm2).mono ?_; rintro e w2 ⟨g2, rfl, hc2, hs2, hw2⟩
  have HS2 := Lib.hid hs2; have HC2 := Lib.hid (Nat.le_trans HW1.out.size hc2); have HW2 := Lib.hid (HW1.out.trans (hw2.mono HW1.out.size))
  clear hc2 hs2 hw2
  go_wp2_with fail
  go_ret2
  exact ⟨_, rfl, HC2.out, HS2.out, HW2.out⟩
end Go.Proofs.YtodokgkchmpmnaaGreat

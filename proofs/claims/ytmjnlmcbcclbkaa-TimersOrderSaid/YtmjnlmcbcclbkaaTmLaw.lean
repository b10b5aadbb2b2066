/- Proved: what package timers answers at timers that a call has made itself; the laws' example. Conditions: those that the theorems name. -/
import Derived.Test.YtmjnlmcbcclbkaaTmDue
import Derived.Test.YtmjnlmcbcclbkaaTmRef3
namespace Go.Proofs.Ytmjnlmcbcclbkaa
open Go.ChangeShapes Go.WideShapes Go.ChangeAt Go.RowKit

/-- Block b is timers that were made since w; of what was there in w nothing has turned. -/
def TB (w wi : World) (b : Nat) (l : List Tm) : Prop := ∃ m, Tk wi b m l ∧ w.heap.size ≤ b ∧ w.heap.size ≤ m ∧ Below w.heap.size w wi
/-- slices of times stay what they are. -/
def Keeps (wi w' : World) : Prop := ∀ A n q, Ts wi A n q → Ts w' A n q
theorem TB.bel {w wi : World} {b : Nat} {l : List Tm} (h : TB w wi b l) : Below w.heap.size w wi := by
  obtain ⟨_, _, _, _, h⟩ := h
  exact h
theorem TB.good {w wi : World} {b : Nat} {l : List Tm} (h : TB w wi b l) : Good l := by
  obtain ⟨_, h, _, _, _⟩ := h
  exact h.good
theorem TB.below {w wi w' : World} {b : Nat} {l : List Tm} (h : TB w wi b l) (k : Below wi.heap.size wi w') : TB w w' b l := by
  obtain ⟨m, h1, h2, h3, h4⟩ := h
  exact ⟨m, h1.below k, h2, h3, h4.trans (k.mono h4.size)⟩
theorem TB.turned {w wi w' : World} {b m : Nat} {l l' : List Tm} (h1 : Tk wi b m l) (h2 : w.heap.size ≤ b) (h3 : w.heap.size ≤ m) (h4 : Below w.heap.size w wi) (hg : wi.grownBy w' (some m)) (hm : Mp w' m l') : TB w w' b l' :=
  ⟨m, h1.turned hg hm, h2, h3, h4.grown hg h4.size (fun q e => by injection e with e; omega)⟩
theorem keeps_below {wi w' : World} (k : Below wi.heap.size wi w') : Keeps wi w' := fun _ _ _ h => h.below k
theorem keeps_turned {wi w' : World} {m : Nat} {l : List Tm} (k : wi.grownBy w' (some m)) (hm : Mp wi m l) : Keeps wi w' := fun _ _ _ h => h.turned k hm
theorem tb_new (w wi : World) (h : Below w.heap.size w wi) :
    Calls Try.prog 7 #[] wi fun e w' => e = .returned (.pointer (some ⟨wi.heap.size + 1, 0, none⟩)) ∧ TB w w' (wi.heap.size + 1) [] := by
  refine (tm_new wi).mono ?_
  rintro e w' ⟨rfl, rfl⟩
  have hs := h.size
  refine ⟨rfl, wi.heap.size, tk_new wi, by omega, hs, ?_⟩
  exact (h.alloc hs _).alloc (by simp; omega) _
theorem tb_len {w wi : World} {b : Nat} {l : List Tm} (h : TB w wi b l) :
    Calls Try.prog 12 #[.pointer (some ⟨b, 0, none⟩)] wi fun e w' => e = .returned (.int .i64 (l.length : Nat)) ∧ TB w w' b l ∧ Keeps wi w' := by
  obtain ⟨m, h1, h2, h3, h4⟩ := h
  refine (tm_len h1).mono ?_
  rintro e w' ⟨rfl, q, rfl⟩
  have hb := below_grown (grown_drewN wi q none) (Nat.le_refl wi.heap.size) (by simp)
  exact ⟨rfl, TB.below ⟨m, h1, h2, h3, h4⟩ hb, keeps_below hb⟩
theorem tb_at {w wi : World} {b : Nat} {l : List Tm} (h : TB w wi b l) {k : Ky} (hk : KyOk k) :
    Calls Try.prog 9 #[.pointer (some ⟨b, 0, none⟩), .agg #[.int .i64 k.1, .int .u32 k.2]] wi fun e w' => e = .returned (.tuple #[.int .i64 (atT l k), .bool (wasT l k)]) ∧ TB w w' b l ∧ Keeps wi w' := by
  obtain ⟨m, h1, h2, h3, h4⟩ := h
  refine (tm_at_any h1 hk).mono ?_
  rintro e w' ⟨rfl, hb⟩
  exact ⟨rfl, TB.below ⟨m, h1, h2, h3, h4⟩ hb, keeps_below hb⟩
theorem tb_next {w wi : World} {b : Nat} {l : List Tm} (h : TB w wi b l) (hn : l.length ≤ 500) :
    Calls Try.prog 11 #[.pointer (some ⟨b, 0, none⟩)] wi fun e w' => e = .returned (.tuple #[.int .i64 (tm_ l 0).2, .bool (decide (0 < l.length))]) ∧ TB w w' b l ∧ Keeps wi w' := by
  obtain ⟨m, h1, h2, h3, h4⟩ := h
  refine (tm_next_any h1 (by omega)).mono ?_
  rintro e w' ⟨rfl, hb⟩
  exact ⟨rfl, TB.below ⟨m, h1, h2, h3, h4⟩ hb, keeps_below hb⟩
theorem tb_set {w wi : World} {b : Nat} {l : List Tm} (h : TB w wi b l) (hn : l.length ≤ 500) {k : Ky} (hk : KyOk k) (z : Int) :
    Calls Try.prog 13 #[.pointer (some ⟨b, 0, none⟩), .agg #[.int .i64 k.1, .int .u32 k.2], .int .i64 z] wi fun e w' => e = .returned (.int .i64 (setTE z)) ∧ TB w w' b (setT l k z) ∧ Keeps wi w' := by
  obtain ⟨m, h1, h2, h3, h4⟩ := h
  refine (tm_set_any h1 (by unfold maxLen; omega) hk z).mono ?_
  rintro e w' ⟨rfl, hm, hg⟩
  exact ⟨rfl, TB.turned h1 h2 h3 h4 hg hm, keeps_turned hg h1.2⟩
theorem tb_drop {w wi : World} {b : Nat} {l : List Tm} (h : TB w wi b l) {k : Ky} (hk : KyOk k) :
    Calls Try.prog 14 #[.pointer (some ⟨b, 0, none⟩), .agg #[.int .i64 k.1, .int .u32 k.2]] wi fun e w' => e = .returned (.bool (wasT l k)) ∧ TB w w' b (dropT l k) ∧ Keeps wi w' := by
  obtain ⟨m, h1, h2, h3, h4⟩ := h
  refine (tm_drop_any h1 hk).mono ?_
  rintro e w' ⟨rfl, hm, hg⟩
  exact ⟨rfl, TB.turned h1 h2 h3 h4 hg hm, keeps_turned hg h1.2⟩
theorem tb_due {w wi : World} {b : Nat} {l : List Tm} (h : TB w wi b l) (hn : l.length ≤ 500) (z : Int) :
    Calls Try.prog 15 #[.pointer (some ⟨b, 0, none⟩), .int .i64 z] wi fun e w' => ∃ A c, e = .returned (.slice A (dueT l z).length c) ∧ Ts w' A (dueT l z).length (dueT l z) ∧ TB w w' b (stayT l z) ∧ Keeps wi w' := by
  obtain ⟨m, h1, h2, h3, h4⟩ := h
  refine (tm_due_any h1 hn z).mono ?_
  rintro e w' ⟨A, n, c, rfl, ht, hm, hg⟩
  have e := ht.len
  subst e
  exact ⟨A, c, rfl, ht, TB.turned h1 h2 h3 h4 hg hm, keeps_turned hg h1.2⟩

/-! ### the example -/
abbrev tx1 : List Tm := [((1, 0), 5)]
abbrev tx2 : List Tm := [((1, 2), 3), ((1, 0), 5)]
theorem ky_small {s b : Int} (h0 : 0 ≤ s) (h1 : s ≤ 9) (h2 : 0 ≤ b) (h3 : b ≤ 9) : KyOk (s, b) := ⟨by show _ ≤ s; omega, by show s ≤ _; omega, h2, by show b ≤ _; omega⟩
set_option maxRecDepth 100000 in
set_option maxHeartbeats 1600000 in
theorem tm_awake_any (w : World) :
    Calls Try.prog 6 #[] w fun e w' => e = .returned (.bool true) ∧ Below w.heap.size w w' := by
  have HN := Lib.hid (tb_new w w (Below.refl _ _))
  go_enter Try.func6, Try.ntmps6
  go_wp2_with fail
  refine HN.out.mono ?_; rintro e w1 ⟨rfl, r1⟩
  have R1 := Lib.hid r1
  clear r1 HN
  generalize w.heap.size + 1 = b at *
  go_wp2_with fail
  have h2 := tb_set R1.out (by decide) (ky_small (s := 1) (b := 0) (by decide) (by decide) (by decide) (by decide)) 5
  rw [show setT [] (1, 0) 5 = tx1 by decide +kernel, show setTE 5 = 0 by decide +kernel] at h2
  refine h2.mono ?_; rintro e w2 ⟨rfl, r2, _⟩
  have R2 := Lib.hid r2
  clear r2 R1 h2
  go_wp2_with fail
  have h3 := tb_set R2.out (by decide) (ky_small (s := 1) (b := 2) (by decide) (by decide) (by decide) (by decide)) 3
  rw [show setT tx1 (1, 2) 3 = tx2 by decide +kernel, show setTE 3 = 0 by decide +kernel] at h3
  refine h3.mono ?_; rintro e w3 ⟨rfl, r3, _⟩
  have R3 := Lib.hid r3
  clear r3 R2 h3
  go_wp2_with fail
  have h4 := tb_set R3.out (by decide) (ky_small (s := 0) (b := 0) (by decide) (by decide) (by decide) (by decide)) (-1)
  rw [show setT tx2 (0, 0) (-1) = tx2 by decide +kernel, show setTE (-1) = 2 by decide +kernel] at h4
  refine h4.mono ?_; rintro e w4 ⟨rfl, r4, _⟩
  have R4 := Lib.hid r4
  clear r4 R3 h4
  go_wp2_with fail
  have h5 := tb_next R4.out (by decide)
  rw [show (tm_ tx2 0).2 = 3 by decide +kernel, show decide (0 < tx2.length) = true by decide +kernel] at h5
  refine h5.mono ?_; rintro e w5 ⟨rfl, r5, _⟩
  have R5 := Lib.hid r5
  clear r5 R4 h5
  go_wp2_with fail
  have h6 := tb_due R5.out (by decide) 2
  rw [show dueT tx2 2 = [] by decide +kernel, show stayT tx2 2 = tx2 by decide +kernel] at h6
  refine h6.mono ?_; rintro e w6 ⟨A6, c6, rfl, _, r6, _⟩
  have R6 := Lib.hid r6
  clear r6 R5 h6
  go_wp2_with fail
  have h7 := tb_due R6.out (by decide) 5
  rw [show dueT tx2 5 = tx2 by decide +kernel, show stayT tx2 5 = [] by decide +kernel] at h7
  refine h7.mono ?_; rintro e w7 ⟨A7, c7, rfl, t7, r7, _⟩
  have R7 := Lib.hid r7
  have T7 := Lib.hid t7
  clear r7 R6 h7 t7
  go_wp2_with fail
  have h8 := tb_next R7.out (by decide)
  rw [show (tm_ [] 0).2 = 0 by decide +kernel, show decide (0 < ([] : List Tm).length) = false by decide +kernel] at h8
  refine h8.mono ?_; rintro e w8 ⟨rfl, r8, k8⟩
  have R8 := Lib.hid r8
  have t8 := k8 _ _ _ T7.out
  clear r8 k8 R7 h8 T7
  obtain ⟨ad, rfl, had, x0, x1, x2⟩ := t8.at_ (k := 0) (by decide)
  obtain ⟨ad', e', had', y0, y1, y2⟩ := t8.at_ (k := 1) (by decide)
  injection e' with e'
  subst e'
  rw [show tm_ tx2 0 = ((1, 2), 3) from rfl] at x0 x1 x2
  rw [show tm_ tx2 1 = ((1, 0), 5) from rfl] at y0 y1 y2
  have he := fun W => eq_ky (1, 0) (1, 0) W
  simp only [decide_true] at he
  rw [Nat.zero_mul, Addr.add_zero' ad] at x0 x1 x2
  have z0 : w8.cell? ⟨ad.block, ad.off + 3, none⟩ = some (.int .i64 1) := y0
  have z1 : w8.cell? ⟨ad.block, ad.off + 3 + 1, none⟩ = some (.int .u32 0) := y1
  have z2 : w8.cell? ⟨ad.block, ad.off + 3 + 2, none⟩ = some (.int .i64 5) := y2
  clear t8 y0 y1 y2
  go_wp2_with fail
  refine (tb_len R8.out).mono ?_; rintro e w9 ⟨rfl, r9, _⟩
  have R9 := Lib.hid r9
  clear r9 R8
  go_wp2_with fail
  go_ret
  exact ⟨rfl, R9.out.bel⟩
end Go.Proofs.Ytmjnlmcbcclbkaa

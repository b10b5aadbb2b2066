/- Proved: what New, Len, At, Set and Drop of package timers answer, and what timers that are none answer. Conditions: those that the theorems name. -/
import Derived.Test.YtmjnlmcbcclbkaaTmMap
import Derived.Deep.QuietTactic
import Derived.BigQuiet
import Derived.WalkSpells
import Derived.Carry
import Derived.StillTailTactics
namespace Go.Proofs.Ytmjnlmcbcclbkaa
open Go.ChangeShapes Go.WideShapes Go.ChangeAt Go.RowKit

/-- Block b is timers, whose times stand in the map in block m. -/
def Tk (w : World) (b m : Nat) (l : List Tm) : Prop := At w b 51 [.map (some m)] ∧ Mp w m l
theorem Tk.ne {w : World} {b m : Nat} {l : List Tm} (h : Tk w b m l) : b ≠ m := by
  intro e
  have h1 := h.1.cell 0 rfl
  rw [h.2.cell (by exact e)] at h1
  cases h1
theorem Tk.good {w : World} {b m : Nat} {l : List Tm} (h : Tk w b m l) : Good l := h.2.good
theorem Tk.below {w w' : World} {b m : Nat} {l : List Tm} (h : Tk w b m l) (k : Below w.heap.size w w') : Tk w' b m l := ⟨h.1.below k h.1.lt, h.2.below k h.2.lt⟩
theorem Tk.turned {w w' : World} {b m : Nat} {l l' : List Tm} (h : Tk w b m l) (k : w.grownBy w' (some m)) (g : Mp w' m l') : Tk w' b m l' := ⟨h.1.kept k (fun e => h.ne (by injection e with e; exact e.symm)), g⟩
theorem Tk.kept {w w' : World} {b m : Nat} {l : List Tm} {row : Option Nat} (h : Tk w b m l) (k : w.grownBy w' row) (hb : row ≠ some b) (hm : row ≠ some m) : Tk w' b m l := ⟨h.1.kept k hb, h.2.kept k hm⟩

/-! ### New -/
theorem tm_new (w : World) :
    Calls Try.prog 7 #[] w fun e w' => e = .returned (.pointer (some ⟨w.heap.size + 1, 0, none⟩)) ∧ w' = (w.alloc (.map #[] 0)).alloc (.cells [.map (some w.heap.size)].toArray 51) := by
  have hmm := @run_makeMap Try.prog
  go_enter Try.func7, Try.ntmps7
  go_wp2_with fail
  go_ret
  exact ⟨rfl, rfl⟩
theorem tk_new (w : World) : Tk ((w.alloc (.map #[] 0)).alloc (.cells [.map (some w.heap.size)].toArray 51)) (w.heap.size + 1) w.heap.size [] := by
  refine ⟨?_, (Mp.new w).below ((Below.refl _ _).alloc (Nat.le_refl _) _) (by simp)⟩
  have := At.new (w.alloc (.map #[] 0)) 51 [.map (some w.heap.size)]
  rwa [show (w.alloc (.map #[] 0)).heap.size = w.heap.size + 1 by simp] at this

/-! ### Len -/
theorem tm_len {b m : Nat} {l : List Tm} {w : World} (h : Tk w b m l) :
    Calls Try.prog 12 #[.pointer (some ⟨b, 0, none⟩)] w fun e w' => e = .returned (.int .i64 (l.length : Nat)) ∧ ∃ q, w' = w.drewN q := by
  have hc := h.1.cell 0 rfl
  have hl := fun ty => mp_len h.2 ty
  clear h
  go_enter Try.func12, Try.ntmps12
  go_wp2_with fail
  go_ret
  exact ⟨rfl, 0, rfl⟩
theorem tm_len_nil (w : World) :
    Calls Try.prog 12 #[.pointer none] w fun e w' => e = .returned (.int .i64 0) ∧ w = w' := by
  go_enter Try.func12, Try.ntmps12
  go_wp2_with fail
  go_ret
  exact ⟨rfl, rfl⟩

/-! ### At -/
set_option maxRecDepth 100000 in
set_option maxHeartbeats 800000 in
theorem tm_at_any {b m : Nat} {l : List Tm} {w : World} (h : Tk w b m l) {k : Ky} (hk : KyOk k) :
    Calls Try.prog 9 #[.pointer (some ⟨b, 0, none⟩), kyV k] w fun e w' => e = .returned (.tuple #[.int .i64 (atT l k), .bool (wasT l k)]) ∧ Below w.heap.size w w' := by
  have X1 := At.new w 32 [.int .i64 k.1, .int .u32 k.2]
  have B1 := Lib.hid ((Below.refl w.heap.size w).alloc (Nat.le_refl _) (.cells [.int .i64 k.1, .int .u32 k.2].toArray 32))
  have H1 := h.below ((Below.refl w.heap.size w).alloc (Nat.le_refl _) (.cells [.int .i64 k.1, .int .u32 k.2].toArray 32))
  have hc := H1.1.cell 0 rfl
  have hx0 := X1.cell 0 rfl
  have hx1 := X1.cell 1 rfl
  have HL := fun q => mp_look (H1.2.kept (grown_drewN _ q none) (by simp)) hk
  clear X1 H1 h
  generalize atT l k = z at *
  generalize wasT l k = s at *
  obtain ⟨k0, k1⟩ := k
  clear hk
  go_enter Try.func9, Try.ntmps9
  go_wp2_with fail
  generalize w.alloc (.cells #[.int .i64 k0, .int .u32 k1] 32) = w1 at *
  go_quiet (fail)
  go_wp2_with fail
  go_ret2
  exact ⟨rfl, B1.out.grown (grown_drewN _ _ none) B1.out.size (by simp)⟩
theorem tm_at_nil (k : Ky) (w : World) :
    Calls Try.prog 9 #[.pointer none, kyV k] w fun e w' => e = .returned (.tuple #[.int .i64 0, .bool false]) ∧ Below w.heap.size w w' := by
  go_enter Try.func9, Try.ntmps9
  go_wp2_with fail
  go_ret2
  exact ⟨rfl, (Below.refl _ _).alloc (Nat.le_refl _) _⟩

/-! ### Set -/
set_option maxRecDepth 100000 in
set_option maxHeartbeats 800000 in
theorem tm_set_any {b m : Nat} {l : List Tm} {w : World} (h : Tk w b m l) (hn : l.length < maxLen) {k : Ky} (hk : KyOk k) (z : Int) :
    Calls Try.prog 13 #[.pointer (some ⟨b, 0, none⟩), kyV k, .int .i64 z] w fun e w' => e = .returned (.int .i64 (setTE z)) ∧ Mp w' m (setT l k z) ∧ w.grownBy w' (some m) := by
  have X1 := At.new w 32 [.int .i64 k.1, .int .u32 k.2]
  have B1 := Lib.hid ((Below.refl w.heap.size w).alloc (Nat.le_refl _) (.cells [.int .i64 k.1, .int .u32 k.2].toArray 32))
  have H1 := h.below ((Below.refl w.heap.size w).alloc (Nat.le_refl _) (.cells [.int .i64 k.1, .int .u32 k.2].toArray 32))
  by_cases hz : BadAt z
  · have e1 : setTE z = 2 := if_pos hz
    have e2 : setT l k z = l := if_pos hz
    rw [e1, e2]
    have HR : Hid (Mp (w.alloc (.cells [.int .i64 k.1, .int .u32 k.2].toArray 32)) m l) := Lib.hid H1.2
    clear H1 X1 h hn hk e1 e2
    obtain ⟨k0, k1⟩ := k
    rcases hz with h1 | h1
    · go_enter Try.func13, Try.ntmps13
      go_wp2_with fail
      go_ret
      exact ⟨rfl, HR.out, grown_below B1.out _⟩
    · have h2 : ¬ z < 0 := by omega
      go_enter Try.func13, Try.ntmps13
      go_wp2_with fail
      go_ret
      exact ⟨rfl, HR.out, grown_below B1.out _⟩
  · have e1 : setTE z = 0 := if_neg hz
    rw [e1]
    have hc := H1.1.cell 0 rfl
    have hx0 := X1.cell 0 rfl
    have hx1 := X1.cell 1 rfl
    have HP := Lib.hid (fun W (g : Mp W m l) => mp_put g hn hk hz)
    have HR : Hid (Mp (w.alloc (.cells [.int .i64 k.1, .int .u32 k.2].toArray 32)) m l) := Lib.hid H1.2
    generalize setT l k z = l' at *
    obtain ⟨k0, k1⟩ := k
    unfold BadAt at hz
    have h1 : ¬ z < 0 := by omega
    have h2 : ¬ 1099511627776 < z := by omega
    clear H1 X1 h hn hk hz e1
    go_enter Try.func13, Try.ntmps13
    go_wp2_with fail
    generalize w.alloc (.cells #[.int .i64 k0, .int .u32 k1] 32) = w1 at *
    refine wp_region_still_tail 6 (by kernel_rfl) (by kernel_rfl) ?_
    simp only [List.take_succ_cons, List.take_zero, List.drop_succ_cons, List.drop_zero]
    repeat still_step
    refine wpStill_nil ?_
    change wpList _ _ _ _ _ w1.drew
    obtain ⟨w2, hrun, hm, hg⟩ := HP.out w1.drew (HR.out.kept (grown_drew _ none) (by simp))
    have HM := Lib.hid hm
    have HG : Hid (w1.grownBy w2 (some m)) := Lib.hid (grown_trans2 (grown_drew w1 _) hg)
    clear hm hg HP
    generalize w1.drew = w3 at *
    go_wp2_with fail
    go_ret
    exact ⟨rfl, HM.out, grown_trans2 (grown_below B1.out _) HG.out⟩
theorem tm_set_nil (k : Ky) (z : Int) (w : World) :
    Calls Try.prog 13 #[.pointer none, kyV k, .int .i64 z] w fun e w' => e = .returned (.int .i64 17) ∧ Below w.heap.size w w' := by
  go_enter Try.func13, Try.ntmps13
  go_wp2_with fail
  go_ret
  exact ⟨rfl, (Below.refl _ _).alloc (Nat.le_refl _) _⟩

/-! ### Drop -/
set_option maxRecDepth 100000 in
set_option maxHeartbeats 800000 in
theorem tm_drop_any {b m : Nat} {l : List Tm} {w : World} (h : Tk w b m l) {k : Ky} (hk : KyOk k) :
    Calls Try.prog 14 #[.pointer (some ⟨b, 0, none⟩), kyV k] w fun e w' => e = .returned (.bool (wasT l k)) ∧ Mp w' m (dropT l k) ∧ w.grownBy w' (some m) := by
  have X1 := At.new w 32 [.int .i64 k.1, .int .u32 k.2]
  have B1 := Lib.hid ((Below.refl w.heap.size w).alloc (Nat.le_refl _) (.cells [.int .i64 k.1, .int .u32 k.2].toArray 32))
  have H1 := Lib.hid (h.below ((Below.refl w.heap.size w).alloc (Nat.le_refl _) (.cells [.int .i64 k.1, .int .u32 k.2].toArray 32)))
  have HX := Lib.hid X1
  have hx0 := X1.cell 0 rfl
  have hx1 := X1.cell 1 rfl
  have HA := Lib.hid (fun W (g : Tk W b m l) => tm_at_any g hk)
  have HP := Lib.hid (fun W (g : Mp W m l) ty => mp_del g hk ty)
  have HN : Hid (wasT l k = false → dropT l k = l) := Lib.hid drop_none
  generalize atT l k = z at *
  generalize dropT l k = l' at *
  have HW := Lib.hid (show wasT l k = wasT l k from rfl)
  generalize wasT l k = s at *
  obtain ⟨k0, k1⟩ := k
  clear X1 h hk HW
  go_enter Try.func14, Try.ntmps14
  go_wp2_with fail
  generalize w.alloc (.cells #[.int .i64 k0, .int .u32 k1] 32) = w1 at *
  refine (HA.out _ H1.out).mono ?_; rintro e w2 ⟨rfl, g2⟩
  have H2 := H1.out.below g2
  have X2 := HX.out.below g2 HX.out.lt
  have B2 := Lib.hid (B1.out.trans (g2.mono B1.out.size))
  have hc := H2.1.cell 0 rfl
  have hy0 := X2.cell 0 rfl
  have hy1 := X2.cell 1 rfl
  have HR : Hid (Mp w2 m l) := Lib.hid H2.2
  clear g2 H2 X2 hx0 hx1 HX H1 HA
  cases s
  · have e := HN.out rfl
    clear HN
    subst e
    go_wp2_with fail
    go_ret
    exact ⟨rfl, HR.out, grown_below B2.out _⟩
  · clear HN
    go_wp2_with fail
    refine wp_region_still_tail 5 (by kernel_rfl) (by kernel_rfl) ?_
    simp only [List.take_succ_cons, List.take_zero, List.drop_succ_cons, List.drop_zero]
    repeat still_step
    refine wpStill_nil ?_
    change wpList _ _ _ _ _ w2.drew
    obtain ⟨w3, hrun, hm, hg⟩ := HP.out w2.drew (HR.out.kept (grown_drew _ none) (by simp)) 0
    have HM := Lib.hid hm
    have HG : Hid (w2.grownBy w3 (some m)) := Lib.hid (grown_trans2 (grown_drew w2 _) hg)
    clear hm hg HP hc hy0 hy1
    generalize w2.drew = w4 at *
    go_wp2_with fail
    go_ret
    exact ⟨rfl, HM.out, grown_trans2 (grown_below B2.out _) HG.out⟩
theorem tm_drop_nil (k : Ky) (w : World) :
    Calls Try.prog 14 #[.pointer none, kyV k] w fun e w' => e = .returned (.bool false) ∧ Below w.heap.size w w' := by
  obtain ⟨k0, k1⟩ := k
  have X1 := At.new w 32 [.int .i64 k0, .int .u32 k1]
  have B1 := Lib.hid ((Below.refl w.heap.size w).alloc (Nat.le_refl _) (.cells [.int .i64 k0, .int .u32 k1].toArray 32))
  have hx0 := X1.cell 0 rfl
  have hx1 := X1.cell 1 rfl
  clear X1
  go_enter Try.func14, Try.ntmps14
  go_wp2_with fail
  generalize w.alloc (.cells #[.int .i64 k0, .int .u32 k1] 32) = w1 at *
  refine (tm_at_nil (k0, k1) _).mono ?_; rintro e w2 ⟨rfl, g2⟩
  have B2 := Lib.hid (B1.out.trans (g2.mono B1.out.size))
  clear g2
  go_wp2_with fail
  go_ret
  exact ⟨rfl, B2.out⟩
end Go.Proofs.Ytmjnlmcbcclbkaa

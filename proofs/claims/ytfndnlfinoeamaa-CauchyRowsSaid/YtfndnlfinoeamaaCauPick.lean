/- Proved: what Pick and Rows of package cauchy answer for every two ints and every slice of ints. Conditions: those that the theorems name. -/
import Derived.Test.YtfndnlfinoeamaaCauRow3
namespace Go.Proofs.Ytfndnlfinoeamaa
open Go.ChangeShapes Go.WideShapes Go.ChangeAt Go.RowKit

/-- A table with t comes back, and the error k; nothing that was there has turned. -/
def GivesTE (W : World) (t : List (List Nat)) (k : Nat) (e : Ending) (w' : World) : Prop :=
  ∃ A n c, e = .returned (.tuple #[.slice A n c, .int .i64 (k : Nat)]) ∧ Rows w' A n t ∧ Below W.heap.size W w'
def fRows (k n : Int) (l : List Int) : List (List Nat) := if fErr k n l = 0 then rowsC k.toNat l else []
theorem fRows_some {k n : Int} {l : List Int} (h : fErr k n l = 0) : fRows k n l = rowsC k.toNat l := if_pos h
theorem fRows_none {k n : Int} {l : List Int} (h : fErr k n l ≠ 0) : fRows k n l = [] := if_neg h

set_option maxHeartbeats 400000 in
theorem tell_any (B D : Nat) (k n i : Int) (w : World) (hk : w.cell? ⟨B, 0, none⟩ = some (.int .i64 k)) (hn : w.cell? ⟨D, 0, none⟩ = some (.int .i64 n)) :
    Calls Try.prog 23 #[.int .i64 i, .pointer (some ⟨B, 0, none⟩), .pointer (some ⟨D, 0, none⟩)] w (GivesE w (cRow k n i) (cErr k n i)) := by
  have HR := fun w => row_any k n i w
  generalize cErr k n i = e at *
  generalize cRow k n i = l at *
  have HR' := Lib.hid HR
  clear HR
  go_enter Try.func23, Try.ntmps23
  go_wp2_with (go_at_call 7; refine (HR'.out _).mono ?_; rintro e w' ⟨A, m, c, rfl, hc, hb, hw⟩; have HB := Lib.hid hb; have HW := Lib.hid hw; clear hb hw)
  go_ret2
  exact ⟨_, _, _, rfl, hc, HB.out, HW.out⟩

theorem OwnT.put {w : World} {g n : Nat} {t : List (List Nat)} (h : OwnT w g n t) {r : Nat} (hr : r < n) {B : Option Addr} {k c : Nat} {x : List Nat} (hcap : k ≤ c) (hx : Bs w B k x) : OwnT (w.setCell ⟨g, r, none⟩ (.slice B k c)) g n (t.set r x) := h.set_ hr hcap hx

set_option maxRecDepth 100000 in
set_option maxHeartbeats 1600000 in
theorem picked_any (A : Option Addr) (m c B D : Nat) (k n : Int) (l : List Int) (w : World) (hl : Is w A m l) (hm : m ≤ 255)
    (hB : B < w.heap.size) (hD : D < w.heap.size) (hk : w.cell? ⟨B, 0, none⟩ = some (.int .i64 k)) (hn : w.cell? ⟨D, 0, none⟩ = some (.int .i64 n)) :
    Calls Try.prog 22 #[.slice A m c, .func (.func 23) #[] #[.pointer (some ⟨B, 0, none⟩), .pointer (some ⟨D, 0, none⟩)]] w (GivesTE w (fRows k n l) (fErr k n l)) := by
  have hmT := run_make_row' (P := Try.prog) 30 24 (.slice none 0 0) 24 Try.underlying30 Try.infoRow rfl .i64 .i64 m (by omega) (by omega)
  have HL := Lib.hid hl
  have HK : Hid (∀ w1, Below w.heap.size w w1 → w1.cell? ⟨B, 0, none⟩ = some (.int .i64 k) ∧ w1.cell? ⟨D, 0, none⟩ = some (.int .i64 n)) := Lib.hid fun w1 h => ⟨(h.cell hB).trans hk, (h.cell hD).trans hn⟩
  clear hl hk hn hB hD
  have hpos : (0 : Int) ≤ (m : Int) := by omega
  go_enter Try.func22, Try.ntmps22
  go_wp2_with fail
  have HO := Lib.hid (ownT_new w m)
  have HW := Lib.hid ((Below.refl w.heap.size w).alloc (Nat.le_refl _) (.cells (madeCells #[.slice none 0 0] m) 24))
  have hg : w.heap.size ≤ w.heap.size := Nat.le_refl _
  generalize hgg : w.heap.size = g at *
  go_loopw [16] (fun v wr => ∃ j : Nat, j ≤ m ∧ v = .int .i64 j ∧ NoErr k n l j ∧ ∃ t, UptoT m j (fun j => rowC k.toNat (l.getD j 0).toNat) t ∧ OwnT wr g m t ∧ Below g w wr) (fun v _ => m - (intOf v).toNat)
  case atStart => exact ⟨0, by omega, rfl, NoErr.start _ _ _, _, UptoT.start (by simp), HO.out, HW.out⟩
  case round =>
    obtain ⟨j, hj, rfl, he, t, hu, ho, hbel⟩ := hrel
    have HE := Lib.hid he
    have HU := Lib.hid hu
    have HO' := Lib.hid ho
    have HW' := Lib.hid hbel
    clear he hu ho hbel HO HW
    by_cases hlt : j < m
    · obtain ⟨ad, rfl, had, hac⟩ := HL.out.at_ hlt
      have hac' : wr.cell? (ad.add j) = some (.int .i64 (l.getD j 0)) := (HW'.out.cell (by rw [add_block]; omega)).trans hac
      clear hac
      have hcl := HK.out wr HW'.out
      have hkn := Lib.hid hcl.1
      have hnn := Lib.hid hcl.2
      clear hcl
      have HT := fun w hk hn => tell_any B D k n (l.getD j 0) w hk hn
      have HC : Hid (j < l.length) := Lib.hid (by rw [HL.out.len]; exact hlt)
      by_cases h0 : cErr k n (l.getD j 0) = 0
      · have HN := Lib.hid (HE.out.next h0)
        rw [h0, cRow_some h0] at HT
        have HT' := Lib.hid HT
        clear HT h0
        generalize hx : l.getD j 0 = x at hac' HT'
        have HX := Lib.hid hx
        clear hx
        go_wp2_with (go_at_call 23; refine (HT'.out _ hkn.out hnn.out).mono ?_; rintro e w2 ⟨A2, m2, c2, rfl, hc2, hb2, hw2⟩; have H2 := Lib.hid hb2; have HO2 := Lib.hid (HO'.out.below hw2); have HW2 := Lib.hid (HW'.out.trans (hw2.mono (hgg ▸ HW'.out.size))); have hfz := HO2.out.frozen j; obtain ⟨B0, c0, hc0, _⟩ := HO2.out.at_ hlt; clear hb2 hw2)
        go_roundw
        case rel =>
          refine ⟨j + 1, by omega, by go_num, HN.out, _, HU.out.next hlt, ?_, HW2.out.setCell (Nat.le_refl _) _⟩
          rw [HX.out]
          exact HO2.out.set_ hlt hc2 H2.out
        case measure => simp [intOf]; omega
      · have HS := Lib.hid (fErr_stop HE.out HC.out h0)
        rw [cRow_none h0] at HT
        generalize cErr k n (l.getD j 0) = z at *
        have HT' := Lib.hid HT
        have HZ := Lib.hid h0
        have hz : ((z : Int) != 0) = true := by simp; omega
        clear HT h0
        generalize l.getD j 0 = x at *
        go_wp2_with (go_at_call 23; refine (HT'.out _ hkn.out hnn.out).mono ?_; rintro e w2 ⟨A2, m2, c2, rfl, hc2, hb2, hw2⟩; have HW2 := Lib.hid (HW'.out.trans (hw2.mono (hgg ▸ HW'.out.size))); clear hb2 hw2)
        go_ret2
        refine ⟨_, _, _, by rw [HS.out]; rfl, ?_, by rw [hgg]; exact HW2.out⟩
        rw [fRows_none (by rw [HS.out]; exact HZ.out)]
        exact Rows.nil _ _
    · obtain rfl : j = m := by omega
      have hz : Hid (fErr k n l = 0) := Lib.hid (fErr_end (by rw [HL.out.len]; exact HE.out))
      go_wp2_with fail
      go_ret2
      refine ⟨_, _, _, by rw [hz.out]; rfl, ?_, by rw [hgg]; exact HW'.out⟩
      rw [fRows_some hz.out, rowsC_mk, HL.out.len, ← HU.out.done]
      exact HO'.out.rows
end Go.Proofs.Ytfndnlfinoeamaa

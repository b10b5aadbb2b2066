/- Proved: what the document's Pick and Rows of chapter 4 answer for every two ints and every slice of ints. Conditions: those that the theorems name. -/
import Derived.Test.YtfndnlfinoeamaaCauRef
import Derived.Test.YtfndnlfinoeamaaCauPick2
namespace Go.Proofs.Ytfndnlfinoeamaa
open Go.ChangeShapes Go.WideShapes Go.ChangeAt Go.RowKit

theorem ownsRow_below' {w w' : World} {base size n : Nat} {e : TypeId} {v : Value} {xs : List Value} (h : w.ownsRow base e size v n xs) (hb : Below w.heap.size w w') : w'.ownsRow base e size v n xs := by
  obtain ⟨h1, h2 | ⟨g, cap, cur, rfl, hg, hc, h3⟩⟩ := h
  · exact ⟨h1, Or.inl h2⟩
  · exact ⟨h1, Or.inr ⟨g, cap, cur, rfl, hg, (hb.block g (Array.getElem?_eq_some_iff.1 hc).1).trans hc, h3⟩⟩

set_option maxHeartbeats 400000 in
theorem rpick_few (A : Option Addr) (m c : Nat) (k n : Int) (w : World) (h : ¬ (1 ≤ m ∧ m ≤ 255)) :
    Calls Try.prog 10 #[.int .i64 k, .int .i64 n, .slice A m c] w (GivesTE w [] 1) := by
  by_cases hb : NoTab k n
  · have H := Lib.hid hb
    clear hb h
    go_enter Try.func10, Try.ntmps10
    go_wp2_with (go_at_call 20; refine (rbad_yes k n H.out _).mono ?_; rintro e w' ⟨rfl, rfl⟩)
    go_ret2
    exact ⟨_, _, _, rfl, Rows.nil _ _, by first | exact Below.refl _ _ | exact (Below.refl _ _).drew⟩
  · have H := Lib.hid hb
    clear hb
    by_cases h1 : (m : Int) < 1
    · clear h
      go_enter Try.func10, Try.ntmps10
      go_wp2_with (go_at_call 20; refine (rbad_no k n H.out _).mono ?_; rintro e w' ⟨rfl, rfl⟩)
      go_ret2
      exact ⟨_, _, _, rfl, Rows.nil _ _, by first | exact Below.refl _ _ | exact (Below.refl _ _).drew⟩
    · have h2 : (m : Int) > 255 := by omega
      clear h
      go_enter Try.func10, Try.ntmps10
      go_wp2_with (go_at_call 20; refine (rbad_no k n H.out _).mono ?_; rintro e w' ⟨rfl, rfl⟩)
      go_ret2
      exact ⟨_, _, _, rfl, Rows.nil _ _, by first | exact Below.refl _ _ | exact (Below.refl _ _).drew⟩

set_option maxHeartbeats 400000 in
theorem rpick_bad (A : Option Addr) (m c : Nat) (k n : Int) (w : World) (hb : NoTab k n) :
    Calls Try.prog 10 #[.int .i64 k, .int .i64 n, .slice A m c] w (GivesTE w [] 1) := by
  have H := Lib.hid hb
  clear hb
  go_enter Try.func10, Try.ntmps10
  go_wp2_with (go_at_call 20; refine (rbad_yes k n H.out _).mono ?_; rintro e w' ⟨rfl, rfl⟩)
  go_ret2
  exact ⟨_, _, _, rfl, Rows.nil _ _, by first | exact Below.refl _ _ | exact (Below.refl _ _).drew⟩

set_option maxRecDepth 100000 in
set_option maxHeartbeats 1600000 in
theorem rpick_many (A : Option Addr) (m c : Nat) (k n : Int) (l : List Int) (w : World) (hl : Is w A m l) (h1 : 1 ≤ m) (h2 : m ≤ 255) (hb : ¬ NoTab k n) :
    Calls Try.prog 10 #[.int .i64 k, .int .i64 n, .slice A m c] w (GivesTE w (fRows k n l) (fErr k n l)) := by
  obtain ⟨i0, hi0, hz0, hz1, hz2⟩ := info_parts Try.infoRow
  have H := Lib.hid hb
  have HL := Lib.hid hl
  clear hb hl
  have h1' : ¬ (m : Int) < 1 := by omega
  have h2' : ¬ (m : Int) > 255 := by omega
  go_enter Try.func10, Try.ntmps10
  go_wp2_with (go_at_call 20; refine (rbad_no k n H.out _).mono ?_; rintro e w' ⟨rfl, rfl⟩)
  go_loopw [8, 9] (fun v i wr => ∃ j : Nat, j ≤ m ∧ i = .int .i64 j ∧ NoErr k n l j ∧ ∃ xs, wr.ownsRow w.heap.size 24 1 v j xs ∧ Cut wr v xs (mkR j fun j => rowC k.toNat (l.getD j 0).toNat) ∧ Below w.heap.size w wr) (fun _ i _ => m - (intOf i).toNat)
  case atStart => exact ⟨0, by omega, rfl, NoErr.start _ _ _, _, World.ownsRow_nil _ _ _ _, Cut.nil _ _, Below.refl _ _⟩
  case round =>
    obtain ⟨j, hj, rfl, he, xs, hown, hcut, hbel⟩ := hrel
    have HE := Lib.hid he
    have HO := Lib.hid hown
    have HC := Lib.hid hcut
    have HW := Lib.hid hbel
    clear he hown hcut hbel
    by_cases hlt : j < m
    · obtain ⟨ad, rfl, had, hac⟩ := HL.out.at_ hlt
      have hac' : wr.cell? (ad.add j) = some (.int .i64 (l.getD j 0)) := (HW.out.cell (by rw [add_block]; omega)).trans hac
      clear hac
      have hlt' : (j : Int) < (m : Int) := by omega
      have hj0 : (0 : Int) ≤ (j : Int) := Int.natCast_nonneg _
      have HT := fun w => rrow_any k n (l.getD j 0) w
      have HCL : Hid (j < l.length) := Lib.hid (by rw [HL.out.len]; exact hlt)
      by_cases h0 : cErr k n (l.getD j 0) = 0
      · have HN := Lib.hid (HE.out.next h0)
        rw [h0, cRow_some h0] at HT
        have HT' := Lib.hid HT
        clear HT h0
        generalize hx : l.getD j 0 = x at hac' HT'
        have HX := Lib.hid hx
        clear hx
        have hmax : j + 1 ≤ maxLen := by unfold maxLen; omega
        have hws := HW.out.size
        have hlx : Hid (∀ g : Nat, u8.ownBlock = some g → g < wr.heap.size) := Lib.hid fun g q => (HO.out.lt _ q).2
        go_wp2_with (first
          | (go_at_call 8; refine (HT'.out _).mono ?_; rintro e w2 ⟨A2, m2, c2, rfl, hc2, hb2, hf2, hw2⟩; have H2 := Lib.hid hb2; have HO2 := Lib.hid (ownsRow_below' HO.out hw2); have HC2 := Lib.hid (HC.out.below hw2); have HW2 := Lib.hid (HW.out.trans (hw2.mono hws)); have hw2s := HW2.out.size; have f5 : Hid (∀ ad : Addr, A2 = some ad → 0 < m2 → u8.ownBlock ≠ some ad.block) := Lib.hid (fun ad e hp q => by have h1 := hlx.out _ q; have h2 := hf2 ad e hp; omega); clear hb2 hw2 hf2)
          | (at_builtin; refine wpList_append_lies _ rfl _ _ _ rfl w.heap.size 24 i0 _ 1 24 Try.underlying30 hi0 hz0 hz1 hz2 rfl (by omega) _ j _ rfl (HO2.out.alloc _) ⟨w2.heap.size, 0, none⟩ 1 1 [.slice A2 m2 c2] rfl rfl (World.news_of_block (cs := #[.slice A2 m2 c2]) (t := 24) (fr := (0, 0)) (heap_alloc_new w2 _)) (by simp [Value.oneCell']) (by omega) hmax (by omega) (by simp; omega) (w2.heap.size + 1) (by simp) ?_; intro gg cap2 w6 hown1 hgrow hat hlt1))
        go_roundw
        case rel =>
          refine ⟨j + 1, by omega, by go_num, HN.out, _, hown1, ?_, (HW2.out.alloc hw2s _).grown hgrow (by simp; omega) (fun i e => (HO2.out.lt i e).1)⟩
          rw [← mkR_succ, HX.out]
          exact HC2.out.grow hc2 H2.out f5.out hgrow hat
        case measure => simp [intOf]; omega
      · have HS := Lib.hid (fErr_stop HE.out HCL.out h0)
        rw [cRow_none h0] at HT
        generalize cErr k n (l.getD j 0) = z at *
        have HT' := Lib.hid HT
        have HZ := Lib.hid h0
        have hz : ((z : Int) != 0) = true := by simp; omega
        clear HT h0
        generalize l.getD j 0 = x at *
        have hws := HW.out.size
        go_wp2_with (go_at_call 8; refine (HT'.out _).mono ?_; rintro e w2 ⟨A2, m2, c2, rfl, hc2, hb2, _, hw2⟩; have HW2 := Lib.hid (HW.out.trans (hw2.mono hws)); clear hb2 hw2)
        go_ret2
        refine ⟨_, _, _, by rw [HS.out]; rfl, ?_, HW2.out⟩
        rw [fRows_none (by rw [HS.out]; exact HZ.out)]
        exact Rows.nil _ _
    · obtain rfl : j = m := by omega
      have hz : Hid (fErr k n l = 0) := Lib.hid (fErr_end (by rw [HL.out.len]; exact HE.out))
      obtain ⟨A', c', rfl, hr⟩ := rows_of HO.out HC.out
      have HR := Lib.hid hr
      clear hr
      go_wp2_with fail
      go_ret2
      refine ⟨_, _, _, by rw [hz.out]; rfl, ?_, HW.out⟩
      rw [fRows_some hz.out, rowsC_mk, HL.out.len]
      exact HR.out
end Go.Proofs.Ytfndnlfinoeamaa

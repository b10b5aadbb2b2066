/- Proved: what the document's Rows of chapter 4 answers for every two ints. Conditions: none. -/
import Derived.Test.YtfndnlfinoeamaaCauRef2
namespace Go.Proofs.Ytfndnlfinoeamaa
open Go.ChangeShapes Go.WideShapes Go.ChangeAt Go.RowKit

theorem rpick_any (A : Option Addr) (m c : Nat) (k n : Int) (l : List Int) (w : World) (hl : Is w A m l) :
    Calls Try.prog 10 #[.int .i64 k, .int .i64 n, .slice A m c] w (GivesTE w (pRows k n l) (pErr k n l)) := by
  have e := hl.len
  by_cases h : 1 ≤ m ∧ m ≤ 255
  · have e1 : pErr k n l = fErr k n l := pErr_len (by omega)
    by_cases hb : NoTab k n
    · have e3 : fErr k n l = 1 := fErr_bad hb (by omega)
      rw [pRows_none (by omega), e1, e3]
      exact rpick_bad A m c k n w hb
    · have e2 : pRows k n l = fRows k n l := by unfold pRows fRows; rw [e1]
      rw [e1, e2]
      exact rpick_many A m c k n l w hl h.1 h.2 hb
  · have e1 : pErr k n l = 1 := pErr_no (by omega)
    rw [pRows_none (by omega), e1]
    exact rpick_few A m c k n w h

/-- ints as cells. -/
def icells (l : List Int) : List Value := l.map fun x => Value.int .i64 x
theorem icells_len (l : List Int) : (icells l).length = l.length := by unfold icells; rw [List.length_map]
theorem icells_at (l : List Int) (j : Nat) (hj : j < l.length) : (icells l)[j]? = some (.int .i64 (l.getD j 0)) := by
  unfold icells
  rw [List.getElem?_map, List.getElem?_eq_getElem hj, List.getD_eq_getElem?_getD, List.getElem?_eq_getElem hj]; rfl
theorem icells_snoc (l : List Int) (x : Int) : icells l ++ [Value.int .i64 x] = icells (l ++ [x]) := by unfold icells; rw [List.map_append]; rfl
/-- What was gathered, as a row that reads as a list. -/
theorem is_of {w : World} {base n : Nat} {v : Value} {l : List Int} (h : w.ownsRow base 3 1 v n (icells l)) : ∃ A c, v = .slice A n c ∧ n ≤ c ∧ Is w A n l := by
  obtain ⟨hl, hv⟩ := h
  rw [icells_len, Nat.mul_one] at hl
  rcases hv with ⟨rfl, h0⟩ | ⟨g, cap, cur, rfl, hg, hc, h1, h2, h3, h4⟩
  · have h0' : n = 0 := by simpa using h0
    subst h0'
    exact ⟨_, _, rfl, Nat.le_refl _, ⟨hl, fun h => absurd h (by omega)⟩⟩
  · refine ⟨_, _, rfl, h1, hl, fun _ => ⟨_, rfl, (Array.getElem?_eq_some_iff.1 hc).1, fun j hj => ?_⟩⟩
    have e : (⟨g, 0, none⟩ : Addr).add j = ⟨g, j, none⟩ := by unfold Addr.add; split <;> simp_all
    rw [Nat.mul_one] at h4
    have h5 := icells_at l j (by omega)
    rw [← h4, List.getElem?_take, if_pos hj] at h5
    rw [e, cell_of_row w g j cur _ (0, 0) hc]
    simpa using h5

set_option maxHeartbeats 400000 in
theorem rrows_bad (k n : Int) (h : NoTab k n) (w : World) :
    Calls Try.prog 14 #[.int .i64 k, .int .i64 n] w (GivesTE w [] 1) := by
  have H := Lib.hid h
  clear h
  go_enter Try.func14, Try.ntmps14
  go_wp2_with fail
  refine (rbad_yes k n H.out _).mono ?_; rintro e w' ⟨rfl, rfl⟩
  go_wp2_with fail
  go_ret2
  exact ⟨_, _, _, rfl, Rows.nil _ _, Below.refl _ _⟩

set_option maxRecDepth 100000 in
set_option maxHeartbeats 800000 in
theorem rrows_good (k n : Nat) (h : ¬ NoTab k n) (w : World) :
    Calls Try.prog 14 #[.int .i64 (k : Nat), .int .i64 (n : Nat)] w (GivesTE w (rowsC k (upL n)) 0) := by
  obtain ⟨i0, hi0, hz0, hz1, hz2⟩ := info_parts Try.infoInt
  have H := Lib.hid h
  have hk : 1 ≤ k ∧ k ≤ n ∧ n ≤ 255 := by unfold NoTab at h; omega
  obtain ⟨hk1, hk2, hk3⟩ := hk
  have HE := Lib.hid (upL_err h)
  clear h
  go_enter Try.func14, Try.ntmps14
  go_wp2_with fail
  refine (rbad_no k n H.out _).mono ?_; rintro e w' ⟨rfl, rfl⟩
  go_wp2_with fail
  go_loopw [6, 7] (fun v i wr => ∃ j : Nat, j ≤ n ∧ i = .int .i64 j ∧ wr.ownsRow w.heap.size 3 1 v j (icells (upL j)) ∧ Below w.heap.size w wr) (fun _ i _ => n - (intOf i).toNat)
  case atStart => exact ⟨0, by omega, rfl, World.ownsRow_nil _ _ _ _, Below.refl _ _⟩
  case round =>
    obtain ⟨j, hj, rfl, hown, hbel⟩ := hrel
    have HO := Lib.hid hown
    have HW := Lib.hid hbel
    clear hown hbel
    by_cases hlt : j < n
    · have hmax : j + 1 ≤ maxLen := by unfold maxLen; omega
      have hws := HW.out.size
      go_wp2_with (at_builtin; refine wpList_append_lies _ rfl _ _ _ rfl w.heap.size 3 i0 _ 1 8 Try.underlying22 hi0 hz0 hz1 hz2 rfl (by omega) _ j _ rfl (HO.out.alloc _) ⟨wr.heap.size, 0, none⟩ 1 1 [.int .i64 (j : Nat)] rfl rfl (World.news_of_block (cs := #[.int .i64 (j : Nat)]) (t := 3) (fr := (0, 0)) (heap_alloc_new wr _)) (by simp [Value.oneCell']) (by omega) hmax (by omega) (by simp; omega) (wr.heap.size + 1) (by simp) ?_; intro gg cap w1 hown1 hgrow hat hlt1)
      go_roundw
      case rel =>
        refine ⟨j + 1, by omega, by go_num, ?_, (HW.out.alloc hws _).grown hgrow (by simp; omega) (fun i e => (HO.out.lt i e).1)⟩
        rw [← upL_succ, ← icells_snoc]
        exact hown1
      case measure => simp [intOf]; omega
    · obtain rfl : j = n := by omega
      obtain ⟨A', c', rfl, _, hi⟩ := is_of HO.out
      have HP := rpick_any A' j c' k j (upL j) wr hi
      rw [pRows_some HE.out, HE.out, Int.toNat_natCast] at HP
      have HP' := Lib.hid HP
      have hws := HW.out.size
      clear HP hi
      go_wp2_with fail
      refine HP'.out.mono ?_; rintro e w2 ⟨A2, n2, c2, rfl, hr, hw⟩
      have HR := Lib.hid hr
      have HW2 := Lib.hid (HW.out.trans (hw.mono hws))
      clear hr hw
      go_wp2_with fail
      go_ret2
      exact ⟨_, _, _, rfl, HR.out, HW2.out⟩
theorem rrows_any (k n : Int) (w : World) :
    Calls Try.prog 14 #[.int .i64 k, .int .i64 n] w (GivesTE w (aRows k n) (aErr k n)) := by
  by_cases h : NoTab k n
  · unfold aRows aErr
    rw [if_pos h, if_pos h]
    exact rrows_bad k n h w
  · unfold aRows aErr
    rw [if_neg h, if_neg h]
    have h' := h
    unfold NoTab at h'
    obtain ⟨k', rfl⟩ := Int.eq_ofNat_of_zero_le (show 0 ≤ k by omega)
    obtain ⟨n', rfl⟩ := Int.eq_ofNat_of_zero_le (show 0 ≤ n by omega)
    exact rrows_good k' n' h w
end Go.Proofs.Ytfndnlfinoeamaa

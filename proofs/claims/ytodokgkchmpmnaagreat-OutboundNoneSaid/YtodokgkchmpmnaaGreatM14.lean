/- Proved: lemmas of one statement's proof, merged by program: what each part proves stands ahead of it. Conditions: those that the lemmas name. -/
import Derived.Test.YtodokgkchmpmnaaGreatM13

/- Proved: what Pick and Rows of package cauchy answer for every two ints and every slice of ints. Conditions: those that the theorems name. -/
namespace Go.Proofs.YtodokgkchmpmnaaGreat
open Go.ChangeShapes Go.WideShapes Go.ChangeAt Go.RowKit

/-- A table with t comes back, and the error k; nothing that was there has turned. -/
def GivesTE (W : World) (t : List (List Nat)) (k : Nat) (e : Ending) (w' : World) : Prop :=
  ∃ A n c, e = .returned (.tuple #[.slice A n c, .int .i64 (k : Nat)]) ∧ Rows w' A n t ∧ Below W.heap.size W w'
def fRows (k n : Int) (l : List Int) : List (List Nat) := if fErr k n l = 0 then rowsC k.toNat l else []
theorem fRows_some {k n : Int} {l : List Int} (h : fErr k n l = 0) : fRows k n l = rowsC k.toNat l := if_pos h
theorem fRows_none {k n : Int} {l : List Int} (h : fErr k n l ≠ 0) : fRows k n l = [] := if_neg h

set_option maxHeartbeats 400000 in
theorem tell_any (B D : Nat) (k n i : Int) (w : World) (hk : w.cell? ⟨B, 0, none⟩ = some (.int .i64 k)) (hn : w.cell? ⟨D, 0, none⟩ = some (.int .i64 n)) :
    Calls Tryz.prog 98 #[.int .i64 i, .pointer (some ⟨B, 0, none⟩), .pointer (some ⟨D, 0, none⟩)] w (GivesE w (cRow k n i) (cErr k n i)) := by
  have HR := fun w => row_any k n i w
  generalize cErr k n i = e at *
  generalize cRow k n i = l at *
  have HR' := Lib.hid HR
  clear HR
  go_enter Tryz.func98, Tryz.ntmps98
  go_wp2_with (go_at_call 99; refine (HR'.out _).mono ?_; rintro e w' ⟨A, m, c, rfl, hc, hb, hw⟩; have HB := Lib.hid hb; have HW := Lib.hid hw; clear hb hw)
  go_ret2
  exact ⟨_, _, _, rfl, hc, HB.out, HW.out⟩

set_option maxRecDepth 100000 in
set_option maxHeartbeats 1600000 in
theorem picked_any (A : Option Addr) (m c B D : Nat) (k n : Int) (l : List Int) (w : World) (hl : Is w A m l) (hm : m ≤ 255)
    (hB : B < w.heap.size) (hD : D < w.heap.size) (hk : w.cell? ⟨B, 0, none⟩ = some (.int .i64 k)) (hn : w.cell? ⟨D, 0, none⟩ = some (.int .i64 n)) :
    Calls Tryz.prog 97 #[.slice A m c, .func (.func 98) #[] #[.pointer (some ⟨B, 0, none⟩), .pointer (some ⟨D, 0, none⟩)]] w (GivesTE w (fRows k n l) (fErr k n l)) := by
  have hmT := run_make_row' (P := Tryz.prog) 153 128 (.slice none 0 0) 24 Tryz.underlying153 Tryz.infoRow rfl .i64 .i64 m (by omega) (by omega)
  have HL := Lib.hid hl
  have HK : Hid (∀ w1, Below w.heap.size w w1 → w1.cell? ⟨B, 0, none⟩ = some (.int .i64 k) ∧ w1.cell? ⟨D, 0, none⟩ = some (.int .i64 n)) := Lib.hid fun w1 h => ⟨(h.cell hB).trans hk, (h.cell hD).trans hn⟩
  clear hl hk hn hB hD
  have hpos : (0 : Int) ≤ (m : Int) := by omega
  go_enter Tryz.func97, Tryz.ntmps97
  go_wp2_with fail
  have HO := Lib.hid (ownT_new w m)
  have HW := Lib.hid ((Below.refl w.heap.size w).alloc (Nat.le_refl _) (.cells (madeCells #[.slice none 0 0] m) 128))
  have hg : w.heap.size ≤ w.heap.size := Nat.le_refl _
  generalize hgg : w.heap.size = g at *
  go_loopw [16] (fun v wr => ∃ j : Nat, j ≤ m ∧ v = .int .i64 j ∧ NoErr k n l j ∧ ∃ t, UptoT m j (fun j => rowC k.toNat (l.getD j 0).toNat) t ∧ OwnT wr g m t ∧ Below g w wr) (fun v _ => m - (intOf v).toNat)
  case atStart => exact ⟨0, by omega, rfl, NoErr.start _ _ _, _, UptoT.start (by simp), HO.out, HW.out⟩
  case round =>
    obtain ⟨j, hj, rfl, he, t, hu, ho, hbel⟩ := hrel
    have HE := Lib.hid he
    have HU := Lib.hid hu
    have HO' := Lib.hid ho
    have HW' := Lib.hid hbel
    clear he hu ho hbel HO HW
    by_cases hlt : j < m
    · obtain ⟨ad, rfl, had, hac⟩ := HL.out.at_ hlt
      have hac' : wr.cell? (ad.add j) = some (.int .i64 (l.getD j 0)) := (HW'.out.cell (by rw [add_block]; omega)).trans hac
      clear hac
      have hcl := HK.out wr HW'.out
      have hkn := Lib.hid hcl.1
      have hnn := Lib.hid hcl.2
      clear hcl
      have HT := fun w hk hn => tell_any B D k n (l.getD j 0) w hk hn
      have HC : Hid (j < l.length) := Lib.hid (by rw [HL.out.len]; exact hlt)
      by_cases h0 : cErr k n (l.getD j 0) = 0
      · have HN := Lib.hid (HE.out.next h0)
        rw [h0, cRow_some h0] at HT
        have HT' := Lib.hid HT
        clear HT h0
        generalize hx : l.getD j 0 = x at hac' HT'
        have HX := Lib.hid hx
        clear hx
        go_wp2_with (go_at_call 98; refine (HT'.out _ hkn.out hnn.out).mono ?_; rintro e w2 ⟨A2, m2, c2, rfl, hc2, hb2, hw2⟩; have H2 := Lib.hid hb2; have HO2 := Lib.hid (HO'.out.below hw2); have HW2 := Lib.hid (HW'.out.trans (hw2.mono (hgg ▸ HW'.out.size))); have hfz := HO2.out.frozen j; obtain ⟨B0, c0, hc0, _⟩ := HO2.out.at_ hlt; clear hb2 hw2)
        go_roundw
        case rel =>
          refine ⟨j + 1, by omega, by go_num, HN.out, _, HU.out.next hlt, ?_, HW2.out.setCell (Nat.le_refl _) _⟩
          rw [HX.out]
          exact HO2.out.set_ hlt hc2 H2.out
        case measure => simp [intOf]; omega
      · have HS := Lib.hid (fErr_stop HE.out HC.out h0)
        rw [cRow_none h0] at HT
        generalize cErr k n (l.getD j 0) = z at *
        have HT' := Lib.hid HT
        have HZ := Lib.hid h0
        have hz : ((z : Int) != 0) = true := by simp; omega
        clear HT h0
        generalize l.getD j 0 = x at *
        go_wp2_with (go_at_call 98; refine (HT'.out _ hkn.out hnn.out).mono ?_; rintro e w2 ⟨A2, m2, c2, rfl, hc2, hb2, hw2⟩; have HW2 := Lib.hid (HW'.out.trans (hw2.mono (hgg ▸ HW'.out.size))); clear hb2 hw2)
        go_ret2
        refine ⟨_, _, _, by rw [HS.out]; rfl, ?_, by rw [hgg]; exact HW2.out⟩
        rw [fRows_none (by rw [HS.out]; exact HZ.out)]
        exact Rows.nil _ _
    · obtain rfl : j = m := by omega
      have hz : Hid (fErr k n l = 0) := Lib.hid (fErr_end (by rw [HL.out.len]; exact HE.out))
      go_wp2_with fail
      go_ret2
      refine ⟨_, _, _, by rw [hz.out]; rfl, ?_, by rw [hgg]; exact HW'.out⟩
      rw [fRows_some hz.out, rowsC_mk, HL.out.len, ← HU.out.done]
      exact HO'.out.rows
end Go.Proofs.YtodokgkchmpmnaaGreat

/- Proved: what Pick and Rows of package cauchy answer for every two ints and every slice of ints. Conditions: those that the theorems name. -/
namespace Go.Proofs.YtodokgkchmpmnaaGreat
open Go.ChangeShapes Go.WideShapes Go.ChangeAt Go.RowKit

theorem below_two (w : World) (o o' : Obj) : Below w.heap.size w ((w.alloc o).alloc o') := ((Below.refl _ _).alloc (Nat.le_refl _) o).alloc (by simp) o'

set_option maxRecDepth 100000 in
set_option maxHeartbeats 800000 in
theorem pick_many (A : Option Addr) (m c : Nat) (k n : Int) (l : List Int) (w : World) (hl : Is w A m l) (h1 : 1 ≤ m) (h2 : m ≤ 255) :
    Calls Tryz.prog 93 #[.int .i64 k, .int .i64 n, .slice A m c] w (GivesTE w (fRows k n l) (fErr k n l)) := by
  have hmf : ∀ (fn : Fn) (first cap : Array Value) (w : World), (Instr.makeFunc fn first cap).run Tryz.prog w = .ok (.func fn first cap) w := fun _ _ _ _ => rfl
  have HL := Lib.hid (hl.below (below_two w (.cells #[.int .i64 k] 3) (.cells #[.int .i64 n] 3)))
  have HB := Lib.hid (below_two w (.cells #[.int .i64 k] 3) (.cells #[.int .i64 n] 3))
  have hK2 : Hid (((w.alloc (.cells #[.int .i64 k] 3)).alloc (.cells #[.int .i64 n] 3)).cell? ⟨w.heap.size, 0, none⟩ = some (.int .i64 k)) := Lib.hid (by
    rw [World.cell?_alloc_past _ _ _ (by simp), World.cell?_alloc_at _ _ _ _ rfl]; rfl)
  have hN2 : Hid (((w.alloc (.cells #[.int .i64 k] 3)).alloc (.cells #[.int .i64 n] 3)).cell? ⟨w.heap.size + 1, 0, none⟩ = some (.int .i64 n)) := Lib.hid (by
    rw [World.cell?_alloc_at _ _ _ _ (by simp)]; rfl)
  clear hl
  have h1' : ¬ (m : Int) < 1 := by omega
  have h2' : ¬ (m : Int) > 255 := by omega
  have HP := fun B D W h hB hD hk hn => picked_any A m c B D k n l W h h2 hB hD hk hn
  generalize fRows k n l = t at *
  generalize fErr k n l = z at *
  have HP' := Lib.hid HP
  clear HP
  go_enter Tryz.func93, Tryz.ntmps93
  go_wp2_with fail
  refine (HP'.out w.heap.size (w.heap.size + 1) ((w.alloc (.cells #[.int .i64 k] 3)).alloc (.cells #[.int .i64 n] 3)) HL.out (by simp; omega) (by simp) hK2.out hN2.out).mono ?_; rintro e w' ⟨A', n', c', rfl, hr, hw⟩
  have HR := Lib.hid hr
  have HW := Lib.hid (HB.out.trans (hw.mono HB.out.size))
  clear hr hw
  go_wp2_with fail
  go_ret2
  exact ⟨_, _, _, rfl, HR.out, HW.out⟩

set_option maxHeartbeats 400000 in
theorem pick_few (A : Option Addr) (m c : Nat) (k n : Int) (w : World) (h : ¬ (1 ≤ m ∧ m ≤ 255)) :
    Calls Tryz.prog 93 #[.int .i64 k, .int .i64 n, .slice A m c] w (GivesTE w [] 1) := by
  by_cases h1 : (m : Int) < 1
  · clear h
    go_enter Tryz.func93, Tryz.ntmps93
    go_wp2_with fail
    go_ret2
    exact ⟨_, _, _, rfl, Rows.nil _ _, by first | exact below_two _ _ _ | exact (below_two _ _ _).drew⟩
  · have h2 : (m : Int) > 255 := by omega
    clear h
    go_enter Tryz.func93, Tryz.ntmps93
    go_wp2_with fail
    go_ret2
    exact ⟨_, _, _, rfl, Rows.nil _ _, by first | exact below_two _ _ _ | exact (below_two _ _ _).drew⟩
theorem pick_any (A : Option Addr) (m c : Nat) (k n : Int) (l : List Int) (w : World) (hl : Is w A m l) :
    Calls Tryz.prog 93 #[.int .i64 k, .int .i64 n, .slice A m c] w (GivesTE w (pRows k n l) (pErr k n l)) := by
  have e := hl.len
  by_cases h : 1 ≤ m ∧ m ≤ 255
  · have e1 : pErr k n l = fErr k n l := pErr_len (by omega)
    have e2 : pRows k n l = fRows k n l := by unfold pRows fRows; rw [e1]
    rw [e1, e2]
    exact pick_many A m c k n l w hl h.1 h.2
  · have e1 : pErr k n l = 1 := pErr_no (by omega)
    rw [pRows_none (by omega), e1]
    exact pick_few A m c k n w h
/-- the ints 0 .. n - 1. -/
def upL (n : Nat) : List Int := (List.range n).map fun i : Nat => (i : Int)
theorem upL_len (n : Nat) : (upL n).length = n := by unfold upL; rw [List.length_map, List.length_range]
theorem upL_at {n j : Nat} (h : j < n) : (upL n).getD j 0 = (j : Int) := by
  unfold upL
  rw [List.getD_eq_getElem?_getD, List.getElem?_map, List.getElem?_range h]; rfl
theorem upL_err {k n : Nat} (h : ¬ NoTab k n) : pErr k n (upL n) = 0 := by
  have h' := h
  unfold NoTab at h'
  rw [pErr_len (by rw [upL_len]; omega)]
  refine fErr_end fun i hi => ?_
  rw [upL_len] at hi
  rw [upL_at hi]
  exact cErr_in h (by omega)

/-- Block g is a row of ints of the call's own: the first j are 0 .. j - 1, all n are ints. -/
def OwnI (w : World) (g n j : Nat) : Prop :=
  ∃ cur, w.heap[g]? = some (.cells cur 3 (0, 0)) ∧ ∀ i, i < n → ∃ x, cur[i]? = some (.int .i64 x) ∧ (i < j → x = (i : Int))
theorem OwnI.block_lt {w : World} {g n j : Nat} (h : OwnI w g n j) : g < w.heap.size := by
  obtain ⟨cur, hc, _⟩ := h
  exact (Array.getElem?_eq_some_iff.1 hc).1
theorem OwnI.new (w : World) (n : Nat) : OwnI (w.alloc (.cells (madeCells #[.int .i64 0] n) 3)) w.heap.size n 0 :=
  ⟨_, heap_alloc_new w _, fun i hi => ⟨0, by simp [madeCells, hi, Nat.mod_one], fun h => absurd h (by omega)⟩⟩
theorem OwnI.at_ {w : World} {g n j : Nat} (h : OwnI w g n j) {i : Nat} (hi : i < n) : ∃ x, w.cell? ⟨g, i, none⟩ = some (.int .i64 x) ∧ (i < j → x = (i : Int)) := by
  obtain ⟨cur, hc, h1⟩ := h
  obtain ⟨x, h2, h3⟩ := h1 i hi
  exact ⟨x, by rw [cell_of_row w g i cur _ (0, 0) hc]; exact h2, h3⟩
theorem OwnI.frozen {w : World} {g n j : Nat} (h : OwnI w g n j) (i : Nat) : w.frozen? ⟨g, i, none⟩ = false := by
  obtain ⟨cur, hc, _⟩ := h
  simp [World.frozen?, hc]
theorem OwnI.next {w : World} {g n j : Nat} (h : OwnI w g n j) : OwnI (w.setCell ⟨g, j, none⟩ (.int .i64 (j : Nat))) g n (j + 1) := by
  obtain ⟨cur, hc, h1⟩ := h
  refine ⟨cur.setIfInBounds j (.int .i64 (j : Nat)), by simp [World.setCell, Array.getElem?_modify, hc], fun i hi => ?_⟩
  obtain ⟨x, h2, h3⟩ := h1 i hi
  have hsz : i < cur.size := (Array.getElem?_eq_some_iff.1 h2).1
  rw [Array.getElem?_setIfInBounds]
  by_cases e : j = i
  · rw [if_pos e, if_pos (by omega)]
    exact ⟨_, rfl, fun _ => by rw [e]⟩
  · rw [if_neg e]
    exact ⟨x, h2, fun q => h3 (by omega)⟩
theorem OwnI.is {w : World} {g n : Nat} (h : OwnI w g n n) : Is w (some ⟨g, 0, none⟩) n (upL n) :=
  ⟨upL_len n, fun _ => ⟨_, rfl, h.block_lt, fun j hj => by
    have e : (⟨g, 0, none⟩ : Addr).add j = ⟨g, j, none⟩ := by unfold Addr.add; split <;> simp_all
    obtain ⟨x, h1, h2⟩ := h.at_ hj
    rw [e, h1, upL_at hj, h2 hj]⟩⟩
theorem Tryz.infoInt : (Tryz.prog.info? 3).map (fun i => (i.zero, i.size, i.bytes)) = some (some (.int .i64 0), 1, 8) := by kernel_rfl

set_option maxHeartbeats 400000 in
theorem rows_bad (k n : Int) (h : NoTab k n) (w : World) :
    Calls Tryz.prog 83 #[.int .i64 k, .int .i64 n] w (GivesTE w [] 1) := by
  have H := Lib.hid h
  clear h
  go_enter Tryz.func83, Tryz.ntmps83
  go_wp2_with fail
  refine (cfits_no k n H.out _).mono ?_; rintro e w' ⟨rfl, rfl⟩
  go_wp2_with fail
  go_ret2
  exact ⟨_, _, _, rfl, Rows.nil _ _, Below.refl _ _⟩

set_option maxRecDepth 100000 in
set_option maxHeartbeats 800000 in
theorem rows_good (k n : Nat) (h : ¬ NoTab k n) (w : World) :
    Calls Tryz.prog 83 #[.int .i64 (k : Nat), .int .i64 (n : Nat)] w (GivesTE w (rowsC k (upL n)) 0) := by
  have H := Lib.hid h
  have hk : 1 ≤ k ∧ k ≤ n ∧ n ≤ 255 := by unfold NoTab at h; omega
  obtain ⟨hk1, hk2, hk3⟩ := hk
  have HE := Lib.hid (upL_err h)
  clear h
  have hmI := run_make_row' (P := Tryz.prog) 82 3 (.int .i64 0) 8 Tryz.underlying82 Tryz.infoInt rfl .i64 .i64 n (by omega) (by omega)
  have hpos : (0 : Int) ≤ (n : Int) := by omega
  go_enter Tryz.func83, Tryz.ntmps83
  go_wp2_with fail
  refine (cfits_yes k n H.out _).mono ?_; rintro e w' ⟨rfl, rfl⟩
  go_wp2_with fail
  have HO := Lib.hid (OwnI.new w n)
  have HW := Lib.hid ((Below.refl w.heap.size w).alloc (Nat.le_refl _) (.cells (madeCells #[.int .i64 0] n) 3))
  generalize hgg : w.heap.size = g at *
  go_loopw [16] (fun v wr => ∃ j : Nat, j ≤ n ∧ v = .int .i64 j ∧ OwnI wr g n j ∧ Below g w wr) (fun v _ => n - (intOf v).toNat)
  case atStart => exact ⟨0, by omega, rfl, HO.out, HW.out⟩
  case round =>
    obtain ⟨j, hj, rfl, ho, hbel⟩ := hrel
    have HO' := Lib.hid ho
    have HW' := Lib.hid hbel
    clear ho hbel HO HW
    by_cases hlt : j < n
    · have hlt' : (j : Int) < (n : Int) := by omega
      obtain ⟨x, hc0, _⟩ := HO'.out.at_ hlt
      have hfz := HO'.out.frozen j
      go_wp2_with fail
      go_roundw
      case rel => exact ⟨j + 1, by omega, by go_num, HO'.out.next, HW'.out.setCell (Nat.le_refl _) _⟩
      case measure => simp [intOf]; omega
    · obtain rfl : j = n := by omega
      have HP := pick_any (some ⟨g, 0, none⟩) j j k j (upL j) wr HO'.out.is
      rw [pRows_some HE.out, HE.out, Int.toNat_natCast] at HP
      have HP' := Lib.hid HP
      clear HP
      go_wp2_with fail
      refine HP'.out.mono ?_; rintro e w2 ⟨A2, n2, c2, rfl, hr, hw⟩
      have HR := Lib.hid hr
      have HW2 := Lib.hid (HW'.out.trans (hw.mono (hgg ▸ HW'.out.size)))
      clear hr hw
      go_wp2_with fail
      go_ret2
      exact ⟨_, _, _, rfl, HR.out, by rw [hgg]; exact HW2.out⟩
/-- Rows' error and answer. -/
def aErr (k n : Int) : Nat := if NoTab k n then 1 else 0
def aRows (k n : Int) : List (List Nat) := if NoTab k n then [] else rowsC k.toNat (upL n.toNat)
theorem rows_any (k n : Int) (w : World) :
    Calls Tryz.prog 83 #[.int .i64 k, .int .i64 n] w (GivesTE w (aRows k n) (aErr k n)) := by
  by_cases h : NoTab k n
  · unfold aRows aErr
    rw [if_pos h, if_pos h]
    exact rows_bad k n h w
  · unfold aRows aErr
    rw [if_neg h, if_neg h]
    have h' := h
    unfold NoTab at h'
    obtain ⟨k', rfl⟩ := Int.eq_ofNat_of_zero_le (show 0 ≤ k by omega)
    obtain ⟨n', rfl⟩ := Int.eq_ofNat_of_zero_le (show 0 ≤ n by omega)
    exact rows_good k' n' h w
end Go.Proofs.YtodokgkchmpmnaaGreat

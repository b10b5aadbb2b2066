/- Proved: what Due of package timers answers. Conditions: those that the theorems name. -/
import Derived.Test.YtmjnlmcbcclbkaaTmCmp
import Derived.Test.YtmjnlmcbcclbkaaTmRef
import Derived.Test.YtmjnlmcbcclbkaaTmNext
namespace Go.Proofs.Ytmjnlmcbcclbkaa
open Go.ChangeShapes Go.WideShapes Go.ChangeAt Go.RowKit

/-- those that stay, while p are still to come; those that were taken. -/
def stillT (l : List Tm) (z : Int) (p : Tm → Bool) : List Tm := l.filter fun x => !decide (x.2 ≤ z) || p x
def takenT (l : List Tm) (z : Int) (p : Tm → Bool) : List Tm := l.filter fun x => decide (x.2 ≤ z) && !p x
theorem still_start (l : List Tm) (z : Int) : stillT l z (fun _ => true) = l := by simp [stillT]
theorem taken_start (l : List Tm) (z : Int) : takenT l z (fun _ => true) = [] := by simp [takenT]
theorem still_good {l : List Tm} (h : Good l) (z : Int) (p : Tm → Bool) : Good (stillT l z p) := h.sub List.filter_sublist
theorem still_mem {l : List Tm} {z : Int} {p : Tm → Bool} {x : Tm} : x ∈ stillT l z p ↔ x ∈ l ∧ (¬ x.2 ≤ z ∨ p x = true) := by simp [stillT]
theorem still_hit {l : List Tm} (h : Good l) {z : Int} {p : Tm → Bool} {x : Tm} (hx : x ∈ stillT l z p) (hz : x.2 ≤ z) : dropT (stillT l z p) x.1 = stillT l z (fun y => p y && !decide (y = x)) := by
  obtain ⟨hl, _⟩ := still_mem.1 hx
  unfold dropT stillT
  rw [List.filter_filter]
  refine List.filter_congr fun y hy => ?_
  by_cases e : y = x
  · subst e; simp [hz]
  · have : y.1 ≠ x.1 := fun q => e (h.one hy hl q)
    simp [e, this]
theorem taken_hit {l : List Tm} (h : Good l) {z : Int} {p : Tm → Bool} {x : Tm} {acc : List Tm} (hx : x ∈ stillT l z p) (hp : p x = true) (hz : x.2 ≤ z) (ha : acc.Perm (takenT l z p)) : (acc ++ [x]).Perm (takenT l z (fun y => p y && !decide (y = x))) := by
  obtain ⟨hl, _⟩ := still_mem.1 hx
  have := filter_more h hl (p := fun x => decide (x.2 ≤ z) && !p x) (q := fun y => decide (y.2 ≤ z) && !(p y && !decide (y = x))) (by simp [hp]) (fun y _ => by
    by_cases e : y = x
    · subst e; simp [hz]
    · simp [e])
  refine List.Perm.trans ?_ this.symm
  exact (List.perm_append_comm).trans (ha.cons x)
theorem still_miss {l : List Tm} {z : Int} {p : Tm → Bool} {x : Tm} (hz : ¬ x.2 ≤ z) : stillT l z p = stillT l z (fun y => p y && !decide (y = x)) := by
  refine List.filter_congr fun y _ => ?_
  by_cases e : y = x
  · subst e; simp [hz]
  · simp [e]
theorem taken_miss {l : List Tm} {z : Int} {p : Tm → Bool} {x : Tm} (hz : ¬ x.2 ≤ z) : takenT l z p = takenT l z (fun y => p y && !decide (y = x)) := by
  refine List.filter_congr fun y _ => ?_
  by_cases e : y = x
  · subst e; simp [hz]
  · simp [e]
theorem still_end {l : List Tm} (h : Good l) {z : Int} {p : Tm → Bool} (hd : ∀ x ∈ stillT l z p, p x = false) : stillT l z p = stayT l z ∧ takenT l z p = dueT l z := by
  rw [← stay_filter h, ← due_filter h]
  have hp : ∀ x ∈ l, p x = false := fun x hx => by
    cases e : p x
    · rfl
    · have := hd x (still_mem.2 ⟨hx, Or.inr e⟩)
      rw [e] at this
      exact this
  exact ⟨List.filter_congr fun x hx => by rw [hp x hx]; simp, List.filter_congr fun x hx => by rw [hp x hx]; simp⟩
theorem taken_len (l : List Tm) (z : Int) (p : Tm → Bool) : (takenT l z p).length ≤ l.length := List.length_filter_le _ _
/-- What Due's loop holds. -/
def DueAt (w : World) (m r : Nat) (l : List Tm) (z : Int) (v : Value) (wr : World) : Prop :=
  ∃ p cnt acc, Rng wr m r (stillT l z p) p cnt ∧ acc.Perm (takenT l z p) ∧ wr.ownsRow (r + 1) 41 3 v acc.length (tcells acc) ∧ w.grownBy wr (some m) ∧ r + 1 ≤ wr.heap.size
theorem sort_none (w : World) : Calls Try.prog 20 #[.slice none 0 0, .func (.func 21) #[] #[]] w fun e w' => e = .returned (.tuple #[]) ∧ w' = w :=
  AnyF.slices_SortFunc_none { Try.sortTm with } none 0 _ w
/-- the sort of what was gathered. -/
theorem sort_own {w : World} {base : Nat} {v : Value} {acc q : List Tm} (h : w.ownsRow base 41 3 v acc.length (tcells acc)) (hq : Good q) (hp : acc.Perm q) (hl : acc.length ≤ 1000) :
    ∃ A c, v = .slice A acc.length c ∧ Calls Try.prog 20 #[.slice A acc.length c, .func (.func 21) #[] #[]] w fun e w' => e = .returned (.tuple #[]) ∧ Ts w' A acc.length q ∧ w.grownBy w' v.ownBlock := by
  obtain ⟨hl', hv⟩ := h
  rcases hv with ⟨rfl, h0⟩ | ⟨g, cap, cur, rfl, hg, hc, h1, h2, h3, h4⟩
  · have h0' : acc.length = 0 := h0
    refine ⟨none, 0, by rw [h0'], ?_⟩
    obtain rfl : acc = [] := List.eq_nil_of_length_eq_zero h0'
    refine (sort_none w).mono ?_
    rintro e w' ⟨rfl, rfl⟩
    obtain rfl : q = [] := List.eq_nil_of_length_eq_zero (by rw [← hp.length_eq]; rfl)
    exact ⟨rfl, Ts.nil _ _, grown_refl _ _⟩
  · exact ⟨some ⟨g, 0, none⟩, cap, rfl, sort_any g cap acc q cur w hc (by simpa using h4) hq hp hl⟩
set_option maxRecDepth 100000 in
set_option maxHeartbeats 3200000 in
theorem tm_due_any {b m : Nat} {l : List Tm} {w : World} (h : Tk w b m l) (hn : l.length ≤ 500) (z : Int) :
    Calls Try.prog 15 #[.pointer (some ⟨b, 0, none⟩), .int .i64 z] w fun e w' => ∃ A n c, e = .returned (.slice A n c) ∧ Ts w' A n (dueT l z) ∧ Mp w' m (stayT l z) ∧ w.grownBy w' (some m) := by
  have hc := h.1.cell 0 rfl
  have hml := h.2.lt
  have HM := Lib.hid h.2
  have HG := Lib.hid h.good
  have HT := Lib.hid h
  clear h
  go_enter Try.func15, Try.ntmps15
  go_wp2_with (first | (at_range; refine rng_start _ rfl _ rfl m l rfl HM.out ?_; intro w2 hr2 hg2 hs2))
  go_frame
  have HS : Hid (DueAt w m w.heap.size l z (.slice none 0 0) w2) := Lib.hid ⟨_, _, [], by rw [still_start]; exact hr2, by rw [taken_start], World.ownsRow_nil _ _ _ _, ⟨hg2.os, hg2.tape, hg2.output, hg2.size, fun k hk _ => hg2.block k hk (by simp)⟩, by omega⟩
  have HR : Hid (w.heap.size ≤ w.heap.size) := Lib.hid (Nat.le_refl _)
  clear hr2 hg2 hs2 HM hc
  obtain ⟨r, hr⟩ : ∃ r, w.heap.size = r := ⟨_, rfl⟩
  rw [hr] at HS
  have HRR := Lib.hid hr
  rw [hr] at hml ⊢
  clear HR hr
  go_loopw [5] (fun v wr => DueAt w m r l z v wr) (fun _ wr => wr.rangeLeft m r)
  case atStart => exact HS.out
  case round =>
    obtain ⟨p, cnt, acc, hrng, hperm, hown, hgr, hsz⟩ := hrel
    have HR := Lib.hid hrng
    have HP := Lib.hid hperm
    have HO := Lib.hid hown
    have HW := Lib.hid hgr
    have HZ := Lib.hid hsz
    have HA : Hid (acc.length ≤ 500) := Lib.hid (by rw [hperm.length_eq]; exact Nat.le_trans (taken_len _ _ _) hn)
    clear hrng hperm hown hgr hsz HS
    go_wp2_with (first
      | (at_next; refine rng_next _ rfl _ rfl m r _ p cnt rfl HR.out ?_ ?_))
    · intro hd
      obtain ⟨e1, e2⟩ := still_end HG.out (fun x hx => hd x.1.1 x.1.2 x.2 hx)
      have HPD : Hid (acc.Perm (dueT l z)) := Lib.hid (by rw [← e2]; exact HP.out)
      have HRD : Hid (Mp wr m (stayT l z)) := Lib.hid (by rw [← e1]; exact HR.out.mp)
      have ha := HA.out
      obtain ⟨A, c, rfl, hcall⟩ := sort_own HO.out (HG.out.due z) HPD.out (by omega)
      have HC := Lib.hid hcall
      have HBL : Hid (∀ q, (Value.slice A acc.length c).ownBlock = some q → r + 1 ≤ q) := Lib.hid fun q e => (HO.out.lt q e).1
      have HN : Hid (acc.length = (dueT l z).length) := Lib.hid HPD.out.length_eq
      clear hcall hd e1 e2 HR HP HO
      go_wp2_with fail
      refine HC.out.mono ?_; rintro e w3 ⟨rfl, hts, hg3⟩
      have HTS := Lib.hid hts
      have HG3 := Lib.hid hg3
      clear hts hg3 HC
      go_wp2_with fail
      go_ret
      refine ⟨_, _, _, rfl, HTS.out, HRD.out.kept HG3.out (fun e => by have := HBL.out _ e; omega), HW.out.andThen HG3.out (fun q e => Or.inl (by have := HBL.out q e; have := HRR.out; omega))⟩
    · intro x0 x1 x2 w3 cnt' hx hp hr3 hlt hg3 hs3 hen
      have HX : Hid (((x0, x1), x2) ∈ stillT l z p) := Lib.hid hx
      have HPX : Hid (p ((x0, x1), x2) = true) := Lib.hid hp
      have HO3 : Hid (w3.ownsRow (r + 1) 41 3 u5 acc.length (tcells acc)) := Lib.hid (HO.out.kept hg3 (Or.inr fun e => by have := (HO.out.lt _ e).1; omega))
      have HW3 : Hid (w.grownBy w3 (some m)) := Lib.hid (HW.out.andThen hg3 (fun q e => Or.inl (by injection e with e; have := HRR.out; omega)))
      have HL3 : Hid (cnt' < cnt ∧ wr.rangeLeft m r = cnt) := Lib.hid ⟨hlt, HR.out.left_eq⟩
      have HZ3 : Hid (r + 1 ≤ w3.heap.size) := Lib.hid (by have := HZ.out; omega)
      have HR3 := Lib.hid (hr3.kept (World.grownBy_alloc w3 (.cells #[.int .i64 x0, .int .u32 x1] 32) none) (by simp) (by simp))
      have HO4 := Lib.hid (HO3.out.alloc (.cells #[.int .i64 x0, .int .u32 x1] 32))
      have HW4 : Hid (w.grownBy (w3.alloc (.cells #[.int .i64 x0, .int .u32 x1] 32)) (some m)) := Lib.hid (HW3.out.andThen (World.grownBy_alloc w3 _ none) (by simp))
      have HK4 : Hid (At (w3.alloc (.cells #[.int .i64 x0, .int .u32 x1] 32)) w3.heap.size 32 [.int .i64 x0, .int .u32 x1]) := Lib.hid (At.new w3 32 [.int .i64 x0, .int .u32 x1])
      have HZ4 : Hid (r + 1 ≤ (w3.alloc (.cells #[.int .i64 x0, .int .u32 x1] 32)).heap.size) := Lib.hid (by have := HZ3.out; simp; omega)
      have HKL : Hid (∀ q, u5.ownBlock = some q → q < w3.heap.size ∧ r + 1 ≤ q) := Lib.hid fun q e => ⟨(HO3.out.lt q e).2, (HO3.out.lt q e).1⟩
      have HKR : Hid (r + 1 ≤ w3.heap.size) := HZ3
      clear hx hp hr3 hlt hg3 hs3 HO HW HZ HR HO3 HW3 HZ3
      by_cases hz : x2 ≤ z
      · have HZZ := Lib.hid hz
        have k0 := HK4.out.cell 0 rfl
        have k1 := HK4.out.cell 1 rfl
        have HO5 := Lib.hid (HO4.out.alloc (.cells #[.int .i64 x0, .int .u32 x1, .int .i64 x2] 41))
        have HR5 := Lib.hid (HR3.out.kept (World.grownBy_alloc _ (.cells #[.int .i64 x0, .int .u32 x1, .int .i64 x2] 41) none) (by simp) (by simp))
        have HW5 : Hid (w.grownBy ((w3.alloc (.cells #[.int .i64 x0, .int .u32 x1] 32)).alloc (.cells #[.int .i64 x0, .int .u32 x1, .int .i64 x2] 41)) (some m)) := Lib.hid (HW4.out.andThen (World.grownBy_alloc _ _ none) (by simp))
        have HK5 := Lib.hid (HK4.out.alloc (.cells #[.int .i64 x0, .int .u32 x1, .int .i64 x2] 41))
        have hc5 := ts_lit (w3.alloc (.cells #[.int .i64 x0, .int .u32 x1] 32)) ((x0, x1), x2)
        rw [show (w3.alloc (.cells #[.int .i64 x0, .int .u32 x1] 32)).heap.size = w3.heap.size + 1 by simp] at hc5
        have HC5 := Lib.hid hc5
        clear hc5
        have hz5 : r + 1 ≤ ((w3.alloc (.cells #[.int .i64 x0, .int .u32 x1] 32)).alloc (.cells #[.int .i64 x0, .int .u32 x1, .int .i64 x2] 41)).heap.size := by have := HZ4.out; simp at this ⊢; omega
        have ha := HA.out
        clear HO4 HR3 HW4 HK4 HZ4
        go_wp2_with (at_builtin; refine tm_append rfl _ _ _ rfl Try.underlying26 _ _ _ acc rfl HO5.out _ 1 1 [((x0, x1), x2)] rfl HC5.out (fun e => nomatch e) (by omega) hz5 ?_; intro v6 w6 hown6 hg6)
        have hr6 := HR5.out.kept hg6 (fun e => by have := (HKL.out _ e).2; omega) (fun e => by have := (HKL.out _ e).2; omega)
        have hw6 := HW5.out.andThen hg6 (fun q e => Or.inl (by have := (HKL.out q e).2; have := HRR.out; omega))
        have hk6 := HK5.out.kept hg6 (fun e => by have := (HKL.out _ e).1; omega)
        have ht6 := HT.out.1.kept hw6 (fun e => HT.out.ne (by injection e with e; exact e.symm))
        have c6 := ht6.cell 0 rfl
        have k60 := hk6.cell 0 rfl
        have k61 := hk6.cell 1 rfl
        have HO6 := Lib.hid hown6
        have HR6 := Lib.hid hr6
        have HW6 := Lib.hid hw6
        have HZ6 : Hid (r + 1 ≤ w6.heap.size) := Lib.hid (Nat.le_trans hz5 hg6.size)
        clear hr6 hw6 hk6 ht6 hown6 hg6 hz5 k0 k1 HO5 HR5 HW5 HK5 HC5 hen
        have HKR2 := Lib.hid HKR.out
        generalize w3.heap.size = kx at *
        go_wp2_with fail
        refine wp_region_still_tail 5 (by kernel_rfl) (by kernel_rfl) ?_
        simp only [List.take_succ_cons, List.take_zero, List.drop_succ_cons, List.drop_zero]
        repeat still_step
        refine wpStill_nil ?_
        change wpList _ _ _ _ _ w6.drew
        obtain ⟨w7, cnt7, hrun, hr7, hle, hg7⟩ := rng_del (HR6.out.kept (grown_drew w6 none) (by simp) (by simp)) HX.out 0
        have HR7 := Lib.hid hr7
        have HG7 : Hid (w6.grownBy w7 (some m)) := Lib.hid (grown_trans2 (grown_drew w6 _) hg7)
        have HLE := Lib.hid hle
        clear hr7 hle hg7 c6 k60 k61
        generalize w6.drew = w8 at *
        go_wp2_with fail
        go_roundw
        case rel =>
          refine ⟨fun y => p y && !decide (y = ((x0, x1), x2)), cnt7, acc ++ [((x0, x1), x2)], ?_, taken_hit HG.out HX.out HPX.out HZZ.out HP.out, ?_, HW6.out.andThen HG7.out (fun q e => Or.inr (by injection e with e; subst e; rfl)), Nat.le_trans HZ6.out HG7.out.size⟩
          · rw [← still_hit HG.out HX.out HZZ.out]; exact HR7.out
          · rw [List.length_append]
            exact HO6.out.kept HG7.out (Or.inr fun e => by have := (HO6.out.lt _ e).1; omega)
        case measure => rw [HR7.out.left_eq, HL3.out.2]; exact Nat.lt_of_le_of_lt HLE.out HL3.out.1
      · have HZZ := Lib.hid hz
        go_wp2_with fail
        go_roundw
        case rel => exact ⟨fun y => p y && !decide (y = ((x0, x1), x2)), _, acc, by rw [← still_miss HZZ.out]; exact HR3.out, by rw [← taken_miss HZZ.out]; exact HP.out, HO4.out, HW4.out, HZ4.out⟩
        case measure => rw [HR3.out.left_eq, HL3.out.2]; exact HL3.out.1
theorem tm_due_nil (z : Int) (w : World) :
    Calls Try.prog 15 #[.pointer none, .int .i64 z] w fun e w' => e = .returned (.slice none 0 0) ∧ w = w' := by
  go_enter Try.func15, Try.ntmps15
  go_wp2_with fail
  go_ret
  exact ⟨rfl, rfl⟩
end Go.Proofs.Ytmjnlmcbcclbkaa

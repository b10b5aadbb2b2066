/- Proved: what compare of package timers answers, and what the library's sort leaves of a slice of due ones. Conditions: those that the theorems name. -/
import Derived.Test.YtmjnlmcbcclbkaaTmMem
import Derived.Test.YtmjnlmcbcclbkaaSortShelf
import Derived.StillTailTactics
namespace Go.Proofs.Ytmjnlmcbcclbkaa
open Go.ChangeShapes Go.WideShapes Go.ChangeAt Go.RowKit Go.Sort

/-! ### cmp.Compare -/
def cz (a b : Int) : Int := if a < b then -1 else if b < a then 1 else 0
theorem nan_int (a : Int) (w : World) : Calls Try.prog 38 #[.int .i64 a] w fun e w' => e = .returned (.bool false) ∧ w = w' := by
  go_enter Try.func38, Try.ntmps38
  go_wp2_with fail
  go_ret
  exact ⟨rfl, rfl⟩
theorem nan_u32 (a : Int) (w : World) : Calls Try.prog 39 #[.int .u32 a] w fun e w' => e = .returned (.bool false) ∧ w = w' := by
  go_enter Try.func39, Try.ntmps39
  go_wp2_with fail
  go_ret
  exact ⟨rfl, rfl⟩
theorem cmp_int (a b : Int) (w : World) : Calls Try.prog 26 #[.int .i64 a, .int .i64 b] w fun e w' => e = .returned (.int .i64 (cz a b)) ∧ w = w' := by
  have H := Lib.hid nan_int
  unfold cz
  by_cases h : a < b
  · rw [if_pos h]
    go_enter Try.func26, Try.ntmps26
    go_wp2_with (go_at_call 38; refine (H.out _ _).mono ?_; rintro e w' ⟨rfl, rfl⟩)
    go_ret
    exact ⟨rfl, rfl⟩
  · rw [if_neg h]
    by_cases g : b < a
    · rw [if_pos g]
      go_enter Try.func26, Try.ntmps26
      go_wp2_with (go_at_call 38; refine (H.out _ _).mono ?_; rintro e w' ⟨rfl, rfl⟩)
      go_ret
      exact ⟨rfl, rfl⟩
    · rw [if_neg g]
      go_enter Try.func26, Try.ntmps26
      go_wp2_with (go_at_call 38; refine (H.out _ _).mono ?_; rintro e w' ⟨rfl, rfl⟩)
      go_ret
      exact ⟨rfl, rfl⟩
theorem cmp_u32 (a b : Int) (w : World) : Calls Try.prog 27 #[.int .u32 a, .int .u32 b] w fun e w' => e = .returned (.int .i64 (cz a b)) ∧ w = w' := by
  have H := Lib.hid nan_u32
  unfold cz
  by_cases h : a < b
  · rw [if_pos h]
    go_enter Try.func27, Try.ntmps27
    go_wp2_with (go_at_call 39; refine (H.out _ _).mono ?_; rintro e w' ⟨rfl, rfl⟩)
    go_ret
    exact ⟨rfl, rfl⟩
  · rw [if_neg h]
    by_cases g : b < a
    · rw [if_pos g]
      go_enter Try.func27, Try.ntmps27
      go_wp2_with (go_at_call 39; refine (H.out _ _).mono ?_; rintro e w' ⟨rfl, rfl⟩)
      go_ret
      exact ⟨rfl, rfl⟩
    · rw [if_neg g]
      go_enter Try.func27, Try.ntmps27
      go_wp2_with (go_at_call 39; refine (H.out _ _).mono ?_; rintro e w' ⟨rfl, rfl⟩)
      go_ret
      exact ⟨rfl, rfl⟩

/-! ### cmp.Or -/
def orZ (x y z : Int) : Int := if x ≠ 0 then x else if y ≠ 0 then y else z
set_option maxRecDepth 100000 in
set_option maxHeartbeats 1600000 in
theorem or_any (b : Nat) (x y z : Int) (w : World) (h : At w b 3 [.int .i64 x, .int .i64 y, .int .i64 z]) :
    Calls Try.prog 25 #[.slice (some ⟨b, 0, none⟩) 3 3] w fun e w' => e = .returned (.int .i64 (orZ x y z)) ∧ w = w' := by
  have c0 := h.cell 0 rfl
  have c1 := h.cell 1 rfl
  have c2 := h.cell 2 rfl
  clear h
  unfold orZ
  by_cases hx : x = 0
  · subst hx
    rw [if_neg (by simp)]
    by_cases hy : y = 0
    · subst hy
      rw [if_neg (by simp)]
      by_cases hz : z = 0
      · subst hz
        go_enter Try.func25, Try.ntmps25
        go_wp2_with fail
        refine wp_loop_rounds 4 ?_
        rw [rounds_succ]; go_wp2
        rw [rounds_succ]; go_wp2
        rw [rounds_succ]; go_wp2
        rw [rounds_succ]; go_wp2
        go_ret
        exact ⟨rfl, rfl⟩
      · have hz' : (z != 0) = true := by simp [hz]
        go_enter Try.func25, Try.ntmps25
        go_wp2_with fail
        refine wp_loop_rounds 3 ?_
        rw [rounds_succ]; go_wp2
        rw [rounds_succ]; go_wp2
        rw [rounds_succ]; go_wp2
        go_ret
        exact ⟨rfl, rfl⟩
    · rw [if_pos hy]
      have hy' : (y != 0) = true := by simp [hy]
      go_enter Try.func25, Try.ntmps25
      go_wp2_with fail
      refine wp_loop_rounds 2 ?_
      rw [rounds_succ]; go_wp2
      rw [rounds_succ]; go_wp2
      go_ret
      exact ⟨rfl, rfl⟩
  · rw [if_pos hx]
    have hx' : (x != 0) = true := by simp [hx]
    go_enter Try.func25, Try.ntmps25
    go_wp2_with fail
    refine wp_loop_rounds 1 ?_
    rw [rounds_succ]; go_wp2
    go_ret
    exact ⟨rfl, rfl⟩

/-! ### compare -/
def cmpT (x y : Tm) : Int := orZ (cz x.2 y.2) (cz x.1.1 y.1.1) (cz x.1.2 y.1.2)
theorem lt_cmpT (x y : Tm) : ltOf cmpT x y = lessT x y := by
  unfold ltOf
  rw [Bool.eq_iff_iff, lessT_iff, decide_eq_true_eq]
  unfold cmpT orZ cz
  split <;> split <;> (try split) <;> (try split) <;> (try split) <;> (try split) <;> (try split) <;> omega
theorem cmpT_swo : SWO (ltOf cmpT) where
  irrefl x := by rw [lt_cmpT]; exact lessT_irr x
  trans x y z h g := by rw [lt_cmpT] at *; exact lessT_trans h g
  ntrans x y z h g := by rw [lt_cmpT] at *; rw [lessT_neg] at *; omega
set_option maxRecDepth 100000 in
set_option maxHeartbeats 1600000 in
theorem compare_any (x y : Tm) (w : World) :
    Calls Try.prog 21 #[.agg #[.int .i64 x.1.1, .int .u32 x.1.2, .int .i64 x.2], .agg #[.int .i64 y.1.1, .int .u32 y.1.2, .int .i64 y.2]] w fun e w' => e = .returned (.int .i64 (cmpT x y)) ∧ ∃ q os, w' = grow (w.drewN q) os := by
  obtain ⟨⟨s, b⟩, t⟩ := x
  obtain ⟨⟨s', b'⟩, t'⟩ := y
  have X1 := At.new w 41 [.int .i64 s, .int .u32 b, .int .i64 t]
  have X2 := At.new (w.alloc (.cells [.int .i64 s, .int .u32 b, .int .i64 t].toArray 41)) 41 [.int .i64 s', .int .u32 b', .int .i64 t']
  have X3 := X1.alloc (.cells [.int .i64 s', .int .u32 b', .int .i64 t'].toArray 41)
  have c0 := X3.cell 0 rfl
  have c1 := X3.cell 1 rfl
  have c2 := X3.cell 2 rfl
  have d0 := X2.cell 0 rfl
  have d1 := X2.cell 1 rfl
  have d2 := X2.cell 2 rfl
  have HG : Hid (∃ os, (w.alloc (.cells [.int .i64 s, .int .u32 b, .int .i64 t].toArray 41)).alloc (.cells [.int .i64 s', .int .u32 b', .int .i64 t'].toArray 41) = grow w os) := Lib.hid ⟨_, by rw [alloc_eq_grow, alloc_eq_grow, grow_grow]⟩
  clear X1 X2 X3
  rw [show (w.alloc (.cells [.int .i64 s, .int .u32 b, .int .i64 t].toArray 41)).heap.size = w.heap.size + 1 by simp] at d0 d1 d2
  have HI := Lib.hid cmp_int
  have HU := Lib.hid cmp_u32
  show Calls _ _ _ _ fun e w' => e = .returned (.int .i64 (orZ (cz t t') (cz s s') (cz b b'))) ∧ _
  have HI1 := HI.out t t'
  have HI2 := HI.out s s'
  have HU1 := HU.out b b'
  generalize cz t t' = z0 at *
  generalize cz s s' = z1 at *
  generalize cz b b' = z2 at *
  have K1 := Lib.hid HI1
  have K2 := Lib.hid HI2
  have K3 := Lib.hid HU1
  clear HI HU HI1 HI2 HU1
  go_enter Try.func21, Try.ntmps21
  go_wp2_with fail
  generalize (w.alloc (.cells #[.int .i64 s, .int .u32 b, .int .i64 t] 41)).alloc (.cells #[.int .i64 s', .int .u32 b', .int .i64 t'] 41) = w1 at *
  refine wp_region_still_tail 19 (by kernel_rfl) (by kernel_rfl) ?_
  simp only [List.take_succ_cons, List.take_zero, List.drop_succ_cons, List.drop_zero]
  repeat still_step
  still_call ((K1.out _).mono fun _ _ h => ⟨h.1, h.2.symm⟩)
  repeat still_step
  still_call ((K2.out _).mono fun _ _ h => ⟨h.1, h.2.symm⟩)
  repeat still_step
  still_call ((K3.out _).mono fun _ _ h => ⟨h.1, h.2.symm⟩)
  repeat still_step
  refine wpStill_nil ?_
  change wpList _ _ _ _ _ w1.drew
  obtain ⟨os, hos⟩ := HG.out
  have HO := Lib.hid hos
  clear hos HG c0 c1 c2 d0 d1 d2
  have HZ := Lib.hid (or_any w1.drew.heap.size z0 z1 z2 _ (At.new w1.drew 3 [.int .i64 z0, .int .i64 z1, .int .i64 z2]))
  go_wp2_with fail
  refine HZ.out.mono ?_; rintro e w2 ⟨rfl, rfl⟩
  go_wp2_with fail
  go_ret
  exact ⟨rfl, 1, _, by rw [HO.out, alloc_eq_grow, grow_grow]; rfl⟩

/-! ### slices.SortFunc -/
def encT (x : Tm) : List Value := [.int .i64 x.1.1, .int .u32 x.1.2, .int .i64 x.2]
theorem cmp_lays (blk off size : Nat) (w : World) : CmpLays Try.prog 21 #[] encT 3 cmpT blk off size w :=
  fun _ _ _ _ x y => compare_any x y _
theorem tm_get {l : List Tm} {j : Nat} (h : j < l.length) : l.toArray[j]! = tm_ l j := by
  rw [getElem!_pos l.toArray j (by simpa using h), tm_at h]
  simp
theorem tm_holds {w : World} {g : Nat} {cur : Array Value} {l : List Tm} (hb : w.heap[g]? = some (.cells cur 41 (0, 0))) (ht : cur.toList.take (l.length * 3) = tcells l) : HoldsK encT 3 w g 0 l.toArray := by
  intro j hj
  rw [size_flatK] at hj
  have hj' : j < l.length * 3 := by simpa using hj
  refine ⟨?_, by simp [World.frozen?, hb]⟩
  rw [get_flatK _ _ _ _ hj, tm_get (by omega)]
  have h1 : cur[j]? = (tcells l)[j]? := by
    rw [← ht, List.getElem?_take_of_lt hj']
    simp
  rw [Nat.zero_add, cell_of_row w g j cur _ (0, 0) hb, h1]
  obtain ⟨t0, t1, t2⟩ := tcells_at l (j / 3) (by omega)
  have hm : j % 3 = 0 ∨ j % 3 = 1 ∨ j % 3 = 2 := by omega
  rcases hm with h0 | h0 | h0
  · have e : j = j / 3 * 3 := by omega
    rw [h0]
    conv => lhs; rw [e]
    exact t0
  · have e : j = j / 3 * 3 + 1 := by omega
    rw [h0]
    conv => lhs; rw [e]
    exact t1
  · have e : j = j / 3 * 3 + 2 := by omega
    rw [h0]
    conv => lhs; rw [e]
    exact t2
theorem ts_holds {w : World} {g : Nat} {l : List Tm} (hg : g < w.heap.size) (h : HoldsK encT 3 w g 0 l.toArray) : Ts w (some ⟨g, 0, none⟩) l.length l := by
  refine ⟨rfl, fun _ => ⟨_, rfl, hg, fun j hj => ?_⟩⟩
  have h0 := (h.cell (i := j) (c := 0) (by simpa using hj) (by omega)).1
  have h1 := (h.cell (i := j) (c := 1) (by simpa using hj) (by omega)).1
  have h2 := (h.cell (i := j) (c := 2) (by simpa using hj) (by omega)).1
  rw [tm_get hj, Nat.zero_add] at h0 h1 h2
  have e : (⟨g, 0, none⟩ : Addr).add (j * 3) = ⟨g, j * 3, none⟩ := by unfold Addr.add; split <;> simp_all
  rw [e]
  exact ⟨h0, h1, h2⟩
theorem grown_sorted {w : World} {g n : Nat} {os : Array Obj} (d : Array Tm) : w.grownBy (sortWorldK encT 3 w g 0 n d os) (some g) := by
  refine ⟨rfl, rfl, rfl, by simp [sortWorldK, putRowK, putRow, mapBlock, Sort.ahead], fun k hk hne => ?_⟩
  have hs : k < (putRowK encT 3 (Sort.ahead w n) g 0 d).heap.size := by
    simp [putRowK, putRow, mapBlock, Sort.ahead]
    exact hk
  unfold sortWorldK
  rw [heap_grow_old _ _ hs]
  have : g ≠ k := fun e => hne (by rw [e])
  simp [putRowK, putRow, mapBlock, Sort.ahead, Array.getElem?_modify, this]
theorem sorted_is {l q : List Tm} (hq : Good q) (hp : l.Perm q) : l.mergeSort (fun x y => !(ltOf cmpT) y x) = q := by
  have ha : ∀ a b : Tm, lessT a b = true → lessT b a = false := fun a b h => by
    cases g : lessT b a
    · rfl
    · have := lessT_trans h g
      rw [lessT_irr] at this
      cases this
  refine List.Perm.eq_of_pairwise (le := fun x y => (!(ltOf cmpT) y x) = true) ?_ ?_ ?_ ((List.mergeSort_perm _ _).trans hp)
  · intro a b _ _ h g
    rw [lt_cmpT] at h g
    simp only [Bool.not_eq_true'] at h g
    exact lessT_same g h
  · refine List.pairwise_mergeSort ?_ ?_ l
    · intro a b c h g
      simp only [Bool.not_eq_true', lt_cmpT] at *
      rw [lessT_neg] at *
      omega
    · intro a b
      rw [lt_cmpT, lt_cmpT]
      cases h : lessT a b
      · simp
      · rw [ha _ _ h]; rfl
  · exact hq.srt.imp fun {a b} h => by rw [lt_cmpT, ha _ _ h]; rfl
set_option maxRecDepth 100000 in
theorem sort_any (g cap : Nat) (l q : List Tm) (cur : Array Value) (w : World) (hb : w.heap[g]? = some (.cells cur 41 (0, 0))) (ht : cur.toList.take (l.length * 3) = tcells l) (hq : Good q) (hp : l.Perm q) (hl : l.length ≤ 1000) :
    Calls Try.prog 20 #[.slice (some ⟨g, 0, none⟩) l.length cap, .func (.func 21) #[] #[]] w fun e w' => e = .returned (.tuple #[]) ∧ Ts w' (some ⟨g, 0, none⟩) l.length q ∧ w.grownBy w' (some g) := by
  have hlt : g < w.heap.size := (Array.getElem?_eq_some_iff.1 hb).1
  have hH := tm_holds hb ht
  have eg : ∀ args w, (callFunc 21 args).run Try.prog w = .ok (.enter 21 args) w := enters_of Try.func21 (by kernel_rfl) rfl
  have hcon := AnyQ.slices_SortFunc_total Try.sortTm 3 Try.isAgg41 Try.sizeOf41 encT (fun _ => rfl) (fun x v hv => by simp [encT] at hv; rcases hv with rfl | rfl | rfl <;> rfl) cmpT cmpT_swo 21 #[] g 0 cap l.toArray w eg (cmp_lays g 0 _ w) hH hlt (by simp; omega) (fun x y h g => by rw [lt_cmpT] at h g; exact lessT_same h g)
  change Calls Try.prog 20 _ _ _ at hcon
  have e0 : l.toArray.size = l.length := by simp
  rw [e0] at hcon
  refine hcon.mono ?_
  rintro e w' ⟨rfl, n, os, rfl⟩
  rw [List.toList_toArray, sorted_is hq hp]
  have hqs : q.length = l.length := hp.length_eq.symm
  have hd := holdsK_sortWorldK_c encT 3 w g 0 l.toArray q.toArray n os hH hlt (by simp [hqs])
  have hg := grown_sorted (w := w) (g := g) (n := n) (os := os) q.toArray
  refine ⟨rfl, ?_, hg⟩
  rw [← hqs]
  exact ts_holds (Nat.lt_of_lt_of_le hlt hg.size) hd
end Go.Proofs.Ytmjnlmcbcclbkaa

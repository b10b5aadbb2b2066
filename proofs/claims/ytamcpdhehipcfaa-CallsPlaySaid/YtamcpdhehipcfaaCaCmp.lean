/- Proved: what compare of package calls answers, and what the library's sort leaves of a slice of calls. Conditions: those that the theorems name. -/
import Derived.Test.YtamcpdhehipcfaaCaBase
import Derived.Test.YtamcpdhehipcfaaCaSortShelf
import Derived.StillTailTactics
namespace Go.Proofs.Ytamcpdhehipcfaa
open Go.ChangeShapes Go.WideShapes Go.ChangeAt Go.RowKit Go.Sort

/-! ### cmp.Compare -/
def caz (a b : Int) : Int := if a < b then -1 else if b < a then 1 else 0
theorem ca_nan (a : Int) (w : World) : Calls Try.prog 30 #[.int .i64 a] w fun e w' => e = .returned (.bool false) ∧ w = w' := by
  go_enter Try.func30, Try.ntmps30
  go_wp2_with fail
  go_ret
  exact ⟨rfl, rfl⟩
theorem ca_cmp (a b : Int) (w : World) : Calls Try.prog 26 #[.int .i64 a, .int .i64 b] w fun e w' => e = .returned (.int .i64 (caz a b)) ∧ w = w' := by
  have H := Lib.hid ca_nan
  unfold caz
  by_cases h : a < b
  · rw [if_pos h]
    go_enter Try.func26, Try.ntmps26
    go_wp2_with (go_at_call 30; refine (H.out _ _).mono ?_; rintro e w' ⟨rfl, rfl⟩)
    go_ret
    exact ⟨rfl, rfl⟩
  · rw [if_neg h]
    by_cases g : b < a
    · rw [if_pos g]
      go_enter Try.func26, Try.ntmps26
      go_wp2_with (go_at_call 30; refine (H.out _ _).mono ?_; rintro e w' ⟨rfl, rfl⟩)
      go_ret
      exact ⟨rfl, rfl⟩
    · rw [if_neg g]
      go_enter Try.func26, Try.ntmps26
      go_wp2_with (go_at_call 30; refine (H.out _ _).mono ?_; rintro e w' ⟨rfl, rfl⟩)
      go_ret
      exact ⟨rfl, rfl⟩

/-! ### cmp.Or of two -/
def orW (x y : Int) : Int := if x ≠ 0 then x else y
set_option maxRecDepth 100000 in
set_option maxHeartbeats 1600000 in
theorem ca_or (b : Nat) (x y : Int) (w : World) (h : At w b 3 [.int .i64 x, .int .i64 y]) :
    Calls Try.prog 25 #[.slice (some ⟨b, 0, none⟩) 2 2] w fun e w' => e = .returned (.int .i64 (orW x y)) ∧ w = w' := by
  have c0 := h.cell 0 rfl
  have c1 := h.cell 1 rfl
  clear h
  unfold orW
  by_cases hx : x = 0
  · subst hx
    rw [if_neg (by simp)]
    by_cases hy : y = 0
    · subst hy
      go_enter Try.func25, Try.ntmps25
      go_wp2_with fail
      refine wp_loop_rounds 3 ?_
      rw [rounds_succ]; go_wp2
      rw [rounds_succ]; go_wp2
      rw [rounds_succ]; go_wp2
      go_ret
      exact ⟨rfl, rfl⟩
    · have hy' : (y != 0) = true := by simp [hy]
      go_enter Try.func25, Try.ntmps25
      go_wp2_with fail
      refine wp_loop_rounds 2 ?_
      rw [rounds_succ]; go_wp2
      rw [rounds_succ]; go_wp2
      go_ret
      exact ⟨rfl, rfl⟩
  · rw [if_pos hx]
    have hx' : (x != 0) = true := by simp [hx]
    go_enter Try.func25, Try.ntmps25
    go_wp2_with fail
    refine wp_loop_rounds 1 ?_
    rw [rounds_succ]; go_wp2
    go_ret
    exact ⟨rfl, rfl⟩

/-! ### compare -/
def cmpW (x y : Wt) : Int := orW (caz x.str y.str) (caz x.kind y.kind)
theorem lt_cmpW (x y : Wt) : ltOf cmpW x y = lessW x y := by
  unfold ltOf
  rw [Bool.eq_iff_iff, lessW_iff, decide_eq_true_eq]
  unfold cmpW orW caz
  split <;> split <;> (try split) <;> (try split) <;> (try split) <;> (try split) <;> (try split) <;> omega
theorem cmpW_swo : SWO (ltOf cmpW) where
  irrefl x := by rw [lt_cmpW]; exact lessW_irr x
  trans x y z h g := by rw [lt_cmpW] at *; exact lessW_trans h g
  ntrans x y z h g := by rw [lt_cmpW] at *; rw [lessW_neg] at *; omega
set_option maxRecDepth 100000 in
set_option maxHeartbeats 1600000 in
theorem ca_compare (x y : Wt) (w : World) :
    Calls Try.prog 21 #[wtV x, wtV y] w fun e w' => e = .returned (.int .i64 (cmpW x y)) ∧ ∃ q os, w' = grow (w.drewN q) os := by
  have X1 := At.new w tW (wtC x)
  have X2 := At.new (w.alloc (.cells (wtC x).toArray tW)) tW (wtC y)
  have X3 := X1.alloc (.cells (wtC y).toArray tW)
  have HG : Hid (∃ os, (w.alloc (.cells (wtC x).toArray tW)).alloc (.cells (wtC y).toArray tW) = grow w os) := Lib.hid ⟨_, by rw [alloc_eq_grow, alloc_eq_grow, grow_grow]⟩
  rw [show (w.alloc (.cells (wtC x).toArray tW)).heap.size = w.heap.size + 1 by simp] at X2
  obtain ⟨W1, HW1⟩ : ∃ W1, W1 = (w.alloc (.cells (wtC x).toArray tW)).alloc (.cells (wtC y).toArray tW) := ⟨_, rfl⟩
  rw [← HW1] at HG X2 X3
  have c1 := X3.cell 1 rfl
  have c2 := X3.cell 2 rfl
  have d1 := X2.cell 1 rfl
  have d2 := X2.cell 2 rfl
  clear X1 X2 X3
  have HI := Lib.hid ca_cmp
  show Calls _ _ _ _ fun e w' => e = .returned (.int .i64 (orW (caz x.str y.str) (caz x.kind y.kind))) ∧ _
  have K1 := Lib.hid (HI.out x.str y.str)
  have K2 := Lib.hid (HI.out x.kind y.kind)
  clear HI
  generalize caz x.str y.str = z0 at *
  generalize caz x.kind y.kind = z1 at *
  go_enter Try.func21, Try.ntmps21
  go_upto_region 1 with fail
  change Code.wp _ _ _ _ ((w.alloc (.cells (wtC x).toArray tW)).alloc (.cells (wtC y).toArray tW))
  rw [← HW1]; clear HW1
  refine wp_region_still_tail 14 (by kernel_rfl) (by kernel_rfl) ?_
  simp only [List.take_succ_cons, List.take_zero, List.drop_succ_cons, List.drop_zero]
  repeat still_step
  still_call ((K1.out _).mono fun _ _ h => ⟨h.1, h.2.symm⟩)
  repeat still_step
  still_call ((K2.out _).mono fun _ _ h => ⟨h.1, h.2.symm⟩)
  repeat still_step
  refine wpStill_nil ?_
  change wpList _ _ _ _ _ W1.drew
  obtain ⟨os, hos⟩ := HG.out
  have HO := Lib.hid hos
  clear hos HG c1 c2 d1 d2
  have HZ := Lib.hid (ca_or W1.drew.heap.size z0 z1 _ (At.new W1.drew 3 [.int .i64 z0, .int .i64 z1]))
  go_wp2_with fail
  refine HZ.out.mono ?_; rintro e w2 ⟨rfl, rfl⟩
  go_wp2_with fail
  go_ret
  exact ⟨rfl, 1, _, by rw [HO.out, alloc_eq_grow, grow_grow]; rfl⟩
/-! ### slices.SortFunc -/

theorem caw_lays (blk off size : Nat) (w : World) : CmpLays Try.prog 21 #[] wtC 5 cmpW blk off size w :=
  fun _ _ _ _ x y => ca_compare x y _
theorem wt_get {l : List Wt} {j : Nat} (h : j < l.length) : l.toArray[j]! = wt_ l j := by
  rw [getElem!_pos l.toArray j (by simpa using h), wt_at h]
  simp
theorem wt_holds {w : World} {g : Nat} {cur : Array Value} {l : List Wt} (hb : w.heap[g]? = some (.cells cur 30 (0, 0))) (ht : cur.toList.take (l.length * 5) = wcells l) : HoldsK wtC 5 w g 0 l.toArray := by
  intro j hj
  rw [size_flatK] at hj
  have hj' : j < l.length * 5 := by simpa using hj
  refine ⟨?_, by simp [World.frozen?, hb]⟩
  rw [get_flatK _ _ _ _ hj, wt_get (by omega)]
  have h1 : cur[j]? = (wcells l)[j]? := by
    rw [← ht, List.getElem?_take_of_lt hj']
    simp
  rw [Nat.zero_add, cell_of_row w g j cur _ (0, 0) hb, h1]
  obtain ⟨t0, t1, t2, t3, t4⟩ := wcells_at l (j / 5) (by omega)
  have hm : j % 5 = 0 ∨ j % 5 = 1 ∨ j % 5 = 2 ∨ j % 5 = 3 ∨ j % 5 = 4 := by omega
  rcases hm with h0 | h0 | h0 | h0 | h0
  · have e : j = j / 5 * 5 := by omega
    rw [h0]
    conv => lhs; rw [e]
    exact t0
  · have e : j = j / 5 * 5 + 1 := by omega
    rw [h0]
    conv => lhs; rw [e]
    exact t1
  · have e : j = j / 5 * 5 + 2 := by omega
    rw [h0]
    conv => lhs; rw [e]
    exact t2
  · have e : j = j / 5 * 5 + 3 := by omega
    rw [h0]
    conv => lhs; rw [e]
    exact t3
  · have e : j = j / 5 * 5 + 4 := by omega
    rw [h0]
    conv => lhs; rw [e]
    exact t4
theorem ws_holds {w : World} {g : Nat} {l : List Wt} (hg : g < w.heap.size) (h : HoldsK wtC 5 w g 0 l.toArray) : Ws w (some ⟨g, 0, none⟩) l.length l := by
  refine ⟨rfl, fun _ => ⟨_, rfl, hg, fun j hj => ?_⟩⟩
  have h0 := (h.cell (i := j) (c := 0) (by simpa using hj) (by omega)).1
  have h1 := (h.cell (i := j) (c := 1) (by simpa using hj) (by omega)).1
  have h2 := (h.cell (i := j) (c := 2) (by simpa using hj) (by omega)).1
  have h3 := (h.cell (i := j) (c := 3) (by simpa using hj) (by omega)).1
  have h4 := (h.cell (i := j) (c := 4) (by simpa using hj) (by omega)).1
  rw [wt_get hj, Nat.zero_add] at h0 h1 h2 h3 h4
  have e : (⟨g, 0, none⟩ : Addr).add (j * 5) = ⟨g, j * 5, none⟩ := by unfold Addr.add; split <;> simp_all
  rw [e]
  exact ⟨h0, h1, h2, h3, h4⟩
theorem grownW_sorted {w : World} {g n : Nat} {os : Array Obj} (d : Array Wt) : w.grownBy (sortWorldK wtC 5 w g 0 n d os) (some g) := by
  refine ⟨rfl, rfl, rfl, by simp [sortWorldK, putRowK, putRow, mapBlock, Sort.ahead], fun k hk hne => ?_⟩
  have hs : k < (putRowK wtC 5 (Sort.ahead w n) g 0 d).heap.size := by
    simp [putRowK, putRow, mapBlock, Sort.ahead]
    exact hk
  unfold sortWorldK
  rw [heap_grow_old _ _ hs]
  have : g ≠ k := fun e => hne (by rw [e])
  simp [putRowK, putRow, mapBlock, Sort.ahead, Array.getElem?_modify, this]
/-- calls in order, no place twice: there is one such order. -/
theorem sortedW_is {l q : List Wt} {d : Array Wt} (hq : GoodW q) (hp : l.Perm q) (hP : PermIn 0 l.toArray.size l.toArray d) (hS : SortedIn (ltOf cmpW) 0 l.toArray.size d) : d = q.toArray := by
  obtain ⟨hsz, _, hperm⟩ := hP
  have e1 : d.extract 0 l.toArray.size = d := by rw [← hsz]; exact Array.extract_size
  rw [e1, Array.extract_size] at hperm
  have hd : d.toList.Perm q := hperm.trans (by simpa using hp)
  have : d.toList = q := by
    refine List.Perm.eq_of_pairwise (le := fun x y => (!(ltOf cmpW) y x) = true) ?_ ?_ ?_ hd
    · intro a b ha hb h g
      rw [lt_cmpW] at h g
      simp only [Bool.not_eq_true'] at h g
      exact hq.one (hd.mem_iff.1 ha) hb (lessW_key g h)
    · rw [List.pairwise_iff_getElem]
      intro i j hi hj hij
      have hi' : i < d.size := by simpa using hi
      have hj' : j < d.size := by simpa using hj
      have := hS i j (Nat.zero_le _) hij (by omega)
      rw [getElem!_pos d j hj', getElem!_pos d i hi'] at this
      simpa using this
    · exact hq.srt.imp fun {a b} h => by
        rw [lt_cmpW]
        cases g : lessW b a
        · rfl
        · have := lessW_trans h g
          rw [lessW_irr] at this
          cases this
  rw [← this]
set_option maxRecDepth 100000 in
theorem ca_sort_any (g cap : Nat) (l q : List Wt) (cur : Array Value) (w : World) (hb : w.heap[g]? = some (.cells cur 30 (0, 0))) (ht : cur.toList.take (l.length * 5) = wcells l) (hq : GoodW q) (hp : l.Perm q) (hl : l.length ≤ 1000) :
    Calls Try.prog 23 #[.slice (some ⟨g, 0, none⟩) l.length cap, .func (.func 21) #[] #[]] w fun e w' => e = .returned (.tuple #[]) ∧ Ws w' (some ⟨g, 0, none⟩) l.length q ∧ w.grownBy w' (some g) := by
  have hlt : g < w.heap.size := (Array.getElem?_eq_some_iff.1 hb).1
  have hH := wt_holds hb ht
  have eg : ∀ args w, (callFunc 21 args).run Try.prog w = .ok (.enter 21 args) w := enters_of Try.func21 (by kernel_rfl) rfl
  have hcon := AnyQ.slices_SortFunc Try.sortCa 5 Try.isAgg30 Try.sizeOf30 wtC (fun _ => rfl) (fun x v hv => by simp [wtC] at hv; rcases hv with rfl | rfl | rfl | rfl | rfl <;> rfl) cmpW cmpW_swo 21 #[] g 0 cap l.toArray w eg (caw_lays g 0 _ w) hH hlt (by simp; omega)
  change Calls Try.prog 23 _ _ _ at hcon
  have e0 : l.toArray.size = l.length := by simp
  rw [e0] at hcon
  refine hcon.mono ?_
  rintro e w' ⟨rfl, d', n, os, hP, hS, rfl⟩
  obtain rfl := sortedW_is hq hp (by rw [e0]; exact hP) (by rw [e0]; exact hS)
  have hqs : q.length = l.length := hp.length_eq.symm
  have hd := holdsK_sortWorldK_c wtC 5 w g 0 l.toArray q.toArray n os hH hlt (by simp [hqs])
  have hg := grownW_sorted (w := w) (g := g) (n := n) (os := os) q.toArray
  refine ⟨rfl, ?_, hg⟩
  rw [← hqs]
  exact ws_holds (Nat.lt_of_lt_of_le hlt hg.size) hd
end Go.Proofs.Ytamcpdhehipcfaa

/- Proved: what Wants of package flight answers, of a flight and of none; what Same of the document's answers of two lists that are the same. Conditions: those that the theorems name. -/
import Derived.Test.YtgnalabblhokmaaFlBody
import Derived.Test.YtgnalabblhokmaaBitMis
import Derived.Test.YtgnalabblhokmaaWinMem
import Derived.Laws.StructEq
namespace Go.Proofs.Ytgnalabblhokmaa
open Go.ChangeShapes Go.WideShapes Go.ChangeAt Go.RowKit

/-! ### slices of what is to be sent -/
def sncells : List (Int × Int) → List Value
  | [] => []
  | x :: r => [.int .u32 x.1, .int .i64 x.2] ++ sncells r
theorem sncells_len (l : List (Int × Int)) : (sncells l).length = l.length * 2 := by
  induction l with
  | nil => rfl
  | cons x r ih => show ([Value.int .u32 x.1, .int .i64 x.2] ++ sncells r).length = _; rw [List.length_append, ih]; simp; omega
theorem sncells_app (l r : List (Int × Int)) : sncells (l ++ r) = sncells l ++ sncells r := by
  induction l with
  | nil => rfl
  | cons x l ih => show [Value.int .u32 x.1, .int .i64 x.2] ++ sncells (l ++ r) = ([Value.int .u32 x.1, .int .i64 x.2] ++ sncells l) ++ sncells r; rw [ih, List.append_assoc]
theorem sncells_one (l : List (Int × Int)) : ∀ u ∈ sncells l, u.oneCell' = true := by
  induction l with
  | nil => intro u hu; simp [sncells] at hu
  | cons x r ih =>
    intro u hu
    rcases List.mem_append.1 (show u ∈ [Value.int .u32 x.1, .int .i64 x.2] ++ sncells r from hu) with h | h
    · simp only [List.mem_cons, List.not_mem_nil, or_false] at h
      rcases h with rfl | rfl <;> rfl
    · exact ih u h
theorem sncells_at (l : List (Int × Int)) (j : Nat) (hj : j < l.length) : (sncells l)[j * 2]? = some (.int .u32 (l.getD j (0, 0)).1) ∧ (sncells l)[j * 2 + 1]? = some (.int .i64 (l.getD j (0, 0)).2) := by
  induction l generalizing j with
  | nil => simp at hj
  | cons x r ih =>
    cases j with
    | zero => exact ⟨rfl, rfl⟩
    | succ j =>
      have := ih j (by simpa using hj)
      have e : ∀ q, (sncells (x :: r))[q + 2]? = (sncells r)[q]? := fun q => rfl
      rw [Nat.succ_mul, e, show j * 2 + 2 + 1 = j * 2 + 1 + 2 by omega, e]
      exact this
theorem infoSend : (Try.prog.info? 56).map (fun i => (i.zero, i.size, i.bytes)) = some (some (.agg #[.int .u32 0, .int .i64 0]), 2, 16) := by kernel_rfl
/-- The slice value with address A and length n reads as this list. -/
def Sn (w : World) (A : Option Addr) (n : Nat) (l : List (Int × Int)) : Prop :=
  l.length = n ∧ (0 < n → ∃ g o, A = some ⟨g, o, none⟩ ∧ (∃ xs f, w.heap[g]? = some (.cells xs 56 f)) ∧ ∀ j, j < n → w.cell? ⟨g, o + j * 2, none⟩ = some (.int .u32 (l.getD j (0, 0)).1) ∧ w.cell? ⟨g, o + j * 2 + 1, none⟩ = some (.int .i64 (l.getD j (0, 0)).2))
theorem Sn.nil (w : World) (A : Option Addr) : Sn w A 0 [] := ⟨rfl, fun h => absurd h (by omega)⟩
theorem Sn.move {w w' : World} {A : Option Addr} {n : Nat} {l : List (Int × Int)} (h : Sn w A n l) (hb : ∀ (g : Nat) (xs : Array Value) (f : Nat × Nat), w.heap[g]? = some (Obj.cells xs 56 f) → w'.heap[g]? = w.heap[g]?) : Sn w' A n l := by
  refine ⟨h.1, fun hn => ?_⟩
  obtain ⟨g, o, e, ⟨xs, f, hg⟩, hc⟩ := h.2 hn
  have hk := hb g xs f hg
  refine ⟨g, o, e, ⟨xs, f, hk.trans hg⟩, fun j hj => ?_⟩
  obtain ⟨c0, c1⟩ := hc j hj
  exact ⟨(World.cell?_of_block hk).trans c0, (World.cell?_of_block hk).trans c1⟩
theorem Sn.below {w w' : World} {A : Option Addr} {n : Nat} {l : List (Int × Int)} (h : Sn w A n l) (hb : Below w.heap.size w w') : Sn w' A n l :=
  h.move fun g _ _ hx => hb.block g (Array.getElem?_eq_some_iff.1 hx).1
theorem sn_one (w : World) (x y : Int) : Sn (w.alloc (.cells #[.int .u32 x, .int .i64 y] 56)) (some ⟨w.heap.size, 0, none⟩) 1 [(x, y)] := by
  have h := At.new w 56 [.int .u32 x, .int .i64 y]
  refine ⟨rfl, fun _ => ⟨_, _, rfl, ⟨_, _, heap_alloc_new w _⟩, fun j hj => ?_⟩⟩
  obtain rfl : j = 0 := by omega
  exact ⟨h.cell 0 rfl, h.cell 1 rfl⟩
theorem sn_of {w : World} {base n : Nat} {v : Value} {l : List (Int × Int)} (h : w.ownsRow base 56 2 v n (sncells l)) : ∃ A c, v = .slice A n c ∧ Sn w A n l := by
  obtain ⟨hl, hv⟩ := h
  rw [sncells_len] at hl
  have hln : l.length = n := by omega
  rcases hv with ⟨rfl, h0⟩ | ⟨g, cap, cur, rfl, hg, hc, h1, h2, h3, h4⟩
  · have h0' : n = 0 := by simpa using h0
    subst h0'
    exact ⟨_, _, rfl, hln, fun h => absurd h (by omega)⟩
  · refine ⟨_, _, rfl, hln, fun _ => ⟨g, 0, rfl, ⟨_, _, hc⟩, fun j hj => ?_⟩⟩
    obtain ⟨h5, h6⟩ := sncells_at l j (by omega)
    rw [← h4, List.getElem?_take, if_pos (by omega)] at h5 h6
    refine ⟨?_, ?_⟩
    · rw [cell_of_row w g _ cur _ (0, 0) hc, Nat.zero_add]; simpa using h5
    · rw [cell_of_row w g _ cur _ (0, 0) hc, Nat.zero_add]; simpa using h6

/-! ### Wants -/
/-- what is to be sent of a block of n shards. -/
def wantL (x : Int) (s : ByteArray) (n need : Int) : List (Int × Int) := (misL s n (max need 0 - (cntN s 256 : Nat))).map fun i => (x, i)
theorem take_more {l : List Int} {k : Nat} (h : k < l.length) (x : Int) : ((l.take (k + 1)).map fun i => (x, i)) = ((l.take k).map fun i => (x, i)) ++ [(x, l.getD k 0)] := by
  rw [List.take_succ_eq_append_getElem h, List.map_append, List.getD_eq_getElem?_getD, List.getElem?_eq_getElem h]
  rfl
/-- a list comes back, of the block that is there, or of none; nothing that was there has turned. -/
def GivesSn (nx : Int) (L : List Bl) (x : Int) (q : Bl → List (Int × Int)) (W : World) (e : Ending) (w' : World) : Prop :=
  ∃ y is, BodyIs nx L x y is ∧ ∃ A c, e = .returned (.slice A (q y).length c) ∧ Sn w' A (q y).length (q y) ∧ Below W.heap.size W w'
set_option maxRecDepth 100000 in
set_option maxHeartbeats 1600000 in
theorem wants_m (p : Option Addr) (nx : Int) (r : Option Nat) (v : Value) (L : List Bl) (x : Int) (s : ByteArray) (need m : Int) (w : World) (h : FlO w p nx r v L) (h1 : -9223372036854775808 ≤ need) (h2 : need ≤ 9223372036854775807) (hm : (0 ≤ need ∧ m = need - (cntN s 256 : Nat)) ∨ (need < 0 ∧ m = -(cntN s 256 : Nat))) :
    Calls Try.prog 7 #[.pointer p, .int .u32 x, .string s, .int .i64 need] w (GivesSn nx L x (fun y => (misL s y.n m).map fun i => (x, i)) w) := by
  obtain ⟨i0, hi0, hz0, hz1, hz2⟩ := info_parts infoSend
  have HB := Lib.hid (body_any p nx r v L x w h)
  have HC := Lib.hid (fun w => count_any s w)
  have HM := Lib.hid (fun n w => missing_any s n m w)
  have hc : (cntN s 256 : Int) ≤ 256 := by have := cntN_le s 256; omega
  have hc0 : (0 : Int) ≤ (cntN s 256 : Int) := Int.natCast_nonneg _
  clear h
  rcases hm with ⟨h3, hm⟩ | ⟨h3, hm⟩
  all_goals
    go_enter Try.func7, Try.ntmps7
    go_wp2_with fail
    refine HB.out.mono ?_; rintro e w1 ⟨y, is, hy, rfl, b1⟩
    obtain ⟨l, hl⟩ : ∃ l, misL s y.n m = l := ⟨_, rfl⟩
    have HMm := HM.out y.n
    have HLe := Lib.hid (misL_len s y.n m)
    rw [hl] at HMm HLe
    have HL := Lib.hid hl
    have HMh := Lib.hid HMm
    have HY := Lib.hid hy
    have B1 := Lib.hid b1
    clear hy b1 HB HM hl HMm
    rw [hm] at HMh
    clear hm
    go_wp2_with fail
    refine (HC.out _).mono ?_; rintro e w2 ⟨rfl, b2⟩
    have B2 := Lib.hid (B1.out.trans (b2.mono B1.out.size))
    clear b2 B1
    go_wp2_with fail
    refine (HMh.out _).mono ?_; rintro e w3 ⟨A, c, rfl, hi, b3⟩
    have B3 := Lib.hid (B2.out.trans (b3.mono B2.out.size))
    have HI := Lib.hid hi
    clear hi b3 B2 HMh
    generalize hn : l.length = n at *
    have HN := Lib.hid hn
    clear hn
    go_wp2_with fail
    go_loopw [13, 33] (fun u i wr => ∃ k : Nat, k ≤ n ∧ i = .int .i64 k ∧ wr.ownsRow w3.heap.size 56 2 u k (sncells ((l.take k).map fun i => (x, i))) ∧ Below w3.heap.size w3 wr) (fun _ i _ => n - (intOf i).toNat)
    case atStart => exact ⟨0, by omega, rfl, World.ownsRow_nil _ _ _ _, Below.refl _ _⟩
    case round =>
      obtain ⟨k, hk, rfl, hown, hb3⟩ := hrel
      have hk0 : (0 : Int) ≤ (k : Int) := Int.natCast_nonneg _
      have hn255 : n ≤ 255 := by have := HLe.out; omega
      by_cases hlt : k < n
      · obtain ⟨ad, rfl, _, hac⟩ := (HI.out.below hb3).at_ hlt
        have hlt' : (k : Int) < (n : Int) := by omega
        have HT := Lib.hid (take_more (l := l) (k := k) (by rw [HN.out]; exact hlt) x)
        generalize l.getD k 0 = z at *
        obtain ⟨A1, c1, rfl, _⟩ := sn_of hown
        have HO := Lib.hid hown
        have HB3 := Lib.hid hb3
        have hbs := hb3.size
        have hmax : k + 1 ≤ maxLen := by unfold maxLen; omega
        clear hown hb3
        go_wp2_with (at_builtin; refine wpList_append_own_at _ rfl _ _ _ rfl w3.heap.size 56 i0 _ 2 16 Try.underlying32 hi0 hz0 hz1 hz2 rfl (by omega) _ k _ rfl (HO.out.alloc _) ⟨wr.heap.size, 0, none⟩ 1 1 [Value.int .u32 x, .int .i64 z] rfl rfl (World.news_of_block (cs := #[Value.int .u32 x, .int .i64 z]) (t := 56) (fr := (0, 0)) (heap_alloc_new wr _)) (by simp [Value.oneCell']) hmax (by omega) (by simp; omega) ?_; intro v' w4 hown1 hgrow _ _)
        go_roundw
        case rel =>
          refine ⟨k + 1, hlt, by go_num, ?_, (HB3.out.alloc hbs _).grown hgrow (by simp; omega) (fun i e => (HO.out.lt i e).1)⟩
          rw [HT.out, sncells_app]
          exact hown1
        case measure => simp [intOf]; omega
      · obtain rfl : k = n := by omega
        have hlt' : ¬ (k : Int) < (k : Int) := by omega
        obtain ⟨A1, c1, rfl, hs1⟩ := sn_of hown
        have HS1 := Lib.hid hs1
        have HB4 := Lib.hid (B3.out.trans (hb3.mono B3.out.size))
        clear hown hb3 hs1
        go_wp2_with fail
        go_ret
        have e : l.take k = l := List.take_of_length_le (by rw [HN.out]; exact Nat.le_refl _)
        have hs := HS1.out
        rw [e] at hs
        refine ⟨y, is, HY.out, A1, c1, ?_, ?_, HB4.out⟩
        · show Ending.returned (.slice A1 k c1) = Ending.returned (.slice A1 ((misL s y.n m).map fun i => (x, i)).length c1)
          rw [List.length_map, HL.out, HN.out]
        · show Sn _ _ ((misL s y.n m).map fun i => (x, i)).length ((misL s y.n m).map fun i => (x, i))
          rw [List.length_map, HL.out, HN.out]; exact hs
theorem wants_any (p : Option Addr) (nx : Int) (r : Option Nat) (v : Value) (L : List Bl) (x : Int) (s : ByteArray) (need : Int) (w : World) (h : FlO w p nx r v L) (h1 : -9223372036854775808 ≤ need) (h2 : need ≤ 9223372036854775807) :
    Calls Try.prog 7 #[.pointer p, .int .u32 x, .string s, .int .i64 need] w (GivesSn nx L x (fun y => wantL x s y.n need) w) := by
  have key : ∃ m, ((0 ≤ need ∧ m = need - (cntN s 256 : Nat)) ∨ (need < 0 ∧ m = -(cntN s 256 : Nat))) ∧ m = max need 0 - (cntN s 256 : Nat) := by
    by_cases h0 : 0 ≤ need
    · exact ⟨_, .inl ⟨h0, rfl⟩, by omega⟩
    · exact ⟨_, .inr ⟨by omega, rfl⟩, by omega⟩
  obtain ⟨m, h3, h4⟩ := key
  refine (wants_m p nx r v L x s need m w h h1 h2 h3).mono ?_
  rintro e w' ⟨y, is, hy, A, c, rfl, hs, hb⟩
  have hw : wantL x s y.n need = (misL s y.n m).map fun i => (x, i) := by unfold wantL; rw [← h4]
  refine ⟨y, is, hy, A, c, ?_, ?_, hb⟩
  · show _ = Ending.returned (.slice A (wantL x s y.n need).length c)
    rw [hw]
  · show Sn _ _ (wantL x s y.n need).length (wantL x s y.n need)
    rw [hw]; exact hs

/-! ### Same -/
theorem neq_send (x y : Int × Int) (w : World) : (binOp .neq 56 (.agg #[.int .u32 x.1, .int .i64 x.2]) (.agg #[.int .u32 y.1, .int .i64 y.2])).run Try.prog w = .ok (.bool (!decide (x = y))) w := by
  rw [run_neq_struct, run_equalIn_agg w _ 56 _ _ (by kernel_rfl) (by kernel_rfl)]
  obtain ⟨a, b⟩ := x
  obtain ⟨c, d⟩ := y
  simp [go_sem, Try.underlying56]
  by_cases h : a = c <;> by_cases g : b = d <;> simp [h, g]
set_option maxRecDepth 100000 in
set_option maxHeartbeats 1600000 in
theorem rsame22 (A B : Option Addr) (n c c' : Nat) (l : List (Int × Int)) (w : World) (hl : Sn w A n l) (hr : Sn w B n l) (hn : n ≤ 1000) :
    Calls Try.prog 21 #[.slice A n c, .slice B n c'] w fun e w' => e = .returned (.bool true) ∧ Below w.heap.size w w' := by
  have HL := Lib.hid hl
  have HR := Lib.hid hr
  have HE := Lib.hid (fun (x : Int × Int) W => neq_send x x W)
  clear hl hr
  go_enter Try.func21, Try.ntmps21
  go_wp2_with fail
  go_loopw [5] (fun i wr => ∃ j : Nat, j ≤ n ∧ i = .int .i64 j ∧ Below w.heap.size w wr) (fun i _ => n - (intOf i).toNat)
  case atStart => exact ⟨0, by omega, rfl, Below.refl _ _⟩
  case round =>
    obtain ⟨j, hj, rfl, hbel⟩ := hrel
    have HB := Lib.hid hbel
    have HT := Lib.hid (HL.out.below hbel)
    have HU := Lib.hid (HR.out.below hbel)
    clear hbel
    have hj0 : (0 : Int) ≤ (j : Int) := Int.natCast_nonneg _
    by_cases hlt : j < n
    · obtain ⟨g, o, rfl, _, hc⟩ := HT.out.2 (by omega)
      obtain ⟨g2, o2, rfl, _, hd⟩ := HU.out.2 (by omega)
      obtain ⟨c0, c1⟩ := hc j hlt
      obtain ⟨d0, d1⟩ := hd j hlt
      clear hc hd
      have hlt' : (j : Int) < (n : Int) := by omega
      generalize l.getD j (0, 0) = x at c0 c1 d0 d1
      have he := fun W => HE.out x W
      simp only [decide_true, Bool.not_true] at he
      obtain ⟨x0, x1⟩ := x
      dsimp only at c0 c1 d0 d1 he
      go_wp2_with fail
      go_quiet (fail)
      go_wp2_with fail
      go_roundw
      case rel => exact ⟨j + 1, by omega, by go_num, HB.out.grown (grown_drewN wr nq none) HB.out.size (by simp)⟩
      case measure => simp [intOf]; omega
    · have hlt' : ¬ (j : Int) < (n : Int) := by omega
      go_wp2_with fail
      go_ret
      exact ⟨rfl, HB.out⟩
set_option maxRecDepth 100000 in
set_option maxHeartbeats 800000 in
theorem fsame15 (A B : Option Addr) (n c c' : Nat) (l : List Int) (w : World) (hl : Uw w A n l) (hr : Uw w B n l) (hn : n ≤ 1000) :
    Calls Try.prog 22 #[.slice A n c, .slice B n c'] w fun e w' => e = .returned (.bool true) ∧ Below w.heap.size w w' := by
  have HL := Lib.hid hl
  have HR := Lib.hid hr
  clear hl hr
  go_enter Try.func22, Try.ntmps22
  go_wp2_with fail
  go_loopw [5] (fun i wr => ∃ j : Nat, j ≤ n ∧ i = .int .i64 j ∧ Below w.heap.size w wr) (fun i _ => n - (intOf i).toNat)
  case atStart => exact ⟨0, by omega, rfl, Below.refl _ _⟩
  case round =>
    obtain ⟨j, hj, rfl, hbel⟩ := hrel
    have HB := Lib.hid hbel
    have HT := Lib.hid (HL.out.below hbel)
    have HU := Lib.hid (HR.out.below hbel)
    clear hbel
    have hj0 : (0 : Int) ≤ (j : Int) := Int.natCast_nonneg _
    by_cases hlt : j < n
    · obtain ⟨ad, rfl, had, c0⟩ := HT.out.at_ hlt
      obtain ⟨bd, rfl, hbd, d0⟩ := HU.out.at_ hlt
      have hlt' : (j : Int) < (n : Int) := by omega
      generalize l.getD j 0 = x at c0 d0
      go_wp2_with fail
      go_quiet (fail)
      go_wp2_with fail
      go_roundw
      case rel => exact ⟨j + 1, by omega, by go_num, HB.out.grown (grown_drewN wr nq none) HB.out.size (by simp)⟩
      case measure => simp [intOf]; omega
    · have hlt' : ¬ (j : Int) < (n : Int) := by omega
      go_wp2_with fail
      go_ret
      exact ⟨rfl, HB.out⟩
end Go.Proofs.Ytgnalabblhokmaa

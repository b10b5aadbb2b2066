/- Proved: lemmas of one statement's proof, merged by program: what each part proves stands ahead of it. Conditions: those that the lemmas name. -/
import Derived.Test.YtodokgkchmpmnaaGreatM28
import Derived.Test.YtodokgkchmpmnaaGreatM2
import Derived.Test.YtodokgkchmpmnaaGreatM22
import Derived.Deep.OwnRows
import Derived.Deep.AppendLies
import Derived.Maps.AppendAt
import Derived.Laws.AppendOwnNone
import Derived.Test.YtodokgkchmpmnaaGreatM30
import Derived.Test.YtodokgkchmpmnaaGreatM34
import Derived.Laws.StructEq

/- Plain lemmas on slices of uint32s in memory, and on what turns. No condition beyond those that each lemma names. -/
namespace Go.Proofs.YtodokgkchmpmnaaGreat
open Go.ChangeShapes Go.WideShapes Go.ChangeAt Go.RowKit

/-! ### what turns -/
/-! ### slices of uint32s -/
/-- The slice value with address A and length n holds the numbers l, in memory that is there, of uint32s. -/
def Uw (w : World) (A : Option Addr) (n : Nat) (l : List Int) : Prop :=
  l.length = n ∧ (0 < n → ∃ ad, A = some ad ∧ (∃ xs f, w.heap[ad.block]? = some (.cells xs 22 f)) ∧ ∀ j, j < n → w.cell? (ad.add j) = some (.int .u32 (l.getD j 0)))
theorem Uw.at_ {w : World} {A : Option Addr} {n : Nat} {l : List Int} (h : Uw w A n l) {k : Nat} (hk : k < n) :
    ∃ ad, A = some ad ∧ ad.block < w.heap.size ∧ w.cell? (ad.add k) = some (.int .u32 (l.getD k 0)) := by
  obtain ⟨ad, e, ⟨xs, f, hb⟩, hc⟩ := h.2 (by omega)
  exact ⟨ad, e, (Array.getElem?_eq_some_iff.1 hb).1, hc k hk⟩
end Go.Proofs.YtodokgkchmpmnaaGreat

/- Proved: what Wants of package flight answers, of a flight and of none; what Same of the document's answers of two lists that are the same. Conditions: those that the theorems name. -/
namespace Go.Proofs.YtodokgkchmpmnaaGreat
open Go.ChangeShapes Go.WideShapes Go.ChangeAt Go.RowKit

/-! ### slices of what is to be sent -/
def sncells : List (Int × Int) → List Value
  | [] => []
  | x :: r => [.int .u32 x.1, .int .i64 x.2] ++ sncells r
theorem sncells_len (l : List (Int × Int)) : (sncells l).length = l.length * 2 := by
  induction l with
  | nil => rfl
  | cons x r ih => show ([Value.int .u32 x.1, .int .i64 x.2] ++ sncells r).length = _; rw [List.length_append, ih]; simp; omega
theorem sncells_app (l r : List (Int × Int)) : sncells (l ++ r) = sncells l ++ sncells r := by
  induction l with
  | nil => rfl
  | cons x l ih => show [Value.int .u32 x.1, .int .i64 x.2] ++ sncells (l ++ r) = ([Value.int .u32 x.1, .int .i64 x.2] ++ sncells l) ++ sncells r; rw [ih, List.append_assoc]
theorem sncells_one (l : List (Int × Int)) : ∀ u ∈ sncells l, u.oneCell' = true := by
  induction l with
  | nil => intro u hu; simp [sncells] at hu
  | cons x r ih =>
    intro u hu
    rcases List.mem_append.1 (show u ∈ [Value.int .u32 x.1, .int .i64 x.2] ++ sncells r from hu) with h | h
    · simp only [List.mem_cons, List.not_mem_nil, or_false] at h
      rcases h with rfl | rfl <;> rfl
    · exact ih u h
theorem sncells_at (l : List (Int × Int)) (j : Nat) (hj : j < l.length) : (sncells l)[j * 2]? = some (.int .u32 (l.getD j (0, 0)).1) ∧ (sncells l)[j * 2 + 1]? = some (.int .i64 (l.getD j (0, 0)).2) := by
  induction l generalizing j with
  | nil => simp at hj
  | cons x r ih =>
    cases j with
    | zero => exact ⟨rfl, rfl⟩
    | succ j =>
      have := ih j (by simpa using hj)
      have e : ∀ q, (sncells (x :: r))[q + 2]? = (sncells r)[q]? := fun q => rfl
      rw [Nat.succ_mul, e, show j * 2 + 2 + 1 = j * 2 + 1 + 2 by omega, e]
      exact this
theorem infoSend : (Tryz.prog.info? 52).map (fun i => (i.zero, i.size, i.bytes)) = some (some (.agg #[.int .u32 0, .int .i64 0]), 2, 16) := by kernel_rfl
/-- The slice value with address A and length n reads as this list. -/
def Sn (w : World) (A : Option Addr) (n : Nat) (l : List (Int × Int)) : Prop :=
  l.length = n ∧ (0 < n → ∃ g o, A = some ⟨g, o, none⟩ ∧ (∃ xs f, w.heap[g]? = some (.cells xs 52 f)) ∧ ∀ j, j < n → w.cell? ⟨g, o + j * 2, none⟩ = some (.int .u32 (l.getD j (0, 0)).1) ∧ w.cell? ⟨g, o + j * 2 + 1, none⟩ = some (.int .i64 (l.getD j (0, 0)).2))
theorem sn_of {w : World} {base n : Nat} {v : Value} {l : List (Int × Int)} (h : w.ownsRow base 52 2 v n (sncells l)) : ∃ A c, v = .slice A n c ∧ Sn w A n l := by
  obtain ⟨hl, hv⟩ := h
  rw [sncells_len] at hl
  have hln : l.length = n := by omega
  rcases hv with ⟨rfl, h0⟩ | ⟨g, cap, cur, rfl, hg, hc, h1, h2, h3, h4⟩
  · have h0' : n = 0 := by simpa using h0
    subst h0'
    exact ⟨_, _, rfl, hln, fun h => absurd h (by omega)⟩
  · refine ⟨_, _, rfl, hln, fun _ => ⟨g, 0, rfl, ⟨_, _, hc⟩, fun j hj => ?_⟩⟩
    obtain ⟨h5, h6⟩ := sncells_at l j (by omega)
    rw [← h4, List.getElem?_take, if_pos (by omega)] at h5 h6
    refine ⟨?_, ?_⟩
    · rw [cell_of_row w g _ cur _ (0, 0) hc, Nat.zero_add]; simpa using h5
    · rw [cell_of_row w g _ cur _ (0, 0) hc, Nat.zero_add]; simpa using h6

/-! ### Wants -/
/-- what is to be sent of a block of n shards. -/
def wantL (x : Int) (s : ByteArray) (n need : Int) : List (Int × Int) := (misL s n (max need 0 - (cntN s 256 : Nat))).map fun i => (x, i)
theorem take_more {l : List Int} {k : Nat} (h : k < l.length) (x : Int) : ((l.take (k + 1)).map fun i => (x, i)) = ((l.take k).map fun i => (x, i)) ++ [(x, l.getD k 0)] := by
  rw [List.take_succ_eq_append_getElem h, List.map_append, List.getD_eq_getElem?_getD, List.getElem?_eq_getElem h]
  rfl
/-- the same, and the list lies in a row of the call's own. -/
def GivesSnO (nx : Int) (L : List Bl) (x : Int) (q : Bl → List (Int × Int)) (W : World) (e : Ending) (w' : World) : Prop :=
  ∃ y is, BodyIs nx L x y is ∧ ∃ v, e = .returned v ∧ (∃ B, W.heap.size ≤ B ∧ w'.ownsRow B 52 2 v (q y).length (sncells (q y))) ∧ Below W.heap.size W w'
set_option maxRecDepth 100000 in
set_option maxHeartbeats 1600000 in
theorem wants_m (p : Option Addr) (nx : Int) (r : Option Nat) (v : Value) (L : List Bl) (x : Int) (s : ByteArray) (need m : Int) (w : World) (h : FlO w p nx r v L) (h1 : -9223372036854775808 ≤ need) (h2 : need ≤ 9223372036854775807) (hm : (0 ≤ need ∧ m = need - (cntN s 256 : Nat)) ∨ (need < 0 ∧ m = -(cntN s 256 : Nat))) :
    Calls Tryz.prog 26 #[.pointer p, .int .u32 x, .string s, .int .i64 need] w (GivesSnO nx L x (fun y => (misL s y.n m).map fun i => (x, i)) w) := by
  obtain ⟨i0, hi0, hz0, hz1, hz2⟩ := info_parts infoSend
  have HB := Lib.hid (body_any p nx r v L x w h)
  have HC := Lib.hid (fun w => count_any s w)
  have HM := Lib.hid (fun n w => missing_any s n m w)
  have hc : (cntN s 256 : Int) ≤ 256 := by have := cntN_le s 256; omega
  have hc0 : (0 : Int) ≤ (cntN s 256 : Int) := Int.natCast_nonneg _
  clear h
  rcases hm with ⟨h3, hm⟩ | ⟨h3, hm⟩
  all_goals
    go_enter Tryz.func26, Tryz.ntmps26
    go_wp2_with fail
    refine HB.out.mono ?_; rintro e w1 ⟨y, is, hy, rfl, b1⟩
    obtain ⟨l, hl⟩ : ∃ l, misL s y.n m = l := ⟨_, rfl⟩
    have HMm := HM.out y.n
    have HLe := Lib.hid (misL_len s y.n m)
    rw [hl] at HMm HLe
    have HL := Lib.hid hl
    have HMh := Lib.hid HMm
    have HY := Lib.hid hy
    have B1 := Lib.hid b1
    clear hy b1 HB HM hl HMm
    rw [hm] at HMh
    clear hm
    go_wp2_with fail
    refine (HC.out _).mono ?_; rintro e w2 ⟨rfl, b2⟩
    have B2 := Lib.hid (B1.out.trans (b2.mono B1.out.size))
    clear b2 B1
    go_wp2_with fail
    refine (HMh.out _).mono ?_; rintro e w3 ⟨A, c, rfl, hi, b3⟩
    have B3 := Lib.hid (B2.out.trans (b3.mono B2.out.size))
    have HI := Lib.hid hi
    clear hi b3 B2 HMh
    generalize hn : l.length = n at *
    have HN := Lib.hid hn
    clear hn
    go_wp2_with fail
    go_loopw [13, 33] (fun u i wr => ∃ k : Nat, k ≤ n ∧ i = .int .i64 k ∧ wr.ownsRow w3.heap.size 52 2 u k (sncells ((l.take k).map fun i => (x, i))) ∧ Below w3.heap.size w3 wr) (fun _ i _ => n - (intOf i).toNat)
    case atStart => exact ⟨0, by omega, rfl, World.ownsRow_nil _ _ _ _, Below.refl _ _⟩
    case round =>
      obtain ⟨k, hk, rfl, hown, hb3⟩ := hrel
      have hk0 : (0 : Int) ≤ (k : Int) := Int.natCast_nonneg _
      have hn255 : n ≤ 255 := by have := HLe.out; omega
      by_cases hlt : k < n
      · obtain ⟨ad, rfl, _, hac⟩ := (HI.out.below hb3).at_ hlt
        have hlt' : (k : Int) < (n : Int) := by omega
        have HT := Lib.hid (take_more (l := l) (k := k) (by rw [HN.out]; exact hlt) x)
        generalize l.getD k 0 = z at *
        obtain ⟨A1, c1, rfl, _⟩ := sn_of hown
        have HO := Lib.hid hown
        have HB3 := Lib.hid hb3
        have hbs := hb3.size
        have hmax : k + 1 ≤ maxLen := by unfold maxLen; omega
        clear hown hb3
        go_wp2_with (at_builtin; refine wpList_append_own_at _ rfl _ _ _ rfl w3.heap.size 52 i0 _ 2 16 Tryz.underlying48 hi0 hz0 hz1 hz2 rfl (by omega) _ k _ rfl (HO.out.alloc _) ⟨wr.heap.size, 0, none⟩ 1 1 [Value.int .u32 x, .int .i64 z] rfl rfl (World.news_of_block (cs := #[Value.int .u32 x, .int .i64 z]) (t := 52) (fr := (0, 0)) (heap_alloc_new wr _)) (by simp [Value.oneCell']) hmax (by omega) (by simp; omega) ?_; intro v' w4 hown1 hgrow _ _)
        go_roundw
        case rel =>
          refine ⟨k + 1, hlt, by go_num, ?_, (HB3.out.alloc hbs _).grown hgrow (by simp; omega) (fun i e => (HO.out.lt i e).1)⟩
          rw [HT.out, sncells_app]
          exact hown1
        case measure => simp [intOf]; omega
      · obtain rfl : k = n := by omega
        have hlt' : ¬ (k : Int) < (k : Int) := by omega
        obtain ⟨A1, c1, rfl, hs1⟩ := sn_of hown
        have HS1 := Lib.hid hown
        have HB4 := Lib.hid (B3.out.trans (hb3.mono B3.out.size))
        have HSZ := Lib.hid B3.out.size
        clear hown hb3 hs1
        go_wp2_with fail
        go_ret
        have e : l.take k = l := List.take_of_length_le (by rw [HN.out]; exact Nat.le_refl _)
        have hs := HS1.out
        rw [e] at hs
        refine ⟨y, is, HY.out, _, rfl, ⟨w3.heap.size, HSZ.out, ?_⟩, HB4.out⟩
        show World.ownsRow _ _ _ _ _ ((misL s y.n m).map fun i => (x, i)).length (sncells ((misL s y.n m).map fun i => (x, i)))
        rw [List.length_map, HL.out, HN.out]; exact hs
theorem wants_own (p : Option Addr) (nx : Int) (r : Option Nat) (v : Value) (L : List Bl) (x : Int) (s : ByteArray) (need : Int) (w : World) (h : FlO w p nx r v L) (h1 : -9223372036854775808 ≤ need) (h2 : need ≤ 9223372036854775807) :
    Calls Tryz.prog 26 #[.pointer p, .int .u32 x, .string s, .int .i64 need] w (GivesSnO nx L x (fun y => wantL x s y.n need) w) := by
  have key : ∃ m, ((0 ≤ need ∧ m = need - (cntN s 256 : Nat)) ∨ (need < 0 ∧ m = -(cntN s 256 : Nat))) ∧ m = max need 0 - (cntN s 256 : Nat) := by
    by_cases h0 : 0 ≤ need
    · exact ⟨_, .inl ⟨h0, rfl⟩, by omega⟩
    · exact ⟨_, .inr ⟨by omega, rfl⟩, by omega⟩
  obtain ⟨m, h3, h4⟩ := key
  refine (wants_m p nx r v L x s need m w h h1 h2 h3).mono ?_
  rintro e w' ⟨y, is, hy, u, rfl, ⟨B, hB, ho⟩, hb⟩
  have hw : wantL x s y.n need = (misL s y.n m).map fun i => (x, i) := by unfold wantL; rw [← h4]
  refine ⟨y, is, hy, u, rfl, ⟨B, hB, ?_⟩, hb⟩
  show World.ownsRow _ _ _ _ _ (wantL x s y.n need).length (sncells (wantL x s y.n need))
  rw [hw]; exact ho
/-! ### Same -/
end Go.Proofs.YtodokgkchmpmnaaGreat

/- Proved: lemmas of one statement's proof, merged by program: what each part proves stands ahead of it. Conditions: those that the lemmas name. -/
import Derived.Test.YtodokgkchmpmnaaGreatM19
import Derived.Laws.MakeOwn
import Derived.Maps.AppendAt
import Derived.RangeFuncBox

/- Proved: what the program's Cut answers, for every text and every number. Conditions: those that the theorems name. -/
namespace Go.Proofs.YtodokgkchmpmnaaGreat
open Go.ChangeShapes Go.WideShapes Go.ChangeAt Go.RowKit
attribute [local go_sem] Oper.semAt_some

/-! ### texts that a loop over an iterator gathers in a row of the call's own, block H; its variable is block H + 1 -/
theorem gathered {W w1 : World} {H k q : Nat} {xs : List Value} {tmp : Obj} {v' : Value} (hH : H ≤ W.heap.size)
    (hv : Boxed W (H + 1) 93 (.slice (some ⟨H, 0, none⟩) q k)) (hrow : W.ownsRow H 9 1 (.slice (some ⟨H, 0, none⟩) q k) q xs) (hgrow : (W.alloc tmp).grownBy w1 (some H)) :
    Boxed w1 (H + 1) 93 (.slice (some ⟨H, 0, none⟩) q k) ∧ Boxed (w1.setCell ⟨H + 1, 0, none⟩ v') (H + 1) 93 v' ∧ KeepsOthers W (w1.setCell ⟨H + 1, 0, none⟩ v') ∧ Below H W (w1.setCell ⟨H + 1, 0, none⟩ v') ∧
      (∀ b, b < W.heap.size → b ≠ H → b ≠ H + 1 → (w1.setCell ⟨H + 1, 0, none⟩ v').heap[b]? = W.heap[b]?) := by
  have hv1 : Boxed w1 (H + 1) 93 (.slice (some ⟨H, 0, none⟩) q k) := (hv.alloc tmp).kept hgrow (by simp)
  refine ⟨hv1, hv1.set v', ?_, ?_, fun b hb h1 h2 => ?_⟩
  · refine ((KeepsOthers.alloc W tmp).trans (KeepsOthers.of_grownBy hgrow fun j o ej hj => ?_)).trans (KeepsOthers.setCell _ _ _)
    rcases (hrow.alloc tmp).2 with ⟨h, _⟩ | ⟨g, cap, cur, e, _, hgb, _⟩
    · exact absurd h (by simp)
    · obtain rfl : H = g := by injection e with e _ _; injection e with e; injection e
      obtain rfl : H = j := by simpa using ej
      rw [hgb] at hj; cases hj; rfl
  · exact (((Below.refl H W).alloc hH tmp).grown hgrow (by simp; omega) fun j ej => by injection ej with ej; omega).setCell (p := ⟨H + 1, 0, none⟩) (by simp) v'
  · rw [Below.heap_setCell w1 ⟨H + 1, 0, none⟩ v' b h2, hgrow.block b (by simp; omega) (by simp [h1])]
    exact Below.heap_alloc W tmp b hb
/-- what the loop holds between two rounds. -/
def Gathers (w : World) (k : Nat) (pre : List ByteArray) (W : World) : Prop :=
  (Boxed W (w.heap.size + 1) 93 (.slice (some ⟨w.heap.size, 0, none⟩) pre.length k) ∧ W.ownsRow w.heap.size 9 1 (.slice (some ⟨w.heap.size, 0, none⟩) pre.length k) pre.length (scells pre)) ∧ Below w.heap.size w W
theorem gathers_own (w : World) (k B : Nat) (hB : w.heap.size ≤ B) : OwnFrom B (Gathers w k) := by
  refine OwnFrom.and (Own.from ?_ _) (ownFrom_below (Nat.le_refl _) hB)
  rintro pre X Y row ⟨hv, hr⟩ hg hrow
  refine ⟨hv.kept hg fun e' => ?_, hr.kept hg (.inr fun e' => ?_)⟩
  · obtain ⟨o, ho, hc⟩ := hrow _ e'.symm
    rw [show X.heap[w.heap.size + 1]? = _ from hv] at ho; cases ho; cases hc
  · rcases hr.2 with ⟨h, _⟩ | ⟨g, cap, cur, e, _, hgb, _⟩
    · exact absurd h (by simp)
    · obtain rfl : w.heap.size = g := by injection e with e _ _; injection e with e; injection e
      obtain ⟨o, ho, hc⟩ := hrow w.heap.size (by simpa [Value.ownBlock] using e'.symm)
      rw [hgb] at ho; cases ho; cases hc
theorem kept_two {W W' : World} {B C k : Nat} {s : ByteArray} (h1 : B < W.heap.size → W'.heap[B]? = W.heap[B]?) (h2 : C < W.heap.size → W'.heap[C]? = W.heap[C]?) : KeepsTwo B C s k W W' := by
  refine ⟨fun h => ?_, fun h => ?_⟩
  · have := h1 (World.block_lt_of_cell? W _ h)
    unfold World.cell? at h ⊢
    show (match W'.heap[B]? with | _ => _) = _
    rw [this]; exact h
  · have := h2 (World.block_lt_of_cell? W _ h)
    unfold World.cell? at h ⊢
    show (match W'.heap[C]? with | _ => _) = _
    rw [this]; exact h

set_option maxHeartbeats 800000 in
theorem cut_bad (s : ByteArray) (k : Int) (w : World) (hs : s.size ≤ maxLen) (h : cErrZ s.size k ≠ 0) :
    Calls Tryz.prog 71 #[.string s, .int .i64 k] w (GivesSZ w [] (cErrZ s.size k)) := by
  unfold maxLen at hs
  by_cases h1 : k < 1
  · have H := Lib.hid (cErrZ_arg (n := s.size) (k := k) (Or.inl h1))
    clear h
    go_enter Tryz.func71, Tryz.ntmps71
    go_wp2_with fail
    go_ret2
    rw [H.out]
    exact ⟨_, _, _, rfl, Ss.nil _ _, Below.refl _ _⟩
  · by_cases h2 : 32 < k
    · have H := Lib.hid (cErrZ_arg (n := s.size) (k := k) (Or.inr h2))
      clear h
      have h1' : 1 ≤ k := by omega
      go_enter Tryz.func71, Tryz.ntmps71
      go_wp2_with fail
      go_ret2
      rw [H.out]
      exact ⟨_, _, _, rfl, Ss.nil _ _, Below.refl _ _⟩
    · have h1' : 1 ≤ k := by omega
      have h2' : k ≤ 32 := by omega
      clear h1 h2
      by_cases h3 : s.size < 1
      · have H := Lib.hid (cErrZ_long (n := s.size) h1' h2' (Or.inl h3))
        have h3' : (s.size : Int) < 1 := by omega
        clear h h3
        go_enter Tryz.func71, Tryz.ntmps71
        go_wp2_with fail
        go_ret2
        rw [H.out]
        exact ⟨_, _, _, rfl, Ss.nil _ _, Below.refl _ _⟩
      · have h3' : (1 : Int) ≤ (s.size : Int) := by omega
        have h4 : k * 1024 < (s.size : Int) := by
          rcases Int.lt_or_le (k * 1024) (s.size : Int) with h4 | h4
          · exact h4
          · exact absurd (cErrZ_ok h1' h2' (by omega) h4) h
        have H := Lib.hid (cErrZ_long (n := s.size) h1' h2' (Or.inr h4))
        clear h h3
        go_enter Tryz.func71, Tryz.ntmps71
        go_wp2_with fail
        go_ret2
        rw [H.out]
        exact ⟨_, _, _, rfl, Ss.nil _ _, Below.refl _ _⟩

set_option maxRecDepth 100000 in
set_option maxHeartbeats 2000000 in
theorem cut_good (s : ByteArray) (k : Nat) (w : World) (h1 : 1 ≤ k) (h2 : k ≤ 32) (h3 : 1 ≤ s.size) (h4 : s.size ≤ k * 1024) :
    Calls Tryz.prog 71 #[.string s, .int .i64 (k : Nat)] w (GivesSZ w (mkS k (piece (szN s.size k) s)) 0) := by
  obtain ⟨i0, hi0, hz0, hz1, hz2⟩ := info_parts Tryz.infoString
  have hmk : ∀ W, (Instr.makeSlice 93 (Value.int .i64 0) (Value.int .i64 (k : Int))).run Tryz.prog W = .ok (Value.slice (some ⟨W.heap.size, 0, none⟩) 0 k) (W.alloc (.cells (madeCells #[.string S0] k) 9)) := fun W => by
    have := run_makeSlice W 93 9 i0 (.string S0) Tryz.underlying93 hi0 hz0 .i64 .i64 0 (k : Int) (by omega) (by omega) (by rw [hz1]; omega) (by rw [hz2]; omega) (by omega)
    rw [this, hz1, Nat.mul_one]; rfl
  have HST := Lib.hid (fun n hn B C w => shards_stops n hn B C k (szN s.size k) s h1 h2 h3 h4 rfl w)
  generalize hm : szN s.size k = m at *
  have hk1 : (1 : Int) ≤ (k : Int) := by omega
  have hk2 : (k : Int) ≤ 32 := by omega
  have hs1 : (1 : Int) ≤ (s.size : Int) := by omega
  have hs2 : (s.size : Int) ≤ (k : Int) * 1024 := by omega
  clear hm h1 h3 h4
  refine (callsIn_wide (n := 3)).1 ?_
  refine callsIn_of_wp_marks Tryz.func71 rfl trivial ?_ rfl
  simp only [Tryz.ntmps71, List.size_toArray, List.length_cons, List.length_nil, Nat.reduceAdd, Nat.reduceSub, Array.replicate_succ, Array.replicate_zero, List.push_toArray, List.append_toArray, List.nil_append, List.cons_append]
  gi_wp2_with (refine ⟨trivial, ?_⟩; gi_at_call 81; refine (callsIn_wide.2 (shards_any s k _)).mono ?_; rintro e w' ⟨rfl, rfl⟩)
  obtain ⟨W0, hW0⟩ : ∃ W0, ((((w.alloc (.cells (madeCells #[Value.string S0] k) 9)).alloc (.cells #[Value.slice (some ⟨w.heap.size, 0, none⟩) 0 k] 93)).alloc (.cells #[Value.string s] 9)).alloc (.cells #[Value.int .i64 (k : Nat)] 3)) = W0 := ⟨_, rfl⟩
  have hz : W0.heap.size = w.heap.size + 4 := by rw [← hW0]; simp
  have hcB : W0.cell? ⟨w.heap.size + 1 + 1, 0, none⟩ = some (.string s) := by
    rw [← hW0, World.cell?_alloc_past _ _ _ (by simp), World.cell?_alloc_at _ _ _ _ (by simp)]; rfl
  have hcC : W0.cell? ⟨w.heap.size + 1 + 1 + 1, 0, none⟩ = some (.int .i64 (k : Nat)) := by
    rw [← hW0, World.cell?_alloc_at _ _ _ _ (by simp)]; rfl
  have hI0 : Gathers w k [] W0 := by
    rw [← hW0]
    have h1 : (w.alloc (.cells (madeCells #[Value.string S0] k) 9)).ownsRow w.heap.size 9 1 (.slice (some ⟨w.heap.size, 0, none⟩) 0 k) 0 [] :=
      ⟨rfl, .inr ⟨w.heap.size, k, _, rfl, Nat.le_refl _, heap_alloc_new w _, Nat.zero_le _, by unfold maxLen; omega, by simp [madeCells], by simp⟩⟩
    have h2' := Boxed.new (w.alloc (.cells (madeCells #[Value.string S0] k) 9)) 93 (.slice (some ⟨w.heap.size, 0, none⟩) 0 k)
    rw [World.size_alloc] at h2'
    exact ⟨⟨(h2'.alloc _).alloc _, ((h1.alloc _).alloc _).alloc _⟩, ((((Below.refl _ w).alloc (Nat.le_refl _) _).alloc (by simp) _).alloc (by simp; omega) _).alloc (by simp; omega) _⟩
  rw [hW0]
  have HI0 := Lib.hid hI0
  have HST2 := Lib.hid (HST.out (3 - 1) (by decide) (w.heap.size + 1 + 1) (w.heap.size + 1 + 1 + 1) W0 (by omega) (by omega) hcB hcC)
  clear hI0 HST hW0
  refine wpIn_rangeFunc_ownG (F := Fence.wide) rfl (by decide) (gf := 89) (lb := #[.pointer (some ⟨w.heap.size + 1 + 1, 0, none⟩), .pointer (some ⟨w.heap.size + 1 + 1 + 1, 0, none⟩)]) rfl trivial (enters_of Tryz.func89 (by kernel_rfl) rfl)
    HST2.out keepsTwo_t (keepsTwo_b (by omega) (by omega)) (Below.refl _ _) (fun _ => rfl)
    (Gathers w k) (fun _ _ _ => False) (gathers_own w k _ (by omega)) (fun _ _ _ _ _ hs _ _ => hs) HI0.out
    (fun x => { tmps := #[Value.string s, Value.int IntKind.i64 k, undef, undef, Value.slice none 0 0, Value.int IntKind.i64 0, Value.pointer (some ⟨w.heap.size + 1, 0, none⟩), Value.string x, Value.int IntKind.i64 k,
          Value.bool (decide ((k : Int) < 1)), Value.bool (decide ((k : Int) < 1)), Value.int IntKind.i64 k, Value.bool (decide (32 < (k : Int))), Value.bool (decide ((k : Int) < 1) || decide (32 < (k : Int))), Value.string s,
          Value.int IntKind.i64 s.size, Value.bool (decide ((s.size : Int) < 1)), Value.bool (decide ((s.size : Int) < 1)), Value.string s, Value.int IntKind.i64 s.size, Value.int IntKind.i64 k, Value.int IntKind.i64 ((k : Int) * 1024),
          Value.bool (decide ((k : Int) * 1024 < (s.size : Int))), Value.bool (decide ((s.size : Int) < 1) || decide ((k : Int) * 1024 < (s.size : Int))), Value.int IntKind.i64 k, Value.slice (some ⟨w.heap.size, 0, none⟩) 0 k, Value.string s, Value.int IntKind.i64 k,
          Value.func (Fn.func 89) #[] #[Value.pointer (some ⟨w.heap.size + 1 + 1, 0, none⟩), Value.pointer (some ⟨w.heap.size + 1 + 1 + 1, 0, none⟩)], Value.string x, undef, undef, undef, undef, undef], defers := [] }) ?assign ?body ?done ?stop
  case assign =>
    intro l x W K hK
    gi_wp2
    exact hK
  case body =>
    rintro l pre x W ⟨⟨hv, hrow⟩, hB⟩ hlt
    have hc := hv.cell
    have hpl : pre.length + 1 ≤ k := hlt
    have HR := Lib.hid hrow
    have HB := Lib.hid hB
    have HV := Lib.hid hv
    have hws := hB.size
    clear hrow hB hv
    gi_wp2_with (gi_at_builtin; refine wpListIn_append_fits _ rfl _ _ 93 rfl w.heap.size 9 i0 1 Tryz.underlying93 hi0 hz1 w.heap.size pre.length k (scells pre) rfl (HR.out.alloc _) ⟨W.heap.size, 0, none⟩ 1 1 [Value.string x] rfl rfl (cell_one_new _ _ _) (by simp [Value.oneCell']) hpl ?_; intro w1 hown1 hgrow; obtain ⟨hv1, hv2, hk2, hb2, hf2⟩ := gathered (v' := .slice (some ⟨w.heap.size, 0, none⟩) (pre.length + 1) k) hws HV.out HR.out hgrow; have hc1 := hv1.cell; have hf1 := hv1.frozen)
    refine ⟨hk2.from _, kept_two (fun h => hf2 _ h (by omega) (by omega)) (fun h => hf2 _ h (by omega) (by omega)), ⟨?_, ?_⟩, HB.out.trans hb2⟩
    · rw [List.length_append]; exact hv2
    · rw [List.length_append, ← scells_snoc]
      exact hown1.kept (grownBy_setCell' w1 (w.heap.size + 1) _) (.inr (by simp [Value.ownBlock]))
  case done =>
    rintro D ys W hD rfl ⟨⟨hv, hrow⟩, hB⟩ hK
    have hc := hv.cell
    have hlen := mkS_len k (piece m s)
    rw [hlen] at hc hrow
    have HR := Lib.hid hrow
    have HB := Lib.hid hB
    clear hrow hB hv hlen
    gi_wp2
    refine ⟨by simp, .inl ⟨_, _, rfl, run_takeDeferred hK, ?_⟩⟩
    have h3 := ownsRow_putObj HR.out (.deferred none) hK rfl
    obtain ⟨A', c', e', _, hs'⟩ := ss_of h3
    refine ⟨_, results_tmp2 rfl _ _ _, A', k, c', ?_, hs', HB.out.trans (belowK_b (w := w) (Nat.le_refl _) W D _ _ (by omega) hK rfl rfl)⟩
    rw [← e']; rfl
  case stop =>
    rintro D c pre W _ _ h _
    exact h.elim
theorem cut_any (s : ByteArray) (k : Int) (w : World) (hs : s.size ≤ maxLen) :
    Calls Tryz.prog 71 #[.string s, .int .i64 k] w (GivesSZ w (cOut s k) (cErrZ s.size k)) := by
  by_cases h : cErrZ s.size k = 0
  · have h' := h
    unfold cErrZ at h'
    split at h'
    · omega
    · split at h'
      · omega
      · obtain ⟨k', rfl⟩ := Int.eq_ofNat_of_zero_le (show 0 ≤ k by omega)
        rw [h, show cOut s (k' : Int) = _ from cOut_ok (by omega) (by omega) (by omega) (by omega)]
        exact cut_good s k' w (by omega) (by omega) (by omega) (by omega)
  · rw [cOut_err h]
    exact cut_bad s k w hs h
end Go.Proofs.YtodokgkchmpmnaaGreat

/- Proved: what Ack of package flight answers, of a flight and of none. Conditions: those that the theorems name. -/
import Derived.Test.YtgnalabblhokmaaFlDueM
import Derived.Test.YtgnalabblhokmaaFlDel
namespace Go.Proofs.Ytgnalabblhokmaa
open Go.ChangeShapes Go.WideShapes Go.ChangeAt Go.RowKit
attribute [local go_sem] Oper.semAt_some

/-- how many of the places have numbers less than x. -/
def ackC (nx : Int) (k : Nat) (x : Int) (l : List Nat) : Nat := (l.filter fun i => decide (0 < ah (fno nx k i) x)).length
/-- how many are gone. -/
def ackN (nx : Int) (k : Nat) (x : Int) : Nat := if 0 < ah nx x then 0 else ackC nx k x (List.range k)
theorem ackC_le (nx : Int) (k : Nat) (x : Int) (l : List Nat) : ackC nx k x l ≤ l.length := List.length_filter_le _ _
theorem ackC_yes {nx : Int} {k : Nat} {x : Int} {l : List Nat} {i : Nat} (h : 0 < ah (fno nx k i) x) : ackC nx k x (l ++ [i]) = ackC nx k x l + 1 := by
  unfold ackC
  rw [List.filter_append, List.length_append, List.filter_cons_of_pos (by simpa using h)]
  rfl
theorem ackC_no {nx : Int} {k : Nat} {x : Int} {l : List Nat} {i : Nat} (h : ¬ 0 < ah (fno nx k i) x) : ackC nx k x (l ++ [i]) = ackC nx k x l := by
  unfold ackC
  rw [List.filter_append, List.length_append, List.filter_cons_of_neg (by simpa using h)]
  rfl
theorem ackN_le (nx : Int) (k : Nat) (x : Int) : ackN nx k x ≤ k := by
  unfold ackN
  split
  · exact Nat.zero_le _
  · have := ackC_le nx k x (List.range k)
    rwa [List.length_range] at this

theorem ack_nil (x : Int) (w : World) :
    Calls Try.prog 6 #[.pointer none, .int .u32 x] w fun e w' => e = .returned (.int .i64 0) ∧ Below w.heap.size w w' := by
  have HB := Lib.hid ((Below.refl w.heap.size w).alloc (Nat.le_refl _) (.cells #[Value.int .u32 x] 22))
  go_enter Try.func6, Try.ntmps6
  go_wp2_with fail
  go_quiet (fail)
  go_wp2_with fail
  go_ret
  exact ⟨rfl, below_drewN HB.out (Nat.le_refl _) _⟩

/-- what holds between two rounds. -/
structure AckR (p : Option Addr) (x : Int) (n0 : Nat) (w : World) (c : Nat) (W : World) : Prop where
  b0 : Boxed W n0 22 (.int .u32 x)
  b1 : Boxed W (n0 + 1) 3 (.int .i64 (c : Nat))
  b2 : Boxed W (n0 + 1 + 1) 25 (.pointer p)
  low : Below n0 w W
theorem AckR.own {p : Option Addr} {x : Int} {n0 : Nat} {w : World} {c : Nat} {W W' : World} {row : Option Nat} {B : Nat} (h : AckR p x n0 w c W) (hg : W.grownBy W' row) (hr : ∀ i, row = some i → B ≤ i ∧ ∃ o : Obj, W.heap[i]? = some o ∧ o.isCells = false) (hn : n0 = w.heap.size) (hB : n0 ≤ B) : AckR p x n0 w c W' := by
  have hc : ∀ i, row = some i → ∃ o : Obj, W.heap[i]? = some o ∧ o.isCells = false := fun i e => (hr i e).2
  exact ⟨boxed_own_ h.b0 hg hc, boxed_own_ h.b1 hg hc, boxed_own_ h.b2 hg hc, h.low.grown hg (by have := h.low.size; omega) (fun i e => Nat.le_trans hB (hr i e).1)⟩
theorem AckR.count {p : Option Addr} {x : Int} {n0 : Nat} {w : World} {c : Nat} {W : World} (h : AckR p x n0 w c W) (c' : Nat) : AckR p x n0 w c' (W.setCell ⟨n0 + 1, 0, none⟩ (.int .i64 (c' : Nat))) :=
  ⟨h.b0.other (by omega) _, h.b1.set _, h.b2.other (by omega) _, h.low.setCell (p := ⟨n0 + 1, 0, none⟩) (by show n0 ≤ n0 + 1; omega) _⟩

/-- the first ones are gone: what holds behind. -/
structure AckE (f : Nat) (wd nx : Int) (r : Option Nat) (v' : Value) (L : List Bl) (K : Nat) (n0 D : Nat) (w : World) (W : World) : Prop where
  fl : Fl W f wd nx r v' (L.drop K)
  b1 : Boxed W (n0 + 1) 3 (.int .i64 (K : Nat))
  d : W.heap[D]? = some (.deferred (some []))
  tn : Tn (FlOwn f r) w W
theorem ackE_of {f : Nat} {wd nx : Int} {r : Option Nat} {v v' : Value} {L : List Bl} {K : Nat} {n0 D : Nat} {w W w1 : World} {x : Int} {p : Option Addr} (hf : Fl W f wd nx r v L) (hn : n0 = w.heap.size) (hfw : f < n0) (hr : ∀ g, r = some g → g < n0) (hI : AckR p x n0 w K W) (hD : W.heap[D]? = some (.deferred (some [])))
    (hq : Qu w1 r 45 3 v' (L.length - K) (blcells (L.drop K))) (ht : Tn (fun i => r = some i) W w1) : At w1 f 43 [.int .i64 wd, .int .u32 nx, v] ∧ AckE f wd nx r v' L K n0 D w (w1.setCell ⟨f, 2, none⟩ v') := by
  have ha : At w1 f 43 [.int .i64 wd, .int .u32 nx, v] := hf.own.tn ht (fun e => hf.ne f e rfl)
  have hb : Boxed w1 (n0 + 1) 3 (.int .i64 (K : Nat)) := (ht.block (n0 + 1) hI.b1.lt (fun e => by have := hr _ e; omega)).trans hI.b1
  have hDl : D < W.heap.size := (Array.getElem?_eq_some_iff.1 hD).1
  have hDn : ∀ g, FlOwn f r g → D ≠ g := fun g hg e => by
    obtain ⟨c, t, hc⟩ := hf.cells_ g hg
    rw [← e, hD] at hc; cases hc
  have hd : w1.heap[D]? = some (.deferred (some [])) := (ht.block D hDl (fun e => hDn D (.inr e) rfl)).trans hD
  have ts : Tn (fun i => i = f) w1 (w1.setCell ⟨f, 2, none⟩ v') := (Tn.refl (fun i => i = f) w1).set ⟨f, 2, none⟩ v' (fun _ => rfl)
  obtain ⟨w2, hw2⟩ : ∃ w2, w2 = w1.setCell ⟨f, 2, none⟩ v' := ⟨_, rfl⟩
  have hat : At w2 f 43 [.int .i64 wd, .int .u32 nx, v'] := by rw [hw2]; exact ha.set_ 2 v'
  have hbt : Boxed w2 (n0 + 1) 3 (.int .i64 (K : Nat)) := by rw [hw2]; exact hb.kept (grown_set w1 ⟨f, 2, none⟩ v') (fun e => by injection e with e; have e : n0 + 1 = f := e; omega)
  rw [← hw2] at ts ⊢
  have hrow : Qu w2 r 45 3 v' (L.drop K).length (blcells (L.drop K)) := by
    rw [List.length_drop]; exact hq.tn ts (fun g e => hf.ne g e)
  have hfew : ((L.drop K).length : Int) ≤ wd := by rw [List.length_drop]; have := hf.few; omega
  have t1 : Tn (FlOwn f r) w W := tn_below _ (by rw [← hn]; exact hI.low)
  have t2 : Tn (FlOwn f r) w w2 := (t1.trans (ht.mono fun i _ e => .inr e)).trans (ts.mono fun i _ e => .inl e)
  have hd2 : w2.heap[D]? = some (.deferred (some [])) := (ts.block D (Nat.lt_of_lt_of_le hDl ht.size) (fun e => hDn f (.inl rfl) e)).trans hd
  exact ⟨ha, ⟨⟨hat, hrow, hf.ne, hf.u32, hfew, hf.high⟩, hbt, hd2, t2⟩⟩

set_option maxRecDepth 100000 in
set_option maxHeartbeats 4000000 in
theorem ack_any (f : Nat) (wd nx : Int) (r : Option Nat) (v : Value) (L : List Bl) (x : Int) (w : World) (h : Fl w f wd nx r v L) (hx : U32 x) :
    Calls Try.prog 6 #[.pointer (some ⟨f, 0, none⟩), .int .u32 x] w fun e w' => ∃ v', e = .returned (.int .i64 (ackN nx L.length x : Nat)) ∧ Fl w' f wd nx r v' (L.drop (ackN nx L.length x)) ∧ Tn (FlOwn f r) w w' := by
  have HLS := Lib.hid (fun w => less_any nx x h.u32 hx w)
  have HLB := Lib.hid (fun i w => less_any (fno nx L.length i) x (wpl_u32 _ _) hx w)
  have HF := Lib.hid h
  have c1 := h.own.cell 1 rfl
  have hfw := h.lt
  have hlow := Lib.hid (show ∀ g, r = some g → g < w.heap.size from fun g e => h.row.lt e)
  have hc1d : ∀ o : Obj, (w.alloc o).cell? ⟨f, 1, none⟩ = some (.int .u32 nx) := fun o => (h.own.alloc o).cell 1 rfl
  have hc1e : ∀ o : Obj, (w.alloc o).drew.cell? ⟨f, 1, none⟩ = some (.int .u32 nx) := hc1d
  have hr0 : Try.prog.follows .mixedOrders = true := by kernel_rfl
  by_cases hle : 0 < ah nx x
  · have HN : Hid (ackN nx L.length x = 0) := Lib.hid (if_pos hle)
    rw [decide_eq_true hle] at HLS
    clear hle HLB h
    refine (callsIn_wide (n := 3)).1 ?_
    refine callsIn_of_wp_marks Try.func6 rfl trivial ?_ rfl
    simp only [Try.ntmps6, List.size_toArray, List.length_cons, List.length_nil, Nat.reduceAdd, Nat.reduceSub, Array.replicate_succ, Array.replicate_zero, List.push_toArray, List.append_toArray, List.nil_append, List.cons_append]
    gi_wp2
    apply wpIn_one (W' := (w.alloc (.cells #[Value.int .u32 x] 22)).drew)
    case h =>
      gi_region_with_o (refine ⟨trivial, ?_⟩; gi_at_call 15; refine (callsIn_wide.2 (HLS.out _)).mono ?_; rintro e w' ⟨rfl, rfl⟩)
      all_goals exact ⟨rfl, rfl⟩
    gi_wp2
    refine ⟨_, results_tmp rfl _ _ _, ?_⟩
    have hB : Below w.heap.size w (w.alloc (.cells #[Value.int .u32 x] 22)).drew := below_drewN ((Below.refl _ w).alloc (Nat.le_refl _) _) (Nat.le_refl _) 1
    rw [HN.out]
    exact ⟨v, rfl, HF.out.below hB, tn_below _ hB⟩
  · obtain ⟨k, hk⟩ : ∃ k, L.length = k := ⟨_, rfl⟩
    have HN : Hid (ackN nx L.length x = ackC nx k x (List.range k)) := Lib.hid (by rw [hk]; exact if_neg hle)
    have hk64 := Lib.hid h.n64
    have HC := Lib.hid h.flo.c
    have HK := Lib.hid hk
    obtain ⟨g, o, cap, hrow⟩ : ∃ g o cap, 0 < k → v = .slice (some ⟨g, o, none⟩) k cap := by
      rcases Nat.eq_zero_or_pos k with e | e
      · exact ⟨0, 0, 0, fun h => by omega⟩
      · obtain ⟨g, o, cap, h1, h2, _⟩ := h.place (i := 0) (by omega)
        exact ⟨g, o, cap, fun _ => by rw [← hk]; exact h2⟩
    have HR := Lib.hid hrow
    have HFW := Lib.hid hfw
    rw [hk] at HC hk64 HLB
    rw [decide_eq_false hle] at HLS
    clear hle h hrow hk
    refine (callsIn_wide (n := 3)).1 ?_
    refine callsIn_of_wp_marks Try.func6 rfl trivial ?_ rfl
    simp only [Try.ntmps6, List.size_toArray, List.length_cons, List.length_nil, Nat.reduceAdd, Nat.reduceSub, Array.replicate_succ, Array.replicate_zero, List.push_toArray, List.append_toArray, List.nil_append, List.cons_append]
    gi_wp2
    apply wpIn_one (W' := (w.alloc (.cells #[Value.int .u32 x] 22)).drew)
    case h =>
      gi_region_with_o (refine ⟨trivial, ?_⟩; gi_at_call 15; refine (callsIn_wide.2 (HLS.out _)).mono ?_; rintro e w' ⟨rfl, rfl⟩)
      all_goals exact ⟨rfl, rfl⟩
    gi_wp2_with (refine ⟨trivial, ?_⟩; gi_at_call 14; refine (callsIn_wide.2 (flying_any (some ⟨f, 0, none⟩) _)).mono ?_; rintro e w' ⟨rfl, rfl⟩)
    obtain ⟨W0, hW0⟩ : ∃ W0, (((w.alloc (.cells #[Value.int .u32 x] 22)).alloc (.cells #[Value.int .i64 0] 3)).alloc (.cells #[Value.pointer (some ⟨f, 0, none⟩)] 25)).drew = W0 := ⟨_, rfl⟩
    have hz : W0.heap.size = w.heap.size + 3 := by rw [← hW0]; show (World.alloc _ _).heap.size = _; simp
    have hb : Below w.heap.size w W0 := by
      rw [← hW0]
      exact below_drewN ((((Below.refl _ w).alloc (Nat.le_refl _) _).alloc (by simp) _).alloc (by simp; omega) _) (Nat.le_refl _) 1
    have hI0 : AckR (some ⟨f, 0, none⟩) x w.heap.size w 0 W0 := by
      refine ⟨?_, ?_, ?_, hb⟩
      · rw [← hW0]; exact ((Boxed.new w _ _).alloc _).alloc _
      · rw [← hW0]
        have h := Boxed.new (w.alloc (.cells #[Value.int .u32 x] 22)) 3 (.int .i64 0)
        simp only [World.size_alloc] at h
        exact h.alloc _
      · rw [← hW0]
        have h := Boxed.new ((w.alloc (.cells #[Value.int .u32 x] 22)).alloc (.cells #[Value.int .i64 0] 3)) 25 (.pointer (some ⟨f, 0, none⟩))
        simp only [World.size_alloc] at h
        exact h
    have hcC := hI0.b2.cell
    rw [hW0]
    have HI0 := Lib.hid hI0
    have HST := Lib.hid (fly_stops (3 - 1) (by decide) (w.heap.size + 1 + 1) (some ⟨f, 0, none⟩) nx v k g o cap W0 hk64.out HR.out (by omega) hcC (HC.out.below hb))
    clear hI0 hW0 hb hcC c1 hc1d hc1e hfw
    refine wpIn_rangeFunc_ownG (F := Fence.wide) rfl (by decide) (gf := 23) (lb := #[.pointer (some ⟨w.heap.size + 1 + 1, 0, none⟩)]) rfl trivial (enters_of Try.func23 (by kernel_rfl) rfl)
      HST.out keepsFl_t keepsFl_b (Below.refl _ _) (fun _ => rfl)
      (fun pre W => AckR (some ⟨f, 0, none⟩) x w.heap.size w (ackC nx k x (pre.map Fin.val)) W) (fun _ _ _ => False)
      (fun _ _ _ _ hs hg hr => hs.own hg hr rfl (by omega)) (fun _ _ _ _ _ hs _ _ => hs) HI0.out
      (fun y => { tmps := #[Value.pointer (some ⟨f, 0, none⟩), Value.int .u32 x, undef,
          Value.pointer (some ⟨w.heap.size, 0, none⟩), Value.int .i64 0, Value.pointer (some ⟨w.heap.size + 1, 0, none⟩), Value.int .u32 (fno nx k y.1),
          Value.pointer (some ⟨f, 0, none⟩), Value.bool false, Value.bool false,
          Value.pointer (some ⟨f, 0, none⟩), Value.pointer (some ⟨f, 0, none⟩),
          Value.pointer (some ⟨f, 1, none⟩), Value.int IntKind.u32 nx, Value.int IntKind.u32 x,
          Value.bool false, Value.bool false, Value.pointer (some ⟨f, 0, none⟩),
          Value.func (Fn.func 23) #[] #[Value.pointer (some ⟨w.heap.size + 1 + 1, 0, none⟩)], Value.int .u32 (fno nx k y.1), Value.pointer (some ⟨g, o + y.1 * 3, none⟩),
          undef, undef, undef, undef, undef, undef, undef, undef, undef, undef, undef, undef, undef, undef, undef], defers := [] }) ?assign ?body ?done ?stop
    case assign =>
      intro l x W K hK
      gi_wp2
      exact hK
    case body =>
      rintro l pre y W hI hlt
      have hpm : (pre ++ [y]).map Fin.val = pre.map Fin.val ++ [y.1] := by rw [List.map_append]; rfl
      have hcx := hI.b0.cell
      have hcc := hI.b1.cell
      have hfc := hI.b1.frozen
      have hcn : (ackC nx k x (pre.map Fin.val) : Int) ≤ 64 := by
        have h1 := ackC_le nx k x (pre.map Fin.val)
        rw [List.length_map] at h1
        have := hk64.out
        omega
      have hc0 : (0 : Int) ≤ (ackC nx k x (pre.map Fin.val) : Int) := Int.natCast_nonneg _
      have HI := Lib.hid hI
      have HL := Lib.hid (HLB.out y.1)
      clear hI HST HI0 HC HR HN hlow HLS HLB
      by_cases hl : 0 < ah (fno nx k y.1) x
      · have HE : Hid (KeepsFrom W0.heap.size W (W.setCell ⟨w.heap.size + 1, 0, none⟩ (.int .i64 ((ackC nx k x (pre.map Fin.val) + 1 : Nat) : Int))) ∧ KeepsFl (w.heap.size + 1 + 1) (some ⟨f, 0, none⟩) nx v k W (W.setCell ⟨w.heap.size + 1, 0, none⟩ (.int .i64 ((ackC nx k x (pre.map Fin.val) + 1 : Nat) : Int))) ∧
            AckR (some ⟨f, 0, none⟩) x w.heap.size w (ackC nx k x ((pre ++ [y]).map Fin.val)) (W.setCell ⟨w.heap.size + 1, 0, none⟩ (.int .i64 ((ackC nx k x (pre.map Fin.val) + 1 : Nat) : Int)))) := by
          refine Lib.hid ⟨(KeepsOthers.setCell _ _ _).from _, ⟨fun _ => ((HI.out.count _).b2).cell, fun _ => ?_⟩, ?_⟩
          · have := (HF.out.below (HI.out.count (ackC nx k x (pre.map Fin.val) + 1)).low).flo.c
            rwa [HK.out] at this
          · rw [hpm, ackC_yes hl]
            exact HI.out.count _
        rw [decide_eq_true hl] at HL
        clear hl
        gi_wp2_with (refine ⟨trivial, ?_⟩; gi_at_call 15; refine (CallsIn.inRound l (callsIn_wide.2 (HL.out _))).mono ?_; rintro e w' ⟨rfl, rfl⟩)
        exact HE.out
      · have HE : Hid (KeepsFrom W0.heap.size W W ∧ KeepsFl (w.heap.size + 1 + 1) (some ⟨f, 0, none⟩) nx v k W W ∧ AckR (some ⟨f, 0, none⟩) x w.heap.size w (ackC nx k x ((pre ++ [y]).map Fin.val)) W) :=
          Lib.hid ⟨(KeepsOthers.refl _).from _, keepsFl_refl, by rw [hpm, ackC_no hl]; exact HI.out⟩
        rw [decide_eq_false hl] at HL
        clear hl
        gi_wp2_with (refine ⟨trivial, ?_⟩; gi_at_call 15; refine (CallsIn.inRound l (callsIn_wide.2 (HL.out _))).mono ?_; rintro e w' ⟨rfl, rfl⟩)
        exact HE.out
    case done =>
      rintro D ys W hD rfl hI hK
      have hI' : AckR (some ⟨f, 0, none⟩) x w.heap.size w (ackN nx L.length x) W := by rw [HN.out, ← fin_vals k]; exact hI
      clear hI
      have hKk := ackN_le nx L.length x
      have hfW := HF.out.below hI'.low
      have hatd := hfW.own
      have c2 : W.drew.cell? ⟨f, 2, none⟩ = some v := hfW.own.cell 2 rfl
      have c5 : W.drew.cell? ⟨w.heap.size + 1, 0, none⟩ = some (.int .i64 (ackN nx L.length x : Nat)) := hI'.b1.cell
      obtain ⟨v', ⟨A', cap', hv'⟩, hdel⟩ := del_any (w := W.drew) (hfW.kept (grown_drew W none) (fun _ e => (nomatch e))).row HF.out.n64 hKk
      have HD := Lib.hid hdel
      have HFd := Lib.hid (hfW.kept (w' := W.drew) (grown_drew W none) (fun _ e => (nomatch e)))
      have HId := Lib.hid (hI'.own (W' := W.drew) (B := w.heap.size) (grown_drew W none) (fun _ e => (nomatch e)) rfl (Nat.le_refl _))
      have HKd : Hid (W.drew.heap[D]? = some (.deferred (some []))) := Lib.hid hK
      have HL := Lib.hid hlow.out
      generalize hKn : ackN nx L.length x = K at *
      subst hv'
      have HKn := Lib.hid hKn
      clear hfW hatd hdel hI' HST HI0 HC HR HLS HLB hlow hK hKn hKk HN
      gi_wp2
      apply wpIn_oneP (p := AckE f wd nx r (.slice A' (L.length - K) cap') L K w.heap.size D w)
      case h =>
        gi_region_with_o (refine ⟨trivial, ?_⟩; gi_at_call 16; refine (callsIn_wide.2 HD.out).mono ?_; rintro e w' ⟨rfl, hq, ht⟩; obtain ⟨hat, hE⟩ := ackE_of HFd.out rfl HFW.out HL.out HId.out HKd.out hq ht; have k2 := hat.cell 2 rfl; have f2 := hat.free 2; have HE := Lib.hid hE; clear hq ht hE hat)
        all_goals exact ⟨rfl, HE.out⟩
      rintro w' hE
      have c1 := hE.b1.cell
      have HE := Lib.hid hE
      clear hE
      gi_wp2
      refine ⟨by simp, .inl ⟨_, _, rfl, run_takeDeferred HE.out.d, ?_⟩⟩
      rw [HKn.out]
      have hg := grownBy_putObj' w' D (.deferred none)
      have hr : ∀ i, some D = some i → ∃ o : Obj, w'.heap[i]? = some o ∧ o.isCells = false := fun r e => by cases e; exact ⟨_, HE.out.d, rfl⟩
      exact ⟨_, results_tmp rfl _ _ _, _, rfl, HE.out.fl.kept hg hr, tn_own HE.out.tn hg (B := w.heap.size) (fun i e => by injection e with e; omega) (Nat.le_refl _)⟩
    case stop =>
      rintro D c pre W _ _ h _
      exact h.elim
end Go.Proofs.Ytgnalabblhokmaa

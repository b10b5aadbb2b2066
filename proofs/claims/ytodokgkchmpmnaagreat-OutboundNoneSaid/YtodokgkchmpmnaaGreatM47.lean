/- Proved: lemmas of one statement's proof, merged by program: what each part proves stands ahead of it. Conditions: those that the lemmas name. -/
import Derived.Test.YtodokgkchmpmnaaGreatM46
import Derived.Test.YtodokgkchmpmnaaGreatM26

/- Proved: what datagramOf and firstOf of package outbound answer. Conditions: those that the theorems name. -/
namespace Go.Proofs.YtodokgkchmpmnaaGreat
open Go.ChangeShapes Go.WideShapes Go.ChangeAt Go.RowKit

/-- one of a sheaf's shards as a datagram. -/
def obD (st x : Int) (j : Nat) (sf : ObS) (b : ByteArray) : Dg := ⟨if j < sf.m then 1 else 2, st, x.toNat, j, sf.m, sf.T.length, sf.z, 0, ⟨#[]⟩, b⟩
theorem ob_dboxes (w : World) (x : Int) (j : Nat) (u : Value) (m z : Nat) : ∃ W, W = ((w.alloc (.cells #[.int .u32 x, .int .i64 (j : Nat)] 52)).alloc (.cells #[u, .int .i64 (m : Nat), .int .i64 (z : Nat)] 55)).alloc (.cells #[.int .i64 0, .int .i64 0, .int .u32 0, .int .i64 0, .int .i64 0, .int .i64 0, .int .i64 0, .int .i64 0, .string ⟨#[]⟩, .string ⟨#[]⟩] 27) ∧
    At W w.heap.size 52 [.int .u32 x, .int .i64 (j : Nat)] ∧ At W (w.heap.size + 1) 55 [u, .int .i64 (m : Nat), .int .i64 (z : Nat)] ∧ At W (w.heap.size + 1 + 1) 27 obZ.cells ∧ Below w.heap.size w W := by
  refine ⟨_, rfl, ?_, ?_, ?_, ?_⟩
  · exact ((At.new w 52 [.int .u32 x, .int .i64 (j : Nat)]).alloc _).alloc _
  · have h := At.new (w.alloc (.cells #[.int .u32 x, .int .i64 (j : Nat)] 52)) 55 [u, .int .i64 (m : Nat), .int .i64 (z : Nat)]
    have e : (w.alloc (.cells #[.int .u32 x, .int .i64 (j : Nat)] 52)).heap.size = w.heap.size + 1 := by simp
    rw [e] at h
    exact h.alloc _
  · have h := At.new ((w.alloc (.cells #[.int .u32 x, .int .i64 (j : Nat)] 52)).alloc (.cells #[u, .int .i64 (m : Nat), .int .i64 (z : Nat)] 55)) 27 obZ.cells
    have e : ((w.alloc (.cells #[.int .u32 x, .int .i64 (j : Nat)] 52)).alloc (.cells #[u, .int .i64 (m : Nat), .int .i64 (z : Nat)] 55)).heap.size = w.heap.size + 1 + 1 := by simp
    rw [e] at h
    exact h
  · exact (((Below.refl _ _).alloc (Nat.le_refl _) _).alloc (by simp) _).alloc (by simp; omega) _
section
variable {w : World} {Y : ObY} {M : ObM}
set_option maxRecDepth 100000 in
set_option maxHeartbeats 3200000 in
theorem ob_dg (o : Nat) (st : Int) (x : Int) (hx : U32 x) (j g : Nat) (sf : ObS) (b : ByteArray) (ws : Bool) (hk : w.cell? ⟨o, 11, none⟩ = some (.int .i64 st)) (hA : At w g 61 (obShc sf.T)) (hj : sf.T[j]? = some (b, ws)) :
    Calls Tryz.prog 17 #[.pointer (some ⟨o, 0, none⟩), .agg #[.int .u32 x, .int .i64 (j : Nat)], .agg #[sf.v g, .int .i64 (sf.m : Nat), .int .i64 (sf.z : Nat)]] w fun e w' => e = .returned (obD st x j sf b).val ∧ Below w.heap.size w w' := by
  unfold ObS.v
  obtain ⟨W, HW, a4, a5, a6, HB⟩ := ob_dboxes w x j (.slice (some ⟨g, 0, none⟩) sf.T.length sf.T.length) sf.m sf.z
  have k11 : W.cell? ⟨o, 11, none⟩ = some (.int .i64 st) := (HB.cell (World.block_lt_of_cell? w _ hk)).trans hk
  have hA1 := hA.below HB hA.lt
  have s0 : W.cell? ⟨g, j * 2, none⟩ = some (.string b) := hA1.cell _ (obShc_at _ _ _ hj).1
  have hj1 : j < sf.T.length := (List.getElem?_eq_some_iff.1 hj).1
  have hj0 : (0 : Int) ≤ (j : Nat) := Int.natCast_nonneg _
  have hj2 : ((j : Nat) : Int) < (sf.T.length : Nat) := by omega
  have A4 := Lib.hid a4
  have A5 := Lib.hid a5
  have A6 := Lib.hid a6
  have HBB := Lib.hid HB
  have p0 : W.cell? ⟨w.heap.size, 0, none⟩ = some (.int .u32 x) := a4.cell 0 rfl
  have p1 : W.cell? ⟨w.heap.size, 1, none⟩ = some (.int .i64 (j : Nat)) := a4.cell 1 rfl
  have q0 : W.cell? ⟨w.heap.size + 1, 0, none⟩ = some (.slice (some ⟨g, 0, none⟩) sf.T.length sf.T.length) := a5.cell 0 rfl
  have q1 : W.cell? ⟨w.heap.size + 1, 1, none⟩ = some (.int .i64 (sf.m : Nat)) := a5.cell 1 rfl
  have q2 : W.cell? ⟨w.heap.size + 1, 2, none⟩ = some (.int .i64 (sf.z : Nat)) := a5.cell 2 rfl
  have HX : Hid (x.toNat = x) := Lib.hid (Int.toNat_of_nonneg hx.1)
  have HF : Hid (∀ (V : World) (kd : Int), At V (w.heap.size + 1 + 1) 27 obZ.cells → Below w.heap.size w V → kd = (if j < sf.m then 1 else 2) → At (obdset V (w.heap.size + 1 + 1) ⟨kd, st, x.toNat, j, sf.m, sf.T.length, sf.z, 0, ⟨#[]⟩, b⟩) (w.heap.size + 1 + 1) 27 (obD st x j sf b).cells ∧ Below w.heap.size w (obdset V (w.heap.size + 1 + 1) ⟨kd, st, x.toNat, j, sf.m, sf.T.length, sf.z, 0, ⟨#[]⟩, b⟩)) := Lib.hid fun V kd a hb e => by
    subst e
    exact ⟨obdset_at (d0 := obZ) (obD st x j sf b) a, obdset_below _ hb (Nat.le_refl _) (by omega)⟩
  clear hk hA hA1 a4 a5 a6 HB hx hj hj1
  by_cases hm : j < sf.m
  · have HKD : Hid ((1 : Int) = if j < sf.m then 1 else 2) := Lib.hid (by rw [if_pos hm])
    generalize sf.T.length = n at *
    generalize sf.m = m at *
    generalize sf.z = z at *
    go_enter Tryz.func17, Tryz.ntmps17
    go_upto_region 1 with fail
    rw [← HW]; clear HW
    go_wp2_with fail
    refine wp_region_still_tail 24 (by kernel_rfl) (by kernel_rfl) ?_
    simp only [List.take_succ_cons, List.take_zero, List.drop_succ_cons, List.drop_zero]
    repeat still_step
    refine wpStill_nil ?_
    change wpList _ _ _ _ _ W.drew
    have Z6 : Hid (At W.drew (w.heap.size + 1 + 1) 27 obZ.cells) := Lib.hid A6.out
    have ZB : Hid (Below w.heap.size w W.drew) := Lib.hid HBB.out.drew
    clear p0 p1 q0 q1 q2 k11 s0 A4 A5 A6 HBB
    generalize W.drew = V at *
    generalize hbx : w.heap.size + 1 + 1 = bx at *
    have c0 : V.cell? ⟨bx, 0, none⟩ = some (.int .i64 0) := Z6.out.cell 0 rfl
    have c1 : V.cell? ⟨bx, 1, none⟩ = some (.int .i64 0) := Z6.out.cell 1 rfl
    have c2 : V.cell? ⟨bx, 2, none⟩ = some (.int .u32 0) := Z6.out.cell 2 rfl
    have c3 : V.cell? ⟨bx, 3, none⟩ = some (.int .i64 0) := Z6.out.cell 3 rfl
    have c4 : V.cell? ⟨bx, 4, none⟩ = some (.int .i64 0) := Z6.out.cell 4 rfl
    have c5 : V.cell? ⟨bx, 5, none⟩ = some (.int .i64 0) := Z6.out.cell 5 rfl
    have c6 : V.cell? ⟨bx, 6, none⟩ = some (.int .i64 0) := Z6.out.cell 6 rfl
    have c7 : V.cell? ⟨bx, 7, none⟩ = some (.int .i64 0) := Z6.out.cell 7 rfl
    have c8 : V.cell? ⟨bx, 8, none⟩ = some (.string ⟨#[]⟩) := Z6.out.cell 8 rfl
    have c9 : V.cell? ⟨bx, 9, none⟩ = some (.string ⟨#[]⟩) := Z6.out.cell 9 rfl
    have f0 := Z6.out.free 0
    have f1 := Z6.out.free 1
    have f2 := Z6.out.free 2
    have f3 := Z6.out.free 3
    have f4 := Z6.out.free 4
    have f5 := Z6.out.free 5
    have f6 := Z6.out.free 6
    have f7 := Z6.out.free 7
    have f8 := Z6.out.free 8
    have f9 := Z6.out.free 9
    have HG := Lib.hid (HF.out V _ Z6.out ZB.out HKD.out)
    go_wp2_with fail
    rw [← HX.out]
    exact bodyPost_ret (res_dgof rfl HG.out.1) rfl ⟨rfl, HG.out.2⟩
  · have HKD : Hid ((2 : Int) = if j < sf.m then 1 else 2) := Lib.hid (by rw [if_neg hm])
    generalize sf.T.length = n at *
    generalize sf.m = m at *
    generalize sf.z = z at *
    go_enter Tryz.func17, Tryz.ntmps17
    go_upto_region 1 with fail
    rw [← HW]; clear HW
    go_wp2_with fail
    refine wp_region_still_tail 24 (by kernel_rfl) (by kernel_rfl) ?_
    simp only [List.take_succ_cons, List.take_zero, List.drop_succ_cons, List.drop_zero]
    repeat still_step
    refine wpStill_nil ?_
    change wpList _ _ _ _ _ W.drew
    have Z6 : Hid (At W.drew (w.heap.size + 1 + 1) 27 obZ.cells) := Lib.hid A6.out
    have ZB : Hid (Below w.heap.size w W.drew) := Lib.hid HBB.out.drew
    clear p0 p1 q0 q1 q2 k11 s0 A4 A5 A6 HBB
    generalize W.drew = V at *
    generalize hbx : w.heap.size + 1 + 1 = bx at *
    have c0 : V.cell? ⟨bx, 0, none⟩ = some (.int .i64 0) := Z6.out.cell 0 rfl
    have c1 : V.cell? ⟨bx, 1, none⟩ = some (.int .i64 0) := Z6.out.cell 1 rfl
    have c2 : V.cell? ⟨bx, 2, none⟩ = some (.int .u32 0) := Z6.out.cell 2 rfl
    have c3 : V.cell? ⟨bx, 3, none⟩ = some (.int .i64 0) := Z6.out.cell 3 rfl
    have c4 : V.cell? ⟨bx, 4, none⟩ = some (.int .i64 0) := Z6.out.cell 4 rfl
    have c5 : V.cell? ⟨bx, 5, none⟩ = some (.int .i64 0) := Z6.out.cell 5 rfl
    have c6 : V.cell? ⟨bx, 6, none⟩ = some (.int .i64 0) := Z6.out.cell 6 rfl
    have c7 : V.cell? ⟨bx, 7, none⟩ = some (.int .i64 0) := Z6.out.cell 7 rfl
    have c8 : V.cell? ⟨bx, 8, none⟩ = some (.string ⟨#[]⟩) := Z6.out.cell 8 rfl
    have c9 : V.cell? ⟨bx, 9, none⟩ = some (.string ⟨#[]⟩) := Z6.out.cell 9 rfl
    have f0 := Z6.out.free 0
    have f1 := Z6.out.free 1
    have f2 := Z6.out.free 2
    have f3 := Z6.out.free 3
    have f4 := Z6.out.free 4
    have f5 := Z6.out.free 5
    have f6 := Z6.out.free 6
    have f7 := Z6.out.free 7
    have f8 := Z6.out.free 8
    have f9 := Z6.out.free 9
    have HG := Lib.hid (HF.out V _ Z6.out ZB.out HKD.out)
    go_wp2_with fail
    rw [← HX.out]
    exact bodyPost_ret (res_dgof rfl HG.out.1) rfl ⟨rfl, HG.out.2⟩
end
/-! ### rows by their cells -/
theorem at_of_row {w : World} {g n : Nat} {t : TypeId} {f : Nat → Value} (h : w.rowIs g t n f) {xs : List Value} (hl : xs.length = n) (hx : ∀ i, i < n → xs[i]? = some (f i)) : At w g t xs := by
  obtain ⟨c, hc, hs, hf⟩ := h
  have e : c = xs.toArray := by
    refine Array.ext (by rw [hs]; simp [hl]) fun i h1 h2 => ?_
    have a := hf i (by omega)
    have b := hx i (by omega)
    rw [Array.getElem?_eq_getElem h1] at a
    rw [List.getElem?_eq_getElem (by omega)] at b
    rw [← b] at a
    injection a with a
  show w.heap[g]? = some (.cells xs.toArray t (0, 0))
  rw [← e]; exact hc
/-- Block g holds n sends; the first k are the block's. -/
def ObFr (w : World) (g n k : Nat) (x : Int) : Prop := ∃ f, w.rowIs g 52 (n * 2) f ∧ ∀ j, j < k → f (j * 2) = .int .u32 x ∧ f (j * 2 + 1) = .int .i64 (j : Nat)
theorem ObFr.start (w : World) (n : Nat) (x : Int) (C : Array Value) (hC : C.size = n * 2) : ObFr (w.alloc (.cells C 52)) w.heap.size n 0 x :=
  ⟨fun i => C.getD i undef, by
    have := World.rowIs_alloc w C 52 (fun i => C.getD i undef) (fun i hi => by rw [Array.getElem?_eq_getElem hi]; simp [hi])
    rwa [hC] at this, fun j h => absurd h (by omega)⟩
theorem ObFr.next {w : World} {g n k : Nat} {x : Int} (h : ObFr w g n k x) : ObFr ((w.setCell ⟨g, k * 2, none⟩ (.int .u32 x)).setCell ⟨g, k * 2 + 1, none⟩ (.int .i64 (k : Nat))) g n (k + 1) x := by
  obtain ⟨f, h, hc⟩ := h
  refine ⟨_, (h.set (k * 2) _).set (k * 2 + 1) _, fun j hj => ?_⟩
  by_cases e : j = k
  · subst e
    refine ⟨?_, ?_⟩
    · show (if j * 2 = j * 2 + 1 then _ else if j * 2 = j * 2 then _ else _) = _
      rw [if_neg (by omega), if_pos rfl]
    · show (if j * 2 + 1 = j * 2 + 1 then _ else _) = _
      rw [if_pos rfl]
  · obtain ⟨h0, h1⟩ := hc j (by omega)
    refine ⟨?_, ?_⟩
    · show (if j * 2 = k * 2 + 1 then _ else if j * 2 = k * 2 then _ else _) = _
      rw [if_neg (by omega), if_neg (by omega)]; exact h0
    · show (if j * 2 + 1 = k * 2 + 1 then _ else if j * 2 + 1 = k * 2 then _ else _) = _
      rw [if_neg (by omega), if_neg (by omega)]; exact h1
/-- the block's first n shards. -/
def obFirst (x : Int) (n : Nat) : List (Int × Int) := (List.range n).map fun (j : Nat) => (x, (j : Int))
theorem obFirst_len (x : Int) (n : Nat) : (obFirst x n).length = n := by simp [obFirst]
theorem obFirst_at (x : Int) (n j : Nat) (h : j < n) : (obFirst x n).getD j (0, 0) = (x, (j : Int)) := by simp [obFirst, List.getD_eq_getElem?_getD, h]
theorem ObFr.sn {w : World} {g n : Nat} {x : Int} (h : ObFr w g n n x) : Sn w (some ⟨g, 0, none⟩) n (obFirst x n) := by
  obtain ⟨f, h, hc⟩ := h
  refine ⟨obFirst_len x n, fun _ => ⟨g, 0, rfl, ?_, fun j hj => ?_⟩⟩
  · obtain ⟨c, hc, _⟩ := h
    exact ⟨_, _, hc⟩
  · rw [obFirst_at x n j hj, Nat.zero_add]
    obtain ⟨h0, h1⟩ := hc j hj
    exact ⟨(h.cell (by omega)).trans (by rw [h0]), (h.cell (by omega)).trans (by rw [h1])⟩
theorem ObFr.owns {w : World} {g n base : Nat} {x : Int} (h : ObFr w g n n x) (hb : base ≤ g) (hn : n ≤ 1000) : w.ownsRow base 52 2 (.slice (some ⟨g, 0, none⟩) n n) n (sncells (obFirst x n)) := by
  obtain ⟨f, h, hc⟩ := h
  have hl : (sncells (obFirst x n)).length = n * 2 := by rw [sncells_len, obFirst_len]
  have hA : At w g 52 (sncells (obFirst x n)) := at_of_row h hl fun i hi => by
    obtain ⟨a, b⟩ := sncells_at (obFirst x n) (i / 2) (by rw [obFirst_len]; omega)
    rw [obFirst_at x n (i / 2) (by omega)] at a b
    obtain ⟨h0, h1⟩ := hc (i / 2) (by omega)
    rcases Nat.mod_two_eq_zero_or_one i with e | e
    · have e2 : i = i / 2 * 2 := by omega
      rw [e2, h0]
      exact a
    · have e2 : i = i / 2 * 2 + 1 := by omega
      rw [e2, h1]
      exact b
  exact ⟨hl, .inr ⟨g, n, _, rfl, hb, hA, Nat.le_refl _, by unfold maxLen; omega, by simp [hl], by simp [← hl]⟩⟩
set_option maxRecDepth 100000 in
set_option maxHeartbeats 1600000 in
theorem ob_first (x : Int) (n : Nat) (w : World) (hn : n ≤ 1000) :
    Calls Tryz.prog 29 #[.int .u32 x, .int .i64 (n : Nat)] w fun e w' => ∃ v, e = .returned v ∧ (∃ B, w.heap.size ≤ B ∧ w'.ownsRow B 52 2 v n (sncells (obFirst x n))) ∧ Below w.heap.size w w' := by
  obtain ⟨i0, hi0, hz0, hz1, hz2⟩ := info_parts infoSend
  have hmk : ∀ W : World, (Instr.makeSlice 48 (.int .i64 (n : Int)) (.int .i64 (n : Int))).run Tryz.prog W = .ok (.slice (some ⟨W.heap.size, 0, none⟩) n n) (W.alloc (.cells (madeCells #[.int .u32 0, .int .i64 0] (n * 2)) 52)) := fun W => by
    have hr := run_make (P := Tryz.prog) W 48 52 i0 _ Tryz.underlying48 hi0 hz0 .i64 .i64 n n (by omega) (Int.le_refl _) (by rw [hz2]; omega) (by omega)
    rw [Int.toNat_natCast, hz1] at hr
    exact hr
  clear hi0 hz0 hz1 hz2
  go_enter Tryz.func29, Tryz.ntmps29
  go_wp2_with fail
  have HS0 := Lib.hid (ObFr.start w n x (madeCells #[.int .u32 0, .int .i64 0] (n * 2)) (size_madeCells _ _))
  have HB0 := Lib.hid ((Below.refl w.heap.size w).alloc (Nat.le_refl _) (.cells (madeCells #[.int .u32 0, .int .i64 0] (n * 2)) 52))
  go_loopw [11] (fun v wr => ∃ k : Nat, k ≤ n ∧ v = .int .i64 k ∧ ObFr wr w.heap.size n k x ∧ Below w.heap.size w wr) (fun v _ => n - (intOf v).toNat)
  case atStart => exact ⟨0, by omega, rfl, HS0.out, HB0.out⟩
  case round =>
    obtain ⟨k, hk, rfl, hr, hb⟩ := hrel
    have HR := Lib.hid hr
    have HB := Lib.hid hb
    clear hb HS0 HB0
    by_cases hlt : k < n
    · have hlt' : (k : Int) < (n : Int) := by omega
      have hk0 : (0 : Int) ≤ (k : Int) := Int.natCast_nonneg _
      obtain ⟨f, hrow, _⟩ := hr
      have y0 := hrow.cell (i := k * 2) (by omega)
      have y1 := hrow.cell (i := k * 2 + 1) (by omega)
      have q0 := hrow.frozen (k * 2)
      have q1 := hrow.frozen (k * 2 + 1)
      have HN1 := Lib.hid HR.out.next
      have HB2 : Hid (Below w.heap.size w ((wr.setCell ⟨w.heap.size, k * 2, none⟩ (.int .u32 x)).setCell ⟨w.heap.size, k * 2 + 1, none⟩ (.int .i64 (k : Nat)))) := Lib.hid ((HB.out.setCell (p := ⟨w.heap.size, k * 2, none⟩) (Nat.le_refl _) _).setCell (p := ⟨w.heap.size, k * 2 + 1, none⟩) (Nat.le_refl _) _)
      clear hrow HR HB
      go_wp2_with fail
      go_roundw
      case rel => exact ⟨k + 1, by omega, by go_num, HN1.out, HB2.out⟩
      case measure => simp [intOf]; omega
    · obtain rfl : k = n := by omega
      clear hr
      go_wp2_with fail
      go_ret
      exact ⟨_, rfl, ⟨_, Nat.le_refl _, HR.out.owns (Nat.le_refl _) hn⟩, HB.out⟩
end Go.Proofs.YtodokgkchmpmnaaGreat

/- Plain lemmas on what waits to be sent, and the items that are told of it. No condition beyond those that each lemma names. -/
namespace Go.Proofs.YtodokgkchmpmnaaGreat
open Go.ChangeShapes Go.WideShapes Go.ChangeAt Go.RowKit

/-- items as cells: an ID, a size. -/
def obIt : List (Int × Int) → List Value
  | [] => []
  | x :: r => .int .i64 x.1 :: .int .i64 x.2 :: obIt r
theorem obIt_len (l : List (Int × Int)) : (obIt l).length = l.length * 2 := by
  induction l with
  | nil => rfl
  | cons x r ih => simp only [obIt, List.length_cons, ih]; omega
theorem obIt_app (l r : List (Int × Int)) : obIt (l ++ r) = obIt l ++ obIt r := by
  induction l with
  | nil => rfl
  | cons x l ih => simp only [List.cons_append, obIt, ih]
theorem obIt_one (l : List (Int × Int)) : ∀ u ∈ obIt l, u.oneCell' = true := by
  induction l with
  | nil => intro u hu; simp [obIt] at hu
  | cons x r ih =>
    intro u hu
    simp only [obIt, List.mem_cons] at hu
    rcases hu with rfl | rfl | hu
    · rfl
    · rfl
    · exact ih u hu
theorem infoItem : (Tryz.prog.info? 140).map (fun i => (i.zero, i.size, i.bytes)) = some (some (.agg #[.int .i64 0, .int .i64 0]), 2, 16) := by kernel_rfl
theorem infoSheaf : (Tryz.prog.info? 55).map (fun i => (i.zero, i.size, i.bytes)) = some (some (.agg #[.slice none 0 0, .int .i64 0, .int .i64 0]), 3, 40) := by kernel_rfl
/-- how many shards each block that flies has. -/
def obNs (M : ObM) : List Nat := M.S.map fun x => x.T.length
theorem obNs_len (M : ObM) : (obNs M).length = M.S.length := by simp [obNs]
theorem obNs_at {M : ObM} {i n : Nat} (h : (obNs M)[i]? = some n) : ∃ sf, M.S[i]? = some sf ∧ sf.T.length = n := by
  simp only [obNs, List.getElem?_map, Option.map_eq_some_iff] at h
  exact h
/-- the shard is one of a block's that flies. -/
def awV (nx : Int) (N : List Nat) (p : Int × Int) : Prop := ∃ (i n : Nat), N[i]? = some n ∧ p.1 = fno nx N.length i ∧ 0 ≤ p.2 ∧ p.2 < (n : Int)
/-- one shard more waits, if it does not wait already: what stands then, and the items. -/
def awOne (M : ObM) (p : Int × Int) : ObM × List (Int × Int) :=
  match M.S[(ah (fb M.nx M.L.length) p.1).toNat]? with
  | none => (M, [])
  | some sf => match sf.T[p.2.toNat]? with
    | none => (M, [])
    | some (b, ws) => if ws = true then (M, []) else ({ M with S := M.S.set (ah (fb M.nx M.L.length) p.1).toNat { sf with T := sf.T.set p.2.toNat (b, true) }, U := M.U ++ [p] }, [(M.st, sizeT (obD M.st p.1 p.2.toNat sf b))])
def awF (s : ObM × List (Int × Int)) (l : List (Int × Int)) : ObM × List (Int × Int) := l.foldl (fun s p => ((awOne s.1 p).1, s.2 ++ (awOne s.1 p).2)) s
theorem awF_snoc (s : ObM × List (Int × Int)) (l : List (Int × Int)) (p : Int × Int) : awF s (l ++ [p]) = ((awOne (awF s l).1 p).1, (awF s l).2 ++ (awOne (awF s l).1 p).2) := by
  unfold awF; rw [List.foldl_append]; rfl
theorem map_set_same {α β : Type} (f : α → β) (l : List α) (i : Nat) (x y : α) (h : l[i]? = some x) (e : f y = f x) : (l.set i y).map f = l.map f := by
  refine List.ext_getElem? fun j => ?_
  rw [List.getElem?_map, List.getElem?_map, List.getElem?_set]
  by_cases q : i = j
  · subst q
    rw [if_pos rfl, if_pos (List.getElem?_eq_some_iff.1 h).1, h]
    simp [e]
  · rw [if_neg q]
/-- what stays as it was. -/
structure AwSame (M M' : ObM) : Prop where
  c : M'.c = M.c
  st : M'.st = M.st
  s : M'.s = M.s
  nx : M'.nx = M.nx
  L : M'.L = M.L
  a : M'.a = M.a
  cl : M'.cl = M.cl
  fin : M'.fin = M.fin
  ns : obNs M' = obNs M
  ms : M'.S.map (fun x => x.m) = M.S.map (fun x => x.m)
theorem awOne_same (M : ObM) (p : Int × Int) : AwSame M (awOne M p).1 ∧ (awOne M p).1.U.length ≤ M.U.length + 1 ∧ (awOne M p).2.length ≤ 1 := by
  unfold awOne
  split
  · exact ⟨⟨rfl, rfl, rfl, rfl, rfl, rfl, rfl, rfl, rfl, rfl⟩, by simp, by simp⟩
  · rename_i sf hsf
    split
    · exact ⟨⟨rfl, rfl, rfl, rfl, rfl, rfl, rfl, rfl, rfl, rfl⟩, by simp, by simp⟩
    · split
      · exact ⟨⟨rfl, rfl, rfl, rfl, rfl, rfl, rfl, rfl, rfl, rfl⟩, by simp, by simp⟩
      · exact ⟨⟨rfl, rfl, rfl, rfl, rfl, rfl, rfl, rfl, map_set_same _ _ _ sf _ hsf (by simp), map_set_same (fun x : ObS => x.m) _ _ sf _ hsf rfl⟩, by simp, by simp⟩
theorem AwSame.trans {M M1 M2 : ObM} (h : AwSame M M1) (k : AwSame M1 M2) : AwSame M M2 :=
  ⟨k.c.trans h.c, k.st.trans h.st, k.s.trans h.s, k.nx.trans h.nx, k.L.trans h.L, k.a.trans h.a, k.cl.trans h.cl, k.fin.trans h.fin, k.ns.trans h.ns, k.ms.trans h.ms⟩
theorem awF_same (M : ObM) (I : List (Int × Int)) (l : List (Int × Int)) : AwSame M (awF (M, I) l).1 ∧ (awF (M, I) l).1.U.length ≤ M.U.length + l.length ∧ (awF (M, I) l).2.length ≤ I.length + l.length := by
  induction l generalizing M I with
  | nil => exact ⟨⟨rfl, rfl, rfl, rfl, rfl, rfl, rfl, rfl, rfl, rfl⟩, by simp [awF], by simp [awF]⟩
  | cons p r ih =>
    obtain ⟨h1, h2, h3⟩ := awOne_same M p
    obtain ⟨k1, k2, k3⟩ := ih (awOne M p).1 (I ++ (awOne M p).2)
    refine ⟨h1.trans k1, ?_, ?_⟩
    · show (awF ((awOne M p).1, I ++ (awOne M p).2) r).1.U.length ≤ _
      rw [List.length_cons]; omega
    · show (awF ((awOne M p).1, I ++ (awOne M p).2) r).2.length ≤ _
      rw [List.length_append] at k3
      rw [List.length_cons]; omega
/-- the place is known: what one shard more does. -/
theorem awOne_in {M : ObM} {i j : Nat} {sf : ObS} {b : ByteArray} {ws : Bool} {x : Int} (hx : x = fno M.nx M.L.length i) (hi : i < 1000) (h1 : M.S[i]? = some sf) (h2 : sf.T[j]? = some (b, ws)) :
    awOne M (x, (j : Int)) = if ws = true then (M, []) else ({ M with S := M.S.set i { sf with T := sf.T.set j (b, true) }, U := M.U ++ [(x, (j : Int))] }, [(M.st, sizeT (obD M.st x j sf b))]) := by
  have e : (ah (fb M.nx M.L.length) x).toNat = i := by rw [hx, ob_ah hi]; simp
  unfold awOne
  dsimp only
  rw [e, h1, Int.toNat_natCast]
  dsimp only
  rw [h2]
theorem obI_wait {M : ObM} (h : ObI M) {i j : Nat} {sf : ObS} (h1 : M.S[i]? = some sf) (bt : ByteArray) (hbt : bt.size ≤ 1024) (x : Bool) (U : List (Int × Int)) :
    ObI { M with S := M.S.set i { sf with T := sf.T.set j (bt, x) }, U := U } := by
  have hm : sf ∈ M.S := List.mem_of_getElem? h1
  have hg := h.good sf hm
  refine ⟨h.ok, by rw [← h.same]; simp, fun y hy => ?_, fun k y z hy hz => ?_⟩
  · rcases List.mem_or_eq_of_mem_set hy with hy | rfl
    · exact h.good y hy
    · refine ⟨by simpa using hg.some_, by simpa using hg.few, by simpa using hg.data, hg.m32, hg.size, fun t ht => ?_⟩
      rcases List.mem_or_eq_of_mem_set ht with ht | rfl
      · exact hg.text t ht
      · exact hbt
  · have hy : (M.S.set i { sf with T := sf.T.set j (bt, x) })[k]? = some y := hy
    rw [List.getElem?_set] at hy
    by_cases e : i = k
    · subst e
      rw [if_pos rfl, if_pos (List.getElem?_eq_some_iff.1 h1).1] at hy
      injection hy with hy
      subst hy
      have := h.fit i sf z h1 hz
      simpa using this
    · rw [if_neg e] at hy
      exact h.fit k y z hy hz
/-- the types of its own blocks. -/
def obTypes : List TypeId := [50, 130, 5, 87, 108, 111, 55, 61, 52, 127]
theorem Obm.own_ty {w : World} {Y : ObY} {M : ObM} (h : Obm w Y M) {i : Nat} (hi : Y.own i) : ∃ τ, ObTy w i τ ∧ τ ∈ obTypes := by
  rcases hi with rfl | rfl | e | (rfl | e) | rfl | e | e | e | rfl
  · exact ⟨_, h.own.obty, by decide⟩
  · exact ⟨_, h.p.bk.2.1.obty.1, by decide⟩
  · exact ⟨_, h.p.bk.2.1.obty.2 _ e, by decide⟩
  · exact ⟨_, h.p.fl.own.obty, by decide⟩
  · exact ⟨_, h.p.fl.row.obty e, by decide⟩
  · exact ⟨_, h.p.ce.1.obty, by decide⟩
  · exact ⟨_, h.p.sh.obty e, by decide⟩
  · exact ⟨_, h.p.hs_ty e, by decide⟩
  · exact ⟨_, h.p.un.obty e, by decide⟩
  · exact ⟨_, h.p.bk.1.obty, by decide⟩
theorem Obm.not_own {w : World} {Y : ObY} {M : ObM} (h : Obm w Y M) {i : Nat} {τ : TypeId} (k : ObTy w i τ) (n : τ ∉ obTypes) : ¬ Y.own i := fun e => by
  obtain ⟨τ', k', m⟩ := h.own_ty e
  rw [k.one k'] at n
  exact n m
/-- what holds within a round of await. -/
structure AwR (w W : World) (Y Y1 : ObY) (M1 : ObM) (I : List (Int × Int)) (ri : Option Nat) (u : Value) (b7 b8 : Nat) (x : Int) (j : Nat) (v : Value) (m z : Nat) : Prop where
  ob : Ob W Y1 M1
  tt : ObT w W Y Y1
  q : Qu W ri 140 2 u I.length (obIt I)
  ri_ : ∀ g, ri = some g → w.heap.size ≤ g
  a7 : At W b7 52 [.int .u32 x, .int .i64 (j : Nat)]
  a8 : At W b8 55 [v, .int .i64 (m : Nat), .int .i64 (z : Nat)]
  n7 : ¬ Y1.own b7
  n8 : ¬ Y1.own b8
theorem AwR.step {w W W' : World} {Y Y1 Y2 : ObY} {M1 M2 : ObM} {I : List (Int × Int)} {ri : Option Nat} {u v : Value} {b7 b8 j m z : Nat} {x : Int} (h : AwR w W Y Y1 M1 I ri u b7 b8 x j v m z) (hob : Ob W' Y2 M2) (ht : ObT W W' Y1 Y2) : AwR w W' Y Y2 M2 I ri u b7 b8 x j v m z :=
  ⟨hob, h.tt.trans ht, h.q.tn ht.tn fun g hg => h.ob.m.not_own (h.q.obty hg) (by decide), h.ri_, h.a7.tn ht.tn h.n7, h.a8.tn ht.tn h.n8, fun e => (ht.new _ e).elim h.n7 fun e => by have := h.a7.lt; omega, fun e => (ht.new _ e).elim h.n8 fun e => by have := h.a8.lt; omega⟩
theorem AwR.below {w W W' : World} {Y Y1 : ObY} {M1 : ObM} {I : List (Int × Int)} {ri : Option Nat} {u v : Value} {b7 b8 j m z : Nat} {x : Int} (h : AwR w W Y Y1 M1 I ri u b7 b8 x j v m z) (hb : Below W.heap.size W W') : AwR w W' Y Y1 M1 I ri u b7 b8 x j v m z := h.step (h.ob.below hb) (obt_below _ hb)
end Go.Proofs.YtodokgkchmpmnaaGreat

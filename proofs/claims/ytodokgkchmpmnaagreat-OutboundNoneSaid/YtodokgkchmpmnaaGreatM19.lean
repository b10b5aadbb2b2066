/- Proved: lemmas of one statement's proof, merged by program: what each part proves stands ahead of it. Conditions: those that the lemmas name. -/
import Derived.Test.YtodokgkchmpmnaaGreatM18
import Derived.RangeFuncNested
import Derived.RangeFuncBound
import Derived.RangeFuncCalls
import Derived.RangeFuncLeaves
import Derived.Shelf.Abstract
import Derived.Shelf.RegionOpen
import Derived.OwnWalkIn
import Derived.TacticsInMore
import Derived.LoopNIn
import Derived.LoopIn
import Derived.Laws.CopyRow
import Derived.Test.YtodokgkchmpmnaaGreatM3

/- Proved: what the iterator of package cut hands to whatever loop goes over it: the shards of its text, in order. Conditions: those that the theorems name. -/
namespace Go.Proofs.YtodokgkchmpmnaaGreat
open Go.ChangeShapes Go.WideShapes Go.ChangeAt Go.RowKit
attribute [local go_sem] Oper.semAt_some

/-! ### a copy from a string into a new row -/
theorem setRow_new (w : World) (old new : Array Value) (t : TypeId) : (w.alloc (.cells old t)).setRow w.heap.size new = w.alloc (.cells new t) := by
  unfold World.setRow World.alloc
  congr 1
  apply Array.ext
  · simp
  · intro i h1 h2
    simp at h1
    rw [Array.getElem_modify]
    by_cases e : w.heap.size = i
    · subst e
      simp
    · rw [if_neg e, Array.getElem_push_lt (by omega), Array.getElem_push_lt (by omega)]
theorem copy_new (w : World) (old : Array Value) (m c : Nat) (s : ByteArray) (ty : TypeId) (hm : old.size = m) :
    (Builtin.copy_ #[128, 9] ty #[.slice (some ⟨w.heap.size, 0, none⟩) m c, .string s]).run Tryz.prog (w.alloc (.cells old 5)) =
      .ok (.int .i64 ((min s.size m : Nat) : Int)) (w.alloc (.cells (cells ((bts s).take (min s.size m)) ++ old.toList.drop (min s.size m)).toArray 5)) := by
  obtain ⟨i, hi, hz0, hz1, hz2⟩ := info_parts Tryz.infoByte
  have hst := run_storeCells_at Tryz.prog w.heap.size 0 5 (cells ((bts s).take (min s.size m))) 0 old (w.alloc (.cells old 5)) (heap_alloc_new w _) (by rw [cells_len, List.length_take, bts_len]; omega) (cells_one _)
  rw [setRow_new] at hst
  have hl : (cells ((bts s).take (min s.size m))).length = min s.size m := by rw [cells_len, List.length_take, bts_len]; omega
  rw [hl] at hst
  have he : List.take (s.size.min m) (List.map (fun b : UInt8 => Value.int IntKind.u8 (b.toNat : Int)) s.data.toList) = cells ((bts s).take (min s.size m)) := by
    unfold cells bts
    rw [List.map_take, List.map_map]; rfl
  simp [Builtin.copy_, run_underlying Tryz.underlying128, Builtin.lenOf, Builtin.firstCells, sizeOf, typeInfo, hi]
  rw [he, hst]
  simp only [Nat.add_zero, List.take_zero, List.nil_append]
  rw [Nat.zero_add]
  rfl

/-! ### what is left of a text -/
def restB (s : ByteArray) (n : Nat) : ByteArray := tx ((bts s).drop n)
theorem restB_zero (s : ByteArray) : restB s 0 = s := by unfold restB; rw [List.drop_zero, tx_bts]
theorem bts_rest (s : ByteArray) (n : Nat) : bts (restB s n) = (bts s).drop n := bts_tx fun j => by
  rw [List.getD_eq_getElem?_getD, List.getElem?_drop, ← List.getD_eq_getElem?_getD]; exact bts_lt s _
theorem restB_size (s : ByteArray) (n : Nat) : (restB s n).size = s.size - n := by
  rw [← bts_len, bts_rest, List.length_drop, bts_len]
theorem rest_next (s : ByteArray) (m q : Nat) : (restB s (q * m)).extract (min (restB s (q * m)).size m) (restB s (q * m)).size = restB s ((q + 1) * m) := by
  apply bts_inj
  rw [bts_extract, List.take_of_length_le (by rw [bts_len]; exact Nat.le_refl _), bts_rest, bts_rest, List.drop_drop, restB_size]
  rcases Nat.le_total m (s.size - q * m) with h | h
  · rw [Nat.min_eq_right h, Nat.succ_mul]
  · rw [Nat.min_eq_left h, List.drop_eq_nil_of_le (by rw [bts_len]; omega), List.drop_eq_nil_of_le (by rw [bts_len, Nat.succ_mul]; omega)]
theorem piece_cells (s : ByteArray) (m q : Nat) :
    cells ((bts (restB s (q * m))).take (min (restB s (q * m)).size m)) ++ (madeCells #[.int .u8 0] m).toList.drop (min (restB s (q * m)).size m) = cells (bts (piece m s q)) := by
  have hr : (madeCells #[Value.int .u8 0] m).toList = List.replicate m (Value.int .u8 0) := by
    unfold madeCells
    apply List.ext_getElem
    · simp
    · intro i h1 h2
      simp [Nat.mod_one]
  have h0 : List.replicate m (Value.int .u8 0) = cells (List.replicate m 0) := by unfold cells; rw [List.map_replicate]; rfl
  have hd : ∀ (a : Nat) (l : List Nat), (cells l).drop a = cells (l.drop a) := fun a l => by unfold cells; rw [List.map_drop]
  have ha : ∀ a b : List Nat, cells a ++ cells b = cells (a ++ b) := fun a b => by unfold cells; rw [List.map_append]
  rw [hr, h0, hd, ha]
  congr 1
  have hs := restB_size s (q * m)
  have hl := bts_len (restB s (q * m))
  rw [bts_piece]
  refine eq_mk ?_ fun j hj => ?_
  · rw [List.length_append, List.length_take, List.length_drop, List.length_replicate, hl]; omega
  · have hx : (bts s).getD (q * m + j) 0 = (bts (restB s (q * m))).getD j 0 := by
      rw [bts_rest, List.getD_eq_getElem?_getD, List.getD_eq_getElem?_getD, List.getElem?_drop]
    rw [List.drop_replicate, getD_append_zeros, hx, List.getD_eq_getElem?_getD, List.getElem?_take, List.getD_eq_getElem?_getD]
    split
    · rfl
    · rw [List.getElem?_eq_none (by rw [hl]; omega)]

theorem own_cells (w : World) (l : List Nat) (h : ∀ j, l.getD j 0 < 256) : Own (w.alloc (.cells (cells l).toArray 5)) w.heap.size l.length l := by
  refine ⟨rfl, h, _, heap_alloc_new w _, fun j hj => ?_⟩
  have := cells_at l j hj
  simpa using this
theorem mkS_prefix {q k : Nat} (h : q ≤ k) (f : Nat → ByteArray) : mkS q f <+: mkS k f := by
  refine ⟨(mkS k f).drop q, ?_⟩
  have : mkS q f = (mkS k f).take q := by
    unfold mkS
    rw [← List.map_take, List.take_range, Nat.min_eq_left h]
  rw [this, List.take_append_drop]

/-! ### the iterator -/
/-- the two variables that the iterator has captured hold what they held. -/
def KeepsTwo (B C : Nat) (s : ByteArray) (k : Nat) (W W' : World) : Prop :=
  (W.cell? ⟨B, 0, none⟩ = some (.string s) → W'.cell? ⟨B, 0, none⟩ = some (.string s)) ∧ (W.cell? ⟨C, 0, none⟩ = some (.int .i64 (k : Nat)) → W'.cell? ⟨C, 0, none⟩ = some (.int .i64 (k : Nat)))
theorem keepsTwo_t {B C k : Nat} {s : ByteArray} {X Y Z : World} (h : KeepsTwo B C s k X Y) (g : KeepsTwo B C s k Y Z) : KeepsTwo B C s k X Z := ⟨fun x => g.1 (h.1 x), fun x => g.2 (h.2 x)⟩
theorem keepsTwo_b {w : World} {B C k : Nat} {s : ByteArray} (hB : B < w.heap.size) (hC : C < w.heap.size) (W : World) (l : Nat) (o o' : Obj) (hl : w.heap.size ≤ l) (_ : W.heap[l]? = some o) (_ : o.isCells = false) (_ : o.isWalk = false) : KeepsTwo B C s k W (W.putObj l o') := by
  refine ⟨fun h => ?_, fun h => ?_⟩
  · unfold World.cell? at h ⊢
    rw [World.putObj_heap_other (by show B ≠ l; omega)]; exact h
  · unfold World.cell? at h ⊢
    rw [World.putObj_heap_other (by show C ≠ l; omega)]; exact h

set_option maxHeartbeats 400000 in
theorem shards_any (s : ByteArray) (k : Nat) (w : World) :
    Calls Tryz.prog 81 #[.string s, .int .i64 (k : Nat)] w fun e w' => e = .returned (.func (.func 89) #[] #[.pointer (some ⟨w.heap.size, 0, none⟩), .pointer (some ⟨w.heap.size + 1, 0, none⟩)]) ∧
      w' = (w.alloc (.cells #[.string s] 9)).alloc (.cells #[.int .i64 (k : Nat)] 3) := by
  have hmf : ∀ (fn : Fn) (first cap : Array Value) (w : World), (Instr.makeFunc fn first cap).run Tryz.prog w = .ok (.func fn first cap) w := fun _ _ _ _ => rfl
  go_enter Tryz.func81, Tryz.ntmps81
  go_wp2
  go_ret
  exact ⟨rfl, rfl⟩

set_option maxRecDepth 100000 in
set_option maxHeartbeats 1600000 in
/-- the closure goes over the shards of its text, for every loop that keeps what it has captured. -/
theorem shards1_in (n : Nat) (hn : 1 ≤ n) (l B C k m : Nat) (s : ByteArray) (J Jx : List ByteArray → World → Prop) (W : World) (hJ : AbidesFrom W.heap.size J)
    (hk1 : 1 ≤ k) (hk2 : k ≤ 32) (hs1 : 1 ≤ s.size) (hs2 : s.size ≤ k * 1024) (hm : m = szN s.size k)
    (hY : ∀ pre x W1, J pre W1 → pre.length < k → YieldAt Fence.wide (n - 1) Tryz.prog l #[.string x] W1 fun e W' =>
      (e = .returned (.bool true) ∧ J (pre ++ [x]) W' ∧ KeepsTwo B C s k W1 W') ∨ (e = .returned (.bool false) ∧ Jx (pre ++ [x]) W'))
    (hB : W.cell? ⟨B, 0, none⟩ = some (.string s)) (hC : W.cell? ⟨C, 0, none⟩ = some (.int .i64 (k : Nat))) (h0 : J [] W) :
    CallsIn Fence.wide n Tryz.prog 89 #[.func (.yield l) #[] #[], .pointer (some ⟨B, 0, none⟩), .pointer (some ⟨C, 0, none⟩)] W fun e W' => (∃ v, e = .returned v) ∧
      ((∃ ys, ys = mkS k (piece m s) ∧ J ys W') ∨ (∃ pre, pre <+: mkS k (piece m s) ∧ Jx pre W')) := by
  have hm1 := szN_le (n := s.size) (k := k) (m := 1024) hk1 hs2
  have hm2 := szN_pos (n := s.size) (k := k) hk1 hs1
  have HZ := Lib.hid (fun w => size_any s.size k w (by simp [Lit.wf, IntKind.min, IntKind.max, IntKind.signed, IntKind.bits]; omega))
  rw [sizeZ_nat hk1] at HZ
  rw [← hm] at hm1 hm2 HZ
  clear hm
  have hmR := run_make_row' (P := Tryz.prog) 128 5 (.int .u8 0) 1 Tryz.underlying128 Tryz.infoByte rfl .i64 .i64 m (by omega) (by omega)
  have N1 := Lib.hid (And.intro hk1 (And.intro hk2 (And.intro hs1 (And.intro hs2 (And.intro hm1 hm2)))))
  have HJ := Lib.hid hJ
  have HY := Lib.hid hY
  have hk0 : (1 : Int) ≤ (k : Int) := by omega
  have hkb : (k : Int) ≤ 32 := by omega
  have hsb : (s.size : Int) ≤ 32768 := by omega
  clear hJ hY hs1 hs2 hm1 hk1 hk2
  refine callsIn_of_wp Tryz.func89 rfl trivial ?_ rfl
  simp only [Tryz.ntmps89, List.size_toArray, List.length_cons, List.length_nil, Nat.reduceAdd, Nat.reduceSub, Array.replicate_succ, Array.replicate_zero, List.push_toArray, List.append_toArray, List.nil_append, List.cons_append]
  gi_wp2
  gi_loopw [4, 8] (fun v i wr => ∃ q : Nat, q ≤ k ∧ v = .string (restB s (q * m)) ∧ i = .int .i64 q ∧ J (mkS q (piece m s)) wr ∧ wr.cell? ⟨B, 0, none⟩ = some (.string s) ∧ wr.cell? ⟨C, 0, none⟩ = some (.int .i64 (k : Nat)))
    (fun _ i _ => k - (intOf i).toNat)
  case atStart => exact ⟨0, by omega, by rw [Nat.zero_mul, restB_zero], rfl, h0, hB, hC⟩
  case round =>
    obtain ⟨q, hq, rfl, rfl, hj, hb, hc⟩ := hrel
    by_cases hlt : q < k
    · have hlt' : (q : Int) < (k : Int) := by omega
      have hq0 : (0 : Int) ≤ (q : Int) := Int.natCast_nonneg _
      have HN := Lib.hid (rest_next s m q)
      have HP := Lib.hid (piece_cells s m q)
      have HS := Lib.hid (mkS_succ q (piece m s))
      have HT := Lib.hid (bts_piece m s q)
      have hRs : ((restB s (q * m)).size : Int) ≤ 32768 := by rw [restB_size]; omega
      have hcp := copy_new wr (madeCells #[.int .u8 0] m) m m (restB s (q * m)) 3 (by simp [madeCells])
      rw [HP.out] at hcp
      have hcmin : min (restB s (q * m)).size m ≤ (restB s (q * m)).size := Nat.min_le_left _ _
      generalize restB s (q * m) = R at *
      generalize hRq : restB s ((q + 1) * m) = R' at *
      have HRq := Lib.hid hRq
      clear hRq
      generalize hcx : min R.size m = cx at *
      have hc0 : (0 : Int) ≤ (cx : Int) := Int.natCast_nonneg _
      have hc1 : (cx : Int) ≤ (R.size : Int) := by omega
      have hsl : ∀ W, (Instr.slice 9 (Value.string R) (some (Value.int .i64 (cx : Int))) none none).run Tryz.prog W = .ok (Value.string R') W := fun W => by
        rw [run_slice_string_from_if W 9 R _ _ Tryz.underlying9, if_pos ⟨hc0, hc1⟩]
        show Result.ok (Value.string (R.extract cx R.size)) W = _
        rw [HN.out]
      clear hcx
      have hbs := (own_cells wr (bts (piece m s q)) (bts_lt _)).bs
      rw [bts_len, piece_size] at hbs
      have hcv := convert_back (wr.alloc (.cells (cells (bts (piece m s q))).toArray 5)) _ m m _ hbs (by omega)
      rw [tx_bts] at hcv
      have hj2 : J (mkS q (piece m s)) (wr.alloc (.cells (cells (bts (piece m s q))).toArray 5)) := HJ.out _ _ _ none hj (World.grownBy_alloc _ _ none) (fun r e => by cases e)
      obtain ⟨fn, tmps, assign, body, hy, hR⟩ := HY.out _ (piece m s q) _ hj2 (by rw [mkS_len]; exact hlt)
      rw [HS.out] at hR
      have hb2 : (wr.alloc (.cells (cells (bts (piece m s q))).toArray 5)).cell? ⟨B, 0, none⟩ = some (.string s) := by
        rw [World.cell?_alloc_lt _ _ _ (World.block_lt_of_cell? wr _ hb)]; exact hb
      have hc2 : (wr.alloc (.cells (cells (bts (piece m s q))).toArray 5)).cell? ⟨C, 0, none⟩ = some (.int .i64 (k : Nat)) := by
        rw [World.cell?_alloc_lt _ _ _ (World.block_lt_of_cell? wr _ hc)]; exact hc
      generalize hW2 : wr.alloc (.cells (cells (bts (piece m s q))).toArray 5) = W2 at *
      clear hbs hj2 hW2
      gi_wp2_with (refine ⟨trivial, ?_⟩; gi_at_call 90; refine (callsIn_wide.2 (HZ.out _)).mono ?_; rintro e w' ⟨rfl, rfl⟩)
      refine hR.mono ?_
      rintro e W3 (⟨rfl, hj3, hk3⟩ | ⟨rfl, hx3⟩)
      · have hb3 := hk3.1 hb2
        have hc3 := hk3.2 hc2
        clear hk3 hb2 hc2 hb hc hcp hcv hy
        gi_wp2
        go_roundw
        case rel => exact ⟨q + 1, by omega, by rw [HRq.out], by go_num, hj3, hb3, hc3⟩
        case measure => simp [intOf]; omega
      · clear hb2 hc2 hb hc hcp hcv hy
        gi_wp2
        refine bodyPost_ret (results_none rfl _ _ _) rfl ?_
        exact ⟨⟨_, rfl⟩, .inr ⟨_, mkS_prefix (by omega) _, hx3⟩⟩
    · obtain rfl : q = k := by omega
      gi_wp2
      go_end0
      exact ⟨⟨_, rfl⟩, .inl ⟨_, rfl, hj⟩⟩
/-- the value that shards answers hands its texts to whatever loop goes over it. -/
theorem shards_stops (n : Nat) (hn : 1 ≤ n) (B C k m : Nat) (s : ByteArray) (hk1 : 1 ≤ k) (hk2 : k ≤ 32) (hs1 : 1 ≤ s.size) (hs2 : s.size ≤ k * 1024) (hm : m = szN s.size k) (w : World)
    (hBl : B < w.heap.size) (hCl : C < w.heap.size) (hB : w.cell? ⟨B, 0, none⟩ = some (.string s)) (hC : w.cell? ⟨C, 0, none⟩ = some (.int .i64 (k : Nat))) :
    SeqStopsK Fence.wide n Tryz.prog 89 #[.pointer (some ⟨B, 0, none⟩), .pointer (some ⟨C, 0, none⟩)] (fun x : ByteArray => #[Value.string x]) (KeepsTwo B C s k) (fun ys => ys = mkS k (piece m s)) (fun pre => pre <+: mkS k (piece m s)) k w :=
  fun l J Jx W hW hJ _ hY h0 =>
    shards1_in n hn l B C k m s J Jx W hJ hk1 hk2 hs1 hs2 hm hY ((hW.cell (p := ⟨B, 0, none⟩) hBl).trans hB) ((hW.cell (p := ⟨C, 0, none⟩) hCl).trans hC) h0
end Go.Proofs.YtodokgkchmpmnaaGreat

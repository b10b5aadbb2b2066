/- Proved: lemmas of one statement's proof, merged by program: what each part proves stands ahead of it. Conditions: those that the lemmas name. -/
import Derived.Test.YtooegclblgeicaaGreatDoorM25
import Derived.Deep.OwnRows
import Derived.Test.YtooegclblgeicaaGreatDoorM22
import Derived.RangeFuncNested
import Derived.RangeFuncBound
import Derived.RangeFuncCalls
import Derived.RangeFuncLeaves
import Derived.Shelf.Abstract
import Derived.Shelf.RegionOpen
import Derived.OwnWalkIn
import Derived.TacticsInMore
import Derived.LoopNIn
import Derived.LoopIn
import Derived.Laws.CopyRow
import Derived.Test.YtooegclblgeicaaGreatDoorM2
import Derived.Laws.MakeOwn
import Derived.Maps.AppendAt
import Derived.RangeFuncBox

/- Proved: what All of package decode tells of every jobs. Conditions: those that the theorems name. -/
namespace Go.Proofs.YtooegclblgeicaaGreatDoor
open Go.ChangeShapes Go.WideShapes Go.ChangeAt Go.RowKit

/-- a job in memory. -/
structure JoAt (w : World) (a : Addr) (x : Jo) : Prop where
  c0 : w.cell? a = some (.int .i64 x.s)
  c1 : w.cell? ⟨a.block, a.off + 1, none⟩ = some (.int .u32 x.b)
  c2 : w.cell? ⟨a.block, a.off + 2, none⟩ = some (.int .i64 x.k)
  c3 : w.cell? ⟨a.block, a.off + 3, none⟩ = some (.int .i64 x.n)
  c4 : w.cell? ⟨a.block, a.off + 4, none⟩ = some (.int .i64 x.l)
  c5 : w.cell? ⟨a.block, a.off + 5, none⟩ = some (.slice x.A x.m x.c)
theorem JoAt.below {w w' : World} {a : Addr} {x : Jo} (h : JoAt w a x) (hb : Below w.heap.size w w') (ha : a.block < w.heap.size) : JoAt w' a x :=
  ⟨(hb.cell ha).trans h.c0, (hb.cell (p := ⟨a.block, a.off + 1, none⟩) ha).trans h.c1, (hb.cell (p := ⟨a.block, a.off + 2, none⟩) ha).trans h.c2,
    (hb.cell (p := ⟨a.block, a.off + 3, none⟩) ha).trans h.c3, (hb.cell (p := ⟨a.block, a.off + 4, none⟩) ha).trans h.c4, (hb.cell (p := ⟨a.block, a.off + 5, none⟩) ha).trans h.c5⟩
/-- The slice reads as these jobs, with these shards. -/
def Jbs (w : World) (A : Option Addr) (n : Nat) (X : Nat → Jo) (L : Nat → List Shd) : Prop :=
  0 < n → ∃ ad, A = some ad ∧ ad.block < w.heap.size ∧ ∀ j, j < n → JoAt w (ad.add (j * 6)) (X j) ∧ Sh w (X j).A (X j).m (L j)
theorem Jbs.at_ {w w' : World} {A : Option Addr} {n : Nat} {X : Nat → Jo} {L : Nat → List Shd} (h : Jbs w A n X L) (hb : Below w.heap.size w w') {j : Nat} (hj : j < n) :
    ∃ ad, A = some ad ∧ JoAt w' (ad.add (j * 6)) (X j) ∧ Sh w' (X j).A (X j).m (L j) := by
  obtain ⟨ad, e, hlt, hc⟩ := h (by omega)
  exact ⟨ad, e, (hc j hj).1.below hb (by rw [add_block]; exact hlt), (hc j hj).2.below hb⟩
/-- Block g holds the first k of n results. -/
def RsTo (w : World) (g n k : Nat) (X : Nat → Jo) (T : Nat → ByteArray) (Z : Nat → Int) : Prop :=
  ∃ f, w.rowIs g 35 (n * 4) f ∧ ∀ j, j < k → f (j * 4) = .int .i64 (X j).s ∧ f (j * 4 + 1) = .int .u32 (X j).b ∧ f (j * 4 + 2) = .string (T j) ∧ f (j * 4 + 3) = .int .i64 (Z j)
theorem RsTo.below {w w' : World} {g n k : Nat} {X : Nat → Jo} {T : Nat → ByteArray} {Z : Nat → Int} (h : RsTo w g n k X T Z) (hb : Below w.heap.size w w') : RsTo w' g n k X T Z := by
  obtain ⟨f, h, hc⟩ := h
  exact ⟨f, h.of_block (hb.block g h.lt), hc⟩
theorem RsTo.cells {w : World} {g n k : Nat} {X : Nat → Jo} {T : Nat → ByteArray} {Z : Nat → Int} (h : RsTo w g n k X T Z) {j : Nat} (hj : j < k) (hk : k ≤ n) :
    w.cell? ⟨g, j * 4, none⟩ = some (.int .i64 (X j).s) ∧ w.cell? ⟨g, j * 4 + 1, none⟩ = some (.int .u32 (X j).b) ∧ w.cell? ⟨g, j * 4 + 2, none⟩ = some (.string (T j)) ∧ w.cell? ⟨g, j * 4 + 3, none⟩ = some (.int .i64 (Z j)) := by
  obtain ⟨f, h, hc⟩ := h
  obtain ⟨h0, h1, h2, h3⟩ := hc j hj
  exact ⟨(h.cell (by omega)).trans (by rw [h0]), (h.cell (by omega)).trans (by rw [h1]), (h.cell (by omega)).trans (by rw [h2]), (h.cell (by omega)).trans (by rw [h3])⟩
def set4k (W : World) (r k : Nat) (a b c d : Value) : World := ((((W.setCell ⟨r, k * 4, none⟩ a).setCell ⟨r, k * 4 + 1, none⟩ b).setCell ⟨r, k * 4 + 2, none⟩ c).setCell ⟨r, k * 4 + 3, none⟩ d)
theorem RsTo.next {w : World} {g n k : Nat} {X : Nat → Jo} {T : Nat → ByteArray} {Z : Nat → Int} (h : RsTo w g n k X T Z) :
    RsTo (set4k w g k (.int .i64 (X k).s) (.int .u32 (X k).b) (.string (T k)) (.int .i64 (Z k))) g n (k + 1) X T Z := by
  obtain ⟨f, h, hc⟩ := h
  refine ⟨_, (((h.set (k * 4) _).set (k * 4 + 1) _).set (k * 4 + 2) _).set (k * 4 + 3) _, fun j hj => ?_⟩
  by_cases e : j = k
  · subst e
    refine ⟨?_, ?_, ?_, ?_⟩
    · show (if j * 4 = j * 4 + 3 then _ else if j * 4 = j * 4 + 2 then _ else if j * 4 = j * 4 + 1 then _ else if j * 4 = j * 4 then _ else _) = _
      rw [if_neg (by omega), if_neg (by omega), if_neg (by omega), if_pos rfl]
    · show (if j * 4 + 1 = j * 4 + 3 then _ else if j * 4 + 1 = j * 4 + 2 then _ else if j * 4 + 1 = j * 4 + 1 then _ else _) = _
      rw [if_neg (by omega), if_neg (by omega), if_pos rfl]
    · show (if j * 4 + 2 = j * 4 + 3 then _ else if j * 4 + 2 = j * 4 + 2 then _ else _) = _
      rw [if_neg (by omega), if_pos rfl]
    · show (if j * 4 + 3 = j * 4 + 3 then _ else _) = _
      rw [if_pos rfl]
  · have hjk : j < k := by omega
    have key : ∀ i, i < 4 → (fun i => if i = k * 4 + 3 then Value.int .i64 (Z k) else if i = k * 4 + 2 then .string (T k) else if i = k * 4 + 1 then .int .u32 (X k).b else if i = k * 4 then .int .i64 (X k).s else f i) (j * 4 + i) = f (j * 4 + i) := fun i hi => by
      show (if j * 4 + i = k * 4 + 3 then _ else if j * 4 + i = k * 4 + 2 then _ else if j * 4 + i = k * 4 + 1 then _ else if j * 4 + i = k * 4 then _ else _) = _
      rw [if_neg (by omega), if_neg (by omega), if_neg (by omega), if_neg (by omega)]
    obtain ⟨h0, h1, h2, h3⟩ := hc j hjk
    exact ⟨(key 0 (by omega)).trans h0, (key 1 (by omega)).trans h1, (key 2 (by omega)).trans h2, (key 3 (by omega)).trans h3⟩
theorem RsTo.start (w : World) (n : Nat) (X : Nat → Jo) (T : Nat → ByteArray) (Z : Nat → Int) (C : Array Value) (hC : C.size = n * 4) : RsTo (w.alloc (.cells C 35)) w.heap.size n 0 X T Z :=
  ⟨fun i => C.getD i undef, by
    have := World.rowIs_alloc w C 35 (fun i => C.getD i undef) (fun i hi => by rw [Array.getElem?_eq_getElem hi]; simp [hi])
    rwa [hC] at this, fun j h => absurd h (by omega)⟩
theorem infoResult : (Tryz.prog.info? 35).map (fun i => (i.zero, i.size, i.bytes)) = some (some (rval 0 0 S0 0), 4, 40) := by kernel_rfl

set_option maxRecDepth 100000 in
set_option maxHeartbeats 3200000 in
theorem all_any (A : Option Addr) (n c : Nat) (X : Nat → Jo) (L : Nat → List Shd) (T : Nat → ByteArray) (Z : Nat → Int) (w : World) (h : Jbs w A n X L) (hn : n ≤ 1000)
    (hm : ∀ j, j < n → (X j).m ≤ 100) (hd : ∀ j, j < n → DoIs (X j).k (X j).n (X j).l (L j) (T j) (Z j)) :
    Calls Tryz.prog 6 #[.slice A n c] w fun e w' => ∃ g, e = .returned (.slice (some ⟨g, 0, none⟩) n n) ∧ RsTo w' g n n X T Z ∧ Below w.heap.size w w' := by
  obtain ⟨i0, hi0, hz0, hz1, hz2⟩ := info_parts infoResult
  have hmk : ∀ W : World, (Instr.makeSlice 31 (.int .i64 (n : Int)) (.int .i64 (n : Int))).run Tryz.prog W = .ok (.slice (some ⟨W.heap.size, 0, none⟩) n n) (W.alloc (.cells (madeCells #[.int .i64 0, .int .u32 0, .string S0, .int .i64 0] (n * 4)) 35)) := fun W => by
    have hr := run_make (P := Tryz.prog) W 31 35 i0 _ Tryz.underlying31 hi0 hz0 .i64 .i64 n n (by omega) (Int.le_refl _) (by rw [hz2]; omega) (by omega)
    rw [Int.toNat_natCast, hz1] at hr
    exact hr
  have HJ := Lib.hid h
  have HM := Lib.hid hm
  have HD := Lib.hid hd
  clear h hm hd hi0 hz0 hz1 hz2
  go_enter Tryz.func6, Tryz.ntmps6
  go_wp2_with fail
  have HS0 := Lib.hid (RsTo.start w n X T Z (madeCells #[.int .i64 0, .int .u32 0, .string S0, .int .i64 0] (n * 4)) (size_madeCells _ _))
  have HB0 := Lib.hid ((Below.refl w.heap.size w).alloc (Nat.le_refl _) (.cells (madeCells #[.int .i64 0, .int .u32 0, .string S0, .int .i64 0] (n * 4)) 35))
  go_loopw [11] (fun v wr => ∃ k : Nat, k ≤ n ∧ v = .int .i64 k ∧ RsTo wr w.heap.size n k X T Z ∧ Below w.heap.size w wr) (fun v _ => n - (intOf v).toNat)
  case atStart => exact ⟨0, by omega, rfl, HS0.out, HB0.out⟩
  case round =>
    obtain ⟨k, hk, rfl, hr, hb⟩ := hrel
    have HR := Lib.hid hr
    have HB := Lib.hid hb
    clear hr hb HS0 HB0
    by_cases hlt : k < n
    · obtain ⟨ad, rfl, hx, hsh⟩ := HJ.out.at_ HB.out hlt
      have HX := Lib.hid hx
      have HSh := Lib.hid hsh
      have hlt' : (k : Int) < (n : Int) := by omega
      have hk0 : (0 : Int) ≤ (k : Int) := Int.natCast_nonneg _
      obtain ⟨x0, x1, x2, x3, x4, x5⟩ := hx
      have HDo := Lib.hid (fun W (g : Below wr.heap.size wr W) => do_any (X k) (L k) (T k) (Z k) W (hsh.below g) (HM.out k hlt) (HD.out k hlt))
      have HN := Lib.hid (fun (W : World) (q : RsTo W w.heap.size n k X T Z) => q.next)
      clear hsh
      generalize hX : X k = x at *
      have HXk := Lib.hid hX
      clear hX
      go_wp2_with fail
      have TA : Below wr.heap.size wr (wr.alloc (.cells #[.int .i64 x.s, .int .u32 x.b, .int .i64 x.k, .int .i64 x.n, .int .i64 x.l, .slice x.A x.m x.c] 30)) := (Below.refl _ _).alloc (Nat.le_refl _) _
      have TS : wr.heap.size ≤ (wr.alloc (.cells #[.int .i64 x.s, .int .u32 x.b, .int .i64 x.k, .int .i64 x.n, .int .i64 x.l, .slice x.A x.m x.c] 30)).heap.size := TA.size
      refine (HDo.out _ TA).mono ?_; rintro e w1 ⟨rfl, hb1⟩
      have T1 : Below wr.heap.size wr w1 := TA.trans (hb1.mono TS)
      have HR1 := Lib.hid (HR.out.below T1)
      have HB1 := Lib.hid (HB.out.trans (T1.mono HB.out.size))
      obtain ⟨f, hrow, _⟩ := HR.out.below T1
      have y0 := hrow.cell (i := k * 4) (by omega)
      have y1 := hrow.cell (i := k * 4 + 1) (by omega)
      have y2 := hrow.cell (i := k * 4 + 2) (by omega)
      have y3 := hrow.cell (i := k * 4 + 3) (by omega)
      have q0 := hrow.frozen (k * 4)
      have q1 := hrow.frozen (k * 4 + 1)
      have q2 := hrow.frozen (k * 4 + 2)
      have q3 := hrow.frozen (k * 4 + 3)
      have HN1 := Lib.hid (HN.out w1 HR1.out)
      have HB2 : Hid (Below w.heap.size w (set4k w1 w.heap.size k (.int .i64 x.s) (.int .u32 x.b) (.string (T k)) (.int .i64 (Z k)))) := Lib.hid ((((HB1.out.setCell (p := ⟨w.heap.size, k * 4, none⟩) (Nat.le_refl _) _).setCell (p := ⟨w.heap.size, k * 4 + 1, none⟩) (Nat.le_refl _) _).setCell (p := ⟨w.heap.size, k * 4 + 2, none⟩) (Nat.le_refl _) _).setCell (p := ⟨w.heap.size, k * 4 + 3, none⟩) (Nat.le_refl _) _)
      clear TA TS T1 hb1 hrow HX HSh HDo HN HR HB x0 x1 x2 x3 x4 x5
      generalize T k = tk at *
      generalize Z k = zk at *
      go_wp2_with fail
      go_roundw
      case rel => exact ⟨k + 1, by omega, by go_num, HN1.out, HB2.out⟩
      case measure => simp [intOf]; omega
    · obtain rfl : k = n := by omega
      go_wp2_with fail
      go_ret
      exact ⟨_, rfl, HR.out, HB.out⟩
end Go.Proofs.YtooegclblgeicaaGreatDoor

/- Proved: what the iterator of package cut hands to whatever loop goes over it: the shards of its text, in order. Conditions: those that the theorems name. -/
namespace Go.Proofs.YtooegclblgeicaaGreatDoor
open Go.ChangeShapes Go.WideShapes Go.ChangeAt Go.RowKit
attribute [local go_sem] Oper.semAt_some

/-! ### a copy from a string into a new row -/
theorem setRow_new (w : World) (old new : Array Value) (t : TypeId) : (w.alloc (.cells old t)).setRow w.heap.size new = w.alloc (.cells new t) := by
  unfold World.setRow World.alloc
  congr 1
  apply Array.ext
  · simp
  · intro i h1 h2
    simp at h1
    rw [Array.getElem_modify]
    by_cases e : w.heap.size = i
    · subst e
      simp
    · rw [if_neg e, Array.getElem_push_lt (by omega), Array.getElem_push_lt (by omega)]
theorem copy_new (w : World) (old : Array Value) (m c : Nat) (s : ByteArray) (ty : TypeId) (hm : old.size = m) :
    (Builtin.copy_ #[55, 9] ty #[.slice (some ⟨w.heap.size, 0, none⟩) m c, .string s]).run Tryz.prog (w.alloc (.cells old 5)) =
      .ok (.int .i64 ((min s.size m : Nat) : Int)) (w.alloc (.cells (cells ((bts s).take (min s.size m)) ++ old.toList.drop (min s.size m)).toArray 5)) := by
  obtain ⟨i, hi, hz0, hz1, hz2⟩ := info_parts Tryz.infoByte
  have hst := run_storeCells_at Tryz.prog w.heap.size 0 5 (cells ((bts s).take (min s.size m))) 0 old (w.alloc (.cells old 5)) (heap_alloc_new w _) (by rw [cells_len, List.length_take, bts_len]; omega) (cells_one _)
  rw [setRow_new] at hst
  have hl : (cells ((bts s).take (min s.size m))).length = min s.size m := by rw [cells_len, List.length_take, bts_len]; omega
  rw [hl] at hst
  have he : List.take (s.size.min m) (List.map (fun b : UInt8 => Value.int IntKind.u8 (b.toNat : Int)) s.data.toList) = cells ((bts s).take (min s.size m)) := by
    unfold cells bts
    rw [List.map_take, List.map_map]; rfl
  simp [Builtin.copy_, run_underlying Tryz.underlying55, Builtin.lenOf, Builtin.firstCells, sizeOf, typeInfo, hi]
  rw [he, hst]
  simp only [Nat.add_zero, List.take_zero, List.nil_append]
  rw [Nat.zero_add]
  rfl

/-! ### what is left of a text -/
def restB (s : ByteArray) (n : Nat) : ByteArray := tx ((bts s).drop n)
theorem restB_zero (s : ByteArray) : restB s 0 = s := by unfold restB; rw [List.drop_zero, tx_bts]
theorem bts_rest (s : ByteArray) (n : Nat) : bts (restB s n) = (bts s).drop n := bts_tx fun j => by
  rw [List.getD_eq_getElem?_getD, List.getElem?_drop, ← List.getD_eq_getElem?_getD]; exact bts_lt s _
theorem restB_size (s : ByteArray) (n : Nat) : (restB s n).size = s.size - n := by
  rw [← bts_len, bts_rest, List.length_drop, bts_len]
theorem rest_next (s : ByteArray) (m q : Nat) : (restB s (q * m)).extract (min (restB s (q * m)).size m) (restB s (q * m)).size = restB s ((q + 1) * m) := by
  apply bts_inj
  rw [bts_extract, List.take_of_length_le (by rw [bts_len]; exact Nat.le_refl _), bts_rest, bts_rest, List.drop_drop, restB_size]
  rcases Nat.le_total m (s.size - q * m) with h | h
  · rw [Nat.min_eq_right h, Nat.succ_mul]
  · rw [Nat.min_eq_left h, List.drop_eq_nil_of_le (by rw [bts_len]; omega), List.drop_eq_nil_of_le (by rw [bts_len, Nat.succ_mul]; omega)]
theorem piece_cells (s : ByteArray) (m q : Nat) :
    cells ((bts (restB s (q * m))).take (min (restB s (q * m)).size m)) ++ (madeCells #[.int .u8 0] m).toList.drop (min (restB s (q * m)).size m) = cells (bts (piece m s q)) := by
  have hr : (madeCells #[Value.int .u8 0] m).toList = List.replicate m (Value.int .u8 0) := by
    unfold madeCells
    apply List.ext_getElem
    · simp
    · intro i h1 h2
      simp [Nat.mod_one]
  have h0 : List.replicate m (Value.int .u8 0) = cells (List.replicate m 0) := by unfold cells; rw [List.map_replicate]; rfl
  have hd : ∀ (a : Nat) (l : List Nat), (cells l).drop a = cells (l.drop a) := fun a l => by unfold cells; rw [List.map_drop]
  have ha : ∀ a b : List Nat, cells a ++ cells b = cells (a ++ b) := fun a b => by unfold cells; rw [List.map_append]
  rw [hr, h0, hd, ha]
  congr 1
  have hs := restB_size s (q * m)
  have hl := bts_len (restB s (q * m))
  rw [bts_piece]
  refine eq_mk ?_ fun j hj => ?_
  · rw [List.length_append, List.length_take, List.length_drop, List.length_replicate, hl]; omega
  · have hx : (bts s).getD (q * m + j) 0 = (bts (restB s (q * m))).getD j 0 := by
      rw [bts_rest, List.getD_eq_getElem?_getD, List.getD_eq_getElem?_getD, List.getElem?_drop]
    rw [List.drop_replicate, getD_append_zeros, hx, List.getD_eq_getElem?_getD, List.getElem?_take, List.getD_eq_getElem?_getD]
    split
    · rfl
    · rw [List.getElem?_eq_none (by rw [hl]; omega)]

theorem own_cells (w : World) (l : List Nat) (h : ∀ j, l.getD j 0 < 256) : Own (w.alloc (.cells (cells l).toArray 5)) w.heap.size l.length l := by
  refine ⟨rfl, h, _, heap_alloc_new w _, fun j hj => ?_⟩
  have := cells_at l j hj
  simpa using this
theorem mkS_prefix {q k : Nat} (h : q ≤ k) (f : Nat → ByteArray) : mkS q f <+: mkS k f := by
  refine ⟨(mkS k f).drop q, ?_⟩
  have : mkS q f = (mkS k f).take q := by
    unfold mkS
    rw [← List.map_take, List.take_range, Nat.min_eq_left h]
  rw [this, List.take_append_drop]

/-! ### the iterator -/
/-- the two variables that the iterator has captured hold what they held. -/
def KeepsTwo (B C : Nat) (s : ByteArray) (k : Nat) (W W' : World) : Prop :=
  (W.cell? ⟨B, 0, none⟩ = some (.string s) → W'.cell? ⟨B, 0, none⟩ = some (.string s)) ∧ (W.cell? ⟨C, 0, none⟩ = some (.int .i64 (k : Nat)) → W'.cell? ⟨C, 0, none⟩ = some (.int .i64 (k : Nat)))
theorem keepsTwo_t {B C k : Nat} {s : ByteArray} {X Y Z : World} (h : KeepsTwo B C s k X Y) (g : KeepsTwo B C s k Y Z) : KeepsTwo B C s k X Z := ⟨fun x => g.1 (h.1 x), fun x => g.2 (h.2 x)⟩
theorem keepsTwo_b {w : World} {B C k : Nat} {s : ByteArray} (hB : B < w.heap.size) (hC : C < w.heap.size) (W : World) (l : Nat) (o o' : Obj) (hl : w.heap.size ≤ l) (_ : W.heap[l]? = some o) (_ : o.isCells = false) (_ : o.isWalk = false) : KeepsTwo B C s k W (W.putObj l o') := by
  refine ⟨fun h => ?_, fun h => ?_⟩
  · unfold World.cell? at h ⊢
    rw [World.putObj_heap_other (by show B ≠ l; omega)]; exact h
  · unfold World.cell? at h ⊢
    rw [World.putObj_heap_other (by show C ≠ l; omega)]; exact h

set_option maxHeartbeats 400000 in
theorem shards_any (s : ByteArray) (k : Nat) (w : World) :
    Calls Tryz.prog 24 #[.string s, .int .i64 (k : Nat)] w fun e w' => e = .returned (.func (.func 41) #[] #[.pointer (some ⟨w.heap.size, 0, none⟩), .pointer (some ⟨w.heap.size + 1, 0, none⟩)]) ∧
      w' = (w.alloc (.cells #[.string s] 9)).alloc (.cells #[.int .i64 (k : Nat)] 3) := by
  have hmf : ∀ (fn : Fn) (first cap : Array Value) (w : World), (Instr.makeFunc fn first cap).run Tryz.prog w = .ok (.func fn first cap) w := fun _ _ _ _ => rfl
  go_enter Tryz.func24, Tryz.ntmps24
  go_wp2
  go_ret
  exact ⟨rfl, rfl⟩

set_option maxRecDepth 100000 in
set_option maxHeartbeats 1600000 in
/-- the closure goes over the shards of its text, for every loop that keeps what it has captured. -/
theorem shards1_in (n : Nat) (hn : 1 ≤ n) (l B C k m : Nat) (s : ByteArray) (J Jx : List ByteArray → World → Prop) (W : World) (hJ : AbidesFrom W.heap.size J)
    (hk1 : 1 ≤ k) (hk2 : k ≤ 32) (hs1 : 1 ≤ s.size) (hs2 : s.size ≤ k * 1024) (hm : m = szN s.size k)
    (hY : ∀ pre x W1, J pre W1 → pre.length < k → YieldAt Fence.wide (n - 1) Tryz.prog l #[.string x] W1 fun e W' =>
      (e = .returned (.bool true) ∧ J (pre ++ [x]) W' ∧ KeepsTwo B C s k W1 W') ∨ (e = .returned (.bool false) ∧ Jx (pre ++ [x]) W'))
    (hB : W.cell? ⟨B, 0, none⟩ = some (.string s)) (hC : W.cell? ⟨C, 0, none⟩ = some (.int .i64 (k : Nat))) (h0 : J [] W) :
    CallsIn Fence.wide n Tryz.prog 41 #[.func (.yield l) #[] #[], .pointer (some ⟨B, 0, none⟩), .pointer (some ⟨C, 0, none⟩)] W fun e W' => (∃ v, e = .returned v) ∧
      ((∃ ys, ys = mkS k (piece m s) ∧ J ys W') ∨ (∃ pre, pre <+: mkS k (piece m s) ∧ Jx pre W')) := by
  have hm1 := szN_le (n := s.size) (k := k) (m := 1024) hk1 hs2
  have hm2 := szN_pos (n := s.size) (k := k) hk1 hs1
  have HZ := Lib.hid (fun w => size_any s.size k w (by simp [Lit.wf, IntKind.min, IntKind.max, IntKind.signed, IntKind.bits]; omega))
  rw [sizeZ_nat hk1] at HZ
  rw [← hm] at hm1 hm2 HZ
  clear hm
  have hmR := run_make_row' (P := Tryz.prog) 55 5 (.int .u8 0) 1 Tryz.underlying55 Tryz.infoByte rfl .i64 .i64 m (by omega) (by omega)
  have N1 := Lib.hid (And.intro hk1 (And.intro hk2 (And.intro hs1 (And.intro hs2 (And.intro hm1 hm2)))))
  have HJ := Lib.hid hJ
  have HY := Lib.hid hY
  have hk0 : (1 : Int) ≤ (k : Int) := by omega
  have hkb : (k : Int) ≤ 32 := by omega
  have hsb : (s.size : Int) ≤ 32768 := by omega
  clear hJ hY hs1 hs2 hm1 hk1 hk2
  refine callsIn_of_wp Tryz.func41 rfl trivial ?_ rfl
  simp only [Tryz.ntmps41, List.size_toArray, List.length_cons, List.length_nil, Nat.reduceAdd, Nat.reduceSub, Array.replicate_succ, Array.replicate_zero, List.push_toArray, List.append_toArray, List.nil_append, List.cons_append]
  gi_wp2
  gi_loopw [4, 8] (fun v i wr => ∃ q : Nat, q ≤ k ∧ v = .string (restB s (q * m)) ∧ i = .int .i64 q ∧ J (mkS q (piece m s)) wr ∧ wr.cell? ⟨B, 0, none⟩ = some (.string s) ∧ wr.cell? ⟨C, 0, none⟩ = some (.int .i64 (k : Nat)))
    (fun _ i _ => k - (intOf i).toNat)
  case atStart => exact ⟨0, by omega, by rw [Nat.zero_mul, restB_zero], rfl, h0, hB, hC⟩
  case round =>
    obtain ⟨q, hq, rfl, rfl, hj, hb, hc⟩ := hrel
    by_cases hlt : q < k
    · have hlt' : (q : Int) < (k : Int) := by omega
      have hq0 : (0 : Int) ≤ (q : Int) := Int.natCast_nonneg _
      have HN := Lib.hid (rest_next s m q)
      have HP := Lib.hid (piece_cells s m q)
      have HS := Lib.hid (mkS_succ q (piece m s))
      have HT := Lib.hid (bts_piece m s q)
      have hRs : ((restB s (q * m)).size : Int) ≤ 32768 := by rw [restB_size]; omega
      have hcp := copy_new wr (madeCells #[.int .u8 0] m) m m (restB s (q * m)) 3 (by simp [madeCells])
      rw [HP.out] at hcp
      have hcmin : min (restB s (q * m)).size m ≤ (restB s (q * m)).size := Nat.min_le_left _ _
      generalize restB s (q * m) = R at *
      generalize hRq : restB s ((q + 1) * m) = R' at *
      have HRq := Lib.hid hRq
      clear hRq
      generalize hcx : min R.size m = cx at *
      have hc0 : (0 : Int) ≤ (cx : Int) := Int.natCast_nonneg _
      have hc1 : (cx : Int) ≤ (R.size : Int) := by omega
      have hsl : ∀ W, (Instr.slice 9 (Value.string R) (some (Value.int .i64 (cx : Int))) none none).run Tryz.prog W = .ok (Value.string R') W := fun W => by
        rw [run_slice_string_from_if W 9 R _ _ Tryz.underlying9, if_pos ⟨hc0, hc1⟩]
        show Result.ok (Value.string (R.extract cx R.size)) W = _
        rw [HN.out]
      clear hcx
      have hbs := (own_cells wr (bts (piece m s q)) (bts_lt _)).bs
      rw [bts_len, piece_size] at hbs
      have hcv := convert_back (wr.alloc (.cells (cells (bts (piece m s q))).toArray 5)) _ m m _ hbs (by omega)
      rw [tx_bts] at hcv
      have hj2 : J (mkS q (piece m s)) (wr.alloc (.cells (cells (bts (piece m s q))).toArray 5)) := HJ.out _ _ _ none hj (World.grownBy_alloc _ _ none) (fun r e => by cases e)
      obtain ⟨fn, tmps, assign, body, hy, hR⟩ := HY.out _ (piece m s q) _ hj2 (by rw [mkS_len]; exact hlt)
      rw [HS.out] at hR
      have hb2 : (wr.alloc (.cells (cells (bts (piece m s q))).toArray 5)).cell? ⟨B, 0, none⟩ = some (.string s) := by
        rw [World.cell?_alloc_lt _ _ _ (World.block_lt_of_cell? wr _ hb)]; exact hb
      have hc2 : (wr.alloc (.cells (cells (bts (piece m s q))).toArray 5)).cell? ⟨C, 0, none⟩ = some (.int .i64 (k : Nat)) := by
        rw [World.cell?_alloc_lt _ _ _ (World.block_lt_of_cell? wr _ hc)]; exact hc
      generalize hW2 : wr.alloc (.cells (cells (bts (piece m s q))).toArray 5) = W2 at *
      clear hbs hj2 hW2
      gi_wp2_with (refine ⟨trivial, ?_⟩; gi_at_call 42; refine (callsIn_wide.2 (HZ.out _)).mono ?_; rintro e w' ⟨rfl, rfl⟩)
      refine hR.mono ?_
      rintro e W3 (⟨rfl, hj3, hk3⟩ | ⟨rfl, hx3⟩)
      · have hb3 := hk3.1 hb2
        have hc3 := hk3.2 hc2
        clear hk3 hb2 hc2 hb hc hcp hcv hy
        gi_wp2
        go_roundw
        case rel => exact ⟨q + 1, by omega, by rw [HRq.out], by go_num, hj3, hb3, hc3⟩
        case measure => simp [intOf]; omega
      · clear hb2 hc2 hb hc hcp hcv hy
        gi_wp2
        refine bodyPost_ret (results_none rfl _ _ _) rfl ?_
        exact ⟨⟨_, rfl⟩, .inr ⟨_, mkS_prefix (by omega) _, hx3⟩⟩
    · obtain rfl : q = k := by omega
      gi_wp2
      go_end0
      exact ⟨⟨_, rfl⟩, .inl ⟨_, rfl, hj⟩⟩
/-- the value that shards answers hands its texts to whatever loop goes over it. -/
theorem shards_stops (n : Nat) (hn : 1 ≤ n) (B C k m : Nat) (s : ByteArray) (hk1 : 1 ≤ k) (hk2 : k ≤ 32) (hs1 : 1 ≤ s.size) (hs2 : s.size ≤ k * 1024) (hm : m = szN s.size k) (w : World)
    (hBl : B < w.heap.size) (hCl : C < w.heap.size) (hB : w.cell? ⟨B, 0, none⟩ = some (.string s)) (hC : w.cell? ⟨C, 0, none⟩ = some (.int .i64 (k : Nat))) :
    SeqStopsK Fence.wide n Tryz.prog 41 #[.pointer (some ⟨B, 0, none⟩), .pointer (some ⟨C, 0, none⟩)] (fun x : ByteArray => #[Value.string x]) (KeepsTwo B C s k) (fun ys => ys = mkS k (piece m s)) (fun pre => pre <+: mkS k (piece m s)) k w :=
  fun l J Jx W hW hJ _ hY h0 =>
    shards1_in n hn l B C k m s J Jx W hJ hk1 hk2 hs1 hs2 hm hY ((hW.cell (p := ⟨B, 0, none⟩) hBl).trans hB) ((hW.cell (p := ⟨C, 0, none⟩) hCl).trans hC) h0
end Go.Proofs.YtooegclblgeicaaGreatDoor

/- Proved: what the program's Cut answers, for every text and every number. Conditions: those that the theorems name. -/
namespace Go.Proofs.YtooegclblgeicaaGreatDoor
open Go.ChangeShapes Go.WideShapes Go.ChangeAt Go.RowKit
attribute [local go_sem] Oper.semAt_some

/-! ### texts that a loop over an iterator gathers in a row of the call's own, block H; its variable is block H + 1 -/
theorem gathered {W w1 : World} {H k q : Nat} {xs : List Value} {tmp : Obj} {v' : Value} (hH : H ≤ W.heap.size)
    (hv : Boxed W (H + 1) 38 (.slice (some ⟨H, 0, none⟩) q k)) (hrow : W.ownsRow H 9 1 (.slice (some ⟨H, 0, none⟩) q k) q xs) (hgrow : (W.alloc tmp).grownBy w1 (some H)) :
    Boxed w1 (H + 1) 38 (.slice (some ⟨H, 0, none⟩) q k) ∧ Boxed (w1.setCell ⟨H + 1, 0, none⟩ v') (H + 1) 38 v' ∧ KeepsOthers W (w1.setCell ⟨H + 1, 0, none⟩ v') ∧ Below H W (w1.setCell ⟨H + 1, 0, none⟩ v') ∧
      (∀ b, b < W.heap.size → b ≠ H → b ≠ H + 1 → (w1.setCell ⟨H + 1, 0, none⟩ v').heap[b]? = W.heap[b]?) := by
  have hv1 : Boxed w1 (H + 1) 38 (.slice (some ⟨H, 0, none⟩) q k) := (hv.alloc tmp).kept hgrow (by simp)
  refine ⟨hv1, hv1.set v', ?_, ?_, fun b hb h1 h2 => ?_⟩
  · refine ((KeepsOthers.alloc W tmp).trans (KeepsOthers.of_grownBy hgrow fun j o ej hj => ?_)).trans (KeepsOthers.setCell _ _ _)
    rcases (hrow.alloc tmp).2 with ⟨h, _⟩ | ⟨g, cap, cur, e, _, hgb, _⟩
    · exact absurd h (by simp)
    · obtain rfl : H = g := by injection e with e _ _; injection e with e; injection e
      obtain rfl : H = j := by simpa using ej
      rw [hgb] at hj; cases hj; rfl
  · exact (((Below.refl H W).alloc hH tmp).grown hgrow (by simp; omega) fun j ej => by injection ej with ej; omega).setCell (p := ⟨H + 1, 0, none⟩) (by simp) v'
  · rw [Below.heap_setCell w1 ⟨H + 1, 0, none⟩ v' b h2, hgrow.block b (by simp; omega) (by simp [h1])]
    exact Below.heap_alloc W tmp b hb
/-- what the loop holds between two rounds. -/
def Gathers (w : World) (k : Nat) (pre : List ByteArray) (W : World) : Prop :=
  (Boxed W (w.heap.size + 1) 38 (.slice (some ⟨w.heap.size, 0, none⟩) pre.length k) ∧ W.ownsRow w.heap.size 9 1 (.slice (some ⟨w.heap.size, 0, none⟩) pre.length k) pre.length (scells pre)) ∧ Below w.heap.size w W
theorem gathers_own (w : World) (k B : Nat) (hB : w.heap.size ≤ B) : OwnFrom B (Gathers w k) := by
  refine OwnFrom.and (Own.from ?_ _) (ownFrom_below (Nat.le_refl _) hB)
  rintro pre X Y row ⟨hv, hr⟩ hg hrow
  refine ⟨hv.kept hg fun e' => ?_, hr.kept hg (.inr fun e' => ?_)⟩
  · obtain ⟨o, ho, hc⟩ := hrow _ e'.symm
    rw [show X.heap[w.heap.size + 1]? = _ from hv] at ho; cases ho; cases hc
  · rcases hr.2 with ⟨h, _⟩ | ⟨g, cap, cur, e, _, hgb, _⟩
    · exact absurd h (by simp)
    · obtain rfl : w.heap.size = g := by injection e with e _ _; injection e with e; injection e
      obtain ⟨o, ho, hc⟩ := hrow w.heap.size (by simpa [Value.ownBlock] using e'.symm)
      rw [hgb] at ho; cases ho; cases hc
theorem kept_two {W W' : World} {B C k : Nat} {s : ByteArray} (h1 : B < W.heap.size → W'.heap[B]? = W.heap[B]?) (h2 : C < W.heap.size → W'.heap[C]? = W.heap[C]?) : KeepsTwo B C s k W W' := by
  refine ⟨fun h => ?_, fun h => ?_⟩
  · have := h1 (World.block_lt_of_cell? W _ h)
    unfold World.cell? at h ⊢
    show (match W'.heap[B]? with | _ => _) = _
    rw [this]; exact h
  · have := h2 (World.block_lt_of_cell? W _ h)
    unfold World.cell? at h ⊢
    show (match W'.heap[C]? with | _ => _) = _
    rw [this]; exact h

set_option maxHeartbeats 800000 in
theorem cut_bad (s : ByteArray) (k : Int) (w : World) (hs : s.size ≤ maxLen) (h : cErrZ s.size k ≠ 0) :
    Calls Tryz.prog 15 #[.string s, .int .i64 k] w (GivesSZ w [] (cErrZ s.size k)) := by
  unfold maxLen at hs
  by_cases h1 : k < 1
  · have H := Lib.hid (cErrZ_arg (n := s.size) (k := k) (Or.inl h1))
    clear h
    go_enter Tryz.func15, Tryz.ntmps15
    go_wp2_with fail
    go_ret2
    rw [H.out]
    exact ⟨_, _, _, rfl, Ss.nil _ _, Below.refl _ _⟩
  · by_cases h2 : 32 < k
    · have H := Lib.hid (cErrZ_arg (n := s.size) (k := k) (Or.inr h2))
      clear h
      have h1' : 1 ≤ k := by omega
      go_enter Tryz.func15, Tryz.ntmps15
      go_wp2_with fail
      go_ret2
      rw [H.out]
      exact ⟨_, _, _, rfl, Ss.nil _ _, Below.refl _ _⟩
    · have h1' : 1 ≤ k := by omega
      have h2' : k ≤ 32 := by omega
      clear h1 h2
      by_cases h3 : s.size < 1
      · have H := Lib.hid (cErrZ_long (n := s.size) h1' h2' (Or.inl h3))
        have h3' : (s.size : Int) < 1 := by omega
        clear h h3
        go_enter Tryz.func15, Tryz.ntmps15
        go_wp2_with fail
        go_ret2
        rw [H.out]
        exact ⟨_, _, _, rfl, Ss.nil _ _, Below.refl _ _⟩
      · have h3' : (1 : Int) ≤ (s.size : Int) := by omega
        have h4 : k * 1024 < (s.size : Int) := by
          rcases Int.lt_or_le (k * 1024) (s.size : Int) with h4 | h4
          · exact h4
          · exact absurd (cErrZ_ok h1' h2' (by omega) h4) h
        have H := Lib.hid (cErrZ_long (n := s.size) h1' h2' (Or.inr h4))
        clear h h3
        go_enter Tryz.func15, Tryz.ntmps15
        go_wp2_with fail
        go_ret2
        rw [H.out]
        exact ⟨_, _, _, rfl, Ss.nil _ _, Below.refl _ _⟩

set_option maxRecDepth 100000 in
set_option maxHeartbeats 2000000 in
theorem cut_good (s : ByteArray) (k : Nat) (w : World) (h1 : 1 ≤ k) (h2 : k ≤ 32) (h3 : 1 ≤ s.size) (h4 : s.size ≤ k * 1024) :
    Calls Tryz.prog 15 #[.string s, .int .i64 (k : Nat)] w (GivesSZ w (mkS k (piece (szN s.size k) s)) 0) := by
  obtain ⟨i0, hi0, hz0, hz1, hz2⟩ := info_parts Tryz.infoString
  have hmk : ∀ W, (Instr.makeSlice 38 (Value.int .i64 0) (Value.int .i64 (k : Int))).run Tryz.prog W = .ok (Value.slice (some ⟨W.heap.size, 0, none⟩) 0 k) (W.alloc (.cells (madeCells #[.string S0] k) 9)) := fun W => by
    have := run_makeSlice W 38 9 i0 (.string S0) Tryz.underlying38 hi0 hz0 .i64 .i64 0 (k : Int) (by omega) (by omega) (by rw [hz1]; omega) (by rw [hz2]; omega) (by omega)
    rw [this, hz1, Nat.mul_one]; rfl
  have HST := Lib.hid (fun n hn B C w => shards_stops n hn B C k (szN s.size k) s h1 h2 h3 h4 rfl w)
  generalize hm : szN s.size k = m at *
  have hk1 : (1 : Int) ≤ (k : Int) := by omega
  have hk2 : (k : Int) ≤ 32 := by omega
  have hs1 : (1 : Int) ≤ (s.size : Int) := by omega
  have hs2 : (s.size : Int) ≤ (k : Int) * 1024 := by omega
  clear hm h1 h3 h4
  refine (callsIn_wide (n := 3)).1 ?_
  refine callsIn_of_wp_marks Tryz.func15 rfl trivial ?_ rfl
  simp only [Tryz.ntmps15, List.size_toArray, List.length_cons, List.length_nil, Nat.reduceAdd, Nat.reduceSub, Array.replicate_succ, Array.replicate_zero, List.push_toArray, List.append_toArray, List.nil_append, List.cons_append]
  gi_wp2_with (refine ⟨trivial, ?_⟩; gi_at_call 24; refine (callsIn_wide.2 (shards_any s k _)).mono ?_; rintro e w' ⟨rfl, rfl⟩)
  obtain ⟨W0, hW0⟩ : ∃ W0, ((((w.alloc (.cells (madeCells #[Value.string S0] k) 9)).alloc (.cells #[Value.slice (some ⟨w.heap.size, 0, none⟩) 0 k] 38)).alloc (.cells #[Value.string s] 9)).alloc (.cells #[Value.int .i64 (k : Nat)] 3)) = W0 := ⟨_, rfl⟩
  have hz : W0.heap.size = w.heap.size + 4 := by rw [← hW0]; simp
  have hcB : W0.cell? ⟨w.heap.size + 1 + 1, 0, none⟩ = some (.string s) := by
    rw [← hW0, World.cell?_alloc_past _ _ _ (by simp), World.cell?_alloc_at _ _ _ _ (by simp)]; rfl
  have hcC : W0.cell? ⟨w.heap.size + 1 + 1 + 1, 0, none⟩ = some (.int .i64 (k : Nat)) := by
    rw [← hW0, World.cell?_alloc_at _ _ _ _ (by simp)]; rfl
  have hI0 : Gathers w k [] W0 := by
    rw [← hW0]
    have h1 : (w.alloc (.cells (madeCells #[Value.string S0] k) 9)).ownsRow w.heap.size 9 1 (.slice (some ⟨w.heap.size, 0, none⟩) 0 k) 0 [] :=
      ⟨rfl, .inr ⟨w.heap.size, k, _, rfl, Nat.le_refl _, heap_alloc_new w _, Nat.zero_le _, by unfold maxLen; omega, by simp [madeCells], by simp⟩⟩
    have h2' := Boxed.new (w.alloc (.cells (madeCells #[Value.string S0] k) 9)) 38 (.slice (some ⟨w.heap.size, 0, none⟩) 0 k)
    rw [World.size_alloc] at h2'
    exact ⟨⟨(h2'.alloc _).alloc _, ((h1.alloc _).alloc _).alloc _⟩, ((((Below.refl _ w).alloc (Nat.le_refl _) _).alloc (by simp) _).alloc (by simp; omega) _).alloc (by simp; omega) _⟩
  rw [hW0]
  have HI0 := Lib.hid hI0
  have HST2 := Lib.hid (HST.out (3 - 1) (by decide) (w.heap.size + 1 + 1) (w.heap.size + 1 + 1 + 1) W0 (by omega) (by omega) hcB hcC)
  clear hI0 HST hW0
  refine wpIn_rangeFunc_ownG (F := Fence.wide) rfl (by decide) (gf := 41) (lb := #[.pointer (some ⟨w.heap.size + 1 + 1, 0, none⟩), .pointer (some ⟨w.heap.size + 1 + 1 + 1, 0, none⟩)]) rfl trivial (enters_of Tryz.func41 (by kernel_rfl) rfl)
    HST2.out keepsTwo_t (keepsTwo_b (by omega) (by omega)) (Below.refl _ _) (fun _ => rfl)
    (Gathers w k) (fun _ _ _ => False) (gathers_own w k _ (by omega)) (fun _ _ _ _ _ hs _ _ => hs) HI0.out
    (fun x => { tmps := #[Value.string s, Value.int IntKind.i64 k, undef, undef, Value.slice none 0 0, Value.int IntKind.i64 0, Value.pointer (some ⟨w.heap.size + 1, 0, none⟩), Value.string x, Value.int IntKind.i64 k,
          Value.bool (decide ((k : Int) < 1)), Value.bool (decide ((k : Int) < 1)), Value.int IntKind.i64 k, Value.bool (decide (32 < (k : Int))), Value.bool (decide ((k : Int) < 1) || decide (32 < (k : Int))), Value.string s,
          Value.int IntKind.i64 s.size, Value.bool (decide ((s.size : Int) < 1)), Value.bool (decide ((s.size : Int) < 1)), Value.string s, Value.int IntKind.i64 s.size, Value.int IntKind.i64 k, Value.int IntKind.i64 ((k : Int) * 1024),
          Value.bool (decide ((k : Int) * 1024 < (s.size : Int))), Value.bool (decide ((s.size : Int) < 1) || decide ((k : Int) * 1024 < (s.size : Int))), Value.int IntKind.i64 k, Value.slice (some ⟨w.heap.size, 0, none⟩) 0 k, Value.string s, Value.int IntKind.i64 k,
          Value.func (Fn.func 41) #[] #[Value.pointer (some ⟨w.heap.size + 1 + 1, 0, none⟩), Value.pointer (some ⟨w.heap.size + 1 + 1 + 1, 0, none⟩)], Value.string x, undef, undef, undef, undef, undef], defers := [] }) ?assign ?body ?done ?stop
  case assign =>
    intro l x W K hK
    gi_wp2
    exact hK
  case body =>
    rintro l pre x W ⟨⟨hv, hrow⟩, hB⟩ hlt
    have hc := hv.cell
    have hpl : pre.length + 1 ≤ k := hlt
    have HR := Lib.hid hrow
    have HB := Lib.hid hB
    have HV := Lib.hid hv
    have hws := hB.size
    clear hrow hB hv
    gi_wp2_with (gi_at_builtin; refine wpListIn_append_fits _ rfl _ _ 38 rfl w.heap.size 9 i0 1 Tryz.underlying38 hi0 hz1 w.heap.size pre.length k (scells pre) rfl (HR.out.alloc _) ⟨W.heap.size, 0, none⟩ 1 1 [Value.string x] rfl rfl (cell_one_new _ _ _) (by simp [Value.oneCell']) hpl ?_; intro w1 hown1 hgrow; obtain ⟨hv1, hv2, hk2, hb2, hf2⟩ := gathered (v' := .slice (some ⟨w.heap.size, 0, none⟩) (pre.length + 1) k) hws HV.out HR.out hgrow; have hc1 := hv1.cell; have hf1 := hv1.frozen)
    refine ⟨hk2.from _, kept_two (fun h => hf2 _ h (by omega) (by omega)) (fun h => hf2 _ h (by omega) (by omega)), ⟨?_, ?_⟩, HB.out.trans hb2⟩
    · rw [List.length_append]; exact hv2
    · rw [List.length_append, ← scells_snoc]
      exact hown1.kept (grownBy_setCell' w1 (w.heap.size + 1) _) (.inr (by simp [Value.ownBlock]))
  case done =>
    rintro D ys W hD rfl ⟨⟨hv, hrow⟩, hB⟩ hK
    have hc := hv.cell
    have hlen := mkS_len k (piece m s)
    rw [hlen] at hc hrow
    have HR := Lib.hid hrow
    have HB := Lib.hid hB
    clear hrow hB hv hlen
    gi_wp2
    refine ⟨by simp, .inl ⟨_, _, rfl, run_takeDeferred hK, ?_⟩⟩
    have h3 := ownsRow_putObj HR.out (.deferred none) hK rfl
    obtain ⟨A', c', e', _, hs'⟩ := ss_of h3
    refine ⟨_, results_tmp2 rfl _ _ _, A', k, c', ?_, hs', HB.out.trans (belowK_b (w := w) (Nat.le_refl _) W D _ _ (by omega) hK rfl rfl)⟩
    rw [← e']; rfl
  case stop =>
    rintro D c pre W _ _ h _
    exact h.elim
theorem cut_any (s : ByteArray) (k : Int) (w : World) (hs : s.size ≤ maxLen) :
    Calls Tryz.prog 15 #[.string s, .int .i64 k] w (GivesSZ w (cOut s k) (cErrZ s.size k)) := by
  by_cases h : cErrZ s.size k = 0
  · have h' := h
    unfold cErrZ at h'
    split at h'
    · omega
    · split at h'
      · omega
      · obtain ⟨k', rfl⟩ := Int.eq_ofNat_of_zero_le (show 0 ≤ k by omega)
        rw [h, show cOut s (k' : Int) = _ from cOut_ok (by omega) (by omega) (by omega) (by omega)]
        exact cut_good s k' w (by omega) (by omega) (by omega) (by omega)
  · rw [cOut_err h]
    exact cut_bad s k w hs h
end Go.Proofs.YtooegclblgeicaaGreatDoor

/- Proved: lemmas of one statement's proof, merged by program: what each part proves stands ahead of it. Conditions: those that the lemmas name. -/
import Derived.Test.YtodokgkchmpmnaaGreatM29
import Derived.RangeFuncNested
import Derived.RangeFuncBound
import Derived.RangeFuncCalls
import Derived.RangeFuncLeaves
import Derived.Shelf.Abstract
import Derived.Shelf.RegionOpen
import Derived.OwnWalkIn
import Derived.TacticsInMore
import Derived.LoopNIn
import Derived.LoopIn

/- Proved: what the iterator of package flight hands to whatever loop goes over it: the numbers and the places of the blocks, in order. Conditions: those that the theorems name. -/
namespace Go.Proofs.YtodokgkchmpmnaaGreat
open Go.ChangeShapes Go.WideShapes Go.ChangeAt Go.RowKit
attribute [local go_sem] Oper.semAt_some

/-- the variable that the iterator has captured, and what it reads of the flight, are as they were. -/
def KeepsFl (C : Nat) (p : Option Addr) (nx : Int) (v : Value) (k : Nat) (W W' : World) : Prop :=
  (W.cell? ⟨C, 0, none⟩ = some (.pointer p) → W'.cell? ⟨C, 0, none⟩ = some (.pointer p)) ∧ (FlC W p nx v k → FlC W' p nx v k)
theorem keepsFl_t {C : Nat} {p : Option Addr} {nx : Int} {v : Value} {k : Nat} {X Y Z : World} (h : KeepsFl C p nx v k X Y) (g : KeepsFl C p nx v k Y Z) : KeepsFl C p nx v k X Z := ⟨fun x => g.1 (h.1 x), fun x => g.2 (h.2 x)⟩
theorem keepsFl_b {w : World} {C : Nat} {p : Option Addr} {nx : Int} {v : Value} {k : Nat} (W : World) (l : Nat) (o o' : Obj) (_ : w.heap.size ≤ l) (hl : W.heap[l]? = some o) (ho : o.isCells = false) (_ : o.isWalk = false) : KeepsFl C p nx v k W (W.putObj l o') :=
  ⟨fun h => cell_kept h (grownBy_putObj' W l o') (fun r e => by cases e; exact ⟨o, hl, ho⟩), fun h => h.kept (grownBy_putObj' W l o') (fun r e => by cases e; exact ⟨o, hl, ho⟩)⟩
theorem keepsFl_refl {C : Nat} {p : Option Addr} {nx : Int} {v : Value} {k : Nat} {W : World} : KeepsFl C p nx v k W W := ⟨fun h => h, fun h => h⟩

/-- the first q places. -/
abbrev finT (k q : Nat) : List (Fin k) := (List.finRange k).take q
theorem finT_len {k q : Nat} (h : q ≤ k) : (finT k q).length = q := by unfold finT; rw [List.length_take, List.length_finRange]; omega
theorem finT_succ {k q : Nat} (h : q < k) : finT k (q + 1) = finT k q ++ [⟨q, h⟩] := by
  unfold finT
  rw [List.take_succ_eq_append_getElem (by rw [List.length_finRange]; exact h)]
  simp
theorem finT_all (k : Nat) : finT k k = List.finRange k := List.take_of_length_le (by simp)
/-- what a round is handed. -/
abbrev flyV (nx : Int) (k g o : Nat) (x : Fin k) : Array Value := #[.int .u32 (fno nx k x.1), .pointer (some ⟨g, o + x.1 * 3, none⟩)]

theorem fno_walk (nx : Int) (k q : Nat) : IntKind.u32.wrap (fb nx k + IntKind.u32.wrap (q : Int)) = fno nx k q := by
  simp only [IntKind.wrap, IntKind.signed, IntKind.bits]
  unfold fno wpl fb
  simp

set_option maxRecDepth 100000 in
set_option maxHeartbeats 2000000 in
theorem fly1_in (n : Nat) (hn : 1 ≤ n) (l C : Nat) (p : Option Addr) (nx : Int) (v : Value) (k g o cap : Nat) (J Jx : List (Fin k) → World → Prop) (W : World) (hJ : AbidesFrom W.heap.size J)
    (hk : k ≤ 64) (hv : 0 < k → v = .slice (some ⟨g, o, none⟩) k cap)
    (hY : ∀ pre x W1, J pre W1 → pre.length < k → YieldAt Fence.wide (n - 1) Tryz.prog l (flyV nx k g o x) W1 fun e W' =>
      (e = .returned (.bool true) ∧ J (pre ++ [x]) W' ∧ KeepsFl C p nx v k W1 W') ∨ (e = .returned (.bool false) ∧ Jx (pre ++ [x]) W'))
    (hC : W.cell? ⟨C, 0, none⟩ = some (.pointer p)) (hF : FlC W p nx v k) (h0 : J [] W) :
    CallsIn Fence.wide n Tryz.prog 76 #[.func (.yield l) #[] #[], .pointer (some ⟨C, 0, none⟩)] W fun e W' => (∃ v, e = .returned v) ∧
      ((∃ ys, ys = List.finRange k ∧ J ys W') ∨ (∃ pre, pre <+: List.finRange k ∧ Jx pre W')) := by
  have HJ := Lib.hid hJ
  have HY := Lib.hid hY
  have HV := Lib.hid hv
  have HF := Lib.hid hF
  have HK := Lib.hid hk
  clear hJ hY hv hF hk
  refine callsIn_of_wp Tryz.func76 rfl trivial ?_ rfl
  simp only [Tryz.ntmps76, List.size_toArray, List.length_cons, List.length_nil, Nat.reduceAdd, Nat.reduceSub, Array.replicate_succ, Array.replicate_zero, List.push_toArray, List.append_toArray, List.nil_append, List.cons_append]
  gi_wp2_with (refine ⟨trivial, ?_⟩; gi_at_call 23; refine (callsIn_wide.2 (flc_len p nx v k _ HF.out)).mono ?_; rintro e w' ⟨rfl, rfl⟩)
  gi_loopw [6] (fun i wr => ∃ q : Nat, q ≤ k ∧ i = .int .i64 q ∧ J (finT k q) wr ∧ wr.cell? ⟨C, 0, none⟩ = some (.pointer p) ∧ Hid (FlC wr p nx v k))
    (fun i _ => k - (intOf i).toNat)
  case atStart => exact ⟨0, by omega, rfl, h0, hC, HF⟩
  case round =>
    obtain ⟨q, hq, rfl, hj, hc, hf⟩ := hrel
    by_cases hlt : q < k
    · have hlt' : (q : Int) < (k : Int) := by omega
      have hq0 : (0 : Int) ≤ (q : Int) := Int.natCast_nonneg _
      have hk64 : (k : Int) ≤ 64 := by have := HK.out; omega
      have hjd := fun z => HJ.out _ _ _ none hj (grown_drewN wr z none) (fun r e => by cases e)
      obtain rfl : v = .slice (some ⟨g, o, none⟩) k cap := HV.out (by omega)
      obtain ⟨f, A, cap', rfl, e1, _, c2⟩ : ∃ f A cap', p = some ⟨f, 0, none⟩ ∧ Value.slice (some ⟨g, o, none⟩) k cap = .slice A k cap' ∧ wr.cell? ⟨f, 1, none⟩ = some (.int .u32 nx) ∧ wr.cell? ⟨f, 2, none⟩ = some (Value.slice (some ⟨g, o, none⟩) k cap) := by
        rcases hf.out with ⟨_, _, e⟩ | h
        · omega
        · exact h
      clear e1
      have hj1 : J (finT k q) wr.drew := HJ.out _ _ _ none hj (grown_drew wr none) (fun r e => by cases e)
      have HY1 := (HY.out _ ⟨q, hlt⟩ wr.drew hj1 (by rw [finT_len hq]; exact hlt)).mono (R' := fun e W' => ∃ b : Bool, e = .returned (.bool b) ∧ (b = true → J (finT k (q + 1)) W' ∧ KeepsFl C (some ⟨f, 0, none⟩) nx (.slice (some ⟨g, o, none⟩) k cap) k wr.drew W') ∧ (b = false → Jx (finT k (q + 1)) W')) (fun e W' h => by
        rw [finT_succ hlt]
        rcases h with ⟨rfl, h1, h2⟩ | ⟨rfl, h1⟩
        · exact ⟨true, rfl, fun _ => ⟨h1, h2⟩, (fun e => (nomatch e))⟩
        · exact ⟨false, rfl, (fun e => (nomatch e)), fun _ => h1⟩)
      obtain ⟨fn, tmps, assign, body, hy, hR⟩ := HY1
      have HB := Lib.hid (flc_base (some ⟨f, 0, none⟩) nx (.slice (some ⟨g, o, none⟩) k cap) k wr.drew hf.out HK.out)
      have hr0 : Tryz.prog.follows .mixedOrders = true := by kernel_rfl
      have hcd : wr.drew.cell? ⟨C, 0, none⟩ = some (.pointer (some ⟨f, 0, none⟩)) := hc
      have c2d : wr.drew.cell? ⟨f, 2, none⟩ = some (Value.slice (some ⟨g, o, none⟩) k cap) := c2
      dsimp only [flyV] at hy
      rw [← fno_walk nx k q] at hy
      gi_wp2
      gi_region_with (first | (refine ⟨trivial, ?_⟩; gi_at_call 39; refine (callsIn_wide.2 HB.out).mono ?_; rintro e w' ⟨rfl, rfl⟩) | (refine hR.mono ?_; rintro e W3 ⟨b, rfl, hb1, hb2⟩))
      all_goals clear hy hR HB hj1 hcd c2d hj
      all_goals
        cases b with
        | true =>
          obtain ⟨hj3, hk3⟩ := hb1 rfl
          have hc3 := hk3.1 hc
          have hf3 := Lib.hid (hk3.2 (hf.out.drewN 1))
          clear hb1 hb2 hk3 hc c2 hf
          gi_wp2
          go_roundw
          case rel => exact ⟨q + 1, by omega, by go_num, hj3, hc3, hf3⟩
          case measure => simp [intOf]; omega
        | false =>
          have hx3 := hb2 rfl
          clear hb1 hb2
          gi_wp2
          refine bodyPost_ret (results_none rfl _ _ _) rfl ?_
          exact ⟨⟨_, rfl⟩, .inr ⟨_, List.take_prefix _ _, hx3⟩⟩
    · obtain rfl : q = k := by omega
      gi_wp2
      go_end0
      exact ⟨⟨_, rfl⟩, .inl ⟨_, finT_all q, hj⟩⟩
/-- the value that flying answers hands its blocks to whatever loop goes over it. -/
theorem fly_stops (n : Nat) (hn : 1 ≤ n) (C : Nat) (p : Option Addr) (nx : Int) (v : Value) (k g o cap : Nat) (w : World) (hk : k ≤ 64) (hv : 0 < k → v = .slice (some ⟨g, o, none⟩) k cap)
    (hC : C < w.heap.size) (hc : w.cell? ⟨C, 0, none⟩ = some (.pointer p)) (hF : FlC w p nx v k) :
    SeqStopsK Fence.wide n Tryz.prog 76 #[.pointer (some ⟨C, 0, none⟩)] (flyV nx k g o) (KeepsFl C p nx v k) (fun ys => ys = List.finRange k) (fun pre => pre <+: List.finRange k) k w :=
  fun l J Jx W hW hJ _ hY h0 =>
    fly1_in n hn l C p nx v k g o cap J Jx W hJ hk hv hY ((hW.cell (p := ⟨C, 0, none⟩) hC).trans hc) (hF.below hW) h0
end Go.Proofs.YtodokgkchmpmnaaGreat

/- Proved: what Body of package flight answers, of a flight and of none. Conditions: those that the theorems name. -/
namespace Go.Proofs.YtodokgkchmpmnaaGreat
open Go.ChangeShapes Go.WideShapes Go.ChangeAt Go.RowKit
attribute [local go_sem] Oper.semAt_some

/-- block x is there, at place i; or it isn't. -/
def BodyIs (nx : Int) (L : List Bl) (x : Int) (y : Bl) (is : Bool) : Prop :=
  (∃ i, i < L.length ∧ fno nx L.length i = x ∧ y = L.getD i bl0 ∧ is = true) ∨ ((∀ i, i < L.length → fno nx L.length i ≠ x) ∧ y = bl0 ∧ is = false)

/-- the results' boxes. -/
def BodyAt (n0 : Nat) (y : Bl) (is : Bool) (W : World) : Prop :=
  Boxed W (n0 + 1) 9 (.string y.body) ∧ Boxed W (n0 + 1 + 1) 3 (.int .i64 y.n) ∧ Boxed W (n0 + 1 + 1 + 1) 4 (.bool is)
theorem boxed_own_ {W W' : World} {row : Option Nat} {B : Nat} {t : TypeId} {v : Value} (h : Boxed W B t v) (hg : W.grownBy W' row) (hr : ∀ i, row = some i → ∃ o : Obj, W.heap[i]? = some o ∧ o.isCells = false) : Boxed W' B t v :=
  h.kept hg fun e => by
    obtain ⟨o, ho, hc⟩ := hr B e.symm
    rw [show W.heap[B]? = _ from h] at ho; cases ho; cases hc
theorem BodyAt.own {n0 : Nat} {y : Bl} {is : Bool} {W W' : World} {row : Option Nat} (h : BodyAt n0 y is W) (hg : W.grownBy W' row) (hr : ∀ i, row = some i → ∃ o : Obj, W.heap[i]? = some o ∧ o.isCells = false) : BodyAt n0 y is W' :=
  ⟨boxed_own_ h.1 hg hr, boxed_own_ h.2.1 hg hr, boxed_own_ h.2.2 hg hr⟩
theorem BodyAt.set_ {n0 : Nat} {y : Bl} {is : Bool} {W : World} (h : BodyAt n0 y is W) (z : Bl) (b : Bool) :
    BodyAt n0 z b (((W.setCell ⟨n0 + 1, 0, none⟩ (.string z.body)).setCell ⟨n0 + 1 + 1, 0, none⟩ (.int .i64 z.n)).setCell ⟨n0 + 1 + 1 + 1, 0, none⟩ (.bool b)) :=
  ⟨((h.1.set _).other (by omega) _).other (by omega) _, ((h.2.1.other (by omega) _).set _).other (by omega) _, ((h.2.2.other (by omega) _).other (by omega) _).set _⟩
theorem body_below {n0 : Nat} {w W : World} (h : Below n0 w W) (a b c : Value) :
    Below n0 w (((W.setCell ⟨n0 + 1, 0, none⟩ a).setCell ⟨n0 + 1 + 1, 0, none⟩ b).setCell ⟨n0 + 1 + 1 + 1, 0, none⟩ c) :=
  ((h.setCell (p := ⟨n0 + 1, 0, none⟩) (by show n0 ≤ n0 + 1; omega) a).setCell (p := ⟨n0 + 1 + 1, 0, none⟩) (by show n0 ≤ n0 + 1 + 1; omega) b).setCell (p := ⟨n0 + 1 + 1 + 1, 0, none⟩) (by show n0 ≤ n0 + 1 + 1 + 1; omega) c
theorem body_others (W : World) (p q r : Addr) (a b c : Value) : KeepsOthers W (((W.setCell p a).setCell q b).setCell r c) :=
  ((KeepsOthers.setCell W p a).trans (KeepsOthers.setCell _ q b)).trans (KeepsOthers.setCell _ r c)
theorem res_body {T : Array Value} {W : World} {n0 : Nat} {y : Bl} {is : Bool} (h4 : T.getD 4 undef = .pointer (some ⟨n0 + 1, 0, none⟩)) (h5 : T.getD 5 undef = .pointer (some ⟨n0 + 1 + 1, 0, none⟩)) (h6 : T.getD 6 undef = .pointer (some ⟨n0 + 1 + 1 + 1, 0, none⟩)) (A : BodyAt n0 y is W) :
    (results Tryz.f50 T).run Tryz.prog W = .ok (.tuple #[.string y.body, .int .i64 y.n, .bool is]) W := by
  have h4' : T[4]?.getD undef = .pointer (some ⟨n0 + 1, 0, none⟩) := by simpa using h4
  have h5' : T[5]?.getD undef = .pointer (some ⟨n0 + 1 + 1, 0, none⟩) := by simpa using h5
  have h6' : T[6]?.getD undef = .pointer (some ⟨n0 + 1 + 1 + 1, 0, none⟩) := by simpa using h6
  have c0 := A.1.cell
  have c1 := A.2.1.cell
  have c2 := A.2.2.cell
  simp [results, Tryz.results50, h4', h5', h6', c0, c1, c2, go_sem]
/-- what holds between two rounds. -/
def BodyI (nx : Int) (k : Nat) (x : Int) (n0 : Nat) (w : World) (pre : List (Fin k)) (W : World) : Prop :=
  ((∀ y ∈ pre, fno nx k y.1 ≠ x) ∧ Boxed W n0 22 (.int .u32 x) ∧ BodyAt n0 bl0 false W) ∧ Below n0 w W
/-- what holds where a round returned. -/
def BodyX (nx : Int) (k : Nat) (L : List Bl) (x : Int) (n0 : Nat) (w : World) (c : Code) (pre : List (Fin k)) (W : World) : Prop :=
  (c = .ret ∧ (∃ y ∈ pre, fno nx k y.1 = x ∧ BodyAt n0 (L.getD y.1 bl0) true W)) ∧ Below n0 w W
theorem bodyI_own {nx : Int} {k : Nat} {x : Int} {n0 : Nat} {w : World} {B : Nat} (hn : n0 ≤ w.heap.size) (hB : n0 ≤ B) : OwnFrom B (BodyI nx k x n0 w) :=
  OwnFrom.and (Own.from (fun _ _ _ _ hs hg hr => ⟨hs.1, boxed_own_ hs.2.1 hg hr, hs.2.2.own hg hr⟩) _) (ownFrom_below hn hB)
theorem bodyX_own {nx : Int} {k : Nat} {L : List Bl} {x : Int} {n0 : Nat} {w : World} {B : Nat} (hn : n0 ≤ w.heap.size) (hB : n0 ≤ B) (c : Code) : OwnFrom B (BodyX nx k L x n0 w c) :=
  OwnFrom.and (Own.from (fun _ _ _ _ hs hg hr => ⟨hs.1, by
    obtain ⟨y, hy, h1, h2⟩ := hs.2
    exact ⟨y, hy, h1, h2.own hg hr⟩⟩) _) (ownFrom_below hn hB)

theorem body_round {nx : Int} {k : Nat} {L : List Bl} {x : Int} {n0 B : Nat} {w W : World} {pre : List (Fin k)} {y : Fin k} {u : Bl} {b : Bool} (he : fno nx k y.1 = x) (h : BodyAt n0 u b W) (hB : Below n0 w W) (z : Bl) (hz : z = L.getD y.1 bl0) :
    KeepsFrom B W (((W.setCell ⟨n0 + 1, 0, none⟩ (.string z.body)).setCell ⟨n0 + 1 + 1, 0, none⟩ (.int .i64 z.n)).setCell ⟨n0 + 1 + 1 + 1, 0, none⟩ (.bool true)).drew ∧
      BodyX nx k L x n0 w .ret (pre ++ [y]) (((W.setCell ⟨n0 + 1, 0, none⟩ (.string z.body)).setCell ⟨n0 + 1 + 1, 0, none⟩ (.int .i64 z.n)).setCell ⟨n0 + 1 + 1 + 1, 0, none⟩ (.bool true)).drew := by
  subst hz
  refine ⟨((body_others _ _ _ _ _ _ _).trans (KeepsOthers.drew _)).from _, ⟨rfl, y, List.mem_append.2 (.inr (List.mem_singleton.2 rfl)), he, ?_⟩, ?_⟩
  · exact h.set_ _ _
  · exact (body_below hB _ _ _).trans ((Below.refl _ _).grown (grown_drew _ none) (by have := (body_below hB (.string (L.getD y.1 bl0).body) (.int .i64 (L.getD y.1 bl0).n) (.bool true)).size; exact Nat.le_of_lt (Nat.lt_of_lt_of_le (Nat.lt_of_succ_lt h.1.lt) (by simp [World.setCell]))) (fun _ e => (nomatch e)))

set_option maxRecDepth 100000 in
set_option maxHeartbeats 2000000 in
theorem body_any (p : Option Addr) (nx : Int) (r : Option Nat) (v : Value) (L : List Bl) (x : Int) (w : World) (h : FlO w p nx r v L) :
    Calls Tryz.prog 50 #[.pointer p, .int .u32 x] w fun e w' => ∃ y is, BodyIs nx L x y is ∧ e = .returned (.tuple #[.string y.body, .int .i64 y.n, .bool is]) ∧ Below w.heap.size w w' := by
  have HF := Lib.hid h
  have hk64 := Lib.hid h.n64
  obtain ⟨k, hk⟩ : ∃ k, L.length = k := ⟨_, rfl⟩
  have hform : ∃ g o cap, 0 < k → r = some g ∧ v = .slice (some ⟨g, o, none⟩) k cap ∧ g < w.heap.size ∧ ∀ i, i < k → (∀ j u, (L.getD i bl0).cells[j]? = some u → w.cell? ⟨g, o + (i * 3 + j), none⟩ = some u) := by
    rcases Nat.eq_zero_or_pos k with e | e
    · exact ⟨0, 0, 0, fun h => by omega⟩
    · obtain ⟨f, wd, rfl, hf⟩ := h.some_ (by omega)
      obtain ⟨g, o, cap, h1, h2, _, h3, _, _⟩ := hf.place (i := 0) (by omega)
      refine ⟨g, o, cap, fun _ => ⟨h1, by rw [← hk]; exact h2, h3, fun i hi => ?_⟩⟩
      obtain ⟨g', o', cap', h1', h2', _, _, h4', _⟩ := hf.place (i := i) (by omega)
      rw [h1] at h1'; injection h1' with e1
      rw [h2] at h2'; injection h2' with e2; injection e2 with e2; injection e2 with e2 e3
      subst e1; subst e3
      exact h4'
  obtain ⟨g, o, cap, hrow⟩ := hform
  have HR := Lib.hid hrow
  have HC := Lib.hid h.c
  have HK := Lib.hid hk
  rw [hk] at HC hk64
  clear h hrow hk
  refine (callsIn_wide (n := 3)).1 ?_
  refine callsIn_of_wp_marks Tryz.func50 rfl trivial ?_ rfl
  simp only [Tryz.ntmps50, List.size_toArray, List.length_cons, List.length_nil, Nat.reduceAdd, Nat.reduceSub, Array.replicate_succ, Array.replicate_zero, List.push_toArray, List.append_toArray, List.nil_append, List.cons_append]
  gi_wp2_with (refine ⟨trivial, ?_⟩; gi_at_call 54; refine (callsIn_wide.2 (flying_any p _)).mono ?_; rintro e w' ⟨rfl, rfl⟩)
  obtain ⟨W0, hW0⟩ : ∃ W0, (((((w.alloc (.cells #[Value.int .u32 x] 22)).alloc (.cells #[Value.string { data := #[] }] 9)).alloc (.cells #[Value.int .i64 0] 3)).alloc (.cells #[Value.bool false] 4)).alloc (.cells #[Value.pointer p] 45)) = W0 := ⟨_, rfl⟩
  have hz : W0.heap.size = w.heap.size + 5 := by rw [← hW0]; simp
  have hb : Below w.heap.size w W0 := by
    rw [← hW0]
    exact (((((Below.refl _ w).alloc (Nat.le_refl _) _).alloc (by simp) _).alloc (by simp; omega) _).alloc (by simp; omega) _).alloc (by simp; omega) _
  have hcC : W0.cell? ⟨w.heap.size + 1 + 1 + 1 + 1, 0, none⟩ = some (.pointer p) := by
    rw [← hW0, World.cell?_alloc_at _ _ _ _ (by simp)]; rfl
  have hI0 : BodyI nx k x w.heap.size w [] W0 := by
    refine ⟨⟨by simp, ?_, ?_, ?_, ?_⟩, hb⟩
    · rw [← hW0]; exact ((((Boxed.new w _ _).alloc _).alloc _).alloc _).alloc _
    · rw [← hW0]
      have h := Boxed.new (w.alloc (.cells #[Value.int .u32 x] 22)) 9 (.string { data := #[] })
      simp only [World.size_alloc] at h
      exact ((h.alloc _).alloc _).alloc _
    · rw [← hW0]
      have h := Boxed.new ((w.alloc (.cells #[Value.int .u32 x] 22)).alloc (.cells #[Value.string { data := #[] }] 9)) 3 (.int .i64 0)
      simp only [World.size_alloc] at h
      exact (h.alloc _).alloc _
    · rw [← hW0]
      have h := Boxed.new (((w.alloc (.cells #[Value.int .u32 x] 22)).alloc (.cells #[Value.string { data := #[] }] 9)).alloc (.cells #[Value.int .i64 0] 3)) 4 (.bool false)
      simp only [World.size_alloc] at h
      exact h.alloc _
  rw [hW0]
  have HI0 := Lib.hid hI0
  have HST := Lib.hid (fly_stops (3 - 1) (by decide) (w.heap.size + 1 + 1 + 1 + 1) p nx v k g o cap W0 hk64.out (fun h => (HR.out h).2.1) (by omega) hcC (HC.out.below hb))
  clear hI0 hW0 hb hcC
  refine wpIn_rangeFunc_ownG (F := Fence.wide) rfl (by decide) (gf := 76) (lb := #[.pointer (some ⟨w.heap.size + 1 + 1 + 1 + 1, 0, none⟩)]) rfl trivial (enters_of Tryz.func76 (by kernel_rfl) rfl)
    HST.out keepsFl_t keepsFl_b (Below.refl _ _) (fun _ => rfl)
    (BodyI nx k x w.heap.size w) (BodyX nx k L x w.heap.size w) (bodyI_own (Nat.le_refl _) (by omega)) (bodyX_own (Nat.le_refl _) (by omega)) HI0.out
    (fun y => { tmps := #[Value.pointer p, Value.int IntKind.u32 x, undef, Value.pointer (some ⟨w.heap.size, 0, none⟩),
          Value.pointer (some ⟨w.heap.size + 1, 0, none⟩), Value.pointer (some ⟨w.heap.size + 1 + 1, 0, none⟩), Value.pointer (some ⟨w.heap.size + 1 + 1 + 1, 0, none⟩),
          Value.int .u32 (fno nx k y.1), Value.pointer (some ⟨g, o + y.1 * 3, none⟩), Value.pointer p,
          Value.func (Fn.func 76) #[] #[Value.pointer (some ⟨w.heap.size + 1 + 1 + 1 + 1, 0, none⟩)], Value.int .u32 (fno nx k y.1),
          Value.pointer (some ⟨g, o + y.1 * 3, none⟩), undef, undef, undef, undef, undef, undef, undef, undef, undef, undef, undef], defers := [] }) ?assign ?body ?done ?stop
  case assign =>
    intro l x W K hK
    gi_wp2
    exact hK
  case body =>
    rintro l pre y W ⟨⟨hp, hbx, hat⟩, hB⟩ hlt
    have hcx := hbx.cell
    obtain ⟨-, -, hg, hcells⟩ := HR.out (by have := y.2; omega)
    have hc0 := (hB.cell (p := ⟨g, o + (y.1 * 3 + 0), none⟩) hg).trans (hcells y.1 y.2 0 _ rfl)
    have hc1 := (hB.cell (p := ⟨g, o + (y.1 * 3 + 1), none⟩) hg).trans (hcells y.1 y.2 1 _ rfl)
    have HX := Lib.hid (And.intro hp (And.intro hbx hat))
    have HB := Lib.hid hB
    rw [← Nat.add_assoc, Nat.add_zero] at hc0
    rw [← Nat.add_assoc] at hc1
    have a0 := hat.1.cell
    have a1 := hat.2.1.cell
    have a2 := hat.2.2.cell
    have f0 := hat.1.frozen
    have f1 := hat.2.1.frozen
    have f2 := hat.2.2.frozen
    clear hp hbx hat hB hcells
    by_cases he : fno nx k y.1 = x
    · have hr0 : Tryz.prog.follows .mixedOrders = true := by kernel_rfl
      have ne1 : g ≠ w.heap.size + 1 := by omega
      have ne2 : g ≠ w.heap.size + 1 + 1 := by omega
      have ne3 : g ≠ w.heap.size + 1 + 1 + 1 := by omega
      have HE := Lib.hid (body_round (B := W0.heap.size) (pre := pre) he HX.out.2.2 HB.out (L[y.1]?.getD bl0) rfl)
      clear HX HB HI0 HST HR HC HF hk64 HK
      gi_wp2
      gi_region_o
      all_goals
        gi_wp2
        exact HE.out
    · gi_wp2
      refine ⟨(KeepsOthers.refl _).from _, keepsFl_refl, ⟨?_, HX.out.2⟩, HB.out⟩
      intro z hz
      rcases List.mem_append.1 hz with h | h
      · exact HX.out.1 z h
      · obtain rfl := List.mem_singleton.1 h
        exact he
  case done =>
    rintro D ys W hD rfl ⟨⟨hp, hbx, hat⟩, hB⟩ hK
    have HX := Lib.hid (And.intro hp hat)
    have HB := Lib.hid hB
    have a0 := hat.1.cell
    have a1 := hat.2.1.cell
    have a2 := hat.2.2.cell
    have f0 := hat.1.frozen
    have f1 := hat.2.1.frozen
    have f2 := hat.2.2.frozen
    clear hp hbx hat hB
    gi_wp2
    have hK' := (body_others W ⟨w.heap.size + 1, 0, none⟩ ⟨w.heap.size + 1 + 1, 0, none⟩ ⟨w.heap.size + 1 + 1 + 1, 0, none⟩ (.string { data := #[] }) (.int .i64 0) (.bool false)).same D _ hK rfl
    refine ⟨by simp, .inl ⟨_, _, rfl, run_takeDeferred hK', ?_⟩⟩
    have hA := (HX.out.2.set_ bl0 false).own (grownBy_putObj' _ D (.deferred none)) (fun r e => by cases e; exact ⟨_, hK', rfl⟩)
    refine ⟨_, res_body rfl rfl rfl hA, bl0, false, .inr ⟨fun i hi e => HX.out.1 ⟨i, HK.out ▸ hi⟩ (List.mem_finRange _) (by rw [HK.out] at e; exact e), rfl, rfl⟩, rfl, ?_⟩
    exact (body_below HB.out _ _ _).trans (belowK_b (w := w) (Nat.le_refl _) _ D _ _ (by omega) hK' rfl rfl)
  case stop =>
    rintro D c pre W hD hpre ⟨⟨rfl, y, hy, he, hat⟩, hB⟩ hK
    have HX := Lib.hid hat
    have HB := Lib.hid hB
    clear hat hB
    gi_wp2
    refine ⟨by simp, .inl ⟨_, _, rfl, run_takeDeferred hK, ?_⟩⟩
    have hA := HX.out.own (grownBy_putObj' _ D (.deferred none)) (fun r e => by cases e; exact ⟨_, hK, rfl⟩)
    refine ⟨_, res_body rfl rfl rfl hA, L.getD y.1 bl0, true, .inl ⟨y.1, by rw [HK.out]; exact y.2, by rw [HK.out]; exact he, rfl, rfl⟩, rfl, ?_⟩
    exact HB.out.trans (belowK_b (w := w) (Nat.le_refl _) _ D _ _ (by omega) hK rfl rfl)
end Go.Proofs.YtodokgkchmpmnaaGreat

/- Proved: what the iterator of package flight hands to whatever loop goes over it: the numbers and the places of the blocks, in order. Conditions: those that the theorems name. -/
import Derived.Test.YtgnalabblhokmaaFlBase
import Derived.RangeFuncNested
import Derived.RangeFuncBound
import Derived.RangeFuncCalls
import Derived.RangeFuncLeaves
import Derived.Shelf.Abstract
import Derived.Shelf.RegionOpen
import Derived.OwnWalkIn
import Derived.TacticsInMore
import Derived.LoopNIn
import Derived.LoopIn
namespace Go.Proofs.Ytgnalabblhokmaa
open Go.ChangeShapes Go.WideShapes Go.ChangeAt Go.RowKit
attribute [local go_sem] Oper.semAt_some

/-- the variable that the iterator has captured, and what it reads of the flight, are as they were. -/
def KeepsFl (C : Nat) (p : Option Addr) (nx : Int) (v : Value) (k : Nat) (W W' : World) : Prop :=
  (W.cell? ⟨C, 0, none⟩ = some (.pointer p) → W'.cell? ⟨C, 0, none⟩ = some (.pointer p)) ∧ (FlC W p nx v k → FlC W' p nx v k)
theorem keepsFl_t {C : Nat} {p : Option Addr} {nx : Int} {v : Value} {k : Nat} {X Y Z : World} (h : KeepsFl C p nx v k X Y) (g : KeepsFl C p nx v k Y Z) : KeepsFl C p nx v k X Z := ⟨fun x => g.1 (h.1 x), fun x => g.2 (h.2 x)⟩
theorem keepsFl_b {w : World} {C : Nat} {p : Option Addr} {nx : Int} {v : Value} {k : Nat} (W : World) (l : Nat) (o o' : Obj) (_ : w.heap.size ≤ l) (hl : W.heap[l]? = some o) (ho : o.isCells = false) (_ : o.isWalk = false) : KeepsFl C p nx v k W (W.putObj l o') :=
  ⟨fun h => cell_kept h (grownBy_putObj' W l o') (fun r e => by cases e; exact ⟨o, hl, ho⟩), fun h => h.kept (grownBy_putObj' W l o') (fun r e => by cases e; exact ⟨o, hl, ho⟩)⟩
theorem keepsFl_refl {C : Nat} {p : Option Addr} {nx : Int} {v : Value} {k : Nat} {W : World} : KeepsFl C p nx v k W W := ⟨fun h => h, fun h => h⟩

/-- the first q places. -/
abbrev finT (k q : Nat) : List (Fin k) := (List.finRange k).take q
theorem finT_len {k q : Nat} (h : q ≤ k) : (finT k q).length = q := by unfold finT; rw [List.length_take, List.length_finRange]; omega
theorem finT_succ {k q : Nat} (h : q < k) : finT k (q + 1) = finT k q ++ [⟨q, h⟩] := by
  unfold finT
  rw [List.take_succ_eq_append_getElem (by rw [List.length_finRange]; exact h)]
  simp
theorem finT_all (k : Nat) : finT k k = List.finRange k := List.take_of_length_le (by simp)
/-- what a round is handed. -/
abbrev flyV (nx : Int) (k g o : Nat) (x : Fin k) : Array Value := #[.int .u32 (fno nx k x.1), .pointer (some ⟨g, o + x.1 * 3, none⟩)]

theorem fno_walk (nx : Int) (k q : Nat) : IntKind.u32.wrap (fb nx k + IntKind.u32.wrap (q : Int)) = fno nx k q := by
  simp only [IntKind.wrap, IntKind.signed, IntKind.bits]
  unfold fno wpl fb
  simp

set_option maxRecDepth 100000 in
set_option maxHeartbeats 2000000 in
theorem fly1_in (n : Nat) (hn : 1 ≤ n) (l C : Nat) (p : Option Addr) (nx : Int) (v : Value) (k g o cap : Nat) (J Jx : List (Fin k) → World → Prop) (W : World) (hJ : AbidesFrom W.heap.size J)
    (hk : k ≤ 64) (hv : 0 < k → v = .slice (some ⟨g, o, none⟩) k cap)
    (hY : ∀ pre x W1, J pre W1 → pre.length < k → YieldAt Fence.wide (n - 1) Try.prog l (flyV nx k g o x) W1 fun e W' =>
      (e = .returned (.bool true) ∧ J (pre ++ [x]) W' ∧ KeepsFl C p nx v k W1 W') ∨ (e = .returned (.bool false) ∧ Jx (pre ++ [x]) W'))
    (hC : W.cell? ⟨C, 0, none⟩ = some (.pointer p)) (hF : FlC W p nx v k) (h0 : J [] W) :
    CallsIn Fence.wide n Try.prog 23 #[.func (.yield l) #[] #[], .pointer (some ⟨C, 0, none⟩)] W fun e W' => (∃ v, e = .returned v) ∧
      ((∃ ys, ys = List.finRange k ∧ J ys W') ∨ (∃ pre, pre <+: List.finRange k ∧ Jx pre W')) := by
  have HJ := Lib.hid hJ
  have HY := Lib.hid hY
  have HV := Lib.hid hv
  have HF := Lib.hid hF
  have HK := Lib.hid hk
  clear hJ hY hv hF hk
  refine callsIn_of_wp Try.func23 rfl trivial ?_ rfl
  simp only [Try.ntmps23, List.size_toArray, List.length_cons, List.length_nil, Nat.reduceAdd, Nat.reduceSub, Array.replicate_succ, Array.replicate_zero, List.push_toArray, List.append_toArray, List.nil_append, List.cons_append]
  gi_wp2_with (refine ⟨trivial, ?_⟩; gi_at_call 11; refine (callsIn_wide.2 (flc_len p nx v k _ HF.out)).mono ?_; rintro e w' ⟨rfl, rfl⟩)
  gi_loopw [6] (fun i wr => ∃ q : Nat, q ≤ k ∧ i = .int .i64 q ∧ J (finT k q) wr ∧ wr.cell? ⟨C, 0, none⟩ = some (.pointer p) ∧ Hid (FlC wr p nx v k))
    (fun i _ => k - (intOf i).toNat)
  case atStart => exact ⟨0, by omega, rfl, h0, hC, HF⟩
  case round =>
    obtain ⟨q, hq, rfl, hj, hc, hf⟩ := hrel
    by_cases hlt : q < k
    · have hlt' : (q : Int) < (k : Int) := by omega
      have hq0 : (0 : Int) ≤ (q : Int) := Int.natCast_nonneg _
      have hk64 : (k : Int) ≤ 64 := by have := HK.out; omega
      have hjd := fun z => HJ.out _ _ _ none hj (grown_drewN wr z none) (fun r e => by cases e)
      obtain rfl : v = .slice (some ⟨g, o, none⟩) k cap := HV.out (by omega)
      obtain ⟨f, A, cap', rfl, e1, _, c2⟩ : ∃ f A cap', p = some ⟨f, 0, none⟩ ∧ Value.slice (some ⟨g, o, none⟩) k cap = .slice A k cap' ∧ wr.cell? ⟨f, 1, none⟩ = some (.int .u32 nx) ∧ wr.cell? ⟨f, 2, none⟩ = some (Value.slice (some ⟨g, o, none⟩) k cap) := by
        rcases hf.out with ⟨_, _, e⟩ | h
        · omega
        · exact h
      clear e1
      have hj1 : J (finT k q) wr.drew := HJ.out _ _ _ none hj (grown_drew wr none) (fun r e => by cases e)
      have HY1 := (HY.out _ ⟨q, hlt⟩ wr.drew hj1 (by rw [finT_len hq]; exact hlt)).mono (R' := fun e W' => ∃ b : Bool, e = .returned (.bool b) ∧ (b = true → J (finT k (q + 1)) W' ∧ KeepsFl C (some ⟨f, 0, none⟩) nx (.slice (some ⟨g, o, none⟩) k cap) k wr.drew W') ∧ (b = false → Jx (finT k (q + 1)) W')) (fun e W' h => by
        rw [finT_succ hlt]
        rcases h with ⟨rfl, h1, h2⟩ | ⟨rfl, h1⟩
        · exact ⟨true, rfl, fun _ => ⟨h1, h2⟩, (fun e => (nomatch e))⟩
        · exact ⟨false, rfl, (fun e => (nomatch e)), fun _ => h1⟩)
      obtain ⟨fn, tmps, assign, body, hy, hR⟩ := HY1
      have HB := Lib.hid (flc_base (some ⟨f, 0, none⟩) nx (.slice (some ⟨g, o, none⟩) k cap) k wr.drew hf.out HK.out)
      have hr0 : Try.prog.follows .mixedOrders = true := by kernel_rfl
      have hcd : wr.drew.cell? ⟨C, 0, none⟩ = some (.pointer (some ⟨f, 0, none⟩)) := hc
      have c2d : wr.drew.cell? ⟨f, 2, none⟩ = some (Value.slice (some ⟨g, o, none⟩) k cap) := c2
      dsimp only [flyV] at hy
      rw [← fno_walk nx k q] at hy
      gi_wp2
      gi_region_with (first | (refine ⟨trivial, ?_⟩; gi_at_call 10; refine (callsIn_wide.2 HB.out).mono ?_; rintro e w' ⟨rfl, rfl⟩) | (refine hR.mono ?_; rintro e W3 ⟨b, rfl, hb1, hb2⟩))
      all_goals clear hy hR HB hj1 hcd c2d hj
      all_goals
        cases b with
        | true =>
          obtain ⟨hj3, hk3⟩ := hb1 rfl
          have hc3 := hk3.1 hc
          have hf3 := Lib.hid (hk3.2 (hf.out.drewN 1))
          clear hb1 hb2 hk3 hc c2 hf
          gi_wp2
          go_roundw
          case rel => exact ⟨q + 1, by omega, by go_num, hj3, hc3, hf3⟩
          case measure => simp [intOf]; omega
        | false =>
          have hx3 := hb2 rfl
          clear hb1 hb2
          gi_wp2
          refine bodyPost_ret (results_none rfl _ _ _) rfl ?_
          exact ⟨⟨_, rfl⟩, .inr ⟨_, List.take_prefix _ _, hx3⟩⟩
    · obtain rfl : q = k := by omega
      gi_wp2
      go_end0
      exact ⟨⟨_, rfl⟩, .inl ⟨_, finT_all q, hj⟩⟩
/-- the value that flying answers hands its blocks to whatever loop goes over it. -/
theorem fly_stops (n : Nat) (hn : 1 ≤ n) (C : Nat) (p : Option Addr) (nx : Int) (v : Value) (k g o cap : Nat) (w : World) (hk : k ≤ 64) (hv : 0 < k → v = .slice (some ⟨g, o, none⟩) k cap)
    (hC : C < w.heap.size) (hc : w.cell? ⟨C, 0, none⟩ = some (.pointer p)) (hF : FlC w p nx v k) :
    SeqStopsK Fence.wide n Try.prog 23 #[.pointer (some ⟨C, 0, none⟩)] (flyV nx k g o) (KeepsFl C p nx v k) (fun ys => ys = List.finRange k) (fun pre => pre <+: List.finRange k) k w :=
  fun l J Jx W hW hJ _ hY h0 =>
    fly1_in n hn l C p nx v k g o cap J Jx W hJ hk hv hY ((hW.cell (p := ⟨C, 0, none⟩) hC).trans hc) (hF.below hW) h0
end Go.Proofs.Ytgnalabblhokmaa

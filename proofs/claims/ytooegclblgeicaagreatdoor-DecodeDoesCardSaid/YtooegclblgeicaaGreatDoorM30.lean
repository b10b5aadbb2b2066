/- Proved: lemmas of one statement's proof, merged by program: what each part proves stands ahead of it. Conditions: those that the lemmas name. -/
import Derived.Test.YtooegclblgeicaaGreatDoorM18
import Derived.Deep.QuietTactic
import Derived.BigQuiet
import Derived.Test.YtooegclblgeicaaGreatDoorM29

/- Proved: what the document's Texts answers of two lists of texts that are the same. Conditions: those that the theorem names. -/
namespace Go.Proofs.YtooegclblgeicaaGreatDoor
open Go.ChangeShapes Go.WideShapes Go.ChangeAt Go.RowKit

end Go.Proofs.YtooegclblgeicaaGreatDoor

/- Proved: what the document's Decode answers for all shards. Conditions: those that the theorems name. -/
namespace Go.Proofs.YtooegclblgeicaaGreatDoor
open Go.ChangeShapes Go.WideShapes Go.ChangeAt Go.RowKit

set_option maxHeartbeats 800000 in
theorem rdecode_u (A : Option Addr) (m c k n z : Nat) (l o : List Shd) (w : World) (hU : Calls Tryz.prog 17 #[.int .i64 (n : Nat), .slice A m c] w (GivesHE w o z)) (hk : DArg k n) (hz0 : z ≠ 0) (hD : dcE k n l = z) :
    Calls Tryz.prog 10 #[.int .i64 (k : Nat), .int .i64 (n : Nat), .slice A m c] w (GivesDc w k n l) := by
  have HU := Lib.hid hU
  have HD := Lib.hid hD
  have HZ := Lib.hid hz0
  unfold DArg at hk
  have h1 : ¬ (k : Int) < 1 := by omega
  have h2 : ¬ (k : Int) > 32 := by omega
  have h3 : ¬ (n : Int) < (k : Int) := by omega
  have h4 : ¬ (n : Int) > 255 := by omega
  have hz : ((z : Int) != 0) = true := by simp; omega
  have hz2 : ¬ (z : Int) = 0 := by omega
  clear hU hk hz0 hD
  go_enter Tryz.func10, Tryz.ntmps10
  go_wp2_with fail
  refine HU.out.mono ?_; rintro e w1 ⟨A1, n1, c1, rfl, _, _, hw1⟩
  have HW1 := Lib.hid hw1
  clear hw1
  go_wp2_with fail
  go_ret2
  exact ⟨_, _, _, [], by rw [HD.out]; rfl, DcIs.none (by rw [HD.out]; exact HZ.out), Ss.nil _ _, HW1.out⟩

set_option maxHeartbeats 800000 in
theorem rdecode_less (A : Option Addr) (m c k n : Nat) (l a : List Shd) (w : World) (hU : Calls Tryz.prog 17 #[.int .i64 (n : Nat), .slice A m c] w (GivesHE w a 0)) (hk : DArg k n) (hle : a.length < k) (hD : dcE k n l = 15) :
    Calls Tryz.prog 10 #[.int .i64 (k : Nat), .int .i64 (n : Nat), .slice A m c] w (GivesDc w k n l) := by
  have HU := Lib.hid hU
  have HD := Lib.hid hD
  unfold DArg at hk
  have h1 : ¬ (k : Int) < 1 := by omega
  have h2 : ¬ (k : Int) > 32 := by omega
  have h3 : ¬ (n : Int) < (k : Int) := by omega
  have h4 : ¬ (n : Int) > 255 := by omega
  have hle2 : (a.length : Int) < (k : Int) := by omega
  clear hU hk hD hle
  go_enter Tryz.func10, Tryz.ntmps10
  go_wp2_with fail
  refine HU.out.mono ?_; rintro e w1 ⟨A1, n1, c1, rfl, _, hs1, hw1⟩
  obtain rfl : a.length = n1 := hs1.len
  have HW1 := Lib.hid hw1
  clear hw1 hs1
  go_wp2_with fail
  go_ret2
  exact ⟨_, _, _, [], by rw [HD.out]; rfl, DcIs.none (by rw [HD.out]; decide), Ss.nil _ _, HW1.out⟩

theorem rdecode_any (A : Option Addr) (m c : Nat) (k n : Int) (l : List Shd) (w : World) (hl : Sh w A m l) (hm : m ≤ 100) :
    Calls Tryz.prog 10 #[.int .i64 k, .int .i64 n, .slice A m c] w (GivesDc w k n l) := by
  by_cases h : DArg k n
  · have h' := h
    unfold DArg at h'
    obtain ⟨k', rfl⟩ := Int.eq_ofNat_of_zero_le (show 0 ≤ k by omega)
    obtain ⟨n', rfl⟩ := Int.eq_ofNat_of_zero_le (show 0 ≤ n by omega)
    have hU := runlike_any A m c n' l w hl hm
    by_cases hu : uErr n' l = 0
    · have hok := acc_all hu
      have e1 : uOut n' l = accL l := if_pos hu
      rw [hu, e1] at hU
      by_cases hle : k' ≤ (accL l).length
      · have hf := hok.fit 0 (by omega)
        rw [Fits, hok.siz 0 (by omega)] at hf
        exact rdecode_main A m c k' n' _ l (accL l) w hU (by omega) (by omega) (by omega) (by omega) hle hok hf.1 hf.2 (dcE_ok h hu (by omega)) rfl rfl
      · exact rdecode_less A m c k' n' l (accL l) w hU h (by omega) (dcE_less h hu (by omega))
    · exact rdecode_u A m c k' n' _ l _ w hU h hu (dcE_u h hu)
  · exact rdecode_arg A m c k n l w h

end Go.Proofs.YtooegclblgeicaaGreatDoor

/- Proved: the law's own first calls of package rs come out as they should. No condition. -/
namespace Go.Proofs.YtooegclblgeicaaGreatDoor
open Go.ChangeShapes Go.WideShapes Go.ChangeAt Go.RowKit

theorem sh_new (w : World) (l : List Shd) : Sh (w.alloc (.cells (hcells l).toArray 42)) (some ⟨w.heap.size, 0, none⟩) l.length l := by
  refine ⟨rfl, fun _ => ⟨_, rfl, by simp, fun j hj => ?_⟩⟩
  have e : ∀ i, (⟨w.heap.size, 0, none⟩ : Addr).add i = ⟨w.heap.size, i, none⟩ := fun i => by unfold Addr.add; split <;> simp_all
  rw [e, cell_of_row _ _ _ _ _ (0, 0) (heap_alloc_new w _), cell_of_row _ _ _ _ _ (0, 0) (heap_alloc_new w _)]
  have := hcells_at l j hj
  simpa using this
theorem encode_as (A : Option Addr) (k c : Nat) (l o : List ByteArray) (n : Int) (z : Nat) (w : World) (hl : Ss w A k l) (ho : eOut l n = o) (hz : eErr l n = z) :
    Calls Tryz.prog 16 #[.slice A k c, .int .i64 n] w (GivesSE w o z) := by
  rw [← ho, ← hz]; exact encode_any A k c l n w hl
theorem decode_as (A : Option Addr) (m c : Nat) (k n : Int) (l : List Shd) (o : List ByteArray) (z : Nat) (w : World) (hl : Sh w A m l) (hm : m ≤ 100) (hz : dcE k n l = z) (ho : DcIs k n l o) :
    Calls Tryz.prog 21 #[.int .i64 k, .int .i64 n, .slice A m c] w (GivesSE w o z) :=
  (decode_any A m c k n l w hl hm).mono fun e w' => by
    rintro ⟨A', m', c', out, he, hd, hs, hb⟩
    obtain rfl := hd.only ho
    exact ⟨A', m', c', by rw [← hz]; exact he, hs, hb⟩
abbrev t1 : ByteArray := ⟨#[1]⟩
abbrev t142 : ByteArray := ⟨#[142]⟩
abbrev ta : ByteArray := ⟨#[97]⟩
abbrev tb : ByteArray := ⟨#[98]⟩
abbrev tab2 : ByteArray := ⟨#[97, 98]⟩
abbrev tcd : ByteArray := ⟨#[99, 100]⟩
theorem inv_142 : InvIs [[142]] [[2]] 0 :=
  Or.inr (Or.inr (Or.inr ⟨by decide, rfl, ⟨rfl, by decide, fun r hr => by
    match r, hr with
    | 0, _ => exact getD_lt (by decide)⟩, by unfold InvT EqT; decide +kernel, rfl⟩))
theorem dec_142 : DcIs 1 3 [(2, t142)] [t1] := by
  have h := DcIs.some (k := 1) (n := 3) (l := [(2, t142)]) (by decide +kernel) (q := [[2]]) (by
    have e : rowsC (1 : Int).toNat (idxL ((accL [((2 : Int), t142)]).take (1 : Int).toNat)) = [[142]] := by decide +kernel
    rw [e]; exact inv_142)
  have e : txS (mulL (1 : Int).toNat (1 : Int).toNat (sh_ [((2 : Int), t142)] 0).2.size [[2]] (tabS (bodL ((accL [((2 : Int), t142)]).take (1 : Int).toNat)))) = [t1] := by decide +kernel
  rw [e] at h
  exact h

end Go.Proofs.YtooegclblgeicaaGreatDoor

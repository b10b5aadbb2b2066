/- Proved: lemmas of one statement's proof, merged by program: what each part proves stands ahead of it. Conditions: those that the lemmas name. -/
import Derived.Test.YtooegclblgeicaaDoorM18
import Derived.Deep.QuietTactic
import Derived.BigQuiet
import Derived.Test.YtooegclblgeicaaDoorM29

/- Proved: what the document's Texts answers of two lists of texts that are the same. Conditions: those that the theorem names. -/
namespace Go.Proofs.YtooegclblgeicaaDoor
open Go.ChangeShapes Go.WideShapes Go.ChangeAt Go.RowKit

set_option maxHeartbeats 800000 in
theorem texts_yes (A B : Option Addr) (n c d : Nat) (l : List ByteArray) (w : World) (ha : Ss w A n l) (hb : Ss w B n l) (hn : n ≤ 140737488355328) :
    Calls Tryd.prog 8 #[.slice A n c, .slice B n d] w fun e w' => e = .returned (.bool true) ∧ ∃ q, w' = w.drewN q := by
  have HA := Lib.hid ha
  have HB := Lib.hid hb
  clear ha hb
  go_enter Tryd.func8, Tryd.ntmps8
  go_wp2_with fail
  go_loopw [5] (fun i wr => ∃ k : Nat, k ≤ n ∧ i = .int .i64 k ∧ ∃ q, wr = w.drewN q) (fun i _ => n - (intOf i).toNat)
  case atStart => exact ⟨0, by omega, rfl, 0, rfl⟩
  case round =>
    obtain ⟨k, hk, rfl, q, rfl⟩ := hrel
    by_cases hlt : k < n
    · obtain ⟨ad, rfl, _, hac⟩ := HA.out.at_ hlt
      obtain ⟨bd, rfl, _, hbc⟩ := HB.out.at_ hlt
      generalize st_ l k = s at *
      have hlt' : (k : Int) < (n : Int) := by omega
      have hk0 : (0 : Int) ≤ (k : Int) := Int.natCast_nonneg _
      go_wp2_with fail
      go_quiet (fail)
      go_wp2_with fail
      go_roundw
      case rel => exact ⟨k + 1, by omega, by go_num, _, rfl⟩
      case measure => simp [intOf]; omega
    · obtain rfl : k = n := by omega
      go_wp2_with fail
      go_ret
      exact ⟨rfl, _, rfl⟩
end Go.Proofs.YtooegclblgeicaaDoor

/- Proved: what the document's Decode answers for all shards. Conditions: those that the theorems name. -/
namespace Go.Proofs.YtooegclblgeicaaDoor
open Go.ChangeShapes Go.WideShapes Go.ChangeAt Go.RowKit

end Go.Proofs.YtooegclblgeicaaDoor

/- Proved: the law's own first calls of package rs come out as they should. No condition. -/
namespace Go.Proofs.YtooegclblgeicaaDoor
open Go.ChangeShapes Go.WideShapes Go.ChangeAt Go.RowKit

theorem sh_new (w : World) (l : List Shd) : Sh (w.alloc (.cells (hcells l).toArray 37)) (some ⟨w.heap.size, 0, none⟩) l.length l := by
  refine ⟨rfl, fun _ => ⟨_, rfl, by simp, fun j hj => ?_⟩⟩
  have e : ∀ i, (⟨w.heap.size, 0, none⟩ : Addr).add i = ⟨w.heap.size, i, none⟩ := fun i => by unfold Addr.add; split <;> simp_all
  rw [e, cell_of_row _ _ _ _ _ (0, 0) (heap_alloc_new w _), cell_of_row _ _ _ _ _ (0, 0) (heap_alloc_new w _)]
  have := hcells_at l j hj
  simpa using this
theorem encode_as (A : Option Addr) (k c : Nat) (l o : List ByteArray) (n : Int) (z : Nat) (w : World) (hl : Ss w A k l) (ho : eOut l n = o) (hz : eErr l n = z) :
    Calls Tryd.prog 12 #[.slice A k c, .int .i64 n] w (GivesSE w o z) := by
  rw [← ho, ← hz]; exact encode_any A k c l n w hl
theorem decode_as (A : Option Addr) (m c : Nat) (k n : Int) (l : List Shd) (o : List ByteArray) (z : Nat) (w : World) (hl : Sh w A m l) (hm : m ≤ 100) (hz : dcE k n l = z) (ho : DcIs k n l o) :
    Calls Tryd.prog 26 #[.int .i64 k, .int .i64 n, .slice A m c] w (GivesSE w o z) :=
  (decode_any A m c k n l w hl hm).mono fun e w' => by
    rintro ⟨A', m', c', out, he, hd, hs, hb⟩
    obtain rfl := hd.only ho
    exact ⟨A', m', c', by rw [← hz]; exact he, hs, hb⟩
abbrev t1 : ByteArray := ⟨#[1]⟩
abbrev t142 : ByteArray := ⟨#[142]⟩
abbrev ta : ByteArray := ⟨#[97]⟩
abbrev tb : ByteArray := ⟨#[98]⟩
abbrev tab2 : ByteArray := ⟨#[97, 98]⟩
abbrev tcd : ByteArray := ⟨#[99, 100]⟩
theorem inv_142 : InvIs [[142]] [[2]] 0 :=
  Or.inr (Or.inr (Or.inr ⟨by decide, rfl, ⟨rfl, by decide, fun r hr => by
    match r, hr with
    | 0, _ => exact getD_lt (by decide)⟩, by unfold InvT EqT; decide +kernel, rfl⟩))
theorem dec_142 : DcIs 1 3 [(2, t142)] [t1] := by
  have h := DcIs.some (k := 1) (n := 3) (l := [(2, t142)]) (by decide +kernel) (q := [[2]]) (by
    have e : rowsC (1 : Int).toNat (idxL ((accL [((2 : Int), t142)]).take (1 : Int).toNat)) = [[142]] := by decide +kernel
    rw [e]; exact inv_142)
  have e : txS (mulL (1 : Int).toNat (1 : Int).toNat (sh_ [((2 : Int), t142)] 0).2.size [[2]] (tabS (bodL ((accL [((2 : Int), t142)]).take (1 : Int).toNat)))) = [t1] := by decide +kernel
  rw [e] at h
  exact h

end Go.Proofs.YtooegclblgeicaaDoor

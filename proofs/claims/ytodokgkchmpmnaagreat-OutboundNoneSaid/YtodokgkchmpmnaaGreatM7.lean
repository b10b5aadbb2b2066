/- Proved: lemmas of one statement's proof, merged by program: what each part proves stands ahead of it. Conditions: those that the lemmas name. -/
import Derived.Test.YtodokgkchmpmnaaGreatM3
import Derived.Test.YtodokgkchmpmnaaGreatM2
import Derived.Test.YtodokgkchmpmnaaGreatM5
import Derived.Test.YtodokgkchmpmnaaGreatM6
import Derived.Test.YtodokgkchmpmnaaGreatM1

/- Proved: what Add of package vector answers for every two rows of bytes. Conditions: those that the theorems name. -/
namespace Go.Proofs.YtodokgkchmpmnaaGreat
open Go.ChangeShapes Go.WideShapes Go.ChangeAt Go.RowKit

/-- A row with l comes back, in memory that is there; nothing that was there has turned. -/
def Gives (W : World) (n : Nat) (l : List Nat) (e : Ending) (w' : World) : Prop :=
  ∃ A c, e = .returned (.slice A n c) ∧ Bs w' A n l ∧ Below W.heap.size W w'
/-- The same, and its capacity is no less than its length. -/
def GivesC (W : World) (n : Nat) (l : List Nat) (e : Ending) (w' : World) : Prop :=
  ∃ A c, e = .returned (.slice A n c) ∧ n ≤ c ∧ Bs w' A n l ∧ Below W.heap.size W w'
def Gives2C (W : World) (n : Nat) (l : List Nat) (e : Ending) (w' : World) : Prop :=
  ∃ A c, e = .returned (.tuple #[.slice A n c, .int .i64 0]) ∧ n ≤ c ∧ Bs w' A n l ∧ Below W.heap.size W w'
theorem GivesC.gives {W : World} {n : Nat} {l : List Nat} {e : Ending} {w' : World} (h : GivesC W n l e w') : Gives W n l e w' := by
  obtain ⟨A, c, h1, _, h2, h3⟩ := h
  exact ⟨A, c, h1, h2, h3⟩
set_option maxHeartbeats 400000 in
theorem add_none (A B : Option Addr) (c d : Nat) (w : World) :
    Calls Tryz.prog 120 #[.slice A 0 c, .slice B 0 d] w (Gives2C w 0 []) := by
  go_enter Tryz.func120, Tryz.ntmps120
  go_wp2_with (go_at_call 127; refine (row_none _ _ _).mono ?_; rintro e w' ⟨rfl, rfl⟩)
  go_loop [18] (fun i => i = .int .i64 0) (fun _ => 0)
  case atStart => rfl
  case round =>
    subst hrel
    go_wp2_with fail
    go_ret2
    exact ⟨_, _, rfl, Nat.le_refl _, Bs.nil _ _, Below.refl _ _⟩

set_option maxHeartbeats 400000 in
theorem add_some (ad bd : Addr) (n c d : Nat) (a b : List Nat) (w : World) (ha : Bs w (some ad) n a) (hb : Bs w (some bd) n b) (h0 : 0 < n) (hm : n ≤ 140737488355328) :
    Calls Tryz.prog 120 #[.slice (some ad) n c, .slice (some bd) n d] w (Gives2C w n (addL n a b)) := by
  have HA := Lib.hid ha
  have HB := Lib.hid hb
  clear ha hb
  go_enter Tryz.func120, Tryz.ntmps120
  go_wp2_with (go_at_call 127; refine (row_some ad n c a w HA.out h0 hm).mono ?_; rintro e w1 ⟨g, hg, rfl, ho, hbel⟩; have HO := Lib.hid ho; have HW := Lib.hid hbel; clear ho hbel)
  go_loopw [18] (fun i wr => ∃ k : Nat, k ≤ n ∧ i = .int .i64 k ∧ ∃ l, Upto n k (fun j => a.getD j 0 ^^^ b.getD j 0) a l ∧ Own wr g n l ∧ Below w.heap.size w wr) (fun i _ => n - (intOf i).toNat)
  case atStart => exact ⟨0, by omega, rfl, a, Upto.start HA.out.len, HO.out, HW.out⟩
  case round =>
    obtain ⟨k, hk, rfl, l, hu, ho, hbel⟩ := hrel
    have HU := Lib.hid hu
    have HO' := Lib.hid ho
    have HW' := Lib.hid hbel
    clear hu ho hbel HO HW
    by_cases hlt : k < n
    · have hbc : wr.cell? (bd.add k) = some (.int .u8 (b.getD k 0 : Nat)) := by
        obtain ⟨_, e, _, hc⟩ := (HB.out.below HW'.out).at_ hlt
        injection e with e; subst e; exact hc
      have hac : wr.cell? ⟨g, k, none⟩ = some (.int .u8 (a.getD k 0 : Nat)) := by
        rw [← HU.out.here hlt]; exact HO'.out.cell hlt
      have hfz := HO'.out.frozen k
      have hx := HA.out.lt k
      have hy := HB.out.lt k
      go_wp2_with (go_at_call 128; refine (add_any _ _ hx hy _).mono ?_; rintro e w' ⟨rfl, rfl⟩)
      go_roundw
      case rel => exact ⟨k + 1, by omega, by go_num, _, HU.out.next hlt, HO'.out.set_ hlt (xor_lt _ _ hx hy), HW'.out.setCell hg _⟩
      case measure => simp [intOf]; omega
    · obtain rfl : k = n := by omega
      go_wp2_with fail
      go_ret2
      refine ⟨_, _, rfl, Nat.le_refl _, ?_, HW'.out⟩
      have e := HU.out.done
      have h := HO'.out.bs
      rw [e] at h
      exact h

/-- Two rows that are alike long. -/
theorem add_cap (A B : Option Addr) (n c d : Nat) (a b : List Nat) (w : World) (ha : Bs w A n a) (hb : Bs w B n b) (hm : n ≤ 140737488355328) :
    Calls Tryz.prog 120 #[.slice A n c, .slice B n d] w (Gives2C w n (addL n a b)) := by
  by_cases h0 : n = 0
  · subst h0; exact add_none A B c d w
  · obtain ⟨ad, rfl, _⟩ := ha.at_ (k := 0) (by omega)
    obtain ⟨bd, rfl, _⟩ := hb.at_ (k := 0) (by omega)
    exact add_some ad bd n c d a b w ha hb (by omega) hm
end Go.Proofs.YtodokgkchmpmnaaGreat

/- Proved: what the document's Mul answers for every two bytes. Conditions: the bounds that the theorem names. -/
namespace Go.Proofs.YtodokgkchmpmnaaGreat
open Go.ChangeShapes Go.WideShapes Go.ChangeAt Go.RowKit

theorem i64_xor_nat (a b : Nat) (ha : a < 65536) (hb : b < 65536) : bits BinOp.xor IntKind.i64 (a : Int) (b : Int) = ((a ^^^ b : Nat) : Int) := by
  have hx : a ^^^ b < 2 ^ 16 := Nat.xor_lt_two_pow (by omega) (by omega)
  show IntKind.i64.wrap ((BitVec.ofInt 64 (a : Int) ^^^ BitVec.ofInt 64 (b : Int)).toNat : Int) = _
  have e : ∀ c : Nat, c < 65536 → (BitVec.ofInt 64 (c : Int)).toNat = c := fun c hc => by
    rw [BitVec.ofInt_natCast, BitVec.toNat_ofNat]; exact Nat.mod_eq_of_lt (by omega)
  rw [BitVec.toNat_xor, e a ha, e b hb]
  exact IntWalk.i64_in _ (by omega)
end Go.Proofs.YtodokgkchmpmnaaGreat

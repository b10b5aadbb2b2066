/- Proved: lemmas of one statement's proof, merged by program: what each part proves stands ahead of it. Conditions: those that the lemmas name. -/
import Derived.Test.YtmnbkghihdbepaaM2
import Derived.Test.YtmnbkghihdbepaaM3
import Derived.WalkMore
import Derived.ScopeJumps

/- Proved: what the number of some bytes is, for at most four of them. Conditions: those that the theorems name. -/
namespace Go.Proofs.Ytmnbkghihdbepaa
open Go.ChangeShapes Go.WideShapes Go.ChangeAt Go.RowKit

/-- the number of the first k bytes, the highest first. -/
def numK : Nat → List Nat → Nat
  | 0, _ => 0
  | k + 1, l => numK k l * 256 + l.getD k 0
theorem numK_succ (k : Nat) (l : List Nat) : numK (k + 1) l = numK k l * 256 + l.getD k 0 := rfl
theorem numK_lt {l : List Nat} (h : ∀ j, l.getD j 0 < 256) (k : Nat) : numK k l < 256 ^ k := by
  induction k with
  | zero => exact (by decide : 0 < 1)
  | succ k ih =>
    rw [numK_succ, Nat.pow_succ]
    have := h k
    omega
/-- the number of a text's bytes. -/
def numS (s : ByteArray) : Nat := numK s.size (bts s)

theorem index_at9 (s : ByteArray) (j : Nat) (h : j < s.size) (W : World) : (Instr.index 9 (Value.string s) (Value.int .i64 (j : Int))).run Try.prog W = .ok (Value.int .u8 ((bts s).getD j 0 : Nat)) W := by
  rw [run_index_string W 9 s .i64 (j : Int) Try.underlying9, dif_pos ⟨by omega, by omega⟩]
  have : (bts s).getD j 0 = s[j].toNat := by
    unfold bts
    rw [List.getD_eq_getElem?_getD, List.getElem?_map, Array.getElem?_toList, Array.getElem?_eq_getElem h]; rfl
  rw [this]; rfl

theorem or_byte {x b : Nat} (hx : x < 16777216) (hb : b < 256) : bits BinOp.or IntKind.u32 ((x : Int) * 256 % 4294967296) (b : Int) = ((x * 256 + b : Nat) : Int) := by
  have e1 : (x : Int) * 256 % 4294967296 = ((x * 256 : Nat) : Int) := by omega
  rw [e1, u32_or_nat _ _ (by omega) (by omega)]
  have h := Nat.shiftLeft_add_eq_or_of_lt (i := 8) (b := b) (by omega) x
  rw [Nat.shiftLeft_eq] at h
  rw [← h]
theorem pow_le4 {k : Nat} (h : k < 4) : 256 ^ k ≤ 16777216 := by
  rcases k with _ | _ | _ | _ | k
  · decide
  · decide
  · decide
  · decide
  · omega

set_option maxRecDepth 100000 in
set_option maxHeartbeats 800000 in
theorem number_any (s : ByteArray) (hs : s.size ≤ 4) (w : World) :
    Calls Try.prog 60 #[.string s] w fun e w' => e = .returned (.int .u32 (numS s : Nat)) ∧ w = w' := by
  go_enter Try.func60, Try.ntmps60
  go_wp2_with fail
  refine wp_scope_jumps 0 (fun a' w' => w' = w ∧ ∃ (k : Nat) (u5 u6 u7 u8 u9 u10 u11 u12 u13 u14 u15 u16 u17 u18 : Value), a' = { tmps := #[.string s, undef, .int .u32 0, .int .u32 (numK k (bts s) : Nat), .int .i64 k, u5, u6, u7, u8, u9, u10, u11, u12, u13, u14, u15, u16, u17, u18], defers := [] } ∧ k ≤ s.size) (fun a' _ => s.size - (intOf (a'.tmps.getD 4 undef)).toNat) rfl ?_ ?_
  · go_wp2
    go_step3
    by_cases h0 : 0 < s.size
    · have hi := index_at9 s 0 h0
      have hb := bts_lt s 0
      have ho := or_byte (x := 0) (b := (bts s).getD 0 0) (by decide) hb
      obtain ⟨y, hy⟩ : ∃ y, y = numK (0 + 1) (bts s) := ⟨_, rfl⟩
      have hz : (bts s).getD 0 0 = y := by rw [hy, numK_succ]; show _ = 0 * 256 + _; omega
      rw [hz] at hi hb ho
      have HY := Lib.hid hy
      clear hy hz
      have h0' : (0 : Int) < (s.size : Int) := by omega
      rw [show ((0 : Nat) : Int) = 0 from rfl] at hi
      rw [show ((0 : Nat) : Int) * 256 % 4294967296 = 0 from rfl, show 0 * 256 + y = y by omega] at ho
      go_wp2
      go_step3
      have HZ := HY.out
      subst HZ
      exact ⟨rfl, rfl, 0 + 1, _, _, _, _, _, _, _, _, _, _, _, _, _, _, rfl, h0⟩
    · have h0' : ¬ (0 : Int) < (s.size : Int) := by omega
      go_wp2
      simp only [Exit.jump]
      try rw [Exit.noGoto_ret]
      go_ret
      have : s.size = 0 := by omega
      exact ⟨ret_int (by unfold numS; rw [this]; rfl), rfl⟩
  · rintro a' w' ⟨rfl, k, u5, u6, u7, u8, u9, u10, u11, u12, u13, u14, u15, u16, u17, u18, rfl, hk⟩
    by_cases h0 : k < s.size
    · have hi := index_at9 s k h0
      have hb := bts_lt s k
      have hl := numK_lt (bts_lt s) k
      have h4 := pow_le4 (k := k) (by omega)
      have ho := or_byte (x := numK k (bts s)) (b := (bts s).getD k 0) (by omega) hb
      obtain ⟨y, hy⟩ : ∃ y, y = numK (k + 1) (bts s) := ⟨_, rfl⟩
      rw [← numK_succ, ← hy] at ho
      have HY := Lib.hid hy
      clear hy
      have h0' : (k : Int) < (s.size : Int) := by omega
      generalize (bts s).getD k 0 = b at *
      generalize numK k (bts s) = x at *
      clear hl h4
      go_wp2
      go_step3
      have HZ := HY.out
      subst HZ
      refine ⟨rfl, ⟨rfl, k + 1, _, _, _, _, _, _, _, _, _, _, _, _, _, _, rfl, h0⟩, ?_⟩
      simp [intOf]; omega
    · obtain rfl : k = s.size := by omega
      have h0' : ¬ (s.size : Int) < (s.size : Int) := by omega
      go_wp2
      simp only [Exit.jump]
      try rw [Exit.noGoto_ret]
      go_ret
      exact ⟨rfl, rfl⟩
end Go.Proofs.Ytmnbkghihdbepaa

/- Proved: what row of package vector answers for every row of bytes. Conditions: those that the theorems name. -/
namespace Go.Proofs.Ytmnbkghihdbepaa
open Go.ChangeShapes Go.WideShapes Go.ChangeAt Go.RowKit

theorem Try.infoByte : (Try.prog.info? 5).map (fun i => (i.zero, i.size, i.bytes)) = some (some (.int .u8 0), 1, 1) := by kernel_rfl

/-- A row of the call's own comes back. -/
def Fresh (W : World) (n : Nat) (l : List Nat) (e : Ending) (w' : World) : Prop :=
  ∃ g, W.heap.size ≤ g ∧ e = .returned (.slice (some ⟨g, 0, none⟩) n n) ∧ Own w' g n l ∧ Below W.heap.size W w'

end Go.Proofs.Ytmnbkghihdbepaa

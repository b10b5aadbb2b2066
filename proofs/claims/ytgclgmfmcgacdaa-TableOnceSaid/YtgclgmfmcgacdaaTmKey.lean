/- Plain lemmas on keys of timers as keys of a map. No condition beyond those that each lemma names. -/
import Derived.Test.YtgclgmfmcgacdaaTmMath
import Derived.Maps.Keyed
import Derived.Maps.RangeWalk
namespace Go.Proofs.Ytgclgmfmcgacdaa
open Go.ChangeShapes Go.WideShapes

/-- a key's value. -/
abbrev kyV (k : Ky) : Value := .agg #[.int .i64 k.1, .int .u32 k.2]
/-- .. and how it reads. -/
def kyL (k : Ky) : Lit := .string (keyBytes [.int .i64 k.1, .int .u32 k.2])
theorem KyOk.wf0 {k : Ky} (h : KyOk k) : (Lit.int .i64 k.1).wf = true := by
  have := h.s0
  have := h.s1
  simp [Lit.wf, IntKind.min, IntKind.max, IntKind.signed, IntKind.bits]
  omega
theorem KyOk.wf1 {k : Ky} (h : KyOk k) : (Lit.int .u32 k.2).wf = true := by
  have := h.b0
  have := h.b1
  simp [Lit.wf, IntKind.min, IntKind.max, IntKind.signed, IntKind.bits]
  omega
theorem ky_of_wf {k : Ky} (h : (Lit.int .i64 k.1).wf = true) (g : (Lit.int .u32 k.2).wf = true) : KyOk k := by
  simp [Lit.wf, IntKind.min, IntKind.max, IntKind.signed, IntKind.bits] at h g
  exact ⟨by omega, by omega, by omega, by omega⟩
theorem ky_row : (35 : TypeId) < Try.prog.types.size := of_decide_eq_true (by kernel_rfl)
theorem ky_type : Try.prog.keyType 35 = true := by kernel_rfl
theorem ky_cells : Try.prog.cellsOf 35 = 2 := by kernel_rfl
theorem ky_int : Try.prog.cellsOf 3 = 1 := by kernel_rfl
theorem ky_u32 : Try.prog.cellsOf 33 = 1 := by kernel_rfl
theorem ky_wide : (match Try.prog.underlying 35 with | some (.array _ _) | some (.struct _) => true | _ => false) = true := by kernel_rfl
theorem ky_laid : laidOutB Try.prog = true := by kernel_rfl
set_option maxRecDepth 100000 in
theorem ky_law : Maps.Keyed Try.prog 35 := Maps.Keyed.of_law (deep_law_laid ky_laid (m := 2) (by omega) ky_row (by kernel_rfl) ky_wide)
theorem ky_one {q : IntKind} {t : TypeId} (ht : Try.prog.underlying t = some (.int q)) {d : Nat} {a : Value} {L : List Lit} (h : Try.prog.keyLits (d + 1) t [a] = some L) : ∃ n, a = .int q n ∧ (Lit.int q n).wf = true ∧ L = [.int q n] := by
  unfold Program.keyLits at h
  rw [ht] at h
  cases a <;> simp at h
  obtain ⟨⟨rfl, hw⟩, rfl⟩ := h
  exact ⟨_, rfl, hw, rfl⟩
set_option maxRecDepth 100000 in
theorem ky_lits (d : Nat) (cs : List Value) (L : List Lit) (h : Try.prog.keyLits (d + 2) 35 cs = some L) : ∃ k : Ky, KyOk k ∧ cs = [.int .i64 k.1, .int .u32 k.2] ∧ L = [.int .i64 k.1, .int .u32 k.2] := by
  unfold Program.keyLits at h
  simp only [Try.underlying35] at h
  split at h
  · rename_i hl
    have hl := hl.1
    rw [ky_cells] at hl
    match cs, hl with
    | [a, b], _ =>
      simp only [Option.map_eq_some_iff] at h
      obtain ⟨us, ha, rfl⟩ := h
      simp only [List.mapM_cons, List.mapM_nil, ky_int, ky_u32, List.drop_zero, List.take_succ_cons, List.take_zero, List.drop_succ_cons, Option.bind_eq_bind, Option.bind_eq_some_iff, Option.pure_def, Option.some.injEq] at ha
      obtain ⟨L1, h1, L2, ⟨L3, h3, L4, rfl, rfl⟩, rfl⟩ := ha
      obtain ⟨n, rfl, hn, rfl⟩ := ky_one Try.underlying3 h1
      obtain ⟨m, rfl, hm, rfl⟩ := ky_one Try.underlying33 h3
      exact ⟨(n, m), ky_of_wf hn hm, rfl, rfl⟩
  · cases h
set_option maxRecDepth 100000 in
theorem ky_lits_mk (d : Nat) {k : Ky} (h : KyOk k) : Try.prog.keyLits (d + 2) 35 [.int .i64 k.1, .int .u32 k.2] = some [.int .i64 k.1, .int .u32 k.2] := by
  unfold Program.keyLits
  simp [Try.underlying35, ky_cells, List.mapM_cons, ky_int, ky_u32, Program.keyLits, Try.underlying3, Try.underlying33, h.wf0, h.wf1]
set_option maxRecDepth 100000 in
theorem ky_size : ∃ n, Try.prog.types.size + 1 = n + 2 := ⟨Try.prog.types.size - 1, by
  have h : 0 < Try.prog.types.size := Nat.lt_of_le_of_lt (Nat.zero_le _) ky_row
  omega⟩
set_option maxRecDepth 100000 in
theorem ky_key {k : Ky} (h : KyOk k) : keyOf Try.prog 35 (kyV k) = some (kyL k) := by
  unfold keyOf
  have hf : (kyV k).formed Try.prog 35 = true := by simp [Value.formed, Try.underlying35, ky_cells]
  simp only [Try.underlying35, ky_type, hf, Bool.and_true, if_true]
  obtain ⟨n, hn⟩ := ky_size
  rw [hn]
  have e : (kyV k).cells.toList = [.int .i64 k.1, .int .u32 k.2] := by simp [Value.cells]
  rw [e, ky_lits_mk n h]
  rfl
set_option maxRecDepth 100000 in
theorem ky_inv {v : Value} {l : Lit} (h : keyOf Try.prog 35 v = some l) : ∃ k : Ky, v = kyV k ∧ l = kyL k ∧ KyOk k := by
  obtain ⟨xs, L, rfl, h1, rfl⟩ := keyOf_top ky_wide h
  obtain ⟨n, hn⟩ := ky_size
  rw [hn] at h1
  obtain ⟨k, hk, e, rfl⟩ := ky_lits _ _ _ h1
  exact ⟨k, by rw [← Array.toArray_toList (xs := xs), e], rfl, hk⟩
theorem kyL_inj {k k' : Ky} (h : KyOk k) (g : KyOk k') (e : kyL k = kyL k') : k = k' := by
  have h1 := ky_key h
  rw [e] at h1
  have := ky_law.inj h1 (ky_key g)
  simp at this
  exact Prod.ext this.1 this.2
theorem kyL_lit {k : Ky} (h : KyOk k) : WideAt.IsKeyLit (kyL k) := ky_law.key (ky_key h)
theorem kyL_same {k k' : Ky} (h : KyOk k) (g : KyOk k') : (kyL k).sameKey (kyL k') = decide (k = k') := by
  by_cases e : k = k'
  · subst e
    rw [WideAt.sameKey_self (kyL_lit h)]; simp
  · rw [Maps.sameKey_ne (fun q => e (kyL_inj h g q))]; simp [e]
end Go.Proofs.Ytgclgmfmcgacdaa

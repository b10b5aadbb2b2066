/- Plain lemmas on places of calls as keys of a map. No condition beyond those that each lemma names. -/
import Derived.Test.YtamcpdhehipcfaaCaMath
import Derived.Maps.Keyed
import Derived.Maps.RangeWalk
namespace Go.Proofs.Ytamcpdhehipcfaa
open Go.ChangeShapes Go.WideShapes

/-- a key's value. -/
abbrev pkV (k : Pk) : Value := .agg #[.int .i64 k.1, .int .i64 k.2]
/-- .. and how it reads. -/
def pkL (k : Pk) : Lit := .string (keyBytes [.int .i64 k.1, .int .i64 k.2])
theorem PkOk.wf0 {k : Pk} (h : PkOk k) : (Lit.int .i64 k.1).wf = true := by
  have := h.s0
  have := h.s1
  simp [Lit.wf, IntKind.min, IntKind.max, IntKind.signed, IntKind.bits]
  omega
theorem PkOk.wf1 {k : Pk} (h : PkOk k) : (Lit.int .i64 k.2).wf = true := by
  have := h.b0
  have := h.b1
  simp [Lit.wf, IntKind.min, IntKind.max, IntKind.signed, IntKind.bits]
  omega
theorem pk_of_wf {k : Pk} (h : (Lit.int .i64 k.1).wf = true) (g : (Lit.int .i64 k.2).wf = true) : PkOk k := by
  simp [Lit.wf, IntKind.min, IntKind.max, IntKind.signed, IntKind.bits] at h g
  exact ⟨by omega, by omega, by omega, by omega⟩
theorem pk_row : (52 : TypeId) < Try.prog.types.size := of_decide_eq_true (by kernel_rfl)
theorem pk_type : Try.prog.keyType 52 = true := by kernel_rfl
theorem pk_cells : Try.prog.cellsOf 52 = 2 := by kernel_rfl
theorem pk_int : Try.prog.cellsOf 3 = 1 := by kernel_rfl
theorem pk_wide : (match Try.prog.underlying 52 with | some (.array _ _) | some (.struct _) => true | _ => false) = true := by kernel_rfl
theorem pk_laid : laidOutB Try.prog = true := by kernel_rfl
set_option maxRecDepth 100000 in
theorem pk_law : Maps.Keyed Try.prog 52 := Maps.Keyed.of_law (deep_law_laid pk_laid (m := 2) (by omega) pk_row (by kernel_rfl) pk_wide)
theorem pk_one {q : IntKind} {t : TypeId} (ht : Try.prog.underlying t = some (.int q)) {d : Nat} {a : Value} {L : List Lit} (h : Try.prog.keyLits (d + 1) t [a] = some L) : ∃ n, a = .int q n ∧ (Lit.int q n).wf = true ∧ L = [.int q n] := by
  unfold Program.keyLits at h
  rw [ht] at h
  cases a <;> simp at h
  obtain ⟨⟨rfl, hw⟩, rfl⟩ := h
  exact ⟨_, rfl, hw, rfl⟩
set_option maxRecDepth 100000 in
theorem pk_lits (d : Nat) (cs : List Value) (L : List Lit) (h : Try.prog.keyLits (d + 2) 52 cs = some L) : ∃ k : Pk, PkOk k ∧ cs = [.int .i64 k.1, .int .i64 k.2] ∧ L = [.int .i64 k.1, .int .i64 k.2] := by
  unfold Program.keyLits at h
  simp only [Try.underlying52] at h
  split at h
  · rename_i hl
    have hl := hl.1
    rw [pk_cells] at hl
    match cs, hl with
    | [a, b], _ =>
      simp only [Option.map_eq_some_iff] at h
      obtain ⟨us, ha, rfl⟩ := h
      simp only [List.mapM_cons, List.mapM_nil, pk_int, List.drop_zero, List.take_succ_cons, List.take_zero, List.drop_succ_cons, Option.bind_eq_bind, Option.bind_eq_some_iff, Option.pure_def, Option.some.injEq] at ha
      obtain ⟨L1, h1, L2, ⟨L3, h3, L4, rfl, rfl⟩, rfl⟩ := ha
      obtain ⟨n, rfl, hn, rfl⟩ := pk_one Try.underlying3 h1
      obtain ⟨m, rfl, hm, rfl⟩ := pk_one Try.underlying3 h3
      exact ⟨(n, m), pk_of_wf hn hm, rfl, rfl⟩
  · cases h
set_option maxRecDepth 100000 in
theorem pk_lits_mk (d : Nat) {k : Pk} (h : PkOk k) : Try.prog.keyLits (d + 2) 52 [.int .i64 k.1, .int .i64 k.2] = some [.int .i64 k.1, .int .i64 k.2] := by
  unfold Program.keyLits
  simp [Try.underlying52, pk_cells, List.mapM_cons, pk_int, Program.keyLits, Try.underlying3, Try.underlying3, h.wf0, h.wf1]
set_option maxRecDepth 100000 in
theorem pk_size : ∃ n, Try.prog.types.size + 1 = n + 2 := ⟨Try.prog.types.size - 1, by
  have h : 0 < Try.prog.types.size := Nat.lt_of_le_of_lt (Nat.zero_le _) pk_row
  omega⟩
set_option maxRecDepth 100000 in
theorem pk_key {k : Pk} (h : PkOk k) : keyOf Try.prog 52 (pkV k) = some (pkL k) := by
  unfold keyOf
  have hf : (pkV k).formed Try.prog 52 = true := by simp [Value.formed, Try.underlying52, pk_cells]
  simp only [Try.underlying52, pk_type, hf, Bool.and_true, if_true]
  obtain ⟨n, hn⟩ := pk_size
  rw [hn]
  have e : (pkV k).cells.toList = [.int .i64 k.1, .int .i64 k.2] := by simp [Value.cells]
  rw [e, pk_lits_mk n h]
  rfl
set_option maxRecDepth 100000 in
theorem pk_inv {v : Value} {l : Lit} (h : keyOf Try.prog 52 v = some l) : ∃ k : Pk, v = pkV k ∧ l = pkL k ∧ PkOk k := by
  obtain ⟨xs, L, rfl, h1, rfl⟩ := keyOf_top pk_wide h
  obtain ⟨n, hn⟩ := pk_size
  rw [hn] at h1
  obtain ⟨k, hk, e, rfl⟩ := pk_lits _ _ _ h1
  exact ⟨k, by rw [← Array.toArray_toList (xs := xs), e], rfl, hk⟩
theorem pkL_inj {k k' : Pk} (h : PkOk k) (g : PkOk k') (e : pkL k = pkL k') : k = k' := by
  have h1 := pk_key h
  rw [e] at h1
  have := pk_law.inj h1 (pk_key g)
  simp at this
  exact Prod.ext this.1 this.2
theorem pkL_lit {k : Pk} (h : PkOk k) : WideAt.IsKeyLit (pkL k) := pk_law.key (pk_key h)
theorem pkL_same {k k' : Pk} (h : PkOk k) (g : PkOk k') : (pkL k).sameKey (pkL k') = decide (k = k') := by
  by_cases e : k = k'
  · subst e
    rw [WideAt.sameKey_self (pkL_lit h)]; simp
  · rw [Maps.sameKey_ne (fun q => e (pkL_inj h g q))]; simp [e]
end Go.Proofs.Ytamcpdhehipcfaa

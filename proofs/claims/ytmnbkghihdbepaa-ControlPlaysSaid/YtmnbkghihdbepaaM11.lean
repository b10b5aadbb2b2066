/- Proved: lemmas of one statement's proof, merged by program: what each part proves stands ahead of it. Conditions: those that the lemmas name. -/
import Derived.Test.YtmnbkghihdbepaaM10
import Derived.IntWalk
import Derived.Test.YtmnbkghihdbepaaM8
import Derived.Laws.EntriesVeiled
import Derived.Laws.StructEq

/- Proved: what Size answers, the program's and the document's, for every two numbers. Conditions: those that each lemma names. -/
namespace Go.Proofs.Ytmnbkghihdbepaa
open Go.ChangeShapes Go.WideShapes Go.ChangeAt Go.RowKit

theorem i64_hi {a : Int} (h : (Lit.int .i64 a).wf = true) : -9223372036854775808 ≤ a ∧ a ≤ 9223372036854775807 := by
  simpa [Lit.wf, IntKind.min, IntKind.max, IntKind.signed, IntKind.bits] using h
theorem size_fits {a b : Int} (h : (Lit.int .i64 a).wf = true) (ha : 0 ≤ a) (hb : 1 ≤ b) (g : a % b ≠ 0) : wrap64 (a / b + 1) = a / b + 1 := by
  have h1 := (i64_hi h).2
  have h2 : 2 ≤ b := by
    rcases Int.lt_or_le b 2 with h3 | h3
    · have : b = 1 := by omega
      subst this; omega
    · exact h3
  have h5 : 2 * (a / b) ≤ b * (a / b) := Int.mul_le_mul_of_nonneg_right h2 (Int.ediv_nonneg ha (by omega))
  have h6 := Int.mul_ediv_add_emod a b
  have h7 := Int.emod_nonneg a (show b ≠ 0 by omega)
  have h4 : 0 ≤ a / b := Int.ediv_nonneg ha (by omega)
  exact IntWalk.wrap64_in _ ⟨by omega, by omega⟩
theorem quo_fits {a b : Int} (h : (Lit.int .i64 a).wf = true) (ha : 0 ≤ a) (hb : 1 ≤ b) : wrap64 (a.tdiv b) = a / b := by
  have h1 := (i64_hi h).2
  have h4 : 0 ≤ a / b := Int.ediv_nonneg ha (by omega)
  have h5 : 1 * (a / b) ≤ b * (a / b) := Int.mul_le_mul_of_nonneg_right hb h4
  have h6 := Int.mul_ediv_add_emod a b
  have h7 := Int.emod_nonneg a (show b ≠ 0 by omega)
  rw [Int.tdiv_eq_ediv_of_nonneg ha]
  exact IntWalk.wrap64_in _ ⟨by omega, by omega⟩
set_option maxHeartbeats 400000 in
theorem rsize_any (a b : Int) (w : World) (wa : (Lit.int .i64 a).wf = true) :
    Calls Try.prog 33 #[.int .i64 a, .int .i64 b] w fun e w' => e = .returned (.int .i64 (sizeZ a b)) ∧ w = w' := by
  have W := Lib.hid wa
  clear wa
  by_cases ha : a < 0
  · go_enter Try.func33, Try.ntmps33
    go_wp2
    go_ret
    exact ⟨ret_int (sizeZ_none (Or.inl ha)).symm, rfl⟩
  · have ha' : 0 ≤ a := by omega
    by_cases hb : b < 1
    · go_enter Try.func33, Try.ntmps33
      go_wp2
      go_ret
      exact ⟨ret_int (sizeZ_none (Or.inr hb)).symm, rfl⟩
    · have hb' : 1 ≤ b := by omega
      clear hb ha
      by_cases hr : a % b = 0
      · have HE := Lib.hid (sizeZ_even ha' hb' hr)
        have hr2 : a % b ≤ 0 := by omega
        go_enter Try.func33, Try.ntmps33
        go_wp2
        go_ret
        exact ⟨ret_int (by rw [quo_fits W.out ha' hb', HE.out]), rfl⟩
      · have HE := Lib.hid (sizeZ_odd ha' hb' hr)
        have HF := Lib.hid (size_fits W.out ha' hb' hr)
        have hr2 : 0 < a % b := by have := Int.emod_nonneg a (show b ≠ 0 by omega); omega
        go_enter Try.func33, Try.ntmps33
        go_wp2
        go_ret
        exact ⟨ret_int (by rw [quo_fits W.out ha' hb', HF.out, HE.out]), rfl⟩
end Go.Proofs.Ytmnbkghihdbepaa

/- Plain lemmas on datagrams as values. No condition beyond those that each lemma names. -/
namespace Go.Proofs.Ytmnbkghihdbepaa
open Go.ChangeShapes Go.WideShapes Go.ChangeAt Go.RowKit

/-- a datagram. -/
structure Dg where
  kind : Int
  stream : Int
  block : Nat
  index : Int
  k : Int
  n : Int
  len : Int
  credit : Int
  has : ByteArray
  body : ByteArray
def Dg.cells (d : Dg) : List Value := [.int .i64 d.kind, .int .i64 d.stream, .int .u32 d.block, .int .i64 d.index, .int .i64 d.k, .int .i64 d.n, .int .i64 d.len, .int .i64 d.credit, .string d.has, .string d.body]
def Dg.val (d : Dg) : Value := .agg #[.int .i64 d.kind, .int .i64 d.stream, .int .u32 d.block, .int .i64 d.index, .int .i64 d.k, .int .i64 d.n, .int .i64 d.len, .int .i64 d.credit, .string d.has, .string d.body]

theorem within_yes (x a b : Int) (w : World) (h1 : a ≤ x) (h2 : x ≤ b) : Calls Try.prog 38 #[.int .i64 x, .int .i64 a, .int .i64 b] w fun e w' => e = .returned (.bool true) ∧ w = w' := by
  go_enter Try.func38, Try.ntmps38
  go_wp2_with fail
  go_ret
  exact ⟨rfl, rfl⟩
theorem within_no (x a b : Int) (w : World) (h : x < a ∨ b < x) : Calls Try.prog 38 #[.int .i64 x, .int .i64 a, .int .i64 b] w fun e w' => e = .returned (.bool false) ∧ w = w' := by
  by_cases h1 : x < a
  · clear h
    go_enter Try.func38, Try.ntmps38
    go_wp2_with fail
    go_ret
    exact ⟨rfl, rfl⟩
  · have h2 : a ≤ x := by omega
    have h3 : decide (x ≤ b) = false := decide_eq_false (by omega)
    clear h h1
    go_enter Try.func38, Try.ntmps38
    go_wp2_with fail
    go_ret
    exact ⟨rfl, rfl⟩
theorem dnum_any (n : Nat) (z : Int) (w : World) (hn : n < 4294967296) : Calls Try.prog 55 #[.int .u32 n, .int .i64 z] w fun e w' => e = .returned (.string (putS n z)) ∧ Below w.heap.size w w' := by
  have H := Lib.hid (fun w => put_any n z w hn)
  clear hn
  generalize putS n z = S at *
  generalize putZ n z = q at *
  go_enter Try.func55, Try.ntmps55
  go_wp2_with fail
  refine (H.out _).mono ?_; rintro e w1 ⟨rfl, g1⟩
  have G1 := Lib.hid g1
  clear g1
  go_wp2_with fail
  go_ret
  exact ⟨rfl, G1.out⟩
/-- are two datagrams the same? -/
def Dg.eqB (d d' : Dg) : Bool := d.kind == d'.kind && (d.stream == d'.stream && (d.block == d'.block && (d.index == d'.index && (d.k == d'.k && (d.n == d'.n && (d.len == d'.len && (d.credit == d'.credit && (decide (d.has = d'.has) && decide (d.body = d'.body)))))))))
theorem toList_iff (a b : ByteArray) : a.toList = b.toList ↔ a = b := by
  rw [ByteArray.toList_eq, ByteArray.toList_eq]
  exact ⟨fun h => ByteArray.ext (Array.toList_inj.1 h), fun h => by rw [h]⟩
theorem eqB_iff (d d' : Dg) : d.eqB d' = true ↔ d = d' := by
  obtain ⟨a0, a1, a2, a3, a4, a5, a6, a7, a8, a9⟩ := d
  obtain ⟨b0, b1, b2, b3, b4, b5, b6, b7, b8, b9⟩ := d'
  unfold Dg.eqB
  simp
theorem eqB_no (d d' : Dg) : d.eqB d' = false ↔ d ≠ d' := by
  rw [Ne, ← eqB_iff]
  simp
theorem eqB_refl (d : Dg) : d.eqB d = true := (eqB_iff d d).2 rfl
theorem eq_dg (d d' : Dg) (w : World) : (binOp .eql 29 d.val d'.val).run Try.prog w = .ok (.bool (d.eqB d')) w := by
  unfold Dg.val Dg.eqB
  rw [run_eql_struct, run_equalIn_agg w _ 29 _ _ (by kernel_rfl) (by kernel_rfl)]
  simp [go_sem, Try.underlying29]
  simp only [toList_iff, Int.natCast_inj]
  repeat' (split <;> simp_all)
theorem neq_dg (d d' : Dg) (w : World) : (binOp .neq 29 d.val d'.val).run Try.prog w = .ok (.bool (!d.eqB d')) w := by
  unfold Dg.val Dg.eqB
  rw [run_neq_struct, run_equalIn_agg w _ 29 _ _ (by kernel_rfl) (by kernel_rfl)]
  simp [go_sem, Try.underlying29]
  simp only [toList_iff, Int.natCast_inj]
  repeat' (split <;> simp_all)
end Go.Proofs.Ytmnbkghihdbepaa

/- Plain lemmas on datagrams as values. No condition beyond those that each lemma names. -/
import Derived.Test.YtekolkbahhbcjaaWirLaw
import Derived.Test.YtekolkbahhbcjaaCrcLaw
import Derived.Test.YtekolkbahhbcjaaCutSize
import Derived.Laws.EntriesVeiled
import Derived.Laws.StructEq
namespace Go.Proofs.Ytekolkbahhbcjaa
open Go.ChangeShapes Go.WideShapes Go.ChangeAt Go.RowKit

/-- a datagram. -/
structure Dg where
  kind : Int
  stream : Int
  block : Nat
  index : Int
  k : Int
  n : Int
  len : Int
  credit : Int
  has : ByteArray
  body : ByteArray
def Dg.cells (d : Dg) : List Value := [.int .i64 d.kind, .int .i64 d.stream, .int .u32 d.block, .int .i64 d.index, .int .i64 d.k, .int .i64 d.n, .int .i64 d.len, .int .i64 d.credit, .string d.has, .string d.body]
def Dg.val (d : Dg) : Value := .agg #[.int .i64 d.kind, .int .i64 d.stream, .int .u32 d.block, .int .i64 d.index, .int .i64 d.k, .int .i64 d.n, .int .i64 d.len, .int .i64 d.credit, .string d.has, .string d.body]

theorem within_yes (x a b : Int) (w : World) (h1 : a ≤ x) (h2 : x ≤ b) : Calls Try.prog 30 #[.int .i64 x, .int .i64 a, .int .i64 b] w fun e w' => e = .returned (.bool true) ∧ w = w' := by
  go_enter Try.func30, Try.ntmps30
  go_wp2_with fail
  go_ret
  exact ⟨rfl, rfl⟩
theorem within_no (x a b : Int) (w : World) (h : x < a ∨ b < x) : Calls Try.prog 30 #[.int .i64 x, .int .i64 a, .int .i64 b] w fun e w' => e = .returned (.bool false) ∧ w = w' := by
  by_cases h1 : x < a
  · clear h
    go_enter Try.func30, Try.ntmps30
    go_wp2_with fail
    go_ret
    exact ⟨rfl, rfl⟩
  · have h2 : a ≤ x := by omega
    have h3 : decide (x ≤ b) = false := decide_eq_false (by omega)
    clear h h1
    go_enter Try.func30, Try.ntmps30
    go_wp2_with fail
    go_ret
    exact ⟨rfl, rfl⟩
theorem dnum_any (n : Nat) (z : Int) (w : World) (hn : n < 4294967296) : Calls Try.prog 18 #[.int .u32 n, .int .i64 z] w fun e w' => e = .returned (.string (putS n z)) ∧ Below w.heap.size w w' := by
  have H := Lib.hid (fun w => put_any n z w hn)
  clear hn
  generalize putS n z = S at *
  generalize putZ n z = q at *
  go_enter Try.func18, Try.ntmps18
  go_wp2_with fail
  refine (H.out _).mono ?_; rintro e w1 ⟨rfl, g1⟩
  have G1 := Lib.hid g1
  clear g1
  go_wp2_with fail
  go_ret
  exact ⟨rfl, G1.out⟩
/-- are two datagrams the same? -/
def Dg.eqB (d d' : Dg) : Bool := d.kind == d'.kind && (d.stream == d'.stream && (d.block == d'.block && (d.index == d'.index && (d.k == d'.k && (d.n == d'.n && (d.len == d'.len && (d.credit == d'.credit && (decide (d.has = d'.has) && decide (d.body = d'.body)))))))))
theorem toList_iff (a b : ByteArray) : a.toList = b.toList ↔ a = b := by
  rw [ByteArray.toList_eq, ByteArray.toList_eq]
  exact ⟨fun h => ByteArray.ext (Array.toList_inj.1 h), fun h => by rw [h]⟩
theorem eqB_iff (d d' : Dg) : d.eqB d' = true ↔ d = d' := by
  obtain ⟨a0, a1, a2, a3, a4, a5, a6, a7, a8, a9⟩ := d
  obtain ⟨b0, b1, b2, b3, b4, b5, b6, b7, b8, b9⟩ := d'
  unfold Dg.eqB
  simp
theorem eqB_no (d d' : Dg) : d.eqB d' = false ↔ d ≠ d' := by
  rw [Ne, ← eqB_iff]
  simp
theorem eqB_refl (d : Dg) : d.eqB d = true := (eqB_iff d d).2 rfl
theorem eq_dg (d d' : Dg) (w : World) : (binOp .eql 24 d.val d'.val).run Try.prog w = .ok (.bool (d.eqB d')) w := by
  unfold Dg.val Dg.eqB
  rw [run_eql_struct, run_equalIn_agg w _ 24 _ _ (by kernel_rfl) (by kernel_rfl)]
  simp [go_sem, Try.underlying24]
  simp only [toList_iff, Int.natCast_inj]
  repeat' (split <;> simp_all)
theorem neq_dg (d d' : Dg) (w : World) : (binOp .neq 24 d.val d'.val).run Try.prog w = .ok (.bool (!d.eqB d')) w := by
  unfold Dg.val Dg.eqB
  rw [run_neq_struct, run_equalIn_agg w _ 24 _ _ (by kernel_rfl) (by kernel_rfl)]
  simp [go_sem, Try.underlying24]
  simp only [toList_iff, Int.natCast_inj]
  repeat' (split <;> simp_all)
end Go.Proofs.Ytekolkbahhbcjaa

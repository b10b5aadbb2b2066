/- Proved: lemmas of one statement's proof, merged by program: what each part proves stands ahead of it. Conditions: those that the lemmas name. -/
import Derived.Test.YtmnbkghihdbepaaM30
import Derived.Laws.DeepStrings4

/- Proved: what the document's Read answers. Conditions: those that the theorems name. -/
namespace Go.Proofs.Ytmnbkghihdbepaa
open Go.ChangeShapes Go.WideShapes Go.ChangeAt Go.RowKit

/-- A reader and a datagram come back as the fields of a layout leave them; nothing that was there has turned. -/
def GivesRX (W : World) (g : Grp) (a : ByteArray) (e : Ending) (w' : World) : Prop :=
  ∃ (s : ByteArray) (z b0 b1 : Int) (b2 : Nat) (b3 b4 b5 b6 b7 : Int) (b8 b9 : ByteArray), e = .returned (.tuple #[.agg #[.string s, .int .i64 z], .agg #[.int .i64 b0, .int .i64 b1, .int .u32 (b2 : Nat), .int .i64 b3, .int .i64 b4, .int .i64 b5, .int .i64 b6, .int .i64 b7, .string b8, .string b9]]) ∧ Below W.heap.size W w' ∧
    (a.size - 8 < grpSz g → z = 4) ∧ (grpSz g ≤ a.size - 8 → z = 0 ∧ (⟨b0, b1, b2, b3, b4, b5, b6, b7, b8, b9⟩ : Dg) = pD g a ∧ s.size = leftN g (a.size - 8))
theorem rx_of {W : World} {g : Grp} {a s : ByteArray} {z : Int} {d : Dg} {f : FuncId} {args : Array Value} (h : Calls Try.prog f args W (GivesRF W s z d)) (h1 : a.size - 8 < grpSz g → z = 4) (h2 : grpSz g ≤ a.size - 8 → z = 0 ∧ d = pD g a ∧ s.size = leftN g (a.size - 8)) : Calls Try.prog f args W (GivesRX W g a) :=
  h.mono fun _ _ q => ⟨s, z, d.kind, d.stream, d.block, d.index, d.k, d.n, d.len, d.credit, d.has, d.body, q.1, q.2, h1, h2⟩
end Go.Proofs.Ytmnbkghihdbepaa

/- Proved: what the document's Read answers. Conditions: those that the theorems name. -/
namespace Go.Proofs.Ytmnbkghihdbepaa
open Go.ChangeShapes Go.WideShapes Go.ChangeAt Go.RowKit

theorem cut_one (a : ByteArray) (i : Nat) (h : i < a.size) : cutN a i (i + 1) = (bts a).getD i 0 := by
  unfold cutN numS
  have hz : (a.extract i (i + 1)).size = 1 := by rw [ByteArray.size_extract]; omega
  rw [hz, bts_extract]
  show numK 0 _ * 256 + _ = _
  rw [show numK 0 ((bts a).take (i + 1) |>.drop i) = 0 from rfl, Nat.zero_mul, Nat.zero_add, List.getD_eq_getElem?_getD, List.getD_eq_getElem?_getD]
  congr 1
  simp
theorem sum_same {s : ByteArray} (h : ¬ s.size < 12) : (tx (byteL (crcS 0 (front s)) 4) = s.extract (s.size - 4) s.size) ↔ sumOf s = crcS 0 (front s) := by
  constructor
  · intro e
    unfold sumOf
    rw [← e]
    exact num_put (crcS_lt (by decide) _)
  · intro e
    rw [← e]
    exact sum_text h
theorem s0_list : S0.toList = [] := by rw [ByteArray.toList_eq]; rfl
end Go.Proofs.Ytmnbkghihdbepaa

/- Proved: which part a key is in. Conditions: those that the theorems name. -/
import Derived.Test.YtgclgmfmcgacdaaTbQuiet
namespace Go.Proofs.Ytgclgmfmcgacdaa
open Go.ChangeShapes Go.WideShapes Go.ChangeAt Go.RowKit

set_option maxRecDepth 100000 in
set_option maxHeartbeats 800000 in
theorem tb_part {w : World} {b gp n : Nat} {r : List Value} (hT : At w b 65 (.slice (some ⟨gp, 0, none⟩) n n :: r)) (hn : 1 ≤ n ∧ n ≤ 64) {k : Ky} (hk : KyOk k) :
    Calls Try.prog 24 #[ptv b, kyV k] w fun e w' => e = .returned (.pointer (some ⟨gp, pj n k * 3, none⟩)) ∧ Tn Nil w w' := by
  have hT1 := hT.alloc (.cells #[.int .i64 k.1, .int .u32 k.2] 35)
  have HT : Hid (Tn Nil w (w.alloc (.cells #[.int .i64 k.1, .int .u32 k.2] 35))) := Lib.hid ((Tn.refl _ w).alloc _)
  have HX := At.new w 35 [.int .i64 k.1, .int .u32 k.2]
  have c0 := hT1.cell 0 rfl
  have x0 := HX.cell 0 rfl
  have x1 := HX.cell 1 rfl
  have s0 := hk.s0
  have s1 := hk.s1
  have b0 := hk.b0
  have b1 := hk.b1
  clear hT hT1 HX hk
  have hn1 := hn.1
  have hn2 := hn.2
  have hwn : IntKind.u64.wrap (n : Int) = n := by rw [IntKind.wrap_u64]; omega
  have hwa : IntKind.u64.wrap k.1 = k.1 % 18446744073709551616 := IntKind.wrap_u64 _
  have hwb : IntKind.u64.wrap k.2 = k.2 := by rw [IntKind.wrap_u64]; omega
  have hwc : IntKind.u64.wrap (k.1 % 18446744073709551616 + k.2) = (k.1 % 18446744073709551616 + k.2) % 18446744073709551616 := IntKind.wrap_u64 _
  have hz : ¬ ((n : Int) = 0) := by omega
  have hi0 : 0 ≤ (k.1 + k.2) % 18446744073709551616 % (n : Int) := Int.emod_nonneg _ (by omega)
  have hi1 : (k.1 + k.2) % 18446744073709551616 % (n : Int) < n := Int.emod_lt_of_pos _ (by omega)
  unfold pj
  go_enter Try.func24, Try.ntmps24
  go_wp2_with fail
  generalize w.heap.size = bx at *
  generalize hw1 : w.alloc (.cells #[.int .i64 k.1, .int .u32 k.2] 35) = w1 at *
  go_quiet (fail)
  go_wp2_with fail
  go_ret
  exact ⟨rfl, HT.out.drewN _⟩
end Go.Proofs.Ytgclgmfmcgacdaa

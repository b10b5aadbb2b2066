/- Proved: the walks of the laws of package crc. Conditions: those that the theorems name. -/
import Derived.Test.YtekolkbahhbcjaaCrcMoved
namespace Go.Proofs.Ytekolkbahhbcjaa
open Go.ChangeShapes Go.WideShapes Go.ChangeAt Go.RowKit

theorem sum_as (s : ByteArray) (z : Nat) (w : World) (hs : s.size ≤ maxLen) (hz : crcS 0 s = z) :
    Calls Try.prog 19 #[.string s] w fun e w' => e = .returned (.int .u32 (z : Nat)) ∧ w = w' := by
  rw [← hz]; exact csum_any s hs w
theorem add_as (c : Nat) (s : ByteArray) (z : Nat) (w : World) (hc : c < 4294967296) (hs : s.size ≤ maxLen) (hz : crcS c s = z) :
    Calls Try.prog 32 #[.int .u32 (c : Nat), .string s] w fun e w' => e = .returned (.int .u32 (z : Nat)) ∧ w = w' := by
  rw [← hz]; exact cadd_any c s hc hs w
abbrev xNine : ByteArray := ⟨#[49, 50, 51, 52, 53, 54, 55, 56, 57]⟩
abbrev xFour : ByteArray := ⟨#[49, 50, 51, 52]⟩
abbrev xFive : ByteArray := ⟨#[53, 54, 55, 56, 57]⟩

end Go.Proofs.Ytekolkbahhbcjaa

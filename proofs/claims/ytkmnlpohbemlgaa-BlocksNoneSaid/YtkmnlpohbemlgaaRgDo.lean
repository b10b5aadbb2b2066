/- Proved: what one deed of the laws of package ring does. Conditions: those that the theorems name. -/
import Derived.Test.YtkmnlpohbemlgaaRgPut2
import Derived.Deep.RegionHeld3
namespace Go.Proofs.Ytkmnlpohbemlgaa
open Go.ChangeShapes Go.WideShapes Go.ChangeAt Go.RowKit

/-- a deed. -/
structure Dee where
  kind : Int
  n : Int
  body : ByteArray
def Dee.val (d : Dee) : Value := .agg #[.int .i64 d.kind, .int .i64 d.n, .string d.body]
/-- how many bytes a deed speaks of, and what waits behind it. -/
def Dee.many (d : Dee) (s : ByteArray) : Nat := (max 0 (min d.n (s.size : Int))).toNat
def Dee.does (d : Dee) (r : Nat) (s : ByteArray) : ByteArray :=
  if d.kind = 0 then s ++ d.body.extract 0 (min d.body.size (r - s.size)) else if d.kind = 1 then s.extract (d.many s) s.size else if d.kind = 2 then s else S0
/-- a text and a yes come back; block b is a ring of s' then. -/
def GivesDo (W : World) (b r : Nat) (g : Option Nat) (s' : ByteArray) (e : Ending) (w' : World) : Prop :=
  e = .returned (.tuple #[.string s', .bool true]) ∧ ∃ g', Rg w' b r g' s' ∧ Turns W w' b g ∧ Grows W g g'
theorem Turns.at_ {w w' : World} {x b : Nat} {g : Option Nat} {t : TypeId} {xs : List Value} (k : Turns w w' b g) (h : At w x t xs) (hb : x ≠ b) (hg : ∀ y, g = some y → y ≠ x) : At w' x t xs :=
  h.turns k hb (fun e => hg x e rfl)

theorem Rg.drew {w : World} {b r : Nat} {g : Option Nat} {s : ByteArray} (h : Rg w b r g s) : Rg w.drew b r g s := h.below (Below.refl _ _).drew
theorem turns_drew (w : World) (b : Nat) (g : Option Nat) : Turns w w.drew b g := turns_below (Below.refl _ _).drew b g

end Go.Proofs.Ytkmnlpohbemlgaa

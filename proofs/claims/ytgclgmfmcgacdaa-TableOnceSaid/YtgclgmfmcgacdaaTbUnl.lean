/- Proved: what unlink of package table leaves. Conditions: those that the theorems name. -/
import Derived.Test.YtgclgmfmcgacdaaTbQuiet
import Derived.BigRegion
namespace Go.Proofs.Ytgclgmfmcgacdaa
open Go.ChangeShapes Go.WideShapes Go.ChangeAt Go.RowKit

/-! ### unlink -/
/-- what becomes of each entry in memory. -/
def Unl (w w' : World) (p x y : Nat) : Prop :=
  ∀ (q need : Nat) (k : Ky) (s : ByteArray) (v : Value) (a b : Option Nat), Nd w q k need s v a b → Nd w' q k need s v (if q = p then none else if q = y then some x else a) (if q = p then none else if q = x then some y else b)
set_option maxRecDepth 100000 in
set_option maxHeartbeats 1600000 in
theorem nd_unlink {w : World} {p need n1 n2 x y : Nat} {k k1 k2 : Ky} {s s1 s2 : ByteArray} {v v1 v2 : Value} {a1 b1 a2 b2 : Option Nat}
    (h : Nd w p k need s v (some x) (some y)) (hx : Nd w x k1 n1 s1 v1 a1 b1) (hy : Nd w y k2 n2 s2 v2 a2 b2) (hxp : x ≠ p) (hyp : y ≠ p) :
    Calls Try.prog 46 #[ptv p] w fun e w' => e = .returned (.tuple #[]) ∧ Unl w w' p x y ∧ Tn (fun i => i = p ∨ i = x ∨ i = y) w w' := by
  have c5 := At.cell h 5 rfl
  have c6 := At.cell h 6 rfl
  have x6 := At.cell hx 6 rfl
  have y5 := At.cell hy 5 rfl
  have fx := At.free hx 6
  have fy := At.free hy 5
  have H := Lib.hid h
  have HXP := Lib.hid (And.intro hxp hyp)
  clear h hx hy hxp hyp
  unfold ptO at c5 c6
  simp only at c5 c6
  go_enter Try.func46, Try.ntmps46
  go_wp2_with fail
  go_region
  have HU : Hid (∀ (q need : Nat) (k : Ky) (s : ByteArray) (v : Value) (a b : Option Nat), Nd w q k need s v a b → Nd ((w.setCell ⟨x, 6, none⟩ (ptv y)).setCell ⟨y, 5, none⟩ (ptv x)).drew q k need s v (if q = y then some x else a) (if q = x then some y else b)) :=
    Lib.hid fun q need k s v a b h => ((h.setB x (some y)).setA y (some x)).tn (Tn.refl Nil _).drew (fun e => e)
  have HT : Hid (Tn (fun i => i = p ∨ i = x ∨ i = y) w ((w.setCell ⟨x, 6, none⟩ (ptv y)).setCell ⟨y, 5, none⟩ (ptv x)).drew) :=
    Lib.hid (((Tn.refl _ w).set ⟨x, 6, none⟩ _ (fun _ => .inr (.inl rfl))).set ⟨y, 5, none⟩ _ (fun _ => .inr (.inr rfl))).drew
  have HP1 := Lib.hid (HU.out p need k s v _ _ H.out)
  rw [if_neg HXP.out.2.symm, if_neg HXP.out.1.symm] at HP1
  clear c5 c6 x6 y5 fx fy
  change Exit.then _ _ _ _ ((w.setCell ⟨x, 6, none⟩ (ptv y)).setCell ⟨y, 5, none⟩ (ptv x)).drew
  generalize ((w.setCell ⟨x, 6, none⟩ (ptv y)).setCell ⟨y, 5, none⟩ (ptv x)).drew = w1 at *
  have c5 := At.cell HP1.out 5 rfl
  have c6 := At.cell HP1.out 6 rfl
  have f5 := At.free HP1.out 5
  have f6 := At.free HP1.out 6
  go_wp2_with fail
  go_end0
  refine ⟨rfl, fun q need k s v a b h => ?_, (HT.out.set ⟨p, 5, none⟩ _ (fun _ => .inl rfl)).set ⟨p, 6, none⟩ _ (fun _ => .inl rfl)⟩
  have := ((HU.out q need k s v a b h).setA p none).setB p none
  exact this
end Go.Proofs.Ytgclgmfmcgacdaa

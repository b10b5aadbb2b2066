/- Plain lemmas on a table that came in as an argument. No condition beyond those that each lemma names. -/
import Derived.Test.YtneaddgpbffkpaaMatMath
import Derived.Deep.Matrix
import Derived.OpenShut
namespace Go.Proofs.Ytneaddgpbffkpaa
open Go.ChangeShapes Go.WideShapes Go.ChangeAt Go.RowKit

theorem bounds_byte {z : Int} (h : (Lit.int .u8 z).wf = true) : 0 ≤ z ∧ z ≤ 255 := bounds_u8 h
theorem rows_arg {w : World} {x : Addr} {base len cap : Nat} {A : Nat → Option Addr} {L C : Nat → Nat} {Z : Nat → List Int} (hl : len ≤ cap)
    (hrow : ∀ r, r < cap → w.cell? (x.add r) = some (.slice (A r) (L r) (C r)) ∧ L r ≤ C r ∧ C r ≤ maxLen ∧ (Z r).length = C r ∧ (∀ n ∈ Z r, (Lit.int .u8 n).wf = true) ∧ (A r = none → C r = 0) ∧
      ∀ a', A r = some a' → base ≤ a'.block ∧ ∀ c, c < C r → w.cell? (a'.add c) = some (.int .u8 ((Z r).getD c 0))) : ∃ t, Rows w (some x) len t := by
  refine ⟨mkR len fun r => mk (L r) fun i => ((Z r).getD i 0).toNat, mkR_len _ _, fun h0 => ?_⟩
  have hx := World.block_lt_of_cell? w _ (hrow 0 (by omega)).1
  rw [add_block] at hx
  refine ⟨x, rfl, hx, fun r hr => ?_⟩
  obtain ⟨h1, h2, h3, h4, h5, h6, h7⟩ := hrow r (by omega)
  have hb : ∀ i, i < C r → 0 ≤ (Z r).getD i 0 ∧ (Z r).getD i 0 ≤ 255 := fun i hi => by
    rw [List.getD_eq_getElem?_getD, List.getElem?_eq_getElem (by omega)]
    exact bounds_byte (h5 _ (List.getElem_mem (by omega)))
  rw [mkR_at _ _ _ hr, mk_len]
  refine ⟨A r, C r, h1, h2, mk_len _ _, fun j => ?_, fun hn => ?_⟩
  · rcases Nat.lt_or_ge j (L r) with hj | hj
    · rw [mk_at _ _ j hj]; have := hb j (by omega); omega
    · rw [getD_past _ _ (by rw [mk_len]; exact hj)]; decide
  · cases e : A r with
    | none => have := h6 e; omega
    | some a' =>
      obtain ⟨_, hc⟩ := h7 a' e
      have hlt := World.block_lt_of_cell? w _ (hc 0 (by omega))
      rw [add_block] at hlt
      refine ⟨a', rfl, hlt, fun j hj => ?_⟩
      have h8 := hb j (by omega)
      rw [hc j (by omega), mk_at _ _ j hj, Int.toNat_of_nonneg h8.1]
end Go.Proofs.Ytneaddgpbffkpaa

/- Plain lemmas on ranging over a map that holds the times of keys. No condition beyond those that each lemma names. -/
import Derived.Test.YtmjnlmcbcclbkaaTmBase
import Derived.Lib.MinMax
namespace Go.Proofs.Ytmjnlmcbcclbkaa
open Go.ChangeShapes Go.WideShapes Go.ChangeAt Go.RowKit

/-- Block b is a map of the times l; block r goes through it; p: those that are still to come; so many are. -/
def Rng (w : World) (b r : Nat) (l : List Tm) (p : Tm → Bool) (cnt : Nat) : Prop :=
  Good l ∧ ∃ (D : TmD) (left : Lit → Bool) (n : Nat), MapD D l ∧ w.ranges Try.prog 32 (plainElem Try.prog 3) b r n D left cnt ∧ ∀ x ∈ l, left (kyL x.1) = p x
theorem Rng.good {w : World} {b r : Nat} {l : List Tm} {p : Tm → Bool} {cnt : Nat} (h : Rng w b r l p cnt) : Good l := h.1
theorem Rng.mp {w : World} {b r : Nat} {l : List Tm} {p : Tm → Bool} {cnt : Nat} (h : Rng w b r l p cnt) : Mp w b l := by
  obtain ⟨hl, D, left, n, hD, hr, _⟩ := h
  exact Mp.of hl hr.owns hD
theorem Rng.kept {w w' : World} {b r : Nat} {l : List Tm} {p : Tm → Bool} {cnt : Nat} {row : Option Nat} (h : Rng w b r l p cnt) (hg : w.grownBy w' row) (hb : row ≠ some b) (hr : row ≠ some r) : Rng w' b r l p cnt := by
  obtain ⟨hl, D, left, n, hD, h, hp⟩ := h
  exact ⟨hl, D, left, n, hD, h.kept hg (fun e => hb e.symm) (fun e => hr e.symm), hp⟩
theorem Rng.left_eq {w : World} {b r : Nat} {l : List Tm} {p : Tm → Bool} {cnt : Nat} (h : Rng w b r l p cnt) : w.rangeLeft b r = cnt := by
  obtain ⟨hl, D, left, n, hD, h, hp⟩ := h
  exact h.left_eq
theorem Rng.ne {w : World} {b r : Nat} {l : List Tm} {p : Tm → Bool} {cnt : Nat} (h : Rng w b r l p cnt) : r ≠ b := by
  obtain ⟨hl, D, left, n, hD, h, hp⟩ := h
  exact h.ne
theorem Rng.lt {w : World} {b r : Nat} {l : List Tm} {p : Tm → Bool} {cnt : Nat} (h : Rng w b r l p cnt) : r < w.heap.size := by
  obtain ⟨hl, D, left, n, hD, h, hp⟩ := h
  exact h.lt
theorem Rng.no_cell {w : World} {b r : Nat} {l : List Tm} {p : Tm → Bool} {cnt : Nat} (h : Rng w b r l p cnt) {xs : Array Value} {t : TypeId} {f : Nat × Nat} {g : Nat} (hg : w.heap[g]? = some (.cells xs t f)) : g ≠ b ∧ g ≠ r := by
  obtain ⟨hl, D, left, n, hD, ⟨es, clock, since, seen, c0, hb, _, _, _, hr, _⟩, hp⟩ := h
  constructor
  · intro e
    rw [e, hb] at hg
    cases hg
  · intro e
    rw [e, hr] at hg
    cases hg

section
variable (w : World) {ops : Array Oper} {rest : List Oper} {o : Oper} {a : Act} {Q : Exit → Act → World → Prop}
/-- 'range m'. -/
theorem rng_start (hg : o.guard = none) (m : Operand) (hop : o.op = Op.range 49 m) (b : Nat) (l : List Tm) (hm : a.eval m = .map (some b)) (hown : Mp w b l)
    (hK : ∀ w', Rng w' b w.heap.size l (fun _ => true) l.length → w.grownBy w' none → w'.heap.size = w.heap.size + 1 → wpList Try.prog ops Q rest (a.put o.dst (.pointer (some ⟨w.heap.size, 0, none⟩))) w') :
    wpList Try.prog ops Q (o :: rest) a w := by
  obtain ⟨hl, D, ho, hD⟩ := hown
  refine wpList_range_own w hg m _ hop _ _ ky_law Try.underlying49 _ b _ D hm ho ?_
  intro w' hr hgr hs
  rw [hD.num] at hr
  exact hK w' ⟨hl, D, _, _, hD, hr, fun x hx => by rw [hD.has _ (hl.ok x hx).1, wasT_mem hx]⟩ hgr hs
/-- The step. -/
theorem rng_next (hg : o.guard = none) (it : Operand) (hop : o.op = Op.next it false) (b r : Nat) (l : List Tm) (p : Tm → Bool) (cnt : Nat) (hit : a.eval it = .pointer (some ⟨r, 0, none⟩)) (h : Rng w b r l p cnt)
    (hDone : (∀ x ∈ l, p x = false) → wpList Try.prog ops Q rest (a.put o.dst (.tuple #[.bool false])) w)
    (hMore : ∀ (x : Tm) (w' : World) (cnt' : Nat), x ∈ l → p x = true → Rng w' b r l (fun y => p y && !decide (y = x)) cnt' → cnt' < cnt → w.grownBy w' (some r) → w'.heap.size = w.heap.size →
      (Instr.entry (.pointer (some ⟨r, 0, none⟩))).run Try.prog w' = .ok (.tuple #[.agg #[.int .i64 x.1.1, .int .u32 x.1.2], .int .i64 x.2]) w' → wpList Try.prog ops Q rest (a.put o.dst (.tuple #[.bool true, .agg #[.int .i64 x.1.1, .int .u32 x.1.2], .int .i64 x.2])) w') :
    wpList Try.prog ops Q (o :: rest) a w := by
  obtain ⟨hl, D, left, n, hD, hr, hp⟩ := h
  refine wpList_next_ranges w hg it hop 32 ky_law (plainElem Try.prog 3) kyV (Value.int .i64) (fun key kl hk => by obtain ⟨k, e, _, _⟩ := ky_inv hk; exact ⟨k, e⟩) (fun v y hv => by obtain ⟨c, rfl, _⟩ := plainElem_int_inv Try.underlying3 hv; exact ⟨c, rfl⟩) b r n D left cnt hit hr ?_ ?_
  · intro _ hd
    exact hDone fun x hx => by rw [← hp x hx]; exact hd _
  · intro k c kl y w' cnt' hkey hlk hv hat hrg hlt hgr hsz hen
    obtain ⟨k', e, rfl, hk⟩ := ky_inv hkey
    have e' : k = k' := by
      simp at e
      exact Prod.ext e.1 e.2
    subst e'
    obtain ⟨c', ec, rfl, _⟩ := plainElem_int_inv Try.underlying3 hv
    have ec' : c = c' := by simpa using ec
    subst ec'
    have hh := hD.has k hk
    rw [Maps.has_true_of_atKey hat] at hh
    obtain ⟨x, hx, rfl⟩ := wasT_iff.1 hh.symm
    have hv := hD.val x.1 hk
    rw [hat, atT_mem hl hx] at hv
    have hv' : c = x.2 := by simpa using hv
    subst hv'
    refine hMore x w' cnt' hx (by rw [← hp x hx]; exact hlk) ⟨hl, D, _, n, hD, hrg, fun z hz => ?_⟩ hlt hgr hsz hen
    show (left (kyL z.1) && !(kyL z.1).sameKey (kyL x.1)) = _
    rw [hp z hz, kyL_same (hl.ok z hz).1 hk]
    congr 2
    rw [Bool.eq_iff_iff, decide_eq_true_eq, decide_eq_true_eq]
    exact ⟨fun e => hl.one hz hx e, fun e => by rw [e]⟩
end
/-- 'delete(m, k)' of one that has come, as a run equation. -/
theorem rng_del {w : World} {b r : Nat} {l : List Tm} {p : Tm → Bool} {cnt : Nat} (h : Rng w b r l p cnt) {x : Tm} (hx : x ∈ l) (ty : TypeId) :
    ∃ w' cnt', (Builtin.delete_ #[49, 32] ty #[.map (some b), .agg #[.int .i64 x.1.1, .int .u32 x.1.2]]).run Try.prog w = .ok (.tuple #[]) w' ∧ Rng w' b r (dropT l x.1) p cnt' ∧ cnt' ≤ cnt ∧ w.grownBy w' (some b) := by
  obtain ⟨hl, D, left, n, hD, hr, hp⟩ := h
  have hk := (hl.ok x hx).1
  obtain ⟨w', cnt', hrun, hr', hle, ht⟩ := hr.drop ky_law Try.underlying49 (ky_key hk) ty
  refine ⟨w', cnt', hrun, ⟨hl.drop _, _, _, n, hD.del hl (hr.owns.tidy ky_law) hk, hr', fun z hz => ?_⟩, hle, ht.grown⟩
  obtain ⟨hz, hne⟩ := drop_mem.1 hz
  show (left (kyL z.1) && !(kyL z.1).sameKey (kyL x.1)) = _
  rw [hp z hz, kyL_same (hl.ok z hz).1 hk]
  simp [hne]
end Go.Proofs.Ytmjnlmcbcclbkaa

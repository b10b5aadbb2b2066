/- Proved: orders that were made since the call began. Conditions: those that the theorems name. -/
import Derived.Test.YtifekpdjenfnbaaOrNext
namespace Go.Proofs.Ytifekpdjenfnbaa
open Go.ChangeShapes Go.WideShapes Go.ChangeAt Go.RowKit

/-- what is no order, and no row of texts, stays. -/
def KeepsO (w w' : World) : Prop := ∀ (g : Nat) (cur : Array Value) (t : TypeId) (q : Nat × Nat), w.heap[g]? = some (Obj.cells cur t q) → t ≠ 52 → t ≠ 9 → w'.heap[g]? = w.heap[g]?
theorem KeepsO.below {w w' : World} (h : Below w.heap.size w w') : KeepsO w w' := fun g _ _ _ hg _ _ => h.block g (Array.getElem?_eq_some_iff.1 hg).1
theorem KeepsO.turned {w w' : World} {b : Nat} {B n : Int} {r : Option Nat} {v : Value} {L : List ByteArray} (h : Od w b B n r v L) (t : Tn (OdOwn b r) w w') : KeepsO w w' := fun g cur ty q hg n1 n2 =>
  t.block g (Array.getElem?_eq_some_iff.1 hg).1 fun e => by
    obtain ⟨c, t, hc, ht⟩ := h.types g e
    rw [hg] at hc
    injection hc with hc
    injection hc with _ hc _
    subst hc
    rcases ht with ht | ht
    · exact n1 ht
    · exact n2 ht
theorem KeepsO.at_ {w w' : World} {b : Nat} {t : TypeId} {xs : List Value} (k : KeepsO w w') (h : At w b t xs) (h1 : t ≠ 52) (h2 : t ≠ 9) : At w' b t xs := h.block (k b _ _ _ h h1 h2)

/-- Block b is an order that was made since w; of what was there in w nothing has turned. -/
def OB (w wi : World) (b : Nat) (B n : Int) (L : List ByteArray) : Prop := ∃ r v, Od wi b B n r v L ∧ w.heap.size ≤ b ∧ (∀ x, r = some x → w.heap.size ≤ x) ∧ Below w.heap.size w wi
section
variable {w wi w' : World} {b : Nat} {B n : Int} {L : List ByteArray}
theorem OB.bel (h : OB w wi b B n L) : Below w.heap.size w wi := by
  obtain ⟨_, _, _, _, _, h⟩ := h
  exact h
theorem OB.u32 (h : OB w wi b B n L) : U32 B := by
  obtain ⟨_, _, h, _⟩ := h
  exact h.u32
theorem OB.few (h : OB w wi b B n L) : (L.length : Int) ≤ n ∧ n ≤ 64 := by
  obtain ⟨_, _, h, _⟩ := h
  exact ⟨h.few, h.high⟩
theorem OB.below (h : OB w wi b B n L) (k : Below wi.heap.size wi w') : OB w w' b B n L := by
  obtain ⟨r, v, hf, hb, hr, hl⟩ := h
  exact ⟨r, v, hf.below k, hb, hr, hl.trans (k.mono hl.size)⟩
theorem OB.step {B' : Int} {r r' : Option Nat} {v v' : Value} {L' : List ByteArray} (hf : Od wi b B n r v L) (hb : w.heap.size ≤ b) (hr : ∀ x, r = some x → w.heap.size ≤ x) (hl : Below w.heap.size w wi) (hf' : Od w' b B' n r' v' L') (hr' : r' = r ∨ ∃ g, r' = some g ∧ wi.heap.size ≤ g) (t : Tn (OdOwn b r) wi w') : OB w w' b B' n L' ∧ KeepsO wi w' := by
  refine ⟨⟨r', v', hf', hb, fun x hx => ?_, t.below hl hl.size (fun i hi e => ?_)⟩, .turned hf t⟩
  · rcases hr' with rfl | ⟨g, rfl, hg⟩
    · exact hr x hx
    · injection hx with hx
      have := hl.size
      omega
  · rcases e with e | e
    · omega
    · have := hr i e; omega
/-- a store into a block that is no order, and no row of texts. -/
theorem OB.set (h : OB w wi b B n L) {yb : Nat} {t : TypeId} {vs : List Value} (k : At wi yb t vs) (h1 : t ≠ 52) (h2 : t ≠ 9) (hy : w.heap.size ≤ yb) (j : Nat) (u : Value) : OB w (wi.setCell ⟨yb, j, none⟩ u) b B n L := by
  obtain ⟨r, v, hf, hb, hr, hl⟩ := h
  have t2 : Tn (fun i => i = yb) wi (wi.setCell ⟨yb, j, none⟩ u) := (Tn.refl (fun i => i = yb) wi).set _ _ (fun _ => rfl)
  have no : ∀ g, OdOwn b r g → ¬ g = yb := fun g hg e => by
    obtain ⟨c, ty, hc, ht⟩ := hf.types g hg
    have k' : wi.heap[yb]? = some (.cells vs.toArray t (0, 0)) := k
    rw [e, k'] at hc
    injection hc with hc
    injection hc with _ hc _
    rcases ht with ht | ht
    · exact h1 (hc.trans ht)
    · exact h2 (hc.trans ht)
  exact ⟨r, v, hf.tn t2 (no b (.inl rfl)) (fun g e => no g (.inr e)), hb, hr, t2.below hl hl.size (fun i hi e => by omega)⟩
theorem ob_new (w wi : World) (base n : Int) (hl : Below w.heap.size w wi) (hb : U32 base) (h0 : 1 ≤ n) (h1 : n ≤ 64) :
    Calls Try.prog 7 #[.int .u32 base, .int .i64 n] wi fun e w' => ∃ b, e = .returned (.tuple #[.pointer (some ⟨b, 0, none⟩), .int .i64 0]) ∧ OB w w' b base n [] := by
  refine (or_new_any base n wi hb h0 h1).mono ?_
  rintro e w' ⟨rfl, hk, hbel⟩
  exact ⟨_, rfl, none, _, hk, hl.size, (fun _ h => nomatch h), hl.trans (hbel.mono hl.size)⟩
theorem ob_put (h : OB w wi b B n L) (x : Int) (s : ByteArray) (hx : U32 x) :
    Calls Try.prog 9 #[.pointer (some ⟨b, 0, none⟩), .int .u32 x, .string s] wi fun e w' => e = .returned (.int .i64 (putE B n L x s)) ∧ OB w w' b B n (putO B n L x s) ∧ KeepsO wi w' := by
  obtain ⟨r, v, hf, hb, hr, hlo⟩ := h
  refine (or_put_any b B n r v L x s wi hf hx).mono ?_
  rintro e w' ⟨r', v', rfl, hf', hr', t⟩
  exact ⟨rfl, OB.step hf hb hr hlo hf' hr' t⟩
theorem ob_next (h : OB w wi b B n L) (room : Int) :
    Calls Try.prog 11 #[.pointer (some ⟨b, 0, none⟩), .int .i64 room] wi fun e w' => e = .returned (.tuple #[.string (nxS L room), .bool (nxO L room)]) ∧ OB w w' b (nxBs B L room) n (nxL L room) ∧ KeepsO wi w' := by
  obtain ⟨r, v, hf, hb, hr, hlo⟩ := h
  refine (or_next_any b B n r v L room wi hf).mono ?_
  rintro e w' ⟨v', rfl, hf', t⟩
  exact ⟨rfl, OB.step hf hb hr hlo hf' (.inl rfl) t⟩
theorem ob_base (h : OB w wi b B n L) : Calls Try.prog 12 #[.pointer (some ⟨b, 0, none⟩)] wi fun e w' => e = .returned (.int .u32 B) ∧ wi = w' := by
  obtain ⟨r, v, hf, _⟩ := h
  exact or_base_any _ B v L wi hf.odo
theorem ob_len (h : OB w wi b B n L) : Calls Try.prog 13 #[.pointer (some ⟨b, 0, none⟩)] wi fun e w' => e = .returned (.int .i64 (cntO L : Nat)) ∧ wi = w' := by
  obtain ⟨r, v, hf, _⟩ := h
  exact or_len_any _ B v L wi hf.odo
theorem ob_has (h : OB w wi b B n L) (x : Int) (hx : U32 x) : Calls Try.prog 14 #[.pointer (some ⟨b, 0, none⟩), .int .u32 x] wi fun e w' => e = .returned (.bool (hasO B L x)) ∧ ∃ q, w' = wi.drewN q := by
  obtain ⟨r, v, hf, _⟩ := h
  exact or_has_any _ B v L x wi hf.odo hx
end
end Go.Proofs.Ytifekpdjenfnbaa

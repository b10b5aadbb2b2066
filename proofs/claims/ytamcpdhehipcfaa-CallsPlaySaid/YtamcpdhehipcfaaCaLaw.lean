/- Proved: what package calls answers at calls that a call has made itself; the laws' example. Conditions: those that the theorems name. -/
import Derived.Test.YtamcpdhehipcfaaCaAll
import Derived.Test.YtamcpdhehipcfaaCaAsk
import Derived.Test.YtamcpdhehipcfaaCaDrop
import Derived.Test.YtamcpdhehipcfaaCaRefA
import Derived.Test.YtamcpdhehipcfaaCaRefD
import Derived.Deep.RegionHeld
namespace Go.Proofs.Ytamcpdhehipcfaa
open Go.ChangeShapes Go.WideShapes Go.ChangeAt Go.RowKit

/-- Block b is calls that were made since w; of what was there in w nothing has turned. -/
def CX (w wi : World) (b : Nat) (l : List Wt) : Prop := ∃ m, Cb wi b m l ∧ w.heap.size ≤ b ∧ w.heap.size ≤ m ∧ Below w.heap.size w wi
/-- slices of calls, and single ones in their boxes, stay what they are. -/
structure KeepW (wi w' : World) : Prop where
  row : ∀ {A n q}, Ws wi A n q → Ws w' A n q
  box : ∀ {b x}, At wi b tW (wtC x) → At w' b tW (wtC x)
  size : wi.heap.size ≤ w'.heap.size
theorem KeepW.trans {a b c : World} (h : KeepW a b) (k : KeepW b c) : KeepW a c := ⟨fun g => k.row (h.row g), fun g => k.box (h.box g), Nat.le_trans h.size k.size⟩
theorem keepW_below {wi w' : World} (k : Below wi.heap.size wi w') : KeepW wi w' := ⟨fun h => h.below k, fun h => h.below k h.lt, k.size⟩
theorem keepW_turned {wi w' : World} {m : Nat} {l : List Wt} (k : wi.grownBy w' (some m)) (hm : Mw wi m l) : KeepW wi w' :=
  ⟨fun h => h.turned k hm, fun {b x} h => h.kept k (fun e => by
    injection e with e
    have h1 := h.cell 0 rfl
    rw [hm.cell (by exact e.symm)] at h1
    cases h1), k.size⟩
theorem CX.bel {w wi : World} {b : Nat} {l : List Wt} (h : CX w wi b l) : Below w.heap.size w wi := by
  obtain ⟨_, _, _, _, h⟩ := h
  exact h
theorem CX.good {w wi : World} {b : Nat} {l : List Wt} (h : CX w wi b l) : GoodW l := by
  obtain ⟨_, h, _, _, _⟩ := h
  exact h.good
theorem CX.below {w wi w' : World} {b : Nat} {l : List Wt} (h : CX w wi b l) (k : Below wi.heap.size wi w') : CX w w' b l := by
  obtain ⟨m, h1, h2, h3, h4⟩ := h
  exact ⟨m, h1.below k, h2, h3, h4.trans (k.mono h4.size)⟩
/-- a box of a call turns. -/
theorem CX.boxed {w wi w' : World} {b c : Nat} {l : List Wt} {xs : List Value} (h : CX w wi b l) (hc : At wi c tW xs) (hcw : w.heap.size ≤ c) (k : wi.grownBy w' (some c)) : CX w w' b l := by
  obtain ⟨m, h1, h2, h3, h4⟩ := h
  refine ⟨m, h1.kept k (fun e => ?_) (fun e => ?_), h2, h3, h4.grown k h4.size (fun q e => by injection e with e; omega)⟩
  · injection e with e
    have h5 := h1.1
    rw [← e] at h5
    unfold At at hc h5
    rw [hc] at h5
    injection h5 with h5
    injection h5 with _ h5 _
    exact absurd h5 (by decide)
  · injection e with e
    have h5 := h1.2
    obtain ⟨_, D, ⟨es, clock, hb, _⟩, _⟩ := h5
    unfold At at hc
    rw [← e, hc] at hb
    cases hb
theorem CX.turned {w wi w' : World} {b m : Nat} {l l' : List Wt} (h1 : Cb wi b m l) (h2 : w.heap.size ≤ b) (h3 : w.heap.size ≤ m) (h4 : Below w.heap.size w wi) (hg : wi.grownBy w' (some m)) (hm : Mw w' m l') : CX w w' b l' :=
  ⟨m, h1.turned hg hm, h2, h3, h4.grown hg h4.size (fun q e => by injection e with e; omega)⟩
theorem cx_new (w wi : World) (h : Below w.heap.size w wi) :
    Calls Try.prog 6 #[] wi fun e w' => e = .returned (.pointer (some ⟨wi.heap.size + 1, 0, none⟩)) ∧ CX w w' (wi.heap.size + 1) [] := by
  refine (ca_new wi).mono ?_
  rintro e w' ⟨rfl, rfl⟩
  have hs := h.size
  refine ⟨rfl, wi.heap.size, cb_new wi, by omega, hs, ?_⟩
  exact (h.alloc hs _).alloc (by simp; omega) _
section
variable {w wi : World} {b : Nat} {l : List Wt}
theorem cx_len (h : CX w wi b l) :
    Calls Try.prog 16 #[.pointer (some ⟨b, 0, none⟩)] wi fun e w' => e = .returned (.int .i64 (l.length : Nat)) ∧ wi = w' := by
  obtain ⟨m, h1, h2, h3, h4⟩ := h
  exact ca_len h1
theorem cx_get (h : CX w wi b l) {k : Pk} (hk : PkOk k) :
    Calls Try.prog 7 #[.pointer (some ⟨b, 0, none⟩), .int .i64 k.1, .int .i64 k.2] wi fun e w' => e = .returned (.tuple #[wtV (atW l k), .bool (wasW l k)]) ∧ CX w w' b l ∧ KeepW wi w' := by
  obtain ⟨m, h1, h2, h3, h4⟩ := h
  refine (ca_get h1 hk).mono ?_
  rintro e w' ⟨rfl, hb⟩
  exact ⟨rfl, CX.below ⟨m, h1, h2, h3, h4⟩ hb, keepW_below hb⟩
theorem cx_all (h : CX w wi b l) (hn : l.length ≤ 900) :
    Calls Try.prog 15 #[.pointer (some ⟨b, 0, none⟩)] wi fun e w' => ∃ A c, e = .returned (.slice A l.length c) ∧ Ws w' A l.length l ∧ CX w w' b l ∧ KeepW wi w' := by
  obtain ⟨m, h1, h2, h3, h4⟩ := h
  refine (ca_all h1 (by omega)).mono ?_
  rintro e w' ⟨A, n, c, rfl, hw, hb⟩
  have e := hw.len
  subst e
  exact ⟨A, c, rfl, hw, CX.below ⟨m, h1, h2, h3, h4⟩ hb, keepW_below hb⟩
theorem cx_ask (h : CX w wi b l) (hn : l.length ≤ 900) (x : Wt) (hk : PkOk x.key) :
    Calls Try.prog 10 #[.pointer (some ⟨b, 0, none⟩), wtV x] wi fun e w' => e = .returned (.int .i64 (askE l x)) ∧ CX w w' b (askM l x) ∧ KeepW wi w' := by
  obtain ⟨m, h1, h2, h3, h4⟩ := h
  refine (ca_ask h1 (by unfold maxLen; omega) x hk).mono ?_
  rintro e w' ⟨rfl, hm, hg⟩
  exact ⟨rfl, CX.turned h1 h2 h3 h4 hg hm, keepW_turned hg h1.2⟩
theorem cx_take (h : CX w wi b l) {k : Pk} (hk : PkOk k) :
    Calls Try.prog 11 #[.pointer (some ⟨b, 0, none⟩), .int .i64 k.1, .int .i64 k.2] wi fun e w' => e = .returned (.tuple #[wtV (atW l k), .bool (wasW l k)]) ∧ CX w w' b (dropW l k) ∧ KeepW wi w' := by
  obtain ⟨m, h1, h2, h3, h4⟩ := h
  refine (ca_take h1 hk).mono ?_
  rintro e w' ⟨rfl, hm, hg⟩
  exact ⟨rfl, CX.turned h1 h2 h3 h4 hg hm, keepW_turned hg h1.2⟩
theorem cx_drop (h : CX w wi b l) (hn : l.length ≤ 900) (s : Int) (hs0 : -9223372036854775808 ≤ s) (hs1 : s ≤ 9223372036854775807) :
    Calls Try.prog 14 #[.pointer (some ⟨b, 0, none⟩), .int .i64 s] wi fun e w' => ∃ A c, e = .returned (.slice A (goneW l s 0).length c) ∧ Ws w' A (goneW l s 0).length (goneW l s 0) ∧ CX w w' b (leftW l s 0) ∧ KeepW wi w' := by
  obtain ⟨m, h1, h2, h3, h4⟩ := h
  refine (ca_drop h1 hn s hs0 hs1).mono ?_
  rintro e w' ⟨A, n, c, rfl, hw, hm, hg⟩
  have e := hw.len
  subst e
  exact ⟨A, c, rfl, hw, CX.turned h1 h2 h3 h4 hg hm, keepW_turned hg h1.2⟩
end

/-! ### the example -/
abbrev wq1 : Wt := ⟨1, 3, 2, 5, ByteArray.empty⟩
abbrev wq2 : Wt := ⟨2, 2, 2, 0, ⟨#[120]⟩⟩
abbrev wq3 : Wt := ⟨0, 1, 0, 0, ByteArray.empty⟩
theorem pk_small {s b : Int} (h0 : 0 ≤ s) (h1 : s ≤ 9) (h2 : 0 ≤ b) (h3 : b ≤ 9) : PkOk (s, b) := ⟨by show _ ≤ s; omega, by show s ≤ _; omega, by show _ ≤ b; omega, by show b ≤ _; omega⟩
/-- a box for a call, in a world where calls wait. -/
theorem cx_box {w wi : World} {b : Nat} {l : List Wt} (h : CX w wi b l) (x : Wt) : CX w (wi.alloc (.cells (wtC x).toArray tW)) b l ∧ KeepW wi (wi.alloc (.cells (wtC x).toArray tW)) ∧ At (wi.alloc (.cells (wtC x).toArray tW)) wi.heap.size tW (wtC x) :=
  ⟨h.below ((Below.refl _ _).alloc (Nat.le_refl _) _), keepW_below ((Below.refl _ _).alloc (Nat.le_refl _) _), At.new _ _ _⟩
/-- ... and the box is filled. -/
theorem cx_fill {w wi w' : World} {b : Nat} {l : List Wt} (h : CX w wi b l) (k : (wi.alloc (.cells (wtC wt0).toArray tW)).grownBy w' (some wi.heap.size)) : CX w w' b l ∧ KeepW wi w' := by
  have g : wi.grownBy w' none := (World.grownBy_alloc wi (.cells (wtC wt0).toArray tW) none).andThen k (fun q e => Or.inl (by injection e with e; omega))
  have hb := below_grown g (Nat.le_refl wi.heap.size) (fun q e => by cases e)
  exact ⟨h.below hb, keepW_below hb⟩
end Go.Proofs.Ytamcpdhehipcfaa

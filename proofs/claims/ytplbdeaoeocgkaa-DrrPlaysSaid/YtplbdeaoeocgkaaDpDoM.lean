/- Plain lemmas: a deed, done by the document and by the scheduler, ahead of the walks. No condition beyond those that each lemma names. -/
import Derived.Test.YtplbdeaoeocgkaaDpNext
import Derived.Deep.RegionHeld3
namespace Go.Proofs.Ytplbdeaoeocgkaa
open Go.ChangeShapes Go.WideShapes Go.ChangeAt Go.RowKit

/-- A box with a scheduler, one with a deed, and an empty result. -/
theorem dboxes (s : Sv) (kd id z : Int) (w : World) : ∃ W, W = ((w.alloc (.cells #[.int .i64 s.Q, .slice s.A s.xs.length s.c, .slice s.B s.rd.length s.d] 31)).alloc (.cells #[.int .i64 kd, .int .i64 id, .int .i64 z] 37)).alloc (.cells #[.int .i64 0, .slice none 0 0, .slice none 0 0] 31) ∧ At W w.heap.size 31 [.int .i64 s.Q, .slice s.A s.xs.length s.c, .slice s.B s.rd.length s.d] ∧ At W (w.heap.size + 1) 37 [.int .i64 kd, .int .i64 id, .int .i64 z] ∧ At W (w.heap.size + 1 + 1) 31 [.int .i64 0, .slice none 0 0, .slice none 0 0] ∧ Below w.heap.size w W ∧ W.heap.size = w.heap.size + 3 := by
  refine ⟨_, rfl, ?_, ?_, ?_, ?_, by simp⟩
  · exact ((At.new w 31 [.int .i64 s.Q, .slice s.A s.xs.length s.c, .slice s.B s.rd.length s.d]).alloc _).alloc _
  · have h := At.new (w.alloc (.cells #[.int .i64 s.Q, .slice s.A s.xs.length s.c, .slice s.B s.rd.length s.d] 31)) 37 [.int .i64 kd, .int .i64 id, .int .i64 z]
    have h2 := h.alloc (.cells #[.int .i64 0, .slice none 0 0, .slice none 0 0] 31)
    simpa using h2
  · have h := At.new ((w.alloc (.cells #[.int .i64 s.Q, .slice s.A s.xs.length s.c, .slice s.B s.rd.length s.d] 31)).alloc (.cells #[.int .i64 kd, .int .i64 id, .int .i64 z] 37)) 31 [.int .i64 0, .slice none 0 0, .slice none 0 0]
    simpa using h
  · exact (((Below.refl _ _).alloc (Nat.le_refl _) _).alloc (by simp) _).alloc (by simp; omega) _
theorem res_ddo {T : Array Value} {W : World} {b : Nat} {s : Sv} {z : Bool} (h2 : T.getD 6 undef = .pointer (some ⟨b, 0, none⟩)) (h3 : T.getD 7 undef = .bool z) (h : At W b 31 [.int .i64 s.Q, .slice s.A s.xs.length s.c, .slice s.B s.rd.length s.d]) : (results Try.f8 T).run Try.prog W = .ok (.tuple #[s.val, .bool z]) W := by
  have h2' : T[6]?.getD undef = .pointer (some ⟨b, 0, none⟩) := by simpa using h2
  have h3' : T[7]?.getD undef = .bool z := by simpa using h3
  have c0 := h.cell 0 rfl
  have c1 := h.cell 1 rfl
  have c2 := h.cell 2 rfl
  simp [results, Try.results8, h2', h3', c0, c1, c2, go_sem, Sv.val]
theorem res_ddo_put {T : Array Value} {W : World} {b : Nat} {s : Sv} {z : Bool} (h2 : T.getD 6 undef = .pointer (some ⟨b, 0, none⟩)) (h3 : T.size = 99) (h : At W b 31 [.int .i64 s.Q, .slice s.A s.xs.length s.c, .slice s.B s.rd.length s.d]) : (results Try.f8 (T.setIfInBounds 7 (.bool z))).run Try.prog W = .ok (.tuple #[s.val, .bool z]) W :=
  res_ddo (by
    rw [← h2]
    simp) (by
    have : 7 < T.size := by omega
    simp [this]) h
theorem GivesP.form {w w' : World} {c : Nat → Prop} {Q z : Int} {W : List (Int × Int)} {R : List Qd} {e : Ending} (h : GivesP w c Q W R z e w') :
    ∃ xs A n rd B d, e = .returned (.tuple #[.agg #[.int .i64 Q, .slice A xs.length n, .slice B rd.length d], .int .i64 z]) ∧ Sg w' c ⟨Q, xs, A, n, rd, B, d⟩ ∧ DRel xs rd W R ∧ Below w.heap.size w w' := by
  obtain ⟨⟨Q', xs, A, n, rd, B, d⟩, e, h1, h2, h3, h4⟩ := h
  have h3 : Q' = Q := h3
  subst h3
  exact ⟨xs, A, n, rd, B, d, e, h1, h2, h4⟩
theorem GivesN.form {w w' : World} {c : Nat → Prop} {Q : Int} {W : List (Int × Int)} {R : List Qd} {e : Ending} (h : GivesN w c Q W R e w') :
    ∃ xs A n rd B d, ∃ (x : It) (R' : List Qd), e = .returned (.tuple #[.agg #[.int .i64 Q, .slice A xs.length n, .slice B rd.length d], .agg #[.int .i64 x.1, .int .i64 x.2], .bool true]) ∧ DrGoes Q R x R' ∧ Sg w' c ⟨Q, xs, A, n, rd, B, d⟩ ∧ DRel xs rd W R' ∧ Below w.heap.size w w' := by
  obtain ⟨⟨Q', xs, A, n, rd, B, d⟩, x, R', e, h0, h1, h2, h3, h4⟩ := h
  have h3 : Q' = Q := h3
  subst h3
  exact ⟨xs, A, n, rd, B, d, x, R', e, h0, h1, h2, h4⟩
theorem NoN.form {w w' : World} {c : Nat → Prop} {Q : Int} {W : List (Int × Int)} {R : List Qd} {e : Ending} (h : NoN w c Q W R e w') :
    ∃ xs A n rd B d, e = .returned (.tuple #[.agg #[.int .i64 Q, .slice A xs.length n, .slice B rd.length d], .agg #[.int .i64 0, .int .i64 0], .bool false]) ∧ Sg w' c ⟨Q, xs, A, n, rd, B, d⟩ ∧ DRel xs rd W R ∧ Below w.heap.size w w' := by
  obtain ⟨⟨Q', xs, A, n, rd, B, d⟩, e, h1, h2, h3, h4⟩ := h
  have h3 : Q' = Q := h3
  subst h3
  exact ⟨xs, A, n, rd, B, d, e, h1, h2, h4⟩
/-- a deed was done alike. -/
def Done (w wi : World) (b : Nat) (L : Ly) (Q : Int) (P : Nat → Prop) (e : Ending) (w' : World) : Prop :=
  ∃ (s : Sv) (L' : Ly) (W : List (Int × Int)) (R : List Qd), e = .returned (.tuple #[s.val, .bool true]) ∧ SB w w' b L' Q 65536 W R ∧ Fr wi L w' L' ∧ Sg w' (fun g => L'.col g = -1 ∧ P g) s ∧ DRel s.xs s.rd W R ∧ s.Q = Q
theorem ddo_close {w wi w3 w4 w5 : World} {b rb : Nat} {L L' : Ly} {Q : Int} {P : Nat → Prop} {W' : List (Int × Int)} {R' : List Qd} {s : Sv} (hw : w.heap.size ≤ wi.heap.size) (h1 : Below wi.heap.size wi w3) (hrb : wi.heap.size ≤ rb) (hrl : rb < w3.heap.size) (hcr : L.col rb = -1)
    (hs : SB w w4 b L' Q 65536 W' R') (fr : Fr w3 L w4 L') (g : Sg w3 (fun g => (L.col g = -1 ∧ P g) ∧ g ≠ rb) s) (t : Tn (fun g => g = rb) w4 w5) :
    SB w w5 b L' Q 65536 W' R' ∧ Fr wi L w5 L' ∧ Sg w5 (fun g => L'.col g = -1 ∧ P g) s := by
  have hc4 : L'.col rb = -1 := (fr.col rb hrl).trans hcr
  have f1 : Fr wi L w4 L' := (Fr.below L h1).trans fr
  refine ⟨hs.free t (fun i _ e => by rw [e]; exact hc4) (fun i hi e => by have e : i = rb := e; omega), ⟨f1.col, f1.tn.trans' t fun i hi e => by have e : i = rb := e; omega⟩, ?_⟩
  have g4 := (g.there.tn fr.tn fun i _ e f => f e.1.1.1).mono (d := fun i => (L'.col i = -1 ∧ P i) ∧ i ≠ rb) fun i _ e => ⟨⟨(fr.col i e.2).trans e.1.1.1, e.1.1.2⟩, e.1.2⟩
  exact (g4.tn t fun i _ e f => e.2 f).mono fun i _ e => e.1
end Go.Proofs.Ytplbdeaoeocgkaa

/- Proved: what package drr answers at a scheduler that a call has made itself; the laws' example. Conditions: those that the theorems name. -/
import Derived.Test.YtplbdeaoeocgkaaDrPush
import Derived.Test.YtplbdeaoeocgkaaDrItems
namespace Go.Proofs.Ytplbdeaoeocgkaa
open Go.ChangeShapes Go.WideShapes Go.ChangeAt Go.RowKit

/-- A scheduler that was made since w; of what was there in w nothing has turned. -/
structure SB (w wi : World) (b : Nat) (L : Ly) (Q M : Int) (W : List (Int × Int)) (R : List Qd) : Prop where
  b : L.b = b
  sr : Sr wi L Q W R
  ok : Ok Q M W R
  old : ∀ i, i < w.heap.size → L.col i = -1
  bel : Below w.heap.size w wi
/-- of what is not the scheduler's nothing has turned. -/
structure Fr (wi : World) (L : Ly) (w' : World) (L' : Ly) : Prop where
  col : ∀ i, i < wi.heap.size → L'.col i = L.col i
  tn : Tn (fun i => L.col i ≠ -1) wi w'
theorem Fr.trans {w1 w2 w3 : World} {L1 L2 L3 : Ly} (h : Fr w1 L1 w2 L2) (k : Fr w2 L2 w3 L3) : Fr w1 L1 w3 L3 :=
  ⟨fun i hi => (k.col i (Nat.lt_of_lt_of_le hi h.tn.size)).trans (h.col i hi), h.tn.trans' k.tn fun i hi e => by rwa [h.col i hi] at e⟩
theorem Fr.below {w1 w2 : World} (L : Ly) (h : Below w1.heap.size w1 w2) : Fr w1 L w2 L := ⟨fun _ _ => rfl, tn_below _ h⟩
theorem Fr.at_ {w1 w2 : World} {L1 L2 : Ly} (h : Fr w1 L1 w2 L2) {b : Nat} {t : TypeId} {xs : List Value} (k : At w1 b t xs) (hc : L1.col b = -1) : At w2 b t xs ∧ L2.col b = -1 :=
  ⟨k.tn h.tn (fun e => e hc), (h.col b k.lt).trans hc⟩
theorem SB.step {w wi w' : World} {b : Nat} {L L' : Ly} {Q M : Int} {W W' : List (Int × Int)} {R R' : List Qd} (h : SB w wi b L Q M W R) (hx : Lx wi L L') (ht : Tn (fun i => L.col i ≠ -1) wi w') (hs : Sr w' L' Q W' R') (ho : Ok Q M W' R') : SB w w' b L' Q M W' R' ∧ Fr wi L w' L' :=
  ⟨⟨hx.b.trans h.b, hs, ho, fun i hi => (hx.col i (Nat.lt_of_lt_of_le hi h.bel.size)).trans (h.old i hi), ht.below h.bel h.bel.size (fun i hi e => e (h.old i hi))⟩, hx.col, ht⟩
theorem SB.below {w wi w' : World} {b : Nat} {L : Ly} {Q M : Int} {W : List (Int × Int)} {R : List Qd} (h : SB w wi b L Q M W R) (k : Below wi.heap.size wi w') : SB w w' b L Q M W R :=
  ⟨h.b, h.sr.below h.ok.rok k, h.ok, h.old, h.bel.trans (k.mono h.bel.size)⟩
theorem SB.alloc {w wi : World} {b : Nat} {L : Ly} {Q M : Int} {W : List (Int × Int)} {R : List Qd} (h : SB w wi b L Q M W R) (o : Obj) : SB w (wi.alloc o) b L Q M W R := h.below ((Below.refl _ _).alloc (Nat.le_refl _) o)
theorem SB.free {w wi w' : World} {b : Nat} {L : Ly} {Q M : Int} {W : List (Int × Int)} {R : List Qd} {c : Nat → Prop} (h : SB w wi b L Q M W R) (k : Tn c wi w') (hc : ∀ i, i < wi.heap.size → c i → L.col i = -1) (ho : ∀ i, i < w.heap.size → ¬ c i) : SB w w' b L Q M W R :=
  ⟨h.b, h.sr.tn h.ok.rok k hc, h.ok, h.old, k.below h.bel h.bel.size ho⟩
theorem SB.new {w wi : World} {b : Nat} {L : Ly} {Q M : Int} {W : List (Int × Int)} {R : List Qd} (h : SB w wi b L Q M W R) : L.col wi.heap.size = -1 := h.sr.ahead _ (Nat.le_refl _)

/-! ### the methods in these words -/
theorem sb_new {w wi : World} (hb : Below w.heap.size w wi) (Q M : Int) (h : 1 ≤ Q ∧ Q ≤ 65536) (hM : M ≤ 65536) :
    Calls Try.prog 7 #[.int .i64 Q] wi fun e w' => ∃ b L, e = .returned (.tuple #[ptv b, .int .i64 0]) ∧ SB w w' b L Q M [] [] ∧ (∀ i, i < wi.heap.size → L.col i = -1) ∧ Below wi.heap.size wi w' := by
  refine (dr_new Q wi h).mono ?_
  rintro e w' ⟨L, rfl, hs, hc, _, hbl⟩
  exact ⟨L.b, L, rfl, ⟨rfl, hs, ⟨h, hM, fun x hx => by simp at hx, List.nodup_nil, fun x hx => by simp at hx, List.nodup_nil, fun x hx => by simp at hx, fun x hx => by simp at hx⟩, fun i hi => hc i (Nat.lt_of_lt_of_le hi hb.size), hb.trans (hbl.mono hb.size)⟩, hc, hbl⟩
section
variable {w wi : World} {b : Nat} {L : Ly} {Q M : Int} {W : List (Int × Int)} {R : List Qd}
theorem sb_add (h : SB w wi b L Q M W R) {id : Int} (hi : I64 id) (wt : Int) :
    Calls Try.prog 13 #[ptv b, .int .i64 id, .int .i64 wt] wi fun e w' => e = .returned (.int .i64 (addE W id wt)) ∧ ∃ L', SB w w' b L' Q M (addW W id wt) R ∧ Fr wi L w' L' := by
  have := dr_add h.sr h.ok hi wt
  rw [h.b] at this
  refine this.mono ?_
  rintro e w' ⟨rfl, ⟨L', hx, hs⟩, ht⟩
  exact ⟨rfl, L', h.step hx ht hs (h.ok.add id wt)⟩
theorem sb_remove (h : SB w wi b L Q M W R) {id : Int} (hi : I64 id) :
    Calls Try.prog 17 #[ptv b, .int .i64 id] wi fun e w' => e = .returned (.int .i64 (remE W id)) ∧ ∃ L', SB w w' b L' Q M (remW W id) (remR R id) ∧ Fr wi L w' L' := by
  have := dr_remove h.sr h.ok hi
  rw [h.b] at this
  refine this.mono ?_
  rintro e w' ⟨rfl, hs, ht⟩
  exact ⟨rfl, L, h.step (Lx.refl _ _) ht hs (h.ok.rem id)⟩
theorem sb_push (h : SB w wi b L Q M W R) {x : It} (hi : I64 x.1) (hM : 1 ≤ M) (hx : pushE W R x = 0 → x.2 ≤ M) :
    Calls Try.prog 14 #[ptv b, .agg #[.int .i64 x.1, .int .i64 x.2]] wi fun e w' => e = .returned (.int .i64 (pushE W R x)) ∧ ∃ L', SB w w' b L' Q M W (push W R x) ∧ Fr wi L w' L' := by
  have := dr_push h.sr h.ok hi
  rw [h.b] at this
  refine this.mono ?_
  rintro e w' ⟨rfl, ⟨L', hl, hs⟩, ht⟩
  exact ⟨rfl, L', h.step hl ht hs (h.ok.push hM hx)⟩
theorem sb_next (h : SB w wi b L Q M W R) (hR : R ≠ []) :
    Calls Try.prog 15 #[ptv b] wi fun e w' => ∃ (x : It) (R' : List Qd), e = .returned (.tuple #[.agg #[.int .i64 x.1, .int .i64 x.2], .bool true]) ∧ DrGoes Q R x R' ∧ ∃ L', SB w w' b L' Q M W R' ∧ Fr wi L w' L' := by
  have := dr_next h.sr h.ok hR
  rw [h.b] at this
  refine this.mono ?_
  rintro e w' ⟨x, R', L', rfl, hg, hl, _, hs, ht⟩
  exact ⟨x, R', rfl, hg, L', h.step hl ht hs (h.ok.goes hg)⟩
theorem sb_next_none (h : SB w wi b L Q M W []) :
    Calls Try.prog 15 #[ptv b] wi fun e w' => e = .returned (.tuple #[.agg #[.int .i64 0, .int .i64 0], .bool false]) ∧ ∃ L', SB w w' b L' Q M W [] ∧ Fr wi L w' L' := by
  have := dr_next_none h.sr
  rw [h.b] at this
  refine this.mono ?_
  rintro e w' ⟨rfl, hb⟩
  exact ⟨rfl, L, h.below hb, Fr.below L hb⟩
theorem sb_len (h : SB w wi b L Q M W R) {id : Int} (hi : I64 id) :
    Calls Try.prog 11 #[ptv b, .int .i64 id] wi fun e w' => e = .returned (.int .i64 (lenR R id : Nat)) ∧ wi = w' := by
  have := dr_len h.sr h.ok hi
  rwa [h.b] at this
theorem sb_waiting (h : SB w wi b L Q M W R) :
    Calls Try.prog 9 #[ptv b] wi fun e w' => e = .returned (.int .i64 (waitR R : Nat)) ∧ wi = w' := by
  have := dr_waiting h.sr h.ok
  rwa [h.b] at this
end

/-! ### the example -/
def goF : Nat → Int → List Qd → Option (It × List Qd)
  | 0, _, _ => none
  | _ + 1, _, [] => none
  | n + 1, Q, h :: t => if (h.serve Q).may = true then some (h.hd, tookR (h.serve Q) t) else goF n Q (t ++ [h.fail Q])
theorem goF_goes : ∀ (n : Nat) {Q : Int} {R : List Qd} {x : It} {S : List Qd}, goF n Q R = some (x, S) → DrGoes Q R x S
  | 0, _, _, _, _, h => by cases h
  | n + 1, _, [], _, _, h => by cases h
  | n + 1, Q, a :: t, x, S, h => by
    unfold goF at h
    cases m : (a.serve Q).may with
    | true =>
      rw [if_pos m] at h
      injection h with h
      injection h with h1 h2
      subst h1; subst h2
      exact DrGoes.now m
    | false =>
      rw [if_neg (by rw [m]; decide)] at h
      exact DrGoes.after (.step m (.refl _)) (goF_goes n h)
theorem goF_only {n : Nat} {Q : Int} {R : List Qd} {x y : It} {S T : List Qd} (h : goF n Q R = some (x, S)) (g : DrGoes Q R y T) : y = x ∧ T = S := g.only (goF_goes n h)
end Go.Proofs.Ytplbdeaoeocgkaa

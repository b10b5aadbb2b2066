/- Proved: lemmas of one statement's proof, merged by program: what each part proves stands ahead of it. Conditions: those that the lemmas name. -/
import Derived.Test.YtedecminaopgaaaM24
import Derived.Test.YtedecminaopgaaaM25
import Derived.Test.YtedecminaopgaaaM23
import Derived.Test.YtedecminaopgaaaM33
import Derived.Test.YtedecminaopgaaaM30

/- Plain lemmas on deeds, done by the program and by the document: what a deed turns, and what stays. No condition beyond those that each lemma names. -/
namespace Go.Proofs.Ytedecminaopgaaa
open Go.ChangeShapes Go.WideShapes Go.ChangeAt Go.RowKit

/-- the types of what a stream's own blocks hold. -/
abbrev ibTs : List TypeId := [69, 93, 9, 96, 5]
theorem Ibm.own_ty {w : World} {Y : IbY} {M : IbM} (h : Ibm w Y M) {i : Nat} (hi : Y.own i) : ∃ t, t ∈ ibTs ∧ ObTy w i t := by
  rcases hi with rfl | (rfl | e) | rfl | e
  · exact ⟨_, by simp, h.own.obty⟩
  · exact ⟨_, by simp, h.od.own.obty⟩
  · exact ⟨_, by simp, h.od.row.obty e⟩
  · exact ⟨_, by simp, h.rg.obty.1⟩
  · exact ⟨_, by simp, h.rg.obty.2 _ e⟩
/-- what is of another type stays. -/
theorem Ibm.stays {w w' : World} {Y : IbY} {M : IbM} (h : Ibm w Y M) (t : Tn Y.own w w') {g : Nat} {cur : Array Value} {ty : TypeId} {f : Nat × Nat} (hg : w.heap[g]? = some (Obj.cells cur ty f)) (hn : ty ∉ ibTs) : w'.heap[g]? = w.heap[g]? :=
  t.block g (Array.getElem?_eq_some_iff.1 hg).1 fun hi => by
    obtain ⟨τ, hτ, c, hc⟩ := h.own_ty hi
    rw [hg] at hc
    injection hc with hc
    injection hc with _ hc _
    exact hn (hc ▸ hτ)
theorem Ibm.at_stays {w w' : World} {Y : IbY} {M : IbM} (h : Ibm w Y M) (t : Tn Y.own w w') {b : Nat} {ty : TypeId} {xs : List Value} (a : At w b ty xs) (hn : ty ∉ ibTs) : At w' b ty xs := At.block a (h.stays t a hn)
theorem tI_not : tI ∉ ibTs := by decide
theorem tD_not : 41 ∉ ibTs := by decide
theorem tX_not : 82 ∉ ibTs := by decide
theorem tU_not : 32 ∉ ibTs := by decide
theorem Ibm.ri_stays {w w' : World} {Y : IbY} {M M' : IbM} (h : Ibm w Y M) (t : Tn Y.own w w') {p : RiP} {S : List Int} {X : List Xb} (r : RiM w M' p S X) : RiM w' M' p S X :=
  ⟨Tw.move r.o fun _ _ _ hg => h.stays t hg tX_not, r.om, r.oc, r.on, r.s.move fun _ _ _ hg => h.stays t hg tU_not, r.sc, r.sn, r.rel⟩
/-- a deed. -/
abbrev dCells (kd x : Int) (s : ByteArray) (z : Int) : List Value := [.int .i64 kd, .int .u32 x, .string s, .int .i64 z]
abbrev tD : TypeId := 41
/-- A state and a deed in boxes, and an empty result behind them. -/
theorem riboxes3 (c : Cf) (M : IbM) (p : RiP) (kd x : Int) (s : ByteArray) (z : Int) (w : World) : ∃ W, W = ((w.alloc (.cells (ri c M p).toArray tI)).alloc (.cells #[.int .i64 kd, .int .u32 x, .string s, .int .i64 z] tD)).alloc (.cells riZ.toArray tI) ∧ At W w.heap.size tI (ri c M p) ∧ At W (w.heap.size + 1) tD (dCells kd x s z) ∧ At W (w.heap.size + 2) tI riZ ∧ Below w.heap.size w W ∧ W.heap.size = w.heap.size + 3 := by
  refine ⟨_, rfl, ?_, ?_, ?_, ?_, by simp⟩
  · exact ((At.new w tI (ri c M p)).alloc _).alloc _
  · have h := At.new (w.alloc (.cells (ri c M p).toArray tI)) tD (dCells kd x s z)
    exact (by simpa using h : At _ (w.heap.size + 1) tD (dCells kd x s z)).alloc _
  · have h := At.new ((w.alloc (.cells (ri c M p).toArray tI)).alloc (.cells #[.int .i64 kd, .int .u32 x, .string s, .int .i64 z] tD)) tI riZ
    simpa using h
  · exact (((Below.refl _ _).alloc (Nat.le_refl _) _).alloc (by simp) _).alloc (by simp; omega) _
/-- a block of the state's type turns. -/
theorem Ib.tn_i {w w' : World} {Y : IbY} {M : IbM} (h : Ib w Y M) {b : Nat} {xs : List Value} (a : At w b tI xs) (t : Tn (fun i => i = b) w w') : Ib w' Y M :=
  h.tn t fun i hi e => by
    have e : i = b := e
    subst e
    obtain ⟨τ, hτ, k⟩ := h.m.own_ty hi
    rw [k.one a.obty] at hτ
    exact tI_not hτ
/-- the program's stream and the document's state, both the same, j deeds done. -/
structure BothI (w : World) (Y : IbY) (c : Cf) (M : IbM) (p : RiP) (S : List Int) (X : List Xb) (j : Nat) : Prop where
  ib : Ib w Y M
  ri : RiM w M p S X
  sv : SvJ M S j
  cw : c.w = M.n
  cq : c.q = (M.q : Int)
theorem BothI.below {w w' : World} {Y : IbY} {c : Cf} {M : IbM} {p : RiP} {S : List Int} {X : List Xb} {j : Nat} (h : BothI w Y c M p S X j) (k : Below w.heap.size w w') : BothI w' Y c M p S X j := ⟨h.ib.below k, h.ri.below k, h.sv, h.cw, h.cq⟩
theorem BothI.tn {w w' : World} {Y : IbY} {c : Cf} {M : IbM} {p : RiP} {S : List Int} {X : List Xb} {j : Nat} (h : BothI w Y c M p S X j) {b : Nat} {xs : List Value} (a : At w b tI xs) (t : Tn (fun i => i = b) w w') : BothI w' Y c M p S X j :=
  ⟨h.ib.tn_i a t, h.ri.tn a t, h.sv, h.cw, h.cq⟩
/-- a state and 'yes' come back; a deed more is done. -/
def GivesDo (c : Cf) (j : Nat) (Y : IbY) (W : World) (e : Ending) (w' : World) : Prop :=
  ∃ Y' M' p' S' X', e = .returned (.tuple #[riV c M' p', .bool true]) ∧ BothI w' Y' c M' p' S' X' (j + 1) ∧ IbT W w' Y Y'
theorem res_do {T : Array Value} {W : World} {b : Nat} {c : Cf} {M : IbM} {p : RiP} (h2 : T.getD 6 undef = .pointer (some ⟨b, 0, none⟩)) (h3 : T.getD 7 undef = .bool true) (h : At W b tI (ri c M p)) : (results Try.f10 T).run Try.prog W = .ok (.tuple #[riV c M p, .bool true]) W := by
  have h2' : T[6]?.getD undef = .pointer (some ⟨b, 0, none⟩) := by simpa using h2
  have h3' : T[7]?.getD undef = .bool true := by simpa using h3
  have hl := ri_out h
  simp [results, Try.results10, h2', h3', hl, asAddr]
theorem saw_like (M : IbM) (x : Int) : LikeM M (sawM M x) := by
  unfold sawM
  split <;> exact ⟨rfl, rfl, rfl, rfl, rfl, rfl⟩
/-! ### the number behind the greatest one, deed by deed -/
theorem SvJ.saw {M : IbM} {S : List Int} {j : Nat} (h : SvJ M S j) {x : Int} (hx : U32 x) : SvJ (sawM M x) (sawS M S x) (j + 1) := by
  by_cases e : sawE M x = 3
  · have hi : inZ x M.B M.n = true := by
      unfold sawE at e
      split at e
      · cases e
      · split at e
        · cases e
        · rename_i hh; simpa using hh
    rw [show sawM M x = seeM M x from if_pos e, saws_yes e]
    exact h.see hx hi
  · rw [show sawM M x = M from if_neg e, show sawS M S x = S from if_neg e]
    exact h.more
theorem SvJ.iput {M : IbM} {S : List Int} {j : Nat} (h : SvJ M S j) {x : Int} (hx : U32 x) {s : ByteArray} : SvJ (iputM M x s) (putS M S x s) (j + 1) := by
  by_cases e : iputE M x s = 3
  · have h3 : putE M.B M.n M.L x s = 3 := by
      unfold iputE at e
      split at e
      · cases e
      · exact e
    rw [show iputM M x s = { seeM M x with L := putO M.B M.n M.L x s, hd := M.hd + (s.size : Int) } from if_pos e, show putS M S x s = S ++ [x] from if_pos e]
    exact h.put hx h3
  · rw [show iputM M x s = M from if_neg e, show putS M S x s = S from if_neg e]
    exact h.more
theorem SvJ.fin {M : IbM} {S : List Int} {j : Nat} (h : SvJ M S j) (x : Int) : SvJ (finM M x) S (j + 1) := by
  unfold finM
  split
  · exact h.more.same rfl rfl rfl
  · exact h.more
theorem SvJ.read {M : IbM} {S : List Int} {j : Nat} (h : SvJ M S j) (z : Int) : SvJ (rdM M z) S (j + 1) := by
  unfold rdM
  split
  · exact h.more.same rfl rfl rfl
  · exact h.more
theorem saw_nq (M : IbM) (x : Int) : (sawM M x).n = M.n ∧ (sawM M x).q = M.q := by unfold sawM; split <;> exact ⟨rfl, rfl⟩
theorem iput_nq (M : IbM) (x : Int) (s : ByteArray) : (iputM M x s).n = M.n ∧ (iputM M x s).q = M.q := by unfold iputM; split <;> exact ⟨rfl, rfl⟩
theorem fin_nq (M : IbM) (x : Int) : (finM M x).n = M.n ∧ (finM M x).q = M.q := by unfold finM; split <;> exact ⟨rfl, rfl⟩
theorem rd_nq (M : IbM) (z : Int) : (rdM M z).n = M.n ∧ (rdM M z).q = M.q := by unfold rdM; split <;> exact ⟨rfl, rfl⟩
theorem dl_nq (M : IbM) : (dlM M).n = M.n ∧ (dlM M).q = M.q := by
  have key : ∀ (f : Nat) (M : IbM), (dlF f M).n = M.n ∧ (dlF f M).q = M.q := by
    intro f
    induction f with
    | zero => intro M; exact ⟨rfl, rfl⟩
    | succ f ih =>
      intro M
      show (if _ then _ else _ : IbM).n = M.n ∧ (if _ then _ else _ : IbM).q = M.q
      split
      · exact ih (nextM M)
      · exact ⟨rfl, rfl⟩
  exact key _ _
/-- a state, stored into the cells of a box. -/
def riSet (W : World) (b : Nat) (c : Cf) (M : IbM) (p : RiP) : World := W.setCells b 0 (ri c M p)
theorem riSet_at {W : World} {b : Nat} {c : Cf} {M : IbM} {p : RiP} {old : List Value} (h : At W b tI old) (hl : old.length = 18) : At (riSet W b c M p) b tI (ri c M p) := h.all_ _ hl
theorem riSet_tn (W : World) (b : Nat) (c : Cf) (M : IbM) (p : RiP) : Tn (fun i => i = b) W (riSet W b c M p) := tn_sets _ _ _ _
end Go.Proofs.Ytedecminaopgaaa

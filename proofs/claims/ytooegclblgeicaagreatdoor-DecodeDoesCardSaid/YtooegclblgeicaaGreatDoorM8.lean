/- Proved: lemmas of one statement's proof, merged by program: what each part proves stands ahead of it. Conditions: those that the lemmas name. -/
import Derived.Test.YtooegclblgeicaaGreatDoorM7
import Derived.WalkKit
import Derived.ProofKit
import Derived.Laws.Rows
import Derived.Laws.NewBlocks

/- Proved: what Mul of package matrix answers for every two tables. Conditions: those that the theorems name. -/
namespace Go.Proofs.YtooegclblgeicaaGreatDoor
open Go.ChangeShapes Go.WideShapes Go.ChangeAt Go.RowKit

def mulE (a b : List (List Nat)) : Nat := if chk a ≠ 0 then chk a else if chk b ≠ 0 then chk b else if (rw_ a 0).length = b.length then 0 else 16
def mulV (a b : List (List Nat)) : List (List Nat) := if mulE a b = 0 then mulL a.length b.length (rw_ b 0).length a b else []

end Go.Proofs.YtooegclblgeicaaGreatDoor

/- Plain lemmas on one step of elimination over tables as lists of lists. No condition beyond those that each lemma names. -/
namespace Go.Proofs.YtooegclblgeicaaGreatDoor

def bt (t : List (List Nat)) (i j : Nat) : Nat := (rw_ t i).getD j 0
theorem OwnT.good {w : World} {g n m : Nat} {t : List (List Nat)} (h : OwnT w g n t) (hl : ∀ r, r < n → (rw_ t r).length = m) : Good n m t := h.rows.good hl
theorem tabT_zero {n m : Nat} {t : List (List Nat)} (h : Good n m t) {i j : Nat} (hi : i < n) : tabT t i j = 0 ↔ bt t i j = 0 := by
  constructor
  · intro e
    exact F.of_inj (h.lt i hi j) (by decide) e
  · intro e
    show F.of (bt t i j) = 0
    rw [e]; rfl
theorem Piv.skips {n p d : Nat} {c : Nat → Nat} {T : Tab} (h : Piv n p d c T) (k : Nat) (h0 : ∀ j, p ≤ j → j < p + k → ∀ i, d ≤ i → i < n → T i j = 0) : Piv n (p + k) d c T := by
  induction k with
  | zero => exact h
  | succ k ih =>
    have h1 := ih fun j hj hj' => h0 j hj (by omega)
    exact h1.skip fun i hi hn => h0 (p + k) (by omega) (by omega) i hi hn
/-- what pivot answers. -/
def PivAt (t : List (List Nat)) (n done place places : Nat) (v : Value) (q : Nat) : Prop :=
  place ≤ q ∧ q ≤ places ∧ (∀ j, place ≤ j → j < q → ∀ i, done ≤ i → i < n → bt t i j = 0) ∧ (q < places → ∃ p : Nat, v = .int .i64 (p : Nat) ∧ done ≤ p ∧ p < n ∧ bt t p q ≠ 0)
theorem PivAt.piv {t : List (List Nat)} {n m done place places q : Nat} {v : Value} (h : PivAt t n done place places v q) (g : Good n m t) {c : Nat → Nat} (hp : Piv n place done c (tabT t)) : Piv n q done c (tabT t) := by
  obtain ⟨h1, _, h3, _⟩ := h
  have := hp.skips (q - place) fun j hj hj' i hi hn => (tabT_zero g hn).2 (h3 j hj (by omega) i hi hn)
  rwa [show place + (q - place) = q by omega] at this

/-- the rows when row 'done' has been made 1 at place q and taken from all others. -/
def leadL (m done q : Nat) (t : List (List Nat)) : List Nat := scaleL m (ginv (bt t done q)) (rw_ t done)
def clearL (m done q : Nat) (t : List (List Nat)) (i : Nat) : List Nat :=
  if i = done then leadL m done q t else addL m (rw_ t i) (scaleL m (bt t i q) (leadL m done q t))
theorem ginv_lt (a : Nat) : ginv a < 256 := gexp_lt _
theorem leadL_lt (m done q : Nat) (t : List (List Nat)) : ∀ j, (leadL m done q t).getD j 0 < 256 := scaleL_lt m _ _ (ginv_lt _)
theorem clear_none {n m done q : Nat} {t : List (List Nat)} (g : Good n m t) {i : Nat} (hi : i < n) (hne : i ≠ done) (h : bt t i q = 0) : clearL m done q t i = rw_ t i := by
  unfold clearL
  rw [if_neg hne, h]
  refine (eq_mk (g.row i hi) fun j hj => ?_).symm
  unfold scaleL
  rw [mk_at _ _ _ hj, gmul_zero_left _ (leadL_lt _ _ _ _ _), Nat.xor_zero]
theorem clear_good {n m done q : Nat} {t : List (List Nat)} (g : Good n m t) : Good n m (mkR n (clearL m done q t)) := by
  have hlen : ∀ i, (clearL m done q t i).length = m := fun i => by unfold clearL leadL addL scaleL; split <;> exact mk_len _ _
  refine ⟨mkR_len _ _, fun r hr => by rw [mkR_at _ _ _ hr, hlen], fun r hr j => ?_⟩
  rw [mkR_at _ _ _ hr]
  unfold clearL
  split
  · exact leadL_lt _ _ _ _ _
  · exact addL_lt m _ _ (g.lt r hr) (scaleL_lt m _ _ (g.lt r hr q)) j
theorem Good.bt_lt {n m : Nat} {t : List (List Nat)} (g : Good n m t) {i : Nat} (hi : i < n) (j : Nat) : bt t i j < 256 := g.lt i hi j
theorem tab_clear {n m done q : Nat} {t : List (List Nat)} (g : Good n m t) (hd : done < n) : EqT n m (tabT (mkR n (clearL m done q t))) (pivT done done q (tabT t)) := fun i hi j hj => by
  have hlead : F.of ((leadL m done q t).getD j 0) = (tabT t done q).inv * tabT t done j := by
    unfold leadL scaleL
    rw [mk_at _ _ _ hj, F.of_gmul (ginv_lt _) (g.lt done hd j), F.of_ginv (g.bt_lt hd q)]
    rfl
  show F.of ((rw_ (mkR n (clearL m done q t)) i).getD j 0) = _
  rw [mkR_at _ _ _ hi]
  unfold clearL pivT
  have hs : swapN done done i = i := by unfold swapN; by_cases e : i = done <;> simp [e]
  by_cases e : i = done
  · rw [if_pos e, if_pos e, hlead]
  · rw [if_neg e, if_neg e, hs]
    unfold addL
    rw [mk_at _ _ _ hj, F.of_xor (g.lt i hi j) (scaleL_lt m _ _ (g.bt_lt hi q) j)]
    unfold scaleL
    rw [mk_at _ _ _ hj, F.of_gmul (g.bt_lt hi q) (leadL_lt _ _ _ _ _), hlead]
    rfl
/-- two rows swapped. -/
def swapL (a b : Nat) (t : List (List Nat)) : List (List Nat) := (t.set a (rw_ t b)).set b (rw_ t a)
theorem swapL_len (a b : Nat) (t : List (List Nat)) : (swapL a b t).length = t.length := by unfold swapL; rw [List.length_set, List.length_set]
theorem swapL_at {a b : Nat} {t : List (List Nat)} {i : Nat} (ha : a < t.length) (hb : b < t.length) : rw_ (swapL a b t) i = rw_ t (swapN a b i) := by
  unfold swapL swapN
  rw [rw_set _ _ _ _ (by rw [List.length_set]; exact hb), rw_set _ _ _ _ ha]
  by_cases e1 : b = i
  · rw [if_pos e1]
    by_cases e2 : i = a
    · rw [if_pos e2, ← e2, ← e1]
    · rw [if_neg e2, if_pos e1.symm]
  · rw [if_neg e1]
    by_cases e2 : a = i
    · rw [if_pos e2, if_pos e2.symm]
    · rw [if_neg e2, if_neg (fun q => e2 q.symm), if_neg (fun q => e1 q.symm)]
theorem swap_good {n m a b : Nat} {t : List (List Nat)} (g : Good n m t) (ha : a < n) (hb : b < n) : Good n m (swapL a b t) := by
  have e : ∀ i, rw_ (swapL a b t) i = rw_ t (swapN a b i) := fun i => swapL_at (by rw [g.len]; exact ha) (by rw [g.len]; exact hb)
  exact ⟨by rw [swapL_len, g.len], fun r hr => by rw [e]; exact g.row _ (swapN_lt ha hb hr), fun r hr j => by rw [e]; exact g.lt _ (swapN_lt ha hb hr) j⟩
theorem tab_swap {n m a b : Nat} {t : List (List Nat)} (g : Good n m t) (ha : a < n) (hb : b < n) : ∀ i j, tabT (swapL a b t) i j = tabT t (swapN a b i) j := fun i j => by
  unfold tabT
  rw [swapL_at (by rw [g.len]; exact ha) (by rw [g.len]; exact hb)]
theorem piv_swap {n m a b q : Nat} {t : List (List Nat)} (g : Good n m t) (ha : a < n) (hb : b < n) : ∀ i j, pivT a a q (tabT (swapL a b t)) i j = pivT a b q (tabT t) i j := fun i j => by
  have e := tab_swap g ha hb
  have h1 : swapN a b a = b := by unfold swapN; rw [if_pos rfl]
  have hs : swapN a a i = i := by unfold swapN; by_cases e : i = a <;> simp [e]
  unfold pivT
  rw [e a q, e a j, h1, hs, e i j, e i q]
/-- one pivot's step, in the lists. -/
theorem step_piv {n m wd done p q places : Nat} {t t0 : List (List Nat)} {c : Nat → Nat} (g : Good n m t) (hwd : wd = m) (hdn : done < n) (hpn : p < n) (hdp : done ≤ p) (hne : bt t p q ≠ 0) (hq : q < places) (hm : places ≤ m)
    (hp : Piv n q done c (tabT t)) (hr : Reach n wd (tabT t0) (tabT t)) :
    Good n m (mkR n (clearL m done q (swapL done p t))) ∧ Piv n (q + 1) (done + 1) (fun k => if k = done then q else c k) (tabT (mkR n (clearL m done q (swapL done p t)))) ∧ Reach n wd (tabT t0) (tabT (mkR n (clearL m done q (swapL done p t)))) := by
  subst hwd
  have g1 := swap_good g hdn hpn
  have e : EqT n wd (tabT (mkR n (clearL wd done q (swapL done p t)))) (pivT done p q (tabT t)) := fun i hi j hj => by
    rw [tab_clear g1 hdn i hi j hj, piv_swap g hdn hpn]
  have hne' : tabT t p q ≠ 0 := fun h => hne ((tabT_zero g hpn).1 h)
  exact ⟨clear_good g1, (hp.step hdp hpn hne').congr (by omega) e.symm, (hr.piv hdn hpn).congr e⟩
end Go.Proofs.YtooegclblgeicaaGreatDoor

/- Plain lemmas on worlds that have only grown. No condition. -/
namespace Go.Proofs.YtooegclblgeicaaGreatDoor
open Go.ChangeShapes Go.WideShapes Go.ChangeAt Go.RowKit

theorem grown_trans {a b c : World} (h : Grown a b) (g : Grown b c) : Grown a c :=
  ⟨World.keptBut_trans h.1 ⟨g.1.1, g.1.2.1, fun i hi => g.1.2.2 i hi⟩, fun x => (g.2.1 x).trans (h.2.1 x), Nat.le_trans h.2.2 g.2.2⟩
theorem frozen_setRow (w : World) (g : Nat) (cs : Array Value) (a : Addr) : (w.setRow g cs).frozen? a = w.frozen? a := by
  unfold World.frozen? World.setRow
  simp only [Array.getElem?_modify]
  by_cases h : g = a.block
  · rw [if_pos h]
    cases w.heap[a.block]? with
    | none => rfl
    | some o => cases o <;> rfl
  · rw [if_neg h]
theorem grown_setRow {W w' : World} (h : Grown W w') {g : Nat} (hg : W.heap.size ≤ g) (cs : Array Value) : Grown W (w'.setRow g cs) := by
  obtain ⟨⟨h1, h2, h3⟩, hf, hs⟩ := h
  refine ⟨⟨h1, h2, fun i hi => ?_⟩, fun x => (frozen_setRow _ _ _ _).trans (hf x), by rw [setRow_size]; exact hs⟩
  rw [setRow_other _ _ _ _ (by omega)]
  exact h3 i hi
end Go.Proofs.YtooegclblgeicaaGreatDoor

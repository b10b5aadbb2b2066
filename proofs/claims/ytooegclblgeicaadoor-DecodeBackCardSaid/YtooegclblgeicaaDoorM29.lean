/- Proved: lemmas of one statement's proof, merged by program: what each part proves stands ahead of it. Conditions: those that the lemmas name. -/
import Derived.Test.YtooegclblgeicaaDoorM28
import Derived.Test.YtooegclblgeicaaDoorM14
import Derived.Test.YtooegclblgeicaaDoorM12
import Derived.Test.YtooegclblgeicaaDoorM21
import Derived.Test.YtooegclblgeicaaDoorM27
import Derived.Test.YtooegclblgeicaaDoorM16

/- Proved: what the document's reduced leaves of every table: pivots, and a table that is reached from it. Conditions: those that the theorems name. -/
namespace Go.Proofs.YtooegclblgeicaaDoor
open Go.ChangeShapes Go.WideShapes Go.ChangeAt Go.RowKit

theorem ClearMid.start2 {n m d p q : Nat} {t : List (List Nat)} (h : t.length = n) (hd : d < n) (hp : p < n) :
    ClearMid n m d q 0 (swapL d p t) ((t.set p (rw_ t d)).set d (scaleL m (ginv (bt t p q)) (rw_ t p))) := by
  have hsw : rw_ (swapL d p t) d = rw_ t p := by
    rw [swapL_at (by omega) (by omega)]
    unfold swapN
    rw [if_pos rfl]
  have hlead : leadL m d q (swapL d p t) = scaleL m (ginv (bt t p q)) (rw_ t p) := by
    unfold leadL bt
    rw [hsw]
  refine ⟨by rw [List.length_set, List.length_set, h], fun r _ => ?_⟩
  rw [rw_set _ _ _ _ (by rw [List.length_set]; omega), rw_set _ _ _ _ (by omega)]
  by_cases e : d = r
  · have hR : (if r < 0 ∨ r = d then clearL m d q (swapL d p t) r else rw_ (swapL d p t) r) = clearL m d q (swapL d p t) r := if_pos (Or.inr e.symm)
    rw [if_pos e, hR]
    unfold clearL
    rw [if_pos e.symm, hlead]
  · have hR : (if r < 0 ∨ r = d then clearL m d q (swapL d p t) r else rw_ (swapL d p t) r) = rw_ (swapL d p t) r := if_neg (fun h => by rcases h with h | h; omega; exact e h.symm)
    rw [if_neg e, hR, swapL_at (by omega) (by omega)]
    unfold swapN
    rw [if_neg (fun q => e q.symm : ¬ r = d)]
    by_cases e2 : p = r
    · rw [if_pos e2, if_pos e2.symm]
    · rw [if_neg e2, if_neg (fun q => e2 q.symm : ¬ r = p)]

end Go.Proofs.YtooegclblgeicaaDoor

/- Proved: what the document's Rank and Invert answer for every table. Conditions: those that the theorems name. -/
namespace Go.Proofs.YtooegclblgeicaaDoor
open Go.ChangeShapes Go.WideShapes Go.ChangeAt Go.RowKit

theorem mk_snoc (n : Nat) (f : Nat → Nat) : mk n f ++ [f n] = mk (n + 1) f := by
  unfold mk
  rw [List.range_succ, List.map_append]; rfl
theorem cells_one_more (a : List Nat) (n : Nat) (f : Nat → Nat) (x : Nat) (h : f n = x) : cells (a ++ mk n f) ++ [Value.int .u8 (x : Nat)] = cells (a ++ mk (n + 1) f) := by
  rw [← mk_snoc, h]
  show cells (a ++ mk n f) ++ cells [x] = _
  rw [cells_app, List.append_assoc]

end Go.Proofs.YtooegclblgeicaaDoor

/- Proved: what the document's Decode answers for every two ints and all shards. Conditions: those that the theorems name. -/
namespace Go.Proofs.YtooegclblgeicaaDoor
open Go.ChangeShapes Go.WideShapes Go.ChangeAt Go.RowKit

/-! ### two rows that grow side by side -/
theorem own_ne {w : World} {b b' s s' n n' : Nat} {e e' : TypeId} {v u : Value} {xs ys : List Value} (h : w.ownsRow b e s v n xs) (g : w.ownsRow b' e' s' u n' ys) (hne : e ≠ e') : v.ownBlock = none ∨ v.ownBlock ≠ u.ownBlock := by
  rcases h.2 with ⟨rfl, _⟩ | ⟨g1, c1, cur1, rfl, _, h1, _⟩
  · exact Or.inl rfl
  · right
    rcases g.2 with ⟨rfl, _⟩ | ⟨g2, c2, cur2, rfl, _, h2, _⟩
    · intro q; exact nomatch q
    · intro q
      have q' : g1 = g2 := by simpa [Value.ownBlock] using q
      subst q'
      rw [h1] at h2
      injection h2 with h2
      injection h2 with _ h2
      exact hne h2
theorem Cut.keep {w w' : World} {o : Obj} {v u : Value} {xs : List Value} {t : List (List Nat)} (h : Cut w v xs t) (hu : Cut w u xs t) (hg : (w.alloc o).grownBy w' u.ownBlock) : Cut w' v xs t := by
  have hal : Below w.heap.size w (w.alloc o) := (Below.refl _ _).alloc (Nat.le_refl _) _
  refine ⟨h.1, fun r hr => ?_⟩
  obtain ⟨B, c, h1, h2, h3, h4⟩ := h.2 r hr
  obtain ⟨B', c', g1, _, _, g4⟩ := hu.2 r hr
  rw [h1] at g1
  injection g1 with g1
  injection g1 with g1
  subst g1
  exact ⟨B, c, h1, h2, (h3.below hal).grown g4 hg, h4⟩
theorem Cut.turn {w w' : World} {o : Obj} {u : Value} {xs : List Value} {t : List (List Nat)} {gg m cap : Nat} (h : Cut w u xs t) (hg : (w.alloc o).grownBy w' u.ownBlock) (hat : u.ownBlock = some gg ∨ gg = w.heap.size + 1) :
    Cut w' (.slice (some ⟨gg, 0, none⟩) m cap) xs t := by
  refine ⟨h.1, fun r hr => ?_⟩
  have hk := (h.keep h hg).2 r hr
  obtain ⟨B, c, h1, h2, h3, h4⟩ := hk
  obtain ⟨B', c', g1, _, g3, _⟩ := h.2 r hr
  rw [h1] at g1
  injection g1 with g1
  injection g1 with g1
  subst g1
  refine ⟨B, c, h1, h2, h3, fun ad e hn q => ?_⟩
  have q' : gg = ad.block := by simpa [Value.ownBlock] using q
  rcases hat with hat | hat
  · exact h4 ad e hn (by rw [hat, q'])
  · obtain ⟨ad', e', hlt, _⟩ := g3.2.2 hn
    rw [e] at e'
    injection e' with e'
    subst e'
    omega
theorem Cut.snoc {w : World} {u : Value} {xs : List Value} {t : List (List Nat)} {B : Option Addr} {n c : Nat} {x : List Nat} (h : Cut w u xs t) (hcap : n ≤ c) (hx : Bs w B n x) (hB : ∀ ad, B = some ad → 0 < n → u.ownBlock ≠ some ad.block) :
    Cut w u (xs ++ [.slice B n c]) (t ++ [x]) := by
  have hl := hx.len
  refine ⟨by simp [h.1], fun r hr => ?_⟩
  rw [List.length_append, List.length_singleton] at hr
  rw [rw_snoc t x r hr, List.getElem?_append, h.1]
  by_cases hr' : r < t.length
  · rw [if_pos hr', if_pos hr']; exact h.2 r hr'
  · rw [if_neg hr', if_neg hr', show r - t.length = 0 by omega, hl]
    exact ⟨B, c, rfl, hcap, hx, hB⟩
theorem ss_keep {w w' : World} {base size n : Nat} {e : TypeId} {v : Value} {xs : List Value} (h : w.ownsRow base e size v n xs) (hb : Below w.heap.size w w') : w'.ownsRow base e size v n xs := ownsRow_below' h hb

theorem rowsC_cut {k : Nat} {a : List Shd} (hk : k ≤ a.length) : mkR k (fun i => rowC k (sh_ a i).1.toNat) = rowsC k (idxL (a.take k)) := by
  have e := take_len hk
  have h := rowsC_mk k (idxL (a.take k))
  rw [idxL_len, e] at h
  rw [h]
  refine eq_mkR (mkR_len _ _) fun j hj => ?_
  rw [mkR_at _ _ _ hj, idxL_at (by rw [e]; exact hj), sh_take hj]
theorem bodL_cut {k : Nat} {a : List Shd} (hk : k ≤ a.length) : mkS k (fun i => (sh_ a i).2) = bodL (a.take k) := by
  have e := take_len hk
  exact (eq_mkS (by rw [bodL_len, e]) fun j hj => by rw [bodL_at (by rw [e]; exact hj), sh_take hj]).symm

end Go.Proofs.YtooegclblgeicaaDoor

/- Plain lemmas on cells that lie in memory, from an address on, and on stores into a box. No condition beyond those that each lemma names. -/
import Derived.Test.YtifekpdjenfnbaaTn
namespace Go.Proofs.Ytifekpdjenfnbaa
open Go.ChangeShapes Go.WideShapes Go.ChangeAt Go.RowKit

/-- These cells lie from address A on; their block is one for which c holds. -/
def Cl (w : World) (c : Nat → Prop) (A : Option Addr) (xs : List Value) : Prop :=
  0 < xs.length → ∃ g o, A = some ⟨g, o, none⟩ ∧ c g ∧ g < w.heap.size ∧ ∀ j u, xs[j]? = some u → w.cell? ⟨g, o + j, none⟩ = some u
theorem Cl.nil (w : World) (c : Nat → Prop) (A : Option Addr) : Cl w c A [] := fun h => absurd h (Nat.lt_irrefl 0)
theorem Cl.tn {w w' : World} {c d : Nat → Prop} {A : Option Addr} {xs : List Value} (h : Cl w c A xs) (k : Tn d w w') (hd : ∀ g, g < w.heap.size → c g → ¬ d g) : Cl w' c A xs := fun h0 => by
  obtain ⟨g, o, e, hc, hl, hx⟩ := h h0
  refine ⟨g, o, e, hc, Nat.lt_of_lt_of_le hl k.size, fun j u hj => ?_⟩
  rw [← hx j u hj]
  exact World.cell?_of_block (a := ⟨g, o + j, none⟩) (k.block _ hl (hd _ hl hc))
theorem Cl.mono {w : World} {c d : Nat → Prop} {A : Option Addr} {xs : List Value} (h : Cl w c A xs) (hd : ∀ g, g < w.heap.size → c g → d g) : Cl w d A xs := fun h0 => by
  obtain ⟨g, o, e, hc, hl, hx⟩ := h h0
  exact ⟨g, o, e, hd _ hl hc, hl, hx⟩
theorem Cl.below {w w' : World} {c : Nat → Prop} {A : Option Addr} {xs : List Value} (h : Cl w c A xs) (k : Below w.heap.size w w') : Cl w' c A xs := h.tn (tn_below Nil k) fun _ _ _ f => f
/-- an own row's cells. -/
theorem Cl.own {w : World} {base : Nat} {e : TypeId} {k n : Nat} {v : Value} {xs : List Value} {c : Nat → Prop} (h : w.ownsRow base e k v n xs) (hc : ∀ g, base ≤ g → c g) :
    ∃ A cap, v = .slice A n cap ∧ n ≤ cap ∧ (A = none → cap = 0) ∧ Cl w c A xs := by
  obtain ⟨hl, hv⟩ := h
  rcases hv with ⟨rfl, h0⟩ | ⟨g, cap, cur, rfl, hb, hg, h1, h2, h3, h4⟩
  · subst h0
    refine ⟨none, 0, rfl, Nat.le_refl _, fun _ => rfl, ?_⟩
    have : xs = [] := List.eq_nil_of_length_eq_zero (by rw [hl, Nat.zero_mul])
    subst this
    exact Cl.nil _ _ _
  · refine ⟨_, cap, rfl, h1, (fun e => nomatch e), fun _ => ⟨g, 0, rfl, hc g hb, (Array.getElem?_eq_some_iff.1 hg).1, fun j u hj => ?_⟩⟩
    rw [Nat.zero_add, cell_of_row w g j cur _ (0, 0) hg]
    rw [← h4, List.getElem?_take] at hj
    split at hj
    · simpa using hj
    · cases hj

set_option maxRecDepth 100000 in
/-- slices of k cells each are appended to an own row, whatever they lie in, none too. -/
theorem run_copy {w : World} {base : Nat} {t ty e : TypeId} {z : Value} {k bytes : Nat} (ht : Try.prog.underlying t = some (.slice e)) (info : (Try.prog.info? e).map (fun i => (i.zero, i.size, i.bytes)) = some (some z, k, bytes)) (hzs : z.cells.size = k) (hk : 0 < k)
    {v : Value} {n : Nat} {xs : List Value} (hown : w.ownsRow base e k v n xs) {c : Nat → Prop} {A : Option Addr} {m cp : Nat} {ys : List Value} (hl : ys.length = m * k) (hy : Cl w c A ys) (hA : A = none → cp = 0) (one : ∀ u ∈ ys, u.oneCell' = true)
    (h63 : n + m ≤ 70000) (hby : bytes ≤ 1000) (hbase : base ≤ w.heap.size) :
    ∃ v' w', (Builtin.append_ #[t, t] ty #[v, .slice A m cp]).run Try.prog w = .ok v' w' ∧ w'.ownsRow base e k v' (n + m) (xs ++ ys) ∧ w.grownBy w' v.ownBlock := by
  obtain ⟨i, hi, hz0, hz1, hz2⟩ := info_parts info
  have hb : (n + m) * bytes ≤ 140737488355328 := Nat.le_trans (Nat.mul_le_mul h63 hby) (by decide)
  cases A with
  | none =>
    obtain rfl := hA rfl
    have hm : m = 0 := by
      rcases Nat.eq_zero_or_pos m with e | e
      · exact e
      · obtain ⟨g, o, e2, _⟩ := hy (by rw [hl]; exact Nat.mul_pos e hk)
        cases e2
    subst hm
    have hys : ys = [] := List.eq_nil_of_length_eq_zero (by rw [hl, Nat.zero_mul])
    subst hys
    refine ⟨v, w, run_append_owned_none (P := Try.prog) (w := w) base t ty e i k ht hi v n xs hown, by rw [List.append_nil]; exact hown, grown_refl _ _⟩
  | some a =>
    obtain ⟨v', w', hr, h2, h3, _⟩ := run_append_own_at (P := Try.prog) w base t ty e i z k bytes ht hi hz0 hz1 hz2 hzs hk v n xs hown a m cp ys hl (fun j u hj => by
      obtain ⟨g, o, e', _, _, hx⟩ := hy (by have := (List.getElem?_eq_some_iff.1 hj).1; omega)
      injection e' with e'
      subst e'
      rw [Addr.add_lit]
      exact hx j u hj) one (by unfold maxLen; omega) hb hbase
    exact ⟨v', w', hr, h2, h3⟩

theorem cl_at {w : World} {c : Nat → Prop} {g n : Nat} {t : TypeId} {L xs : List Value} (h : At w g t L) (hc : c g) (e : L.take n = xs) : Cl w c (some ⟨g, 0, none⟩) xs := fun _ => ⟨g, 0, rfl, hc, h.lt, fun j u hj => by
  rw [Nat.zero_add]
  rw [← e, List.getElem?_take] at hj
  split at hj
  · exact h.cell j hj
  · cases hj⟩
theorem Cl.take {w : World} {c : Nat → Prop} {A : Option Addr} {xs : List Value} (h : Cl w c A xs) (n : Nat) : Cl w c A (xs.take n) := fun h0 => by
  obtain ⟨g, o, e, hc, hl, hx⟩ := h (by rw [List.length_take] at h0; omega)
  refine ⟨g, o, e, hc, hl, fun j u hj => hx j u ?_⟩
  rw [List.getElem?_take] at hj
  split at hj
  · exact hj
  · cases hj
theorem Cl.drop {w : World} {c : Nat → Prop} {g o : Nat} {xs : List Value} (h : Cl w c (some ⟨g, o, none⟩) xs) (n : Nat) : Cl w c (some ⟨g, o + n, none⟩) (xs.drop n) := fun h0 => by
  obtain ⟨g', o', e, hc, hl, hx⟩ := h (by rw [List.length_drop] at h0; omega)
  injection e with e
  injection e with e1 e2
  subst e1; subst e2
  refine ⟨g, o + n, rfl, hc, hl, fun j u hj => ?_⟩
  rw [List.getElem?_drop] at hj
  rw [Nat.add_assoc]
  exact hx _ u hj
theorem pset_below {W w : World} {B b j : Nat} {v : Value} (h : Below B w W) (hw : B ≤ w.heap.size) (hb : B ≤ b) : Below B w (W.setCell ⟨b, j, none⟩ v) := h.grown (grown_set W ⟨b, j, none⟩ v) (Nat.le_trans hw h.size) (fun k e => by injection e with e; show B ≤ k; rw [← e]; exact hb)

def pset2 (W : World) (b : Nat) (x y : Value) : World := (W.setCell ⟨b, 0, none⟩ x).setCell ⟨b, 1, none⟩ y
theorem pset2_at {W : World} {b : Nat} {t : TypeId} {a c x y : Value} (A : At W b t [a, c]) : At (pset2 W b x y) b t [x, y] := (A.set_ 0 _).set_ 1 _
theorem pset2_below {W w : World} {B b : Nat} {x y : Value} (h : Below B w W) (hw : B ≤ w.heap.size) (hb : B ≤ b) : Below B w (pset2 W b x y) := pset_below (pset_below h hw hb) hw hb
theorem pset2_far {W : World} {b g : Nat} {t : TypeId} {xs : List Value} {x y : Value} (A : At W g t xs) (h : g ≠ b) : At (pset2 W b x y) g t xs := (A.far (p := ⟨b, 0, none⟩) h x).far (p := ⟨b, 1, none⟩) h y
theorem pset2_tn (W : World) (b : Nat) (x y : Value) : Tn (fun g => g = b) W (pset2 W b x y) := ((Tn.refl (fun g => g = b) W).set ⟨b, 0, none⟩ x (fun _ => rfl)).set ⟨b, 1, none⟩ y (fun _ => rfl)
theorem one_of_nodup {α β : Type} {f : α → β} : ∀ {l : List α}, (l.map f).Nodup → ∀ {a b : α}, a ∈ l → b ∈ l → f a = f b → a = b
  | [], _, _, _, h, _, _ => nomatch h
  | x :: l, h, a, b, ha, hb, e => by
    rw [List.map_cons, List.nodup_cons] at h
    rcases List.mem_cons.1 ha with e1 | h1
    · rcases List.mem_cons.1 hb with e2 | h2
      · rw [e1, e2]
      · exact absurd (List.mem_map.2 ⟨b, h2, by rw [← e, e1]⟩) h.1
    · rcases List.mem_cons.1 hb with e2 | h2
      · exact absurd (List.mem_map.2 ⟨a, h1, by rw [e, e2]⟩) h.1
      · exact one_of_nodup h.2 h1 h2 e
end Go.Proofs.Ytifekpdjenfnbaa

/- Plain lemmas on rows of ints of a call's own, three in an array. No condition beyond those that each lemma names. -/
import Derived.Test.YtplbdeaoeocgkaaDrLaw
import Derived.Test.YtplbdeaoeocgkaaIntA
namespace Go.Proofs.Ytplbdeaoeocgkaa
open Go.ChangeShapes Go.WideShapes Go.ChangeAt Go.RowKit

/-- The row v holds these ints; its block is one for which c holds. -/
def Zr (w : World) (c : Nat → Prop) (v : Value) (l : List Int) : Prop := w.ownsRow 0 3 1 v l.length (zcells l) ∧ ∀ g, v.ownBlock = some g → c g
theorem Zr.nil (w : World) (c : Nat → Prop) : Zr w c (.slice none 0 0) [] := ⟨World.ownsRow_nil _ _ _ _, fun g e => by simp [Value.ownBlock] at e⟩
theorem Zr.mono {w : World} {c d : Nat → Prop} {v : Value} {l : List Int} (h : Zr w c v l) (hd : ∀ g, g < w.heap.size → c g → d g) : Zr w d v l := ⟨h.1, fun g e => hd g (h.1.lt g e).2 (h.2 g e)⟩
theorem Zr.tn {w w' : World} {c d : Nat → Prop} {v : Value} {l : List Int} (h : Zr w c v l) (k : Tn d w w') (hd : ∀ g, g < w.heap.size → c g → ¬ d g) : Zr w' c v l := by
  refine ⟨⟨h.1.1, ?_⟩, h.2⟩
  rcases h.1.2 with hn | ⟨g, cap, cur, rfl, hb, hg, r⟩
  · exact .inl hn
  · have hl := (Array.getElem?_eq_some_iff.1 hg).1
    exact .inr ⟨g, cap, cur, rfl, hb, (k.block g hl (hd g hl (h.2 g rfl))).trans hg, r⟩
theorem Zr.form {w : World} {c : Nat → Prop} {v : Value} {l : List Int} (h : Zr w c v l) (hn : 0 < l.length) :
    ∃ g cap, v = .slice (some ⟨g, 0, none⟩) l.length cap ∧ c g ∧ g < w.heap.size ∧ l.length ≤ cap ∧ ∀ j, j < l.length → w.cell? ⟨g, j, none⟩ = some (.int .i64 (l.getD j 0)) := by
  obtain ⟨g, cap, rfl, _, hlt⟩ := h.1.form hn
  have hle : l.length ≤ cap := by
    rcases h.1.2 with ⟨_, h0⟩ | ⟨g', cap', cur, e, _, _, h1, _⟩
    · omega
    · injection e with _ _ e; omega
  refine ⟨g, cap, rfl, h.2 g rfl, hlt, hle, fun j hj => ?_⟩
  have := h.1.cells (g := g) rfl j (.int .i64 (l.getD j 0)) (zcells_at l j hj)
  have e : (⟨g, 0, none⟩ : Addr).add j = ⟨g, j, none⟩ := by unfold Addr.add; split <;> simp_all
  rwa [e] at this
theorem Zr.len {w : World} {c : Nat → Prop} {v : Value} {l : List Int} (h : Zr w c v l) : ∃ A cap, v = .slice A l.length cap := by
  rcases h.1.2 with ⟨rfl, h0⟩ | ⟨g, cap, cur, rfl, _⟩
  · exact ⟨_, _, by rw [h0]⟩
  · exact ⟨_, _, rfl⟩
theorem zcells_one (l : List Int) : ∀ u ∈ zcells l, u.oneCell' = true := by
  intro u hu
  unfold zcells at hu
  obtain ⟨x, _, rfl⟩ := List.mem_map.1 hu
  rfl
/-- one int more. -/
theorem Zr.append {w : World} {c : Nat → Prop} {v : Value} {l : List Int} (h : Zr w c v l) (hn : l.length ≤ 65536) (x : Int) (a : Addr) (h0 : w.cell? (a.add 0) = some (.int .i64 x)) (cp : Nat) (ty : TypeId) :
    ∃ w' g cap, (Builtin.append_ #[29, 29] ty #[v, .slice (some a) 1 cp]).run Try.prog w = .ok (.slice (some ⟨g, 0, none⟩) (l.length + 1) cap) w' ∧ Zr w' (fun i => i = g) (.slice (some ⟨g, 0, none⟩) (l.length + 1) cap) (l ++ [x]) ∧ (c g ∨ w.heap.size ≤ g) ∧ g < w'.heap.size ∧ Tn c w w' := by
  obtain ⟨i, hi, hz0, hz1, hz2⟩ := info_parts Try.zInfo
  have ht := Try.underlying29
  have hnews : ∀ j u, (zcells [x])[j]? = some u → w.cell? (a.add j) = some u := fun j u hj => by
    match j, hj with
    | 0, hj => simp [zcells] at hj; subst hj; exact h0
    | j + 1, hj => simp [zcells] at hj
  obtain ⟨g, cap, w', hr, h2, h3, h4, h5⟩ := run_append_lies (P := Try.prog) w _ ty 0 _ i _ 1 8 ht hi hz0 hz1 hz2 rfl (by omega) v l.length _ h.1 a 1 cp (zcells [x]) rfl hnews (zcells_one _) (by omega) (by unfold maxLen; omega) (by omega) (Nat.zero_le _) w.heap.size rfl
  refine ⟨w', g, cap, hr, ⟨by rw [List.length_append]; exact (zcells_snoc l x) ▸ h2, fun g' e => by simp [Value.ownBlock] at e; exact e.symm⟩, ?_, h5, tn_grown h3 h.2⟩
  rcases h4 with h4 | h4
  · exact .inl (h.2 g h4)
  · exact .inr (by omega)

/-! ### three of them in an array -/
/-- which rows' block it is. -/
abbrev Kc (L : Ly) (kl : Nat → Nat) (B k : Nat) : Nat → Prop := fun g => L.col g = -1 ∧ kl g = k ∧ B ≤ g
/-- Block b is an array of three rows of ints, row i's blocks are (k0 + i)'s. -/
def A3 (w : World) (L : Ly) (kl : Nat → Nat) (B k0 b : Nat) (f : Nat → List Int) : Prop :=
  L.col b = -1 ∧ kl b = 9 ∧ B ≤ b ∧ ∃ v : Nat → Value, At w b 51 [v 0, v 1, v 2] ∧ ∀ i, i < 3 → Zr w (Kc L kl B (k0 + i)) (v i) (f i)
theorem A3.lt {w : World} {L : Ly} {kl : Nat → Nat} {B k0 b : Nat} {f : Nat → List Int} (h : A3 w L kl B k0 b f) : b < w.heap.size := by
  obtain ⟨_, _, _, v, h, _⟩ := h
  exact h.lt
theorem A3.tn {w w' : World} {L : Ly} {kl : Nat → Nat} {B k0 b : Nat} {f : Nat → List Int} {c : Nat → Prop} (h : A3 w L kl B k0 b f) (k : Tn c w w') (hc : ∀ g, c g → L.col g = -1 → kl g ≠ 9 ∧ ∀ i, i < 3 → kl g ≠ k0 + i) : A3 w' L kl B k0 b f := by
  obtain ⟨h1, h2, h3, v, h4, h5⟩ := h
  exact ⟨h1, h2, h3, v, h4.tn k (fun e => (hc b e h1).1 h2), fun i hi => (h5 i hi).tn k fun g _ e f => (hc g f e.1).2 i hi e.2.1⟩
theorem A3.step {w w' : World} {L L' : Ly} {kl : Nat → Nat} {B k0 b : Nat} {f : Nat → List Int} (h : A3 w L kl B k0 b f) (k : Fr w L w' L') : A3 w' L' kl B k0 b f := by
  have hl := h.lt
  obtain ⟨h1, h2, h3, v, h4, h5⟩ := h
  refine ⟨(k.col b hl).trans h1, h2, h3, v, h4.tn k.tn (fun e => e h1), fun i hi => ?_⟩
  have h6 : Zr w (Kc L' kl B (k0 + i)) (v i) (f i) := (h5 i hi).mono fun g hg e => ⟨(k.col g hg).trans e.1, e.2⟩
  exact h6.tn k.tn fun g hg e f => f ((k.col g hg).symm.trans e.1)
/-- one of the rows, and where it stands. -/
theorem A3.get {w : World} {L : Ly} {kl : Nat → Nat} {B k0 b : Nat} {f : Nat → List Int} (h : A3 w L kl B k0 b f) {i : Nat} (hi : i < 3) :
    ∃ v, w.cell? ⟨b, i, none⟩ = some v ∧ Zr w (Kc L kl B (k0 + i)) v (f i) := by
  obtain ⟨_, _, _, v, h4, h5⟩ := h
  refine ⟨v i, h4.cell i ?_, h5 i hi⟩
  match i, hi with
  | 0, _ => rfl
  | 1, _ => rfl
  | 2, _ => rfl
theorem A3.free {w : World} {L : Ly} {kl : Nat → Nat} {B k0 b : Nat} {f : Nat → List Int} (h : A3 w L kl B k0 b f) (i : Nat) : w.frozen? ⟨b, i, none⟩ = false := by
  obtain ⟨_, _, _, v, h4, _⟩ := h
  exact h4.free i
/-- block g is k's row from now on. -/
def paintK (kl : Nat → Nat) (g k : Nat) : Nat → Nat := fun j => if j = g then k else kl j
theorem paintK_at (kl : Nat → Nat) (g k : Nat) : paintK kl g k g = k := if_pos rfl
theorem paintK_far (kl : Nat → Nat) {g j : Nat} (k : Nat) (h : j ≠ g) : paintK kl g k j = kl j := if_neg h
def setF (f : Nat → List Int) (i : Nat) (l : List Int) : Nat → List Int := fun j => if j = i then l else f j
/-- a row that was appended to is stored in its place. -/
theorem A3.put {w w' : World} {L : Ly} {kl : Nat → Nat} {B k0 b : Nat} {f : Nat → List Int} (h : A3 w L kl B k0 b f) {i g : Nat} {v' : Value} {l : List Int} (hi : i < 3) (hk : k0 + 3 ≤ 9) (ht : Tn (Kc L kl B (k0 + i)) w w') (hz : Zr w' (fun j => j = g) v' l)
    (hg : Kc L kl B (k0 + i) g ∨ w.heap.size ≤ g) (hB : B ≤ w.heap.size) (hcol : ∀ j, w.heap.size ≤ j → L.col j = -1) :
    A3 (w'.setCell ⟨b, i, none⟩ v') L (paintK kl g (k0 + i)) B k0 b (setF f i l) := by
  have hl := h.lt
  obtain ⟨h1, h2, h3, v, h4, h5⟩ := h
  have hgb : g ≠ b := fun e => by
    rcases hg with hg | hg
    · have := hg.2.1; rw [e, h2] at this; omega
    · omega
  have hat : At w' b 51 [v 0, v 1, v 2] := h4.tn ht (fun e => by have := e.2.1; rw [h2] at this; omega)
  have hT : Tn (fun j => j = b) w' (w'.setCell ⟨b, i, none⟩ v') := (Tn.refl (fun j => j = b) w').set ⟨b, i, none⟩ _ (fun _ => rfl)
  have hgL : L.col g = -1 ∧ B ≤ g := by
    rcases hg with hg | hg
    · exact ⟨hg.1, hg.2.2⟩
    · exact ⟨hcol g hg, by omega⟩
  refine ⟨h1, by rw [paintK_far kl _ (Ne.symm hgb)]; exact h2, h3, fun j => if j = i then v' else v j, ?_, fun j hj => ?_⟩
  · have := hat.set_ i v'
    match i, hi with
    | 0, _ => exact this
    | 1, _ => exact this
    | 2, _ => exact this
  · by_cases e : j = i
    · subst e
      show Zr _ _ (if j = j then v' else v j) (setF f j l j)
      rw [if_pos rfl, show setF f j l j = l from if_pos rfl]
      refine (hz.tn hT (fun a _ e f => by have e : a = g := e; have f : a = b := f; exact hgb (by rw [← e, f]))).mono fun a _ e => ?_
      have e : a = g := e
      rw [e]
      exact ⟨hgL.1, paintK_at kl g _, hgL.2⟩
    · show Zr _ _ (if j = i then v' else v j) (setF f i l j)
      rw [if_neg e, show setF f i l j = f j from if_neg e]
      have hz0 : Zr w (Kc L (paintK kl g (k0 + i)) B (k0 + j)) (v j) (f j) := (h5 j hj).mono fun a ha e1 => ⟨e1.1, by
        by_cases c : a = g
        · rcases hg with hg | hg
          · have := hg.2.1; rw [← c, e1.2.1] at this; omega
          · omega
        · rw [paintK_far kl _ c]; exact e1.2.1, e1.2.2⟩
      have hz1 := hz0.tn ht fun a ha e1 f1 => by
        have h7 := f1.2.1
        have h8 := e1.2.1
        by_cases c : a = g
        · rw [c, paintK_at] at h8; omega
        · rw [paintK_far kl _ c] at h8; omega
      exact hz1.tn hT fun a ha e1 f1 => by
        have f1 : a = b := f1
        have h8 := e1.2.1
        rw [f1, paintK_far kl _ (Ne.symm hgb), h2] at h8
        omega
/-- .. and the other array stays. -/
theorem A3.other {w w' : World} {L : Ly} {kl : Nat → Nat} {B k0 k1 b b1 i g : Nat} {f f1 : Nat → List Int} {v' : Value} (h : A3 w L kl B k0 b f) (h1 : A3 w L kl B k1 b1 f1) (hne : b1 ≠ b) (hk : ∀ j, j < 3 → k1 + j ≠ k0 + i) (hk9 : ∀ j, j < 3 → k1 + j ≠ 9) (h9 : k0 + i ≠ 9) (ht : Tn (Kc L kl B (k0 + i)) w w')
    (hg : Kc L kl B (k0 + i) g ∨ w.heap.size ≤ g) : A3 (w'.setCell ⟨b, i, none⟩ v') L (paintK kl g (k0 + i)) B k1 b1 f1 := by
  have hl := h1.lt
  have hb9 := h.2.1
  obtain ⟨a1, a2, a3, v, a4, a5⟩ := h1
  have hgb : b1 ≠ g := fun e => by
    rcases hg with hg | hg
    · have := hg.2.1; rw [← e, a2] at this; omega
    · omega
  have hT : Tn (fun j => j = b) w' (w'.setCell ⟨b, i, none⟩ v') := (Tn.refl (fun j => j = b) w').set ⟨b, i, none⟩ _ (fun _ => rfl)
  refine ⟨a1, by rw [paintK_far kl _ hgb]; exact a2, a3, v, (a4.tn ht (fun e => by have := e.2.1; rw [a2] at this; omega)).tn hT hne, fun j hj => ?_⟩
  have hz0 : Zr w (Kc L (paintK kl g (k0 + i)) B (k1 + j)) (v j) (f1 j) := (a5 j hj).mono fun a ha e1 => ⟨e1.1, by
    by_cases c : a = g
    · rcases hg with hg | hg
      · have := hg.2.1; rw [← c, e1.2.1] at this; exact absurd this (hk j hj)
      · omega
    · rw [paintK_far kl _ c]; exact e1.2.1, e1.2.2⟩
  have hz1 := hz0.tn ht fun a ha e1 f1 => by
    have h7 := f1.2.1
    have h8 := e1.2.1
    by_cases c : a = g
    · rw [c, paintK_at] at h8; exact hk j hj h8.symm
    · rw [paintK_far kl _ c] at h8; exact hk j hj (h8.symm.trans h7)
  refine hz1.tn hT fun a ha e1 f1 => ?_
  have f1 : a = b := f1
  have h8 := e1.2.1
  by_cases c : a = g
  · rw [c, paintK_at] at h8; exact hk j hj h8.symm
  · rw [paintK_far kl _ c, f1, hb9] at h8
    exact hk9 j hj h8.symm
/-- one int more in a row of one of two arrays. -/
theorem sb_put {w wi : World} {b : Nat} {L : Ly} {Q M : Int} {W : List (Int × Int)} {R : List Qd} {kl : Nat → Nat} {k0 k1 bi bo i : Nat} {f f1 : Nat → List Int} (h : SB w wi b L Q M W R) (ha : A3 wi L kl w.heap.size k0 bi f) (ho : A3 wi L kl w.heap.size k1 bo f1)
    (hne : bo ≠ bi) (hi : i < 3) (hk0 : k0 + 3 ≤ 9) (hk : ∀ j, j < 3 → k1 + j ≠ k0 + i) (hk9 : ∀ j, j < 3 → k1 + j ≠ 9) (hn : (f i).length ≤ 65536) (hk9' : ∀ j, wi.heap.size ≤ j → kl j = 9) (x : Int) (ad : Addr) (h0 : wi.cell? (ad.add 0) = some (.int .i64 x)) (cp : Nat) (ty : TypeId) :
    ∃ v w2 g cap, wi.cell? ⟨bi, i, none⟩ = some v ∧ (∃ A c, v = .slice A (f i).length c) ∧ (Builtin.append_ #[29, 29] ty #[v, .slice (some ad) 1 cp]).run Try.prog wi = .ok (.slice (some ⟨g, 0, none⟩) ((f i).length + 1) cap) w2 ∧
      w2.cell? ⟨bi, i, none⟩ = some v ∧ w2.frozen? ⟨bi, i, none⟩ = false ∧ Tn (Kc L kl w.heap.size (k0 + i)) wi w2 ∧
      SB w (w2.setCell ⟨bi, i, none⟩ (.slice (some ⟨g, 0, none⟩) ((f i).length + 1) cap)) b L Q M W R ∧
      ∃ kl', (∀ j, w2.heap.size ≤ j → kl' j = 9) ∧ A3 (w2.setCell ⟨bi, i, none⟩ (.slice (some ⟨g, 0, none⟩) ((f i).length + 1) cap)) L kl' w.heap.size k0 bi (setF f i (f i ++ [x])) ∧
        A3 (w2.setCell ⟨bi, i, none⟩ (.slice (some ⟨g, 0, none⟩) ((f i).length + 1) cap)) L kl' w.heap.size k1 bo f1 := by
  obtain ⟨v, hc, hz⟩ := ha.get hi
  obtain ⟨w2, g, cap, hr, hz2, hg, hgl, ht⟩ := hz.append hn x ad h0 cp ty
  have ha2 : A3 w2 L kl w.heap.size k0 bi f ∨ True := Or.inr trivial
  clear ha2
  have hbl := ha.lt
  have hbk : ¬ Kc L kl w.heap.size (k0 + i) bi := fun e => by have := e.2.1; rw [ha.2.1] at this; omega
  have hc2 : w2.cell? ⟨bi, i, none⟩ = some v := (World.cell?_of_block (ht.block bi hbl hbk)).trans hc
  have hf2 : w2.frozen? ⟨bi, i, none⟩ = false := (World.frozen?_of_block (a := ⟨bi, i, none⟩) (ht.block bi hbl hbk)).trans (ha.free i)
  have hT : Tn (fun j => j = bi) w2 (w2.setCell ⟨bi, i, none⟩ (.slice (some ⟨g, 0, none⟩) ((f i).length + 1) cap)) := (Tn.refl (fun j => j = bi) w2).set ⟨bi, i, none⟩ _ (fun _ => rfl)
  refine ⟨v, w2, g, cap, hc, hz.len, hr, hc2, hf2, ht, (h.free ht (fun j _ e => e.1) (fun j hj e => by have := e.2.2; omega)).free hT (fun j _ e => by have e : j = bi := e; rw [e]; exact ha.1) (fun j hj e => by have e : j = bi := e; have := ha.2.2.1; omega), paintK kl g (k0 + i), fun j hj => (paintK_far kl _ (by omega)).trans (hk9' j (Nat.le_trans ht.size hj)), ha.put hi hk0 ht hz2 hg h.bel.size (fun j hj => h.sr.ahead j hj), ha.other ho hne hk hk9 (by omega) ht hg⟩
end Go.Proofs.Ytplbdeaoeocgkaa

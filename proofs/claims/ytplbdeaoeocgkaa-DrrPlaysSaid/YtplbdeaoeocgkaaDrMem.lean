/- Plain lemmas on memory that holds queues: what turns, rows of items that lie anywhere in their block, rows of pointers, a map from numbers to pointers. No condition beyond those that each lemma names. -/
import Derived.Test.YtplbdeaoeocgkaaDrMath
import Derived.Test.YtplbdeaoeocgkaaObj
import Derived.Deep.OwnRows
import Derived.Deep.AppendLies
import Derived.Maps.AppendAt
import Derived.Maps.OwnSet
import Derived.Laws.AppendOwnNone
namespace Go.Proofs.Ytplbdeaoeocgkaa
open Go.ChangeShapes Go.WideShapes Go.ChangeAt Go.RowKit

/-! ### what turns -/
/-- Of what was there nothing has turned but blocks for which c holds. -/
structure Tn (c : Nat → Prop) (w w' : World) : Prop where
  os : w'.os = w.os
  tape : w'.tape = w.tape
  output : w'.output = w.output
  size : w.heap.size ≤ w'.heap.size
  block : ∀ i, i < w.heap.size → ¬ c i → w'.heap[i]? = w.heap[i]?
theorem Tn.refl (c : Nat → Prop) (w : World) : Tn c w w := ⟨rfl, rfl, rfl, Nat.le_refl _, fun _ _ _ => rfl⟩
theorem Tn.trans' {c d : Nat → Prop} {w w1 w2 : World} (h : Tn c w w1) (k : Tn d w1 w2) (hd : ∀ i, i < w.heap.size → d i → c i) : Tn c w w2 :=
  ⟨k.os.trans h.os, k.tape.trans h.tape, k.output.trans h.output, Nat.le_trans h.size k.size, fun i hi hn => (k.block i (Nat.lt_of_lt_of_le hi h.size) (fun e => hn (hd i hi e))).trans (h.block i hi hn)⟩
theorem Tn.trans {c : Nat → Prop} {w w1 w2 : World} (h : Tn c w w1) (k : Tn c w1 w2) : Tn c w w2 := h.trans' k fun _ _ e => e
theorem Tn.mono {c d : Nat → Prop} {w w' : World} (h : Tn c w w') (hd : ∀ i, i < w.heap.size → c i → d i) : Tn d w w' :=
  ⟨h.os, h.tape, h.output, h.size, fun i hi hn => h.block i hi (fun e => hn (hd i hi e))⟩
theorem tn_below {w w' : World} (c : Nat → Prop) (h : Below w.heap.size w w') : Tn c w w' := ⟨h.os, h.tape, h.output, h.size, fun i hi _ => h.block i hi⟩
theorem tn_grown {w w' : World} {c : Nat → Prop} {row : Option Nat} (h : w.grownBy w' row) (hr : ∀ g, row = some g → c g) : Tn c w w' := ⟨h.os, h.tape, h.output, h.size, fun i hi hn => h.block i hi (fun e => hn (hr i e.symm))⟩
theorem Tn.below {c : Nat → Prop} {w0 w w' : World} {B : Nat} (h : Tn c w w') (k : Below B w0 w) (hs : B ≤ w.heap.size) (hb : ∀ i, i < B → ¬ c i) : Below B w0 w' :=
  k.trans ⟨h.os, h.tape, h.output, by have := h.size; omega, fun i hi => h.block i (by omega) (hb i hi)⟩
theorem Tn.drew {c : Nat → Prop} {w w' : World} (h : Tn c w w') : Tn c w w'.drew := h.trans (tn_grown (grown_drew w' none) (by simp))
theorem Tn.drewN {c : Nat → Prop} {w w' : World} (h : Tn c w w') (q : Nat) : Tn c w (w'.drewN q) := h.trans (tn_grown (grown_drewN w' q none) (by simp))
theorem Tn.alloc {c : Nat → Prop} {w w' : World} (h : Tn c w w') (o : Obj) : Tn c w (w'.alloc o) := h.trans (tn_below c ((Below.refl _ _).alloc (Nat.le_refl _) o))
theorem Tn.set {c : Nat → Prop} {w w' : World} (h : Tn c w w') (p : Addr) (v : Value) (hp : p.block < w.heap.size → c p.block) : Tn c w (w'.setCell p v) :=
  h.trans' (tn_grown (c := fun i => i = p.block) (grown_set w' p v) (fun g e => by injection e with e; exact e.symm)) fun i hi e => by
    have e : i = p.block := e
    rw [e]; exact hp (by rw [← e]; exact hi)
theorem At.tn {c : Nat → Prop} {w w' : World} {b : Nat} {t : TypeId} {xs : List Value} (h : At w b t xs) (k : Tn c w w') (hc : ¬ c b) : At w' b t xs := h.block (k.block b h.lt hc)

/-! ### rows of items -/
def itcells : List It → List Value
  | [] => []
  | x :: r => .int .i64 x.1 :: .int .i64 x.2 :: itcells r
theorem itcells_len (l : List It) : (itcells l).length = l.length * 2 := by
  induction l with
  | nil => rfl
  | cons x r ih => show (itcells r).length + 1 + 1 = _; rw [ih, List.length_cons]; omega
theorem itcells_app (l r : List It) : itcells (l ++ r) = itcells l ++ itcells r := by
  induction l with
  | nil => rfl
  | cons x l ih => show _ :: _ :: itcells (l ++ r) = _; rw [ih]; rfl
theorem itcells_one (l : List It) : ∀ u ∈ itcells l, u.oneCell' = true := by
  induction l with
  | nil => intro u hu; simp [itcells] at hu
  | cons x r ih =>
    intro u hu
    simp only [itcells, List.mem_cons] at hu
    rcases hu with rfl | rfl | hu
    · rfl
    · rfl
    · exact ih u hu
theorem infoIt : (Try.prog.info? 35).map (fun i => (i.zero, i.size, i.bytes)) = some (some (.agg #[.int .i64 0, .int .i64 0]), 2, 16) := by kernel_rfl
/-- The row v holds the items l; its block is one for which c holds. -/
def Ir (w : World) (c : Nat → Prop) (v : Value) (l : List It) : Prop :=
  (v = .slice none 0 0 ∧ l = []) ∨
  ∃ g o cap cur, v = .slice (some ⟨g, o, none⟩) l.length cap ∧ c g ∧ w.heap[g]? = some (.cells cur 35 (0, 0)) ∧ l.length ≤ cap ∧ cap ≤ maxLen ∧ cur.size = o + cap * 2 ∧ (cur.toList.drop o).take (l.length * 2) = itcells l
theorem Ir.nil (w : World) (c : Nat → Prop) : Ir w c (.slice none 0 0) [] := .inl ⟨rfl, rfl⟩
theorem Ir.form {w : World} {c : Nat → Prop} {v : Value} {l : List It} (h : Ir w c v l) : ∃ A cap, v = .slice A l.length cap := by
  rcases h with ⟨rfl, rfl⟩ | ⟨g, o, cap, cur, rfl, _⟩
  · exact ⟨_, _, rfl⟩
  · exact ⟨_, _, rfl⟩
theorem Ir.mono {w : World} {c d : Nat → Prop} {v : Value} {l : List It} (h : Ir w c v l) (hd : ∀ g, g < w.heap.size → c g → d g) : Ir w d v l := by
  rcases h with h | ⟨g, o, cap, cur, rfl, hc, hg, r⟩
  · exact .inl h
  · exact .inr ⟨g, o, cap, cur, rfl, hd g (Array.getElem?_eq_some_iff.1 hg).1 hc, hg, r⟩
theorem Ir.tn {w w' : World} {c d : Nat → Prop} {v : Value} {l : List It} (h : Ir w c v l) (k : Tn d w w') (hd : ∀ g, g < w.heap.size → c g → ¬ d g) : Ir w' c v l := by
  rcases h with h | ⟨g, o, cap, cur, rfl, hc, hg, r⟩
  · exact .inl h
  · have hl := (Array.getElem?_eq_some_iff.1 hg).1
    exact .inr ⟨g, o, cap, cur, rfl, hc, (k.block g hl (hd g hl hc)).trans hg, r⟩
/-- its first item. -/
theorem Ir.first {w : World} {c : Nat → Prop} {v : Value} {x : It} {r : List It} (h : Ir w c v (x :: r)) :
    ∃ g o cap, v = .slice (some ⟨g, o, none⟩) (r.length + 1) cap ∧ c g ∧ g < w.heap.size ∧ r.length + 1 ≤ cap ∧ w.cell? ⟨g, o, none⟩ = some (.int .i64 x.1) ∧ w.cell? ⟨g, o + 1, none⟩ = some (.int .i64 x.2) := by
  rcases h with ⟨_, h⟩ | ⟨g, o, cap, cur, rfl, hc, hg, h1, h2, h3, h4⟩
  · cases h
  · have hl := (Array.getElem?_eq_some_iff.1 hg).1
    refine ⟨g, o, cap, rfl, hc, hl, h1, ?_, ?_⟩
    · rw [cell_of_row w g o cur _ (0, 0) hg]
      have := congrArg (fun z => z[0]?) h4
      simp only [List.getElem?_take, List.getElem?_drop, itcells] at this
      rw [if_pos (by rw [List.length_cons]; omega)] at this
      simpa using this
    · rw [cell_of_row w g (o + 1) cur _ (0, 0) hg]
      have := congrArg (fun z => z[1]?) h4
      simp only [List.getElem?_take, List.getElem?_drop, itcells] at this
      rw [if_pos (by rw [List.length_cons]; omega)] at this
      simpa using this
/-- without its first item. -/
theorem Ir.rest {w : World} {c : Nat → Prop} {v : Value} {x : It} {r : List It} (h : Ir w c v (x :: r)) :
    ∃ v', (∀ W : World, (Instr.slice 64 v (some (.int .i64 1)) none none).run Try.prog W = .ok v' W) ∧ (∃ A cap, v' = .slice A r.length cap) ∧ (r ≠ [] → Ir w c v' r) := by
  rcases h with ⟨_, h⟩ | ⟨g, o, cap, cur, rfl, hc, hg, h1, h2, h3, h4⟩
  · cases h
  · have hu : Try.prog.underlying 64 = some (.slice (Try.prog.elem 64)) := by kernel_rfl
    have he : Try.prog.elem 64 = 35 := by kernel_rfl
    obtain ⟨i, hi, hz0, hz1, hz2⟩ := info_parts infoIt
    have hrun : ∀ W : World, (Instr.slice 64 (.slice (some ⟨g, o, none⟩) (r.length + 1) cap) (some (.int .i64 1)) none none).run Try.prog W = .ok (.slice (if cap = 1 then some ⟨g, o, none⟩ else some ⟨g, o + 2, none⟩) r.length (cap - 1)) W := fun W => by
      rw [run_slice_l W 64 (some ⟨g, o, none⟩) (r.length + 1) cap hu .i64 1 (by omega) (by omega), he]
      simp [sizeOf, typeInfo, hi, hz1, sliced, Addr.add]
    refine ⟨_, hrun, ⟨_, _, rfl⟩, fun hne => ?_⟩
    have hr0 : 0 < r.length := List.length_pos_iff.2 hne
    rw [List.length_cons] at h1 h4
    rw [if_neg (by omega)]
    refine .inr ⟨g, o + 2, cap - 1, cur, rfl, hc, hg, by omega, by omega, by omega, ?_⟩
    have := congrArg (fun z => z.drop 2) h4
    simp only [List.drop_take, List.drop_drop, itcells, List.drop_succ_cons, List.drop_zero] at this
    rw [← this]
    congr 1
    omega
theorem run_append_room_off {P : Program} (w : World) (t ty e : TypeId) (i : TypeInfo) (ht : P.underlying t = some (.slice e)) (hi : P.info? e = some i)
    (g o sLen sCap : Nat) (cur : Array Value) (hg : w.heap[g]? = some (.cells cur e (0, 0)))
    (a : Addr) (m c : Nat) (news : List Value) (hl : news.length = m * i.size) (hnews : ∀ j u, news[j]? = some u → w.cell? (a.add j) = some u) (h1 : ∀ u ∈ news, u.oneCell' = true)
    (hroom : sLen + m ≤ sCap) (hfit : o + sLen * i.size + news.length ≤ cur.size) :
    (Builtin.append_ #[t, t] ty #[.slice (some ⟨g, o, none⟩) sLen sCap, .slice (some a) m c]).run P w =
      .ok (.slice (some ⟨g, o, none⟩) (sLen + m) sCap) (w.setRow g (cur.toList.take (o + sLen * i.size) ++ news ++ cur.toList.drop (o + sLen * i.size + news.length)).toArray) := by
  have hf := run_firstCells_some (P := P) w i.size m a m c news hl hnews
  have hst := run_storeCells_at P g (o + sLen * i.size) e news 0 cur w hg (by simpa using hfit) h1
  simp only [Nat.add_zero] at hst
  simp [Builtin.append_, run_underlying ht, sizeOf, typeInfo, hi, Builtin.lenOf, hroom, hf, Addr.add_lit, hst]
theorem ir_of_own {w : World} {base : Nat} {v : Value} {n : Nat} {l : List It} (h : w.ownsRow base 35 2 v n (itcells l)) (hn : 0 < n) : ∃ g, base ≤ g ∧ Ir w (fun i => i = g) v l := by
  obtain ⟨hl, hv⟩ := h
  rw [itcells_len] at hl
  have e : l.length = n := by omega
  rcases hv with ⟨_, h0⟩ | ⟨g, cap, cur, rfl, hb, hg, h1, h2, h3, h4⟩
  · omega
  · subst e
    exact ⟨g, hb, .inr ⟨g, 0, cap, cur, rfl, rfl, hg, h1, h2, by omega, by rw [List.drop_zero]; exact h4⟩⟩
/-- one item more. -/
theorem Ir.append {w : World} {c : Nat → Prop} {v : Value} {l : List It} (h : Ir w c v l) (hn : l.length ≤ 65536) (x : It) (a : Addr) (h0 : w.cell? (a.add 0) = some (.int .i64 x.1)) (h1 : w.cell? (a.add 1) = some (.int .i64 x.2)) (cp : Nat) (ty : TypeId) :
    ∃ v' w' g, (Builtin.append_ #[64, 64] ty #[v, .slice (some a) 1 cp]).run Try.prog w = .ok v' w' ∧ Ir w' (fun i => i = g) v' (l ++ [x]) ∧ (c g ∨ w.heap.size ≤ g) ∧ Tn c w w' := by
  obtain ⟨i, hi, hz0, hz1, hz2⟩ := info_parts infoIt
  have ht := Try.underlying64
  have hnl : (itcells [x]).length = 1 * 2 := rfl
  have hnews : ∀ j u, (itcells [x])[j]? = some u → w.cell? (a.add j) = some u := fun j u hj => by
    match j, hj with
    | 0, hj => simp [itcells] at hj; subst hj; exact h0
    | 1, hj => simp [itcells] at hj; subst hj; exact h1
    | j + 2, hj => simp [itcells] at hj
  rcases h with ⟨rfl, rfl⟩ | ⟨g, o, cap, cur, rfl, hc, hg, q1, q2, q3, q4⟩
  · obtain ⟨v', w', hrun, r1, r2, _⟩ := run_append_own (P := Try.prog) w w.heap.size _ ty _ i _ 2 16 ht hi hz0 hz1 hz2 rfl (by omega) (.slice none 0 0) 0 [] (World.ownsRow_nil w _ _ 2) a 1 cp (itcells [x]) hnl hnews (itcells_one _) (by unfold maxLen; omega) (by omega) (Nat.le_refl _)
    obtain ⟨g, hb, hir⟩ := ir_of_own (l := [x]) r1 (by omega)
    exact ⟨v', w', g, hrun, hir, .inr hb, tn_grown r2 (by simp [Value.ownBlock])⟩
  · by_cases hr : l.length + 1 ≤ cap
    · have hfit : o + l.length * i.size + (itcells [x]).length ≤ cur.size := by rw [hz1, hnl, q3]; omega
      have hrun := run_append_room_off (P := Try.prog) w _ ty _ i ht hi g o l.length cap cur hg a 1 cp (itcells [x]) (by rw [hnl, hz1]) hnews (itcells_one _) hr hfit
      refine ⟨_, _, g, hrun, .inr ⟨g, o, cap, _, by rw [List.length_append]; rfl, rfl, setRow_heap w g cur _ _ _ hg, by rw [List.length_append]; exact hr, q2, ?_, ?_⟩, .inl hc, ⟨rfl, rfl, rfl, by simp [World.setRow], fun k hk hn => setRow_other w g k _ (fun e => hn (e ▸ hc))⟩⟩
      · have hcl : cur.toList.length = o + cap * 2 := q3
        rw [hz1]
        simp only [List.size_toArray, List.length_append, List.length_take, List.length_drop, hnl, hcl]
        omega
      · have hcl : cur.toList.length = o + cap * 2 := q3
        rw [hz1, itcells_app, ← q4]
        have e1 : (cur.toList.take (o + l.length * 2)).length = o + l.length * 2 := by rw [List.length_take, hcl]; omega
        rw [List.append_assoc, List.drop_append_of_le_length (by rw [e1]; omega), List.drop_take, show o + l.length * 2 - o = l.length * 2 by omega, ← List.append_assoc]
        have e2 : (List.take (l.length * 2) (List.drop o cur.toList) ++ itcells [x]).length = (l ++ [x]).length * 2 := by
          rw [List.length_append, List.length_take, List.length_drop, hcl, hnl, List.length_append, List.length_singleton]; omega
        rw [← e2, List.take_left]
    · obtain ⟨v', w', hrun, r1, r2⟩ := run_append_arg_grows (P := Try.prog) w _ ty _ i _ 2 16 ht hi hz0 hz1 hz2 rfl (by omega) ⟨g, o, none⟩ l.length cap (itcells l) (itcells_len l) (fun j u hu => by
          rw [Addr.add_lit, cell_of_row w g (o + j) cur _ (0, 0) hg]
          have := congrArg (fun z => z[j]?) q4
          have hj := (List.getElem?_eq_some_iff.1 hu).1
          rw [itcells_len] at hj
          simp only [List.getElem?_take, List.getElem?_drop] at this
          rw [if_pos hj, hu] at this
          simpa using this) a 1 cp (itcells [x]) hnl hnews (by omega) (by unfold maxLen; omega) (by omega)
      rw [← itcells_app] at r1
      obtain ⟨g', hb, hir⟩ := ir_of_own r1 (by omega)
      exact ⟨v', w', g', hrun, hir, .inr hb, tn_grown r2 (by simp)⟩

/-! ### rows of pointers -/
abbrev ptv (p : Nat) : Value := .pointer (some ⟨p, 0, none⟩)
theorem infoPt : (Try.prog.info? 63).map (fun i => (i.zero, i.size, i.bytes)) = some (some (.pointer none), 1, 8) := by kernel_rfl
theorem ptcells_one (l : List Nat) : ∀ u ∈ l.map ptv, u.oneCell' = true := by
  intro u hu
  obtain ⟨x, _, rfl⟩ := List.mem_map.1 hu
  rfl
/-- The row v holds pointers to these blocks; its block is one for which c holds. -/
def Rr (w : World) (c : Nat → Prop) (v : Value) (ps : List Nat) : Prop := w.ownsRow 0 63 1 v ps.length (ps.map ptv) ∧ ∀ g, v.ownBlock = some g → c g
theorem Rr.nil (w : World) (c : Nat → Prop) : Rr w c (.slice none 0 0) [] := ⟨World.ownsRow_nil _ _ _ _, fun g e => by simp [Value.ownBlock] at e⟩
theorem Rr.mono {w : World} {c d : Nat → Prop} {v : Value} {ps : List Nat} (h : Rr w c v ps) (hd : ∀ g, g < w.heap.size → c g → d g) : Rr w d v ps := ⟨h.1, fun g e => hd g (h.1.lt g e).2 (h.2 g e)⟩
theorem Rr.tn {w w' : World} {c d : Nat → Prop} {v : Value} {ps : List Nat} (h : Rr w c v ps) (k : Tn d w w') (hd : ∀ g, g < w.heap.size → c g → ¬ d g) : Rr w' c v ps := by
  refine ⟨⟨h.1.1, ?_⟩, h.2⟩
  rcases h.1.2 with hn | ⟨g, cap, cur, rfl, hb, hg, r⟩
  · exact .inl hn
  · have hl := (Array.getElem?_eq_some_iff.1 hg).1
    exact .inr ⟨g, cap, cur, rfl, hb, (k.block g hl (hd g hl (h.2 g rfl))).trans hg, r⟩
theorem Rr.form {w : World} {c : Nat → Prop} {v : Value} {ps : List Nat} (h : Rr w c v ps) (hn : 0 < ps.length) :
    ∃ g cap, v = .slice (some ⟨g, 0, none⟩) ps.length cap ∧ c g ∧ g < w.heap.size ∧ ps.length ≤ cap ∧ ∀ j, j < ps.length → w.cell? ⟨g, j, none⟩ = some (ptv (ps.getD j 0)) := by
  obtain ⟨g, cap, rfl, _, hlt⟩ := h.1.form hn
  have hle : ps.length ≤ cap := by
    rcases h.1.2 with ⟨_, h0⟩ | ⟨g', cap', cur, e, _, _, h1, _⟩
    · omega
    · injection e with _ _ e; omega
  refine ⟨g, cap, rfl, h.2 g rfl, hlt, hle, fun j hj => ?_⟩
  have := h.1.cells (g := g) rfl j (ptv (ps.getD j 0)) (by rw [List.getElem?_map, List.getElem?_eq_getElem hj, List.getD_eq_getElem?_getD, List.getElem?_eq_getElem hj]; rfl)
  have e : (⟨g, 0, none⟩ : Addr).add j = ⟨g, j, none⟩ := by unfold Addr.add; split <;> simp_all
  rwa [e] at this
theorem Rr.len {w : World} {c : Nat → Prop} {v : Value} {ps : List Nat} (h : Rr w c v ps) : ∃ A cap, v = .slice A ps.length cap := by
  rcases h.1.2 with ⟨rfl, h0⟩ | ⟨g, cap, cur, rfl, _⟩
  · exact ⟨_, _, by rw [h0]⟩
  · exact ⟨_, _, rfl⟩
/-- one pointer more. -/
theorem Rr.append {w : World} {c : Nat → Prop} {v : Value} {ps : List Nat} (h : Rr w c v ps) (hn : ps.length ≤ 65536) (p : Nat) (a : Addr) (h0 : w.cell? (a.add 0) = some (ptv p)) (cp : Nat) (ty : TypeId) :
    ∃ v' w' g, (Builtin.append_ #[54, 54] ty #[v, .slice (some a) 1 cp]).run Try.prog w = .ok v' w' ∧ Rr w' (fun i => i = g) v' (ps ++ [p]) ∧ (c g ∨ w.heap.size ≤ g) ∧ Tn c w w' := by
  obtain ⟨i, hi, hz0, hz1, hz2⟩ := info_parts infoPt
  have ht := Try.underlying54
  have hnews : ∀ j u, ([p].map ptv)[j]? = some u → w.cell? (a.add j) = some u := fun j u hj => by
    match j, hj with
    | 0, hj => simp at hj; subst hj; exact h0
    | j + 1, hj => simp at hj
  obtain ⟨g, cap, w', hr, h2, h3, h4, h5⟩ := run_append_lies (P := Try.prog) w _ ty 0 _ i _ 1 8 ht hi hz0 hz1 hz2 rfl (by omega) v ps.length _ h.1 a 1 cp ([p].map ptv) rfl hnews (ptcells_one _) (by omega) (by unfold maxLen; omega) (by omega) (Nat.zero_le _) w.heap.size rfl
  rw [← List.map_append] at h2
  refine ⟨_, w', g, hr, ⟨by rw [List.length_append]; exact h2, fun g' e => by simp [Value.ownBlock] at e; exact e.symm⟩, ?_, tn_grown h3 h.2⟩
  rcases h4 with h4 | h4
  · exact .inl (h.2 g h4)
  · exact .inr (by omega)

/-! ### the map -/
def I64 (x : Int) : Prop := -9223372036854775808 ≤ x ∧ x ≤ 9223372036854775807
theorem i64_wf {x : Int} (h : I64 x) : (Lit.int .i64 x).wf = true := by
  unfold I64 at h
  simp [Lit.wf, IntKind.min, IntKind.max, IntKind.signed, IntKind.bits]
  omega
theorem i64_of {x : Int} (h : (Lit.int .i64 x).wf = true) : I64 x := by
  simp [Lit.wf, IntKind.min, IntKind.max, IntKind.signed, IntKind.bits] at h
  unfold I64
  omega
abbrev PtD := DataW Unit
def ptD : Option Nat → PtD
  | none => .nil
  | some p => .lit (.int .i64 p)
def ptO : Option Nat → Value
  | none => .pointer none
  | some p => ptv p
def ptElem : Value → Option (PtD × List MemPlace)
  | .pointer none => some (.nil, [])
  | .pointer (some ⟨p, 0, none⟩) => some (.lit (.int .i64 p), [])
  | _ => none
theorem ptElem_mk (o : Option Nat) : ptElem (ptO o) = some (ptD o, []) := by cases o <;> rfl
theorem ptElem_inv {v : Value} {o : Option Nat} {ps : List MemPlace} (h : ptElem v = some (ptD o, ps)) : v = ptO o := by
  unfold ptElem at h
  split at h
  · cases o with
    | none => rfl
    | some p => simp [ptD] at h
  · rename_i p
    cases o with
    | none => simp [ptD] at h
    | some q =>
      simp [ptD] at h
      have : p = q := by omega
      subst this; rfl
  · cases h
theorem pt_law : Maps.Keyed Try.prog 3 := Maps.int_keyed Try.underlying3
theorem pt_key {x : Int} (h : I64 x) : keyOf Try.prog 3 (.int .i64 x) = some (.int .i64 x) := Maps.keyOf_int_mk Try.underlying3 (i64_wf h)
theorem pt_lit {x : Int} (h : I64 x) : WideAt.IsKeyLit (.int .i64 x) := pt_law.key (pt_key h)
theorem pt_ne {x y : Int} (h : x ≠ y) : (Lit.int .i64 x) ≠ .int .i64 y := fun e => h (by injection e)
theorem pt_zero (w : World) : (zeroValue 63).run Try.prog w = .ok (.pointer none) w := by kernel_rfl
/-- What was read of the map is this function. -/
structure MqD (D : PtD) (f : Int → Option Nat) (n : Nat) : Prop where
  has : ∀ k, I64 k → Maps.has D (.int .i64 k) = (f k).isSome
  val : ∀ k, I64 k → D.atKey (.int .i64 k) .nil = ptD (f k)
  num : Maps.size D = n
/-- Block m is a map from numbers to pointers. -/
def Mq (w : World) (m : Nat) (f : Int → Option Nat) (n : Nat) : Prop := ∃ D : PtD, w.ownsMap Try.prog 3 ptElem m n D ∧ MqD D f n
theorem Mq.lt {w : World} {m n : Nat} {f : Int → Option Nat} (h : Mq w m f n) : m < w.heap.size := by
  obtain ⟨D, h, _⟩ := h
  exact h.lt
theorem Mq.tn {w w' : World} {m n : Nat} {f : Int → Option Nat} {c : Nat → Prop} (h : Mq w m f n) (k : Tn c w w') (hc : ¬ c m) : Mq w' m f n := by
  have hl := h.lt
  obtain ⟨D, ⟨es, clock, hb, r⟩, hD⟩ := h
  exact ⟨D, ⟨es, clock, (k.block m hl hc).trans hb, r⟩, hD⟩
theorem Mq.new (w : World) : Mq (w.alloc (.map #[] 0)) w.heap.size (fun _ => none) 0 := ⟨_, World.ownsMap_made w _ _ _, ⟨fun _ _ => rfl, fun _ _ => rfl, rfl⟩⟩
theorem mq_size {w : World} {m n : Nat} {D : PtD} (h : w.ownsMap Try.prog 3 ptElem m n D) : w.ownsMap Try.prog 3 ptElem m (Maps.size D) D := by
  obtain ⟨es, clock, hb, F, hs, rfl⟩ := h
  exact ⟨es, clock, hb, F, by simp [Maps.size, length_sorted], rfl⟩
theorem mq_look {w : World} {m n : Nat} {f : Int → Option Nat} (h : Mq w m f n) {k : Int} (hk : I64 k) :
    (Instr.lookup 53 (.map (some m)) (.int .i64 k) false).run Try.prog w = .ok (ptO (f k)) w := by
  obtain ⟨D, h, hD⟩ := h
  obtain ⟨v, ps, hrun, hv⟩ := h.lookup pt_law Try.underlying53 (pt_zero w) (ptElem_mk none) (pt_key hk)
  rw [show ptD none = .nil from rfl, hD.val k hk] at hv
  rw [hrun, ptElem_inv hv]
theorem mq_put {w : World} {m n : Nat} {f : Int → Option Nat} (h : Mq w m f n) (hn : n ≤ 65536) {k : Int} (hk : I64 k) (hf : f k = none) (p : Nat) :
    ∃ w', (Instr.mapUpdate 53 (.map (some m)) (.int .i64 k) (ptv p)).run Try.prog w = .ok () w' ∧ Mq w' m (fun i => if i = k then some p else f i) (n + 1) ∧ w.grownBy w' (some m) := by
  obtain ⟨D, h, hD⟩ := h
  obtain ⟨w', hrun, ho, ht⟩ := h.store pt_law Try.underlying53 (by unfold maxLen; omega) (pt_key hk) (ptElem_mk (some p))
  have ht0 := h.tidy pt_law
  refine ⟨w', hrun, ⟨_, ho, fun i hi => ?_, fun i hi => ?_, ?_⟩, ht.grown⟩
  · by_cases e : i = k
    · subst e; rw [Maps.has_put_same ht0.isMap (pt_lit hk), if_pos rfl]; rfl
    · rw [Maps.has_put_other (pt_ne e), hD.has i hi, if_neg e]
  · by_cases e : i = k
    · subst e; rw [Maps.atKey_put_same ht0.isMap (pt_lit hk), if_pos rfl]
    · rw [Maps.atKey_put_other (pt_ne e), hD.val i hi, if_neg e]
  · rw [Maps.size_put ht0, hD.has k hk, hf, hD.num]; simp
theorem mq_del {w : World} {m n : Nat} {f : Int → Option Nat} (h : Mq w m f (n + 1)) {k : Int} (hk : I64 k) (hf : (f k).isSome = true) (ty : TypeId) :
    ∃ w', (Builtin.delete_ #[53, 3] ty #[.map (some m), .int .i64 k]).run Try.prog w = .ok (.tuple #[]) w' ∧ Mq w' m (fun i => if i = k then none else f i) n ∧ w.grownBy w' (some m) := by
  obtain ⟨D, h, hD⟩ := h
  obtain ⟨w', hrun, ho, ht⟩ := h.drop pt_law Try.underlying53 (pt_key hk) ty
  have ht0 := h.tidy pt_law
  have hsz : Maps.size (D.del (.int .i64 k)) = n := by
    have := Maps.size_del (k := .int .i64 k) ht0
    rw [hD.has k hk, hf, hD.num] at this
    simp at this
    omega
  refine ⟨w', hrun, ⟨_, by rw [← hsz]; exact mq_size ho, fun i hi => ?_, fun i hi => ?_, hsz⟩, ht.grown⟩
  · by_cases e : i = k
    · subst e; rw [Maps.has_del_same, if_pos rfl]; rfl
    · rw [Maps.has_del_other (pt_ne e), hD.has i hi, if_neg e]
  · by_cases e : i = k
    · subst e; rw [Maps.atKey_del_same, if_pos rfl]; rfl
    · rw [Maps.atKey_del_other (pt_ne e), hD.val i hi, if_neg e]
end Go.Proofs.Ytplbdeaoeocgkaa

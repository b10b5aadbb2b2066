/- Proved: lemmas of one statement's proof, merged by program: what each part proves stands ahead of it. Conditions: those that the lemmas name. -/
import Derived.Test.YtgclgmfmcgacdaaM24
import Derived.Test.YtgclgmfmcgacdaaM22

/- Plain lemmas on rows of keys that a call makes. No condition beyond those that each lemma names. -/
namespace Go.Proofs.Ytgclgmfmcgacdaa
open Go.ChangeShapes Go.WideShapes Go.ChangeAt Go.RowKit

def kcells : List Ky → List Value
  | [] => []
  | x :: r => .int .i64 x.1 :: .int .u32 x.2 :: kcells r
/-- key j. -/
def ky_ (l : List Ky) (j : Nat) : Ky := l.getD j (0, 0)
theorem ky_at {l : List Ky} {j : Nat} (h : j < l.length) : ky_ l j = l[j] := by
  unfold ky_; rw [List.getD_eq_getElem?_getD, List.getElem?_eq_getElem h]; rfl
theorem ky_mem {l : List Ky} {j : Nat} (h : j < l.length) : ky_ l j ∈ l := by rw [ky_at h]; exact List.getElem_mem h
theorem kcells_len (l : List Ky) : (kcells l).length = l.length * 2 := by
  induction l with
  | nil => rfl
  | cons x r ih => show (kcells r).length + 1 + 1 = _; rw [ih, List.length_cons]; omega
theorem kcells_app (l r : List Ky) : kcells (l ++ r) = kcells l ++ kcells r := by
  induction l with
  | nil => rfl
  | cons x l ih => show _ :: _ :: kcells (l ++ r) = _; rw [ih]; rfl
theorem kcells_at (l : List Ky) (j : Nat) (hj : j < l.length) : (kcells l)[j * 2]? = some (.int .i64 (ky_ l j).1) ∧ (kcells l)[j * 2 + 1]? = some (.int .u32 (ky_ l j).2) := by
  induction l generalizing j with
  | nil => simp at hj
  | cons x r ih =>
    cases j with
    | zero => exact ⟨rfl, rfl⟩
    | succ j =>
      have := ih j (by simpa using hj)
      rw [show (j + 1) * 2 = j * 2 + 1 + 1 by omega]
      exact this
theorem kcells_one (l : List Ky) : ∀ u ∈ kcells l, u.oneCell' = true := by
  induction l with
  | nil => intro u hu; simp [kcells] at hu
  | cons x r ih =>
    intro u hu
    simp only [kcells, List.mem_cons] at hu
    rcases hu with rfl | rfl | hu
    · rfl
    · rfl
    · exact ih u hu
theorem infoKey : (Try.prog.info? 35).map (fun i => (i.zero, i.size, i.bytes)) = some (some (.agg #[.int .i64 0, .int .u32 0]), 2, 16) := by kernel_rfl
theorem eq_key (k k' : Ky) (w : World) : (binOp .eql 35 (.agg #[.int .i64 k.1, .int .u32 k.2]) (.agg #[.int .i64 k'.1, .int .u32 k'.2])).run Try.prog w = .ok (.bool (decide (k = k'))) w := by
  rw [run_eql_struct, run_equalIn_agg w _ 35 _ _ (by kernel_rfl) (by kernel_rfl)]
  obtain ⟨a, b⟩ := k
  obtain ⟨c, d⟩ := k'
  simp [go_sem, Try.underlying35]
  by_cases h : a = c <;> by_cases g : b = d <;> simp [h, g]
/-- The row v holds these keys; its block is one for which c holds. -/
def Kr (w : World) (c : Nat → Prop) (v : Value) (l : List Ky) : Prop := w.ownsRow 0 35 2 v l.length (kcells l) ∧ ∀ g, v.ownBlock = some g → c g
theorem Kr.nil (w : World) (c : Nat → Prop) : Kr w c (.slice none 0 0) [] := ⟨World.ownsRow_nil _ _ _ _, fun g e => by simp [Value.ownBlock] at e⟩
theorem Kr.mono {w : World} {c d : Nat → Prop} {v : Value} {l : List Ky} (h : Kr w c v l) (hd : ∀ g, g < w.heap.size → c g → d g) : Kr w d v l := ⟨h.1, fun g e => hd g (h.1.lt g e).2 (h.2 g e)⟩
theorem Kr.tn {w w' : World} {c d : Nat → Prop} {v : Value} {l : List Ky} (h : Kr w c v l) (k : Tn d w w') (hd : ∀ g, g < w.heap.size → c g → ¬ d g) : Kr w' c v l := by
  refine ⟨⟨h.1.1, ?_⟩, h.2⟩
  rcases h.1.2 with hn | ⟨g, cap, cur, rfl, hb, hg, r⟩
  · exact .inl hn
  · have hl := (Array.getElem?_eq_some_iff.1 hg).1
    exact .inr ⟨g, cap, cur, rfl, hb, (k.block g hl (hd g hl (h.2 g rfl))).trans hg, r⟩
theorem Kr.len {w : World} {c : Nat → Prop} {v : Value} {l : List Ky} (h : Kr w c v l) : ∃ A cap, v = .slice A l.length cap := by
  rcases h.1.2 with ⟨rfl, h0⟩ | ⟨g, cap, cur, rfl, _⟩
  · exact ⟨_, _, by rw [show l.length = 0 from h0]⟩
  · exact ⟨_, _, rfl⟩
theorem Kr.cell {w : World} {c : Nat → Prop} {v : Value} {l : List Ky} (h : Kr w c v l) (hn : 0 < l.length) : ∃ ad cap, v = .slice (some ad) l.length cap ∧ ∀ j, j < l.length → w.cell? (ad.add (j * 2)) = some (.int .i64 (ky_ l j).1) ∧ w.cell? ⟨(ad.add (j * 2)).block, (ad.add (j * 2)).off + 1, none⟩ = some (.int .u32 (ky_ l j).2) := by
  rcases h.1.2 with ⟨_, h0⟩ | ⟨g, cap, cur, rfl, _⟩
  · omega
  · refine ⟨_, _, rfl, fun j hj => ?_⟩
    obtain ⟨e0, e1⟩ := kcells_at l j hj
    have h0 := h.1.cells (g := g) rfl _ _ e0
    have h1 := h.1.cells (g := g) rfl _ _ e1
    have e : ∀ q, (⟨g, 0, none⟩ : Addr).add q = ⟨g, q, none⟩ := fun q => by unfold Addr.add; split <;> simp_all
    rw [e] at h0 h1 ⊢
    exact ⟨h0, h1⟩
/-- one key more. -/
theorem Kr.append {w : World} {c : Nat → Prop} {v : Value} {l : List Ky} (h : Kr w c v l) (hn : l.length ≤ 65536) (k : Ky) (a : Addr) (h0 : w.cell? (a.add 0) = some (.int .i64 k.1)) (h1 : w.cell? (a.add 1) = some (.int .u32 k.2)) (cp : Nat) (ty : TypeId) :
    ∃ v' w' g, (Builtin.append_ #[45, 45] ty #[v, .slice (some a) 1 cp]).run Try.prog w = .ok v' w' ∧ Kr w' (fun i => i = g) v' (l ++ [k]) ∧ (c g ∨ w.heap.size ≤ g) ∧ Tn c w w' := by
  obtain ⟨i, hi, hz0, hz1, hz2⟩ := info_parts infoKey
  have ht := Try.underlying45
  have hnews : ∀ j u, (kcells [k])[j]? = some u → w.cell? (a.add j) = some u := fun j u hj => by
    match j, hj with
    | 0, hj => simp [kcells] at hj; subst hj; exact h0
    | 1, hj => simp [kcells] at hj; subst hj; exact h1
    | j + 2, hj => simp [kcells] at hj
  obtain ⟨g, cap, w', hr, h2, h3, h4, h5⟩ := run_append_lies (P := Try.prog) w _ ty 0 _ i _ 2 16 ht hi hz0 hz1 hz2 rfl (by omega) v l.length _ h.1 a 1 cp (kcells [k]) (by simp [kcells]) hnews (kcells_one _) (by omega) (by unfold maxLen; omega) (by omega) (Nat.zero_le _) w.heap.size rfl
  rw [← kcells_app] at h2
  refine ⟨_, w', g, hr, ⟨by rw [List.length_append]; exact h2, fun g' e => by simp [Value.ownBlock] at e; exact e.symm⟩, ?_, tn_grown h3 h.2⟩
  rcases h4 with h4 | h4
  · exact .inl (h.2 g h4)
  · exact .inr (by omega)
end Go.Proofs.Ytgclgmfmcgacdaa

/- Plain lemmas: that a block is told to be ready once. No condition beyond those that each lemma names. -/
namespace Go.Proofs.Ytgclgmfmcgacdaa
open Go.ChangeShapes Go.WideShapes Go.ChangeAt Go.RowKit

/-- of those that were told all are there, and ready. -/
structure OnOk (room : Nat) (S : List Fe) (done : List Ky) : Prop where
  len : S.length ≤ room
  dn : ∀ k ∈ done, ∃ e, findF S k = some e ∧ e.ready = true
theorem OnOk.new (room : Nat) : OnOk room [] [] := ⟨Nat.zero_le _, fun _ h => nomatch h⟩
theorem find_mapF (S : List Fe) (x : Shd) (k k' : Ky) : findF (S.map fun a => if a.k = k then a.more x else a) k' = (findF S k').map fun a => if a.k = k then a.more x else a := by
  unfold findF
  rw [List.find?_map]
  congr 1
  refine congrArg (fun p => S.find? p) (funext fun a => ?_)
  show decide ((if a.k = k then a.more x else a).k = k') = _
  split <;> rfl
theorem findF_k {S : List Fe} {k : Ky} {e : Fe} (h : findF S k = some e) : e.k = k := by
  unfold findF at h
  have := List.find?_some h
  exact of_decide_eq_true this
theorem getF_of {S : List Fe} {k : Ky} {e : Fe} (h : findF S k = some e) : getF S k = e.l := by
  unfold getF; rw [h]
theorem findF_app {S T : List Fe} {k : Ky} : findF (S ++ T) k = (findF S k).or (findF T k) := by
  unfold findF; rw [List.find?_append]
theorem OnOk.put {room : Nat} {S S' : List Fe} {done : List Ky} (h : OnOk room S done) {k : Ky} {need r : Int} {x : Shd} (hr : putF S room k need x = (r, S')) :
    OnOk room S' done ∧ (r = 3 → k ∉ done ∧ (∃ n : Nat, need = n ∧ (findF S' k).isSome = true ∧ (getF S' k).length = n) ∧ OnOk room S' (done ++ [k])) := by
  have more : ∀ {T : List Fe}, OnOk room T done → ∀ {e : Fe}, findF T k = some e → e.ready = true → OnOk room T (done ++ [k]) := fun q e hf he => ⟨q.len, fun j hj => by
    rcases List.mem_append.1 hj with hj | hj
    · exact q.dn j hj
    · have : j = k := by simpa using hj
      subst this
      exact ⟨e, hf, he⟩⟩
  unfold putF at hr
  by_cases hb : badP need x = true
  · rw [if_pos hb] at hr
    injection hr with h1 h2
    subst h1; subst h2
    exact ⟨h, fun e => by omega⟩
  · rw [if_neg hb] at hr
    cases hf : findF S k with
    | none =>
      rw [hf] at hr
      dsimp only at hr
      have hnot : k ∉ done := fun hk => by
        obtain ⟨e, he, _⟩ := h.dn k hk
        rw [hf] at he; cases he
      by_cases hl : S.length = room
      · rw [if_pos hl] at hr
        injection hr with h1 h2
        subst h1; subst h2
        exact ⟨h, fun e => by omega⟩
      · rw [if_neg hl] at hr
        injection hr with h1 h2
        have hok : OnOk room S' done := by
          subst h2
          refine ⟨by have := h.len; rw [List.length_append, List.length_singleton]; omega, fun j hj => ?_⟩
          obtain ⟨e, he, hr'⟩ := h.dn j hj
          exact ⟨e, by rw [findF_app, he]; rfl, hr'⟩
        refine ⟨hok, fun e3 => ?_⟩
        have hn1 : need = 1 := by
          by_cases hn : need = 1
          · exact hn
          · rw [if_neg hn] at h1; omega
        have hfn : findF S' k = some ⟨k, need.toNat, [x]⟩ := by
          subst h2
          rw [findF_app, hf]
          show findF [_] k = _
          unfold findF
          simp
        refine ⟨hnot, ⟨1, by omega, by rw [hfn]; rfl, by rw [getF_of hfn]; rfl⟩, more hok hfn ?_⟩
        show decide (([x] : List Shd).length = need.toNat) = true
        subst hn1; rfl
    | some e =>
      rw [hf] at hr
      dsimp only at hr
      cases hro : roleR e.l e.need need x with
      | wanted i =>
        rw [hro] at hr
        injection hr with h1 h2
        have hne : e.ready = false := by
          unfold roleR at hro
          unfold Fe.ready
          by_cases q : e.l.length = e.need
          · rw [if_pos q] at hro; cases hro
          · exact decide_eq_false q
        have hnd : need = e.need := by
          unfold roleR at hro
          by_cases q : e.l.length = e.need
          · rw [if_pos q] at hro; cases hro
          · rw [if_neg q] at hro
            by_cases q2 : need = e.need ∧ x.2.size = (sh_ e.l 0).2.size
            · exact q2.1
            · rw [if_neg q2] at hro; cases hro
        have hnot : k ∉ done := fun hk => by
          obtain ⟨e', he, hr'⟩ := h.dn k hk
          rw [hf] at he
          injection he with he
          subst he
          rw [hne] at hr'; cases hr'
        have hok : OnOk room S' done := by
          subst h2
          refine ⟨by rw [List.length_map]; exact h.len, fun j hj => ?_⟩
          obtain ⟨e', he, hr'⟩ := h.dn j hj
          refine ⟨e', ?_, hr'⟩
          rw [find_mapF, he]
          have : e'.k ≠ k := fun q => by
            have := findF_k he
            rw [q] at this
            subst this
            exact hnot hj
          simp [this]
        have hfn : findF S' k = some (e.more x) := by
          subst h2
          rw [find_mapF, hf]
          simp [findF_k hf]
        refine ⟨hok, fun e3 => ?_⟩
        have hrd : (e.more x).ready = true := by
          by_cases q : (e.more x).ready = true
          · exact q
          · rw [if_neg q] at h1; omega
        refine ⟨hnot, ⟨e.need, hnd, by rw [hfn]; rfl, ?_⟩, more hok hfn hrd⟩
        rw [getF_of hfn]
        exact of_decide_eq_true hrd
      | first =>
        rw [hro] at hr
        injection hr with h1 h2
        subst h1; subst h2
        exact ⟨h, fun e => by omega⟩
      | known =>
        rw [hro] at hr
        injection hr with h1 h2
        subst h1; subst h2
        exact ⟨h, fun e => by omega⟩
      | unlike =>
        rw [hro] at hr
        injection hr with h1 h2
        subst h1; subst h2
        exact ⟨h, fun e => by omega⟩
end Go.Proofs.Ytgclgmfmcgacdaa

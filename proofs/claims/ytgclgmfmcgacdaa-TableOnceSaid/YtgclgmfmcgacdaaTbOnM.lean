/- Plain lemmas: that a block is told to be ready once. No condition beyond those that each lemma names. -/
import Derived.Test.YtgclgmfmcgacdaaTbLaw
namespace Go.Proofs.Ytgclgmfmcgacdaa
open Go.ChangeShapes Go.WideShapes Go.ChangeAt Go.RowKit

/-- of those that were told all are there, and ready. -/
structure OnOk (room : Nat) (S : List Fe) (done : List Ky) : Prop where
  len : S.length ≤ room
  dn : ∀ k ∈ done, ∃ e, findF S k = some e ∧ e.ready = true
theorem OnOk.new (room : Nat) : OnOk room [] [] := ⟨Nat.zero_le _, fun _ h => nomatch h⟩
theorem find_mapF (S : List Fe) (x : Shd) (k k' : Ky) : findF (S.map fun a => if a.k = k then a.more x else a) k' = (findF S k').map fun a => if a.k = k then a.more x else a := by
  unfold findF
  rw [List.find?_map]
  congr 1
  refine congrArg (fun p => S.find? p) (funext fun a => ?_)
  show decide ((if a.k = k then a.more x else a).k = k') = _
  split <;> rfl
theorem findF_k {S : List Fe} {k : Ky} {e : Fe} (h : findF S k = some e) : e.k = k := by
  unfold findF at h
  have := List.find?_some h
  exact of_decide_eq_true this
theorem getF_of {S : List Fe} {k : Ky} {e : Fe} (h : findF S k = some e) : getF S k = e.l := by
  unfold getF; rw [h]
theorem findF_app {S T : List Fe} {k : Ky} : findF (S ++ T) k = (findF S k).or (findF T k) := by
  unfold findF; rw [List.find?_append]
theorem OnOk.put {room : Nat} {S S' : List Fe} {done : List Ky} (h : OnOk room S done) {k : Ky} {need r : Int} {x : Shd} (hr : putF S room k need x = (r, S')) :
    OnOk room S' done ∧ (r = 3 → k ∉ done ∧ (∃ n : Nat, need = n ∧ (findF S' k).isSome = true ∧ (getF S' k).length = n) ∧ OnOk room S' (done ++ [k])) := by
  have more : ∀ {T : List Fe}, OnOk room T done → ∀ {e : Fe}, findF T k = some e → e.ready = true → OnOk room T (done ++ [k]) := fun q e hf he => ⟨q.len, fun j hj => by
    rcases List.mem_append.1 hj with hj | hj
    · exact q.dn j hj
    · have : j = k := by simpa using hj
      subst this
      exact ⟨e, hf, he⟩⟩
  unfold putF at hr
  by_cases hb : badP need x = true
  · rw [if_pos hb] at hr
    injection hr with h1 h2
    subst h1; subst h2
    exact ⟨h, fun e => by omega⟩
  · rw [if_neg hb] at hr
    cases hf : findF S k with
    | none =>
      rw [hf] at hr
      dsimp only at hr
      have hnot : k ∉ done := fun hk => by
        obtain ⟨e, he, _⟩ := h.dn k hk
        rw [hf] at he; cases he
      by_cases hl : S.length = room
      · rw [if_pos hl] at hr
        injection hr with h1 h2
        subst h1; subst h2
        exact ⟨h, fun e => by omega⟩
      · rw [if_neg hl] at hr
        injection hr with h1 h2
        have hok : OnOk room S' done := by
          subst h2
          refine ⟨by have := h.len; rw [List.length_append, List.length_singleton]; omega, fun j hj => ?_⟩
          obtain ⟨e, he, hr'⟩ := h.dn j hj
          exact ⟨e, by rw [findF_app, he]; rfl, hr'⟩
        refine ⟨hok, fun e3 => ?_⟩
        have hn1 : need = 1 := by
          by_cases hn : need = 1
          · exact hn
          · rw [if_neg hn] at h1; omega
        have hfn : findF S' k = some ⟨k, need.toNat, [x]⟩ := by
          subst h2
          rw [findF_app, hf]
          show findF [_] k = _
          unfold findF
          simp
        refine ⟨hnot, ⟨1, by omega, by rw [hfn]; rfl, by rw [getF_of hfn]; rfl⟩, more hok hfn ?_⟩
        show decide (([x] : List Shd).length = need.toNat) = true
        subst hn1; rfl
    | some e =>
      rw [hf] at hr
      dsimp only at hr
      cases hro : roleR e.l e.need need x with
      | wanted i =>
        rw [hro] at hr
        injection hr with h1 h2
        have hne : e.ready = false := by
          unfold roleR at hro
          unfold Fe.ready
          by_cases q : e.l.length = e.need
          · rw [if_pos q] at hro; cases hro
          · exact decide_eq_false q
        have hnd : need = e.need := by
          unfold roleR at hro
          by_cases q : e.l.length = e.need
          · rw [if_pos q] at hro; cases hro
          · rw [if_neg q] at hro
            by_cases q2 : need = e.need ∧ x.2.size = (sh_ e.l 0).2.size
            · exact q2.1
            · rw [if_neg q2] at hro; cases hro
        have hnot : k ∉ done := fun hk => by
          obtain ⟨e', he, hr'⟩ := h.dn k hk
          rw [hf] at he
          injection he with he
          subst he
          rw [hne] at hr'; cases hr'
        have hok : OnOk room S' done := by
          subst h2
          refine ⟨by rw [List.length_map]; exact h.len, fun j hj => ?_⟩
          obtain ⟨e', he, hr'⟩ := h.dn j hj
          refine ⟨e', ?_, hr'⟩
          rw [find_mapF, he]
          have : e'.k ≠ k := fun q => by
            have := findF_k he
            rw [q] at this
            subst this
            exact hnot hj
          simp [this]
        have hfn : findF S' k = some (e.more x) := by
          subst h2
          rw [find_mapF, hf]
          simp [findF_k hf]
        refine ⟨hok, fun e3 => ?_⟩
        have hrd : (e.more x).ready = true := by
          by_cases q : (e.more x).ready = true
          · exact q
          · rw [if_neg q] at h1; omega
        refine ⟨hnot, ⟨e.need, hnd, by rw [hfn]; rfl, ?_⟩, more hok hfn hrd⟩
        rw [getF_of hfn]
        exact of_decide_eq_true hrd
      | first =>
        rw [hro] at hr
        injection hr with h1 h2
        subst h1; subst h2
        exact ⟨h, fun e => by omega⟩
      | known =>
        rw [hro] at hr
        injection hr with h1 h2
        subst h1; subst h2
        exact ⟨h, fun e => by omega⟩
      | unlike =>
        rw [hro] at hr
        injection hr with h1 h2
        subst h1; subst h2
        exact ⟨h, fun e => by omega⟩
end Go.Proofs.Ytgclgmfmcgacdaa

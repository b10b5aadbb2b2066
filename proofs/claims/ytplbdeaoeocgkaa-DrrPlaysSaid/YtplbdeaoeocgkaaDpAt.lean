/- Proved: what the document's at, Len and Waiting answer. Conditions: those that the theorems name. -/
import Derived.Test.YtplbdeaoeocgkaaDpMem
namespace Go.Proofs.Ytplbdeaoeocgkaa
open Go.ChangeShapes Go.WideShapes Go.ChangeAt Go.RowKit

set_option maxRecDepth 100000 in
set_option maxHeartbeats 800000 in
theorem rat_any {w : World} {c : Nat → Prop} {s : Sv} (h : Sg w c s) (hb : s.xs.length ≤ 256) (id : Int) :
    Calls Try.prog 22 #[s.val, .int .i64 id] w fun e w' => ∃ z, e = .returned (.int .i64 z) ∧ AtIs s.xs id z ∧ Below w.heap.size w w' := by
  obtain ⟨Q, xs, A, n, rd, B, d⟩ := s
  have HG := Lib.hid h
  have HLN : Hid (xs.length ≤ 256) := Lib.hid hb
  have HBW : Hid (Below w.heap.size w (w.alloc (.cells #[.int .i64 Q, .slice A xs.length n, .slice B rd.length d] 31))) := Lib.hid ((Below.refl _ _).alloc (Nat.le_refl _) _)
  have c1 := (At.new w 31 [.int .i64 Q, .slice A xs.length n, .slice B rd.length d]).cell 1 rfl
  have HC1 := Lib.hid c1
  have HLE : Hid (xs.length = xs.length) := Lib.hid rfl
  clear h
  show Calls Try.prog 22 #[.agg #[.int .i64 Q, .slice A xs.length n, .slice B rd.length d], .int .i64 id] w _
  have hb' : (xs.length : Int) ≤ 256 := by have : xs.length ≤ 256 := hb; omega
  clear hb
  generalize hm : xs.length = m at *
  have HM := Lib.hid hm
  clear hm HLE
  go_enter Try.func22, Try.ntmps22
  go_wp2_with fail
  generalize w.alloc (.cells #[.int .i64 Q, .slice A m n, .slice B rd.length d] 31) = W at *
  go_loopw [5] (fun i wr => ∃ j : Nat, j ≤ m ∧ i = .int .i64 j ∧ (∀ p x, p < j → xs[p]? = some x → x.q.id ≠ id) ∧ wr = W) (fun i _ => m - (intOf i).toNat)
  case atStart => exact ⟨0, by omega, rfl, fun p _ hp => absurd hp (by omega), rfl⟩
  case round =>
    obtain ⟨j, hj, rfl, hne, rfl⟩ := hrel
    have HN := Lib.hid hne
    clear hne
    have hj0 : (0 : Int) ≤ (j : Int) := Int.natCast_nonneg _
    by_cases hlt : j < m
    · obtain ⟨x, hx⟩ : ∃ x, xs[j]? = some x := ⟨_, List.getElem?_eq_getElem (by rw [HM.out]; exact hlt)⟩
      obtain ⟨g, o, e, _, hgl, hcs⟩ := HG.out.at_ hx
      have e : A = some ⟨g, o, none⟩ := e
      subst e
      have d0 := (HBW.out.cell (p := ⟨g, o + j * 5 + 0, none⟩) hgl).trans (hcs 0 _ rfl)
      have HX := Lib.hid hx
      have hlt' : (j : Int) < (m : Int) := by omega
      clear hcs hx
      obtain ⟨⟨qi, qw, qd, qs, ql⟩, xA, xc⟩ := x
      dsimp only [Nat.add_zero] at d0
      by_cases e : qi = id
      · subst e
        go_wp2_with fail
        go_ret
        exact ⟨j, rfl, .inr ⟨j, _, rfl, HX.out, rfl⟩, HBW.out⟩
      · have e2 : (qi == id) = false := by simpa using e
        have HE := Lib.hid e
        clear e
        go_wp2_with fail
        go_roundw
        case rel =>
          refine ⟨j + 1, by omega, by go_num, fun p x hp hx => ?_, trivial⟩
          rcases Nat.lt_or_ge p j with q | q
          · exact HN.out p x q hx
          · obtain rfl : p = j := by omega
            rw [HX.out] at hx
            injection hx with hx
            subst hx
            exact HE.out
        case measure => simp [intOf]; omega
    · obtain rfl : j = m := by omega
      go_wp2_with fail
      go_ret
      refine ⟨-1, rfl, .inl ⟨rfl, fun x hx => ?_⟩, HBW.out⟩
      obtain ⟨p, hp, rfl⟩ := List.getElem_of_mem hx
      exact HN.out p _ (by rw [← HM.out]; exact hp) (List.getElem?_eq_getElem hp)
end Go.Proofs.Ytplbdeaoeocgkaa

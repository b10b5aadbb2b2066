/- Proved: lemmas of one statement's proof, merged by program: what each part proves stands ahead of it. Conditions: those that the lemmas name. -/
import Derived.Test.YtedecminaopgaaaM7
import Derived.Test.YtedecminaopgaaaM1
import Derived.Test.YtedecminaopgaaaM2
import Derived.Deep.OwnRows
import Derived.Deep.AppendLies
import Derived.Maps.AppendAt
import Derived.Laws.AppendOwnNone
import Derived.Deep.QuietTactic
import Derived.BigQuiet
import Derived.Lib.Hide

/- Plain lemmas on slices of uint32s in memory, and on what turns. No condition beyond those that each lemma names. -/
namespace Go.Proofs.Ytedecminaopgaaa
open Go.ChangeShapes Go.WideShapes Go.ChangeAt Go.RowKit

/-! ### what turns -/
/-! ### slices of uint32s -/
/-- The slice value with address A and length n holds the numbers l, in memory that is there, of uint32s. -/
def Uw (w : World) (A : Option Addr) (n : Nat) (l : List Int) : Prop :=
  l.length = n ∧ (0 < n → ∃ ad, A = some ad ∧ (∃ xs f, w.heap[ad.block]? = some (.cells xs 32 f)) ∧ ∀ j, j < n → w.cell? (ad.add j) = some (.int .u32 (l.getD j 0)))
theorem Uw.at_ {w : World} {A : Option Addr} {n : Nat} {l : List Int} (h : Uw w A n l) {k : Nat} (hk : k < n) :
    ∃ ad, A = some ad ∧ ad.block < w.heap.size ∧ w.cell? (ad.add k) = some (.int .u32 (l.getD k 0)) := by
  obtain ⟨ad, e, ⟨xs, f, hb⟩, hc⟩ := h.2 (by omega)
  exact ⟨ad, e, (Array.getElem?_eq_some_iff.1 hb).1, hc k hk⟩
theorem Uw.move {w w' : World} {A : Option Addr} {n : Nat} {l : List Int} (h : Uw w A n l) (hb : ∀ (g : Nat) (xs : Array Value) (f : Nat × Nat), w.heap[g]? = some (Obj.cells xs 32 f) → w'.heap[g]? = w.heap[g]?) : Uw w' A n l := by
  refine ⟨h.1, fun hn => ?_⟩
  obtain ⟨ad, e, ⟨xs, f, hx⟩, hc⟩ := h.2 hn
  have hk := hb _ _ _ hx
  exact ⟨ad, e, ⟨xs, f, hk.trans hx⟩, fun j hj => (World.cell?_of_block (by rw [add_block]; exact hk)).trans (hc j hj)⟩
theorem Uw.below {w w' : World} {A : Option Addr} {n : Nat} {l : List Int} (h : Uw w A n l) (hb : Below w.heap.size w w') : Uw w' A n l :=
  h.move fun g _ _ hx => hb.block g (Array.getElem?_eq_some_iff.1 hx).1
def ucells (l : List Int) : List Value := l.map fun x => Value.int .u32 x
theorem ucells_len (l : List Int) : (ucells l).length = l.length := by unfold ucells; rw [List.length_map]
theorem ucells_at (l : List Int) (j : Nat) (hj : j < l.length) : (ucells l)[j]? = some (.int .u32 (l.getD j 0)) := by
  unfold ucells
  rw [List.getElem?_map, List.getElem?_eq_getElem hj, List.getD_eq_getElem?_getD, List.getElem?_eq_getElem hj]; rfl
theorem ucells_app (l r : List Int) : ucells (l ++ r) = ucells l ++ ucells r := by unfold ucells; rw [List.map_append]
theorem ucells_one (l : List Int) : ∀ u ∈ ucells l, u.oneCell' = true := by
  intro u hu
  unfold ucells at hu
  obtain ⟨x, _, rfl⟩ := List.mem_map.1 hu
  rfl
theorem uw_new (w : World) (l : List Int) : Uw (w.alloc (.cells (ucells l).toArray 32)) (some ⟨w.heap.size, 0, none⟩) l.length l := by
  refine ⟨rfl, fun _ => ⟨_, rfl, ⟨_, _, heap_alloc_new w _⟩, fun j hj => ?_⟩⟩
  have e : (⟨w.heap.size, 0, none⟩ : Addr).add j = ⟨w.heap.size, j, none⟩ := by unfold Addr.add; split <;> simp_all
  rw [e, cell_of_row _ _ j _ _ (0, 0) (heap_alloc_new w _)]
  have := ucells_at l j hj
  simpa using this
theorem uw_one (w : World) (x : Int) : Uw (w.alloc (.cells #[.int .u32 x] 32)) (some ⟨w.heap.size, 0, none⟩) 1 [x] := uw_new w [x]
/-- What appends leave, as a slice that reads as numbers. -/
theorem uw_of {w : World} {base n : Nat} {v : Value} {l : List Int} (h : w.ownsRow base 32 1 v n (ucells l)) : ∃ A c, v = .slice A n c ∧ n ≤ c ∧ (A = none → c = 0) ∧ Uw w A n l := by
  obtain ⟨hl, hv⟩ := h
  rw [ucells_len, Nat.mul_one] at hl
  rcases hv with ⟨rfl, h0⟩ | ⟨g, cap, cur, rfl, hg, hc, h1, h2, h3, h4⟩
  · have h0' : n = 0 := by simpa using h0
    subst h0'
    exact ⟨_, _, rfl, Nat.le_refl _, fun _ => rfl, ⟨hl, fun h => absurd h (by omega)⟩⟩
  · refine ⟨_, _, rfl, h1, (fun e => nomatch e), hl, fun _ => ⟨_, rfl, ⟨_, _, hc⟩, fun j hj => ?_⟩⟩
    have e : (⟨g, 0, none⟩ : Addr).add j = ⟨g, j, none⟩ := by unfold Addr.add; split <;> simp_all
    rw [Nat.mul_one] at h4
    have h5 := ucells_at l j (by omega)
    rw [← h4, List.getElem?_take, if_pos hj] at h5
    rw [e, cell_of_row w g j cur _ (0, 0) hc]
    simpa using h5
/-- What an append asks of its source. -/
theorem Uw.source {w : World} {ad : Addr} {n : Nat} {l : List Int} (h : Uw w (some ad) n l) : ∀ j u, (ucells l)[j]? = some u → w.cell? (ad.add j) = some u := by
  intro j u hu
  have hj := (List.getElem?_eq_some_iff.1 hu).1
  rw [ucells_len] at hj
  obtain ⟨ad', e, _, hc⟩ := h.2 (by rw [← h.1]; omega)
  injection e with e
  subst e
  rw [ucells_at l j hj] at hu
  rw [← hu]
  exact hc j (by rw [← h.1]; exact hj)
theorem infoU : (Try.prog.info? 32).map (fun i => (i.zero, i.size, i.bytes)) = some (some (.int .u32 0), 1, 4) := by kernel_rfl
/-- AT THE OPERATION: numbers are appended to what is gathered. -/
theorem uw_append {w : World} {ops : Array Oper} {rest : List Oper} {o : Oper} {a : Act} {Q : Exit → Act → World → Prop} (hgd : o.guard = none) (s x : Operand)
    (ho : o.op = .call { callee := .builtin .append, args := #[s, x], argTypes := #[36, 36] })
    (base : Nat) (v : Value) (n : Nat) (p : List Int) (hs : a.eval s = v) (hown : w.ownsRow base 32 1 v n (ucells p))
    (A : Option Addr) (m c : Nat) (q : List Int) (hx : a.eval x = .slice A m c) (hq : Uw w A m q) (hc : A = none → c = 0)
    (h63 : n + m ≤ 1000) (hbase : base ≤ w.heap.size)
    (h : ∀ v' w', w'.ownsRow base 32 1 v' (n + m) (ucells (p ++ q)) → w.grownBy w' v.ownBlock → wpList Try.prog ops Q rest (a.put o.dst v') w') :
    wpList Try.prog ops Q (o :: rest) a w := by
  obtain ⟨i, hi, hz0, hz1, hz2⟩ := info_parts infoU
  have ht := Try.underlying36
  cases A with
  | none =>
    obtain rfl := hc rfl
    have hm : m = 0 := by
      rcases Nat.eq_zero_or_pos m with e | e
      · exact e
      · obtain ⟨ad, e, _⟩ := hq.2 e
        cases e
    subst hm
    have hq0 : q = [] := List.eq_nil_of_length_eq_zero hq.1
    subst hq0
    refine wpList_append_own_none hgd s x _ ho base _ i 1 ht hi v n _ hs hown hx (h _ _ ?_ (grown_refl _ _))
    rw [List.append_nil]
    exact hown
  | some ad =>
    refine wpList_append_own_at w hgd s x _ ho base _ i _ 1 4 ht hi hz0 hz1 hz2 rfl (by omega) v n _ hs hown ad m c (ucells q) hx (by rw [ucells_len, hq.1, Nat.mul_one]) hq.source (ucells_one q) (by unfold maxLen; omega) (by omega) hbase ?_
    intro v' w' ho' hg _ _
    exact h v' w' (by rw [ucells_app]; exact ho') hg
/-- Numbers come back; nothing that was there has turned. -/
def GivesU (W : World) (l : List Int) (e : Ending) (w' : World) : Prop :=
  ∃ A c, e = .returned (.slice A l.length c) ∧ l.length ≤ c ∧ (A = none → c = 0) ∧ Uw w' A l.length l ∧ Below W.heap.size W w'
end Go.Proofs.Ytedecminaopgaaa

/- Proved: two slices of uint32s that read alike are the same to the document. Conditions: those that the theorem names. -/
namespace Go.Proofs.Ytedecminaopgaaa
open Go.ChangeShapes Go.WideShapes Go.ChangeAt Go.RowKit

set_option maxRecDepth 100000 in
set_option maxHeartbeats 800000 in
theorem rsame15 (A B : Option Addr) (n c c' : Nat) (l : List Int) (w : World) (hl : Uw w A n l) (hr : Uw w B n l) (hn : n ≤ 1000) :
    Calls Try.prog 37 #[.slice A n c, .slice B n c'] w fun e w' => e = .returned (.bool true) ∧ Below w.heap.size w w' := by
  have HL := Lib.hid hl
  have HR := Lib.hid hr
  clear hl hr
  go_enter Try.func37, Try.ntmps37
  go_wp2_with fail
  go_loopw [5] (fun i wr => ∃ j : Nat, j ≤ n ∧ i = .int .i64 j ∧ Below w.heap.size w wr) (fun i _ => n - (intOf i).toNat)
  case atStart => exact ⟨0, by omega, rfl, Below.refl _ _⟩
  case round =>
    obtain ⟨j, hj, rfl, hbel⟩ := hrel
    have HB := Lib.hid hbel
    have HT := Lib.hid (HL.out.below hbel)
    have HU := Lib.hid (HR.out.below hbel)
    clear hbel
    have hj0 : (0 : Int) ≤ (j : Int) := Int.natCast_nonneg _
    by_cases hlt : j < n
    · obtain ⟨ad, rfl, had, c0⟩ := HT.out.at_ hlt
      obtain ⟨bd, rfl, hbd, d0⟩ := HU.out.at_ hlt
      have hlt' : (j : Int) < (n : Int) := by omega
      generalize l.getD j 0 = x at c0 d0
      go_wp2_with fail
      go_quiet (fail)
      go_wp2_with fail
      go_roundw
      case rel => exact ⟨j + 1, by omega, by go_num, HB.out.grown (grown_drewN wr nq none) HB.out.size (by simp)⟩
      case measure => simp [intOf]; omega
    · have hlt' : ¬ (j : Int) < (n : Int) := by omega
      go_wp2_with fail
      go_ret
      exact ⟨rfl, HB.out⟩
end Go.Proofs.Ytedecminaopgaaa

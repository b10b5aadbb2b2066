/- Proved: lemmas of one statement's proof, merged by program: what each part proves stands ahead of it. Conditions: those that the lemmas name. -/
import Derived.Test.YtedecminaopgaaaM4
import Derived.StillTailTactics
import Derived.IntWalk

/- Proved: what Peek of package ring answers, for every ring and every number. Conditions: those that the theorems name. -/
namespace Go.Proofs.Ytedecminaopgaaa
open Go.ChangeShapes Go.WideShapes Go.ChangeAt Go.RowKit

/-- what is behind place o of a row. -/
def cutA (A : Option Addr) (n o : Nat) : Option Addr := if n = o then A else A.map (·.add (o * 1))
theorem sizeByte : Try.prog.elem 94 = 5 := by kernel_rfl
theorem cut_run (A : Option Addr) (n o : Nat) (h : o ≤ n) (W : World) :
    (Instr.slice 94 (.slice A n n) (some (.int .i64 (o : Nat))) none none).run Try.prog W = .ok (.slice (cutA A n o) (n - o) (n - o)) W := by
  have hu : Try.prog.underlying 94 = some (.slice (Try.prog.elem 94)) := by rw [sizeByte]; exact Try.underlying94
  obtain ⟨i, hi, hz0, hz1, hz2⟩ := info_parts Try.infoByte
  rw [run_slice_l W 94 A n n hu .i64 (o : Int) (by omega) (by omega), sizeByte]
  simp [sizeOf, typeInfo, hi, hz1, sliced, cutA]
theorem cut_own (x n o : Nat) (h : 0 < n - o) : cutA (some ⟨x, 0, none⟩) n o = some ⟨x, o, none⟩ := by
  unfold cutA
  rw [if_neg (by omega), Nat.mul_one]
  show some ((⟨x, 0, none⟩ : Addr).add o) = _
  congr 1
  unfold Addr.add
  split <;> simp_all
/-- a row reads as its bytes, and what is behind place f as the rest. -/
theorem Rw.reads {w : World} {b n : Nat} {g : Option Nat} {l : List Nat} (h : Rw w b n g l) (hl : l.length = n) (f : Nat) (hf : f ≤ n) : Bs w (adr g) n l ∧ Bs w (cutA (adr g) n f) (n - f) (l.drop f) := by
  rcases h with ⟨rfl, rfl⟩ | ⟨x, rfl, _, _, ho⟩
  · obtain rfl : l = [] := List.eq_nil_of_length_eq_zero hl
    obtain rfl : f = 0 := by omega
    exact ⟨Bs.nil _ _, Bs.nil _ _⟩
  · refine ⟨ho.bs, by rw [List.length_drop, hl], fun j => ?_, fun h0 => ?_⟩
    · rw [List.getD_eq_getElem?_getD, List.getElem?_drop, ← List.getD_eq_getElem?_getD]
      exact ho.2.1 _
    · refine ⟨⟨x, f, none⟩, cut_own x n f h0, ho.block_lt, fun j hj => ?_⟩
      have e : (⟨x, f, none⟩ : Addr).add j = ⟨x, f + j, none⟩ := by unfold Addr.add; split <;> simp_all
      rw [e, ho.cell (by omega), List.getD_eq_getElem?_getD, List.getD_eq_getElem?_getD, List.getElem?_drop]
theorem convert_row (w : World) (ad : Addr) (m c : Nat) (l : List Nat) (h : Bs w (some ad) m l) :
    (convert 94 9 (.slice (some ad) m c)).run Try.prog w = .ok (.string (tx l)) w := by
  rcases Nat.eq_zero_or_pos m with h0 | h0
  · subst h0
    have hl : l = [] := List.eq_nil_of_length_eq_zero h.len
    subst hl
    exact run_convert_bytes_back w 94 9 5 ad c [] Try.underlying94 Try.underlying5 Try.underlying9 fun j hj => absurd hj (Nat.not_lt_zero _)
  · exact convert_back w _ m c l h h0
theorem adr_ne {w : World} {b n : Nat} {g : Option Nat} {l : List Nat} (h : Rw w b n g l) : ∀ ad, adr g = some ad → ad.block < w.heap.size := by
  intro ad e
  rcases h with ⟨rfl, _⟩ | ⟨x, rfl, _, _, ho⟩
  · cases e
  · injection e with e
    subst e
    exact ho.block_lt
/-- the two copies of Peek. -/
theorem peek_copies (w : World) (b r n f k : Nat) (g : Option Nat) (s : ByteArray) (h : Kp w b r n f g s) (hk : k ≤ s.size) :
    ∃ W2 W3, (∀ ty, (Builtin.copy_ #[94, 94] ty #[.slice (some ⟨w.heap.size, 0, none⟩) k k, .slice (cutA (adr g) n f) (n - f) (n - f)]).run Try.prog (w.alloc (.cells (madeCells #[.int .u8 0] k) 5)).drew = .ok (.int .i64 ((min (n - f) k : Nat) : Int)) W2) ∧
      (∀ ty, (Builtin.copy_ #[94, 94] ty #[.slice (cutA (some ⟨w.heap.size, 0, none⟩) k (min (n - f) k)) (k - min (n - f) k) (k - min (n - f) k), .slice (adr g) n n]).run Try.prog W2.drew = .ok (.int .i64 ((min n (k - min (n - f) k) : Nat) : Int)) W3) ∧
      (convert 94 9 (.slice (some ⟨w.heap.size, 0, none⟩) k k)).run Try.prog W3 = .ok (.string (s.extract 0 k)) W3 ∧ At W2 b 96 (rgCells r n f g s.size) ∧ Below w.heap.size w W3 := by
  have hlt := h.1.lt
  obtain ⟨ha, h1, h2, h3, h4, l, hl, hr, hs⟩ := h
  have hf : f ≤ n := by omega
  have hrl := adr_ne hr
  have B1 : Below w.heap.size w (w.alloc (.cells (madeCells #[.int .u8 0] k) 5)).drew := ((Below.refl _ _).alloc (Nat.le_refl _) _).drew
  have O1 : Own (w.alloc (.cells (madeCells #[.int .u8 0] k) 5)).drew w.heap.size k (List.replicate k 0) := own_new w k
  generalize (w.alloc (.cells (madeCells #[.int .u8 0] k) 5)).drew = w1 at *
  obtain ⟨b1, b2⟩ := hr.reads hl f hf
  obtain ⟨W2, c1, O2, g2⟩ := copy_rows w1 w.heap.size k 0 k k (some ⟨w.heap.size, 0, none⟩) _ O1 (fun _ => rfl) (by omega) _ (n - f) (n - f) _ (b2.below B1)
  have B2 : Below w.heap.size w W2 := B1.grown g2 B1.size (fun q e => by injection e with e; omega)
  have b3 := b1.below B2
  obtain ⟨W3, c2, O3, g3⟩ := copy_rows W2.drew w.heap.size k (min (n - f) k) (k - min (n - f) k) (k - min (n - f) k) (cutA (some ⟨w.heap.size, 0, none⟩) k (min (n - f) k)) _ O2 (fun q => cut_own _ _ _ q) (by omega) _ n n _ b3
  have B3 : Below w.heap.size w W3 := B2.drew.grown g3 B2.size (fun q e => by injection e with e; omega)
  refine ⟨W2, W3, c1, c2, ?_, ha.below B2 hlt, B3⟩
  rw [convert_row W3 ⟨w.heap.size, 0, none⟩ k k _ O3.bs, hs.peek hl (by rw [List.length_replicate]) hf h1 hk]

set_option maxRecDepth 100000 in
set_option maxHeartbeats 1600000 in
theorem rg_peek_many (b r n f k : Nat) (z : Int) (g : Option Nat) (s : ByteArray) (w : World) (h : Kp w b r n f g s) (hk : max 0 (min z (s.size : Int)) = (k : Int)) :
    Calls Try.prog 61 #[.pointer (some ⟨b, 0, none⟩), .int .i64 z] w fun e w' => e = .returned (.string (s.extract 0 k)) ∧ Below w.heap.size w w' := by
  have hks : k ≤ s.size := by omega
  obtain ⟨W2, W3, c1, c2, cv, a2, B3⟩ := peek_copies w b r n f k g s h hks
  have hmk := run_make_row' (P := Try.prog) 94 5 (.int .u8 0) 1 Try.underlying94 Try.infoByte rfl .i64 .i64 k (by have := h.2.1; have := h.2.2.1; have := h.2.2.2.1; omega) (by have := h.2.1; have := h.2.2.1; have := h.2.2.2.1; omega)
  have hk0 : (0 : Int) ≤ (k : Int) := Int.natCast_nonneg _
  have hs1 := cut_run (adr g) n f (by have := h.2.2.2.2.1; omega)
  have hs2 := cut_run (some ⟨w.heap.size, 0, none⟩) k (min (n - f) k) (by omega)
  have A1 : At (w.alloc (.cells (madeCells #[.int .u8 0] k) 5)) b 96 (rgCells r n f g s.size) := h.1.alloc _
  have hd3 := h.1.cell 3 rfl
  have BB := Lib.hid B3
  have HK := Lib.hid h
  clear h B3 hks
  generalize s.extract 0 k = t at *
  generalize min (n - f) k = c at *
  generalize cutA (adr g) n f = X at *
  generalize cutA (some ⟨w.heap.size, 0, none⟩) k c = Y at *
  generalize min n (k - c) = d at *
  generalize n - f = p at *
  generalize k - c = q at *
  obtain ⟨w1, hw1⟩ : ∃ w1, w1 = w.alloc (.cells (madeCells #[.int .u8 0] k) 5) := ⟨_, rfl⟩
  rw [← hw1] at c1 A1
  have hm1 := hmk w
  rw [← hw1] at hm1
  clear hmk hw1
  have i1 : w1.cell? ⟨b, 1, none⟩ = some (.slice (adr g) n n) := A1.cell 1 rfl
  have i2 : w1.cell? ⟨b, 2, none⟩ = some (.int .i64 (f : Nat)) := A1.cell 2 rfl
  have j1 : W2.cell? ⟨b, 1, none⟩ = some (.slice (adr g) n n) := a2.cell 1 rfl
  clear A1 a2
  have hmm : min z (s.size : Int) = z ∨ min z (s.size : Int) = (s.size : Int) := by omega
  generalize s.size = m at *
  generalize w.heap.size = x at *
  go_enter Try.func61, Try.ntmps61
  go_wp2_with fail
  refine wp_region_still_tail 10 (by kernel_rfl) (by kernel_rfl) ?_
  simp only [List.take_succ_cons, List.take_zero, List.drop_succ_cons, List.drop_zero]
  repeat still_step
  refine wpStill_nil ?_
  change wpList _ _ _ _ _ w1.drew
  clear i1 i2 hs1
  generalize w1.drew = w2 at *
  go_wp2_with fail
  refine wp_region_still_tail 7 (by kernel_rfl) (by kernel_rfl) ?_
  simp only [List.take_succ_cons, List.take_zero, List.drop_succ_cons, List.drop_zero]
  repeat still_step
  refine wpStill_nil ?_
  change wpList _ _ _ _ _ W2.drew
  clear j1 hs2
  generalize W2.drew = w3 at *
  go_wp2_with fail
  go_ret
  exact ⟨rfl, BB.out⟩
end Go.Proofs.Ytedecminaopgaaa

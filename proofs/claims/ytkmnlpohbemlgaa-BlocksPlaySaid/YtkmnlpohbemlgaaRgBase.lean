/- Proved: what New, Len, Room, Clear and place of package ring answer, and what a ring that is none answers. Conditions: those that the theorems name. -/
import Derived.Test.YtkmnlpohbemlgaaRgMem
import Derived.Deep.QuietTactic
import Derived.BigQuiet
import Derived.WalkSpells
import Derived.Lib.MinMax
namespace Go.Proofs.Ytkmnlpohbemlgaa
open Go.ChangeShapes Go.WideShapes Go.ChangeAt Go.RowKit

/-! ### a ring in memory -/
def adr (g : Option Nat) : Option Addr := g.map fun x => ⟨x, 0, none⟩
/-- the cells of a ring. -/
def rgCells (r n f : Nat) (g : Option Nat) (m : Nat) : List Value := [.int .i64 (r : Nat), .slice (adr g) n n, .int .i64 (f : Nat), .int .i64 (m : Nat)]
/-- the row of a ring: none yet, or a block of its own. -/
def Rw (w : World) (b n : Nat) (g : Option Nat) (l : List Nat) : Prop := (g = none ∧ n = 0) ∨ ∃ x, g = some x ∧ x ≠ b ∧ 0 < n ∧ Own w x n l
/-- Block b is a ring of room r, whose row g has n places; from place f on the bytes s go round in it. -/
def Kp (w : World) (b r n f : Nat) (g : Option Nat) (s : ByteArray) : Prop :=
  At w b 50 (rgCells r n f g s.size) ∧ s.size ≤ n ∧ n ≤ r ∧ r ≤ 1048576 ∧ (f < n ∨ f = 0 ∧ n = 0) ∧ ∃ l, l.length = n ∧ Rw w b n g l ∧ Rnd n f l s
def Rg (w : World) (b r : Nat) (g : Option Nat) (s : ByteArray) : Prop := ∃ n f, Kp w b r n f g s

theorem Rw.block {w w' : World} {b n : Nat} {g : Option Nat} {l : List Nat} (h : Rw w b n g l) (k : ∀ x, g = some x → x ≠ b → x < w.heap.size → w'.heap[x]? = w.heap[x]?) : Rw w' b n g l := by
  rcases h with h | ⟨x, hx, hb, hn, ho⟩
  · exact Or.inl h
  · have hlt := ho.block_lt
    obtain ⟨h1, h2, cur, hc, hr⟩ := ho
    exact Or.inr ⟨x, hx, hb, hn, h1, h2, cur, (k x hx hb hlt).trans hc, hr⟩
theorem Kp.below {w w' : World} {b r n f : Nat} {g : Option Nat} {s : ByteArray} (h : Kp w b r n f g s) (k : Below w.heap.size w w') : Kp w' b r n f g s := by
  obtain ⟨ha, h1, h2, h3, h4, l, hl, hr, hs⟩ := h
  exact ⟨ha.below k ha.lt, h1, h2, h3, h4, l, hl, hr.block (fun x _ _ hx => k.block x hx), hs⟩
theorem Rg.below {w w' : World} {b r : Nat} {g : Option Nat} {s : ByteArray} (h : Rg w b r g s) (k : Below w.heap.size w w') : Rg w' b r g s := by
  obtain ⟨n, f, h⟩ := h
  exact ⟨n, f, h.below k⟩
theorem Rg.lt {w : World} {b r : Nat} {g : Option Nat} {s : ByteArray} (h : Rg w b r g s) : b < w.heap.size := by
  obtain ⟨n, f, h⟩ := h
  exact h.1.lt
theorem Rg.row_lt {w : World} {b r : Nat} {g : Option Nat} {s : ByteArray} (h : Rg w b r g s) : ∀ x, g = some x → x < w.heap.size := by
  obtain ⟨n, f, h⟩ := h
  obtain ⟨ha, h1, h2, h3, h4, l, hl, hr, hs⟩ := h
  intro x hx
  rcases hr with ⟨q, _⟩ | ⟨y, hy, _, _, ho⟩
  · rw [q] at hx; cases hx
  · rw [hy] at hx
    injection hx with hx
    subst hx
    exact ho.block_lt
theorem Rg.size {w : World} {b r : Nat} {g : Option Nat} {s : ByteArray} (h : Rg w b r g s) : s.size ≤ r := by
  obtain ⟨n, f, h⟩ := h
  exact Nat.le_trans h.2.1 h.2.2.1
theorem Rg.room {w : World} {b r : Nat} {g : Option Nat} {s : ByteArray} (h : Rg w b r g s) : r ≤ 1048576 := by
  obtain ⟨n, f, h⟩ := h
  exact h.2.2.2.1
/-- A value comes back; block b is a ring of s' then; nothing else that was there has turned. -/
def GivesRg (W : World) (b r : Nat) (g : Option Nat) (v : Value) (s' : ByteArray) (e : Ending) (w' : World) : Prop :=
  e = .returned v ∧ ∃ g', Rg w' b r g' s' ∧ Turns W w' b g ∧ Grows W g g'

/-! ### New -/
theorem rg_new_any (r : Nat) (w : World) (h0 : 1 ≤ r) (h1 : r ≤ 1048576) :
    Calls Try.prog 14 #[.int .i64 (r : Nat)] w fun e w' => e = .returned (.tuple #[.pointer (some ⟨w.heap.size, 0, none⟩), .int .i64 0]) ∧ w' = w.alloc (.cells (rgCells r 0 0 none 0).toArray 50) := by
  have h0' : ¬ (r : Int) < 1 := by omega
  have h1' : ¬ 1048576 < (r : Int) := by omega
  go_enter Try.func14, Try.ntmps14
  go_wp2_with fail
  go_ret2
  exact ⟨rfl, rfl⟩
theorem rg_new_bad (z : Int) (w : World) (h : z < 1 ∨ 1048576 < z) :
    Calls Try.prog 14 #[.int .i64 z] w fun e w' => e = .returned (.tuple #[.pointer none, .int .i64 1]) ∧ w = w' := by
  rcases h with h | h
  · go_enter Try.func14, Try.ntmps14
    go_wp2_with fail
    go_ret2
    exact ⟨rfl, rfl⟩
  · have h' : ¬ z < 1 := by omega
    go_enter Try.func14, Try.ntmps14
    go_wp2_with fail
    go_ret2
    exact ⟨rfl, rfl⟩
theorem rg_of_new (r : Nat) (w : World) (h1 : r ≤ 1048576) : Rg (w.alloc (.cells (rgCells r 0 0 none 0).toArray 50)) w.heap.size r none S0 :=
  ⟨0, 0, At.new w _ _, Nat.le_refl _, Nat.zero_le _, h1, Or.inr ⟨rfl, rfl⟩, [], rfl, Or.inl ⟨rfl, rfl⟩, fun _ h => absurd h (Nat.not_lt_zero _)⟩

/-! ### Len, Room -/
theorem rg_len_any (b r : Nat) (g : Option Nat) (s : ByteArray) (w : World) (h : Rg w b r g s) :
    Calls Try.prog 19 #[.pointer (some ⟨b, 0, none⟩)] w fun e w' => e = .returned (.int .i64 (s.size : Nat)) ∧ w = w' := by
  obtain ⟨n, f, ha, _⟩ := h
  have hc := ha.cell 3 rfl
  clear ha
  go_enter Try.func19, Try.ntmps19
  go_wp2_with fail
  go_ret
  exact ⟨rfl, rfl⟩
theorem rg_len_nil (w : World) :
    Calls Try.prog 19 #[.pointer none] w fun e w' => e = .returned (.int .i64 0) ∧ w = w' := by
  go_enter Try.func19, Try.ntmps19
  go_wp2_with fail
  go_ret
  exact ⟨rfl, rfl⟩
theorem rg_room_any (b r : Nat) (g : Option Nat) (s : ByteArray) (w : World) (h : Rg w b r g s) :
    Calls Try.prog 20 #[.pointer (some ⟨b, 0, none⟩)] w fun e w' => e = .returned (.int .i64 ((r : Int) - (s.size : Int))) ∧ ∃ q, w' = w.drewN q := by
  have hs := h.size
  have hr := h.room
  obtain ⟨n, f, ha, _⟩ := h
  have hc0 : ∀ q, (w.drewN q).cell? ⟨b, 0, none⟩ = some (.int .i64 (r : Nat)) := fun q => ha.cell 0 rfl
  have hc3 : ∀ q, (w.drewN q).cell? ⟨b, 3, none⟩ = some (.int .i64 (s.size : Nat)) := fun q => ha.cell 3 rfl
  have hd0 : w.cell? ⟨b, 0, none⟩ = some (.int .i64 (r : Nat)) := hc0 0
  have hd3 : w.cell? ⟨b, 3, none⟩ = some (.int .i64 (s.size : Nat)) := hc3 0
  clear ha
  generalize s.size = m at *
  go_enter Try.func20, Try.ntmps20
  go_wp2_with fail
  go_quiet (fail)
  go_wp2_with fail
  go_ret
  exact ⟨rfl, _, rfl⟩
theorem rg_room_nil (w : World) :
    Calls Try.prog 20 #[.pointer none] w fun e w' => e = .returned (.int .i64 0) ∧ w = w' := by
  go_enter Try.func20, Try.ntmps20
  go_wp2_with fail
  go_ret
  exact ⟨rfl, rfl⟩

/-! ### place -/
theorem rg_place_any (b r n f m j : Nat) (g : Option Nat) (w : World) (h : At w b 50 (rgCells r n f g m)) (hf : f ≤ 1048576) (hj : j ≤ 1048576) :
    Calls Try.prog 22 #[.pointer (some ⟨b, 0, none⟩), .int .i64 (j : Nat)] w fun e w' => e = .returned (.int .i64 (pl n f j : Nat)) ∧ w = w' := by
  have hc1 := h.cell 1 rfl
  have hc2 := h.cell 2 rfl
  clear h
  by_cases q : n ≤ f + j
  · have e : ((pl n f j : Nat) : Int) = (f : Int) + (j : Int) - (n : Int) := by unfold pl; rw [if_pos q]; omega
    rw [e]
    have q' : (n : Int) ≤ (f : Int) + (j : Int) := by omega
    clear e
    go_enter Try.func22, Try.ntmps22
    go_wp2_with fail
    go_ret
    exact ⟨rfl, rfl⟩
  · have e : ((pl n f j : Nat) : Int) = (f : Int) + (j : Int) := by unfold pl; rw [if_neg q]; omega
    rw [e]
    have q' : ¬ (n : Int) ≤ (f : Int) + (j : Int) := by omega
    clear e
    go_enter Try.func22, Try.ntmps22
    go_wp2_with fail
    go_ret
    exact ⟨rfl, rfl⟩

/-! ### Clear -/
theorem rg_clear_any (b r : Nat) (g : Option Nat) (s : ByteArray) (w : World) (h : Rg w b r g s) :
    Calls Try.prog 18 #[.pointer (some ⟨b, 0, none⟩)] w (GivesRg w b r g (.tuple #[]) S0) := by
  have hr := Lib.hid h.room
  obtain ⟨n, f, ha, _⟩ := h
  have hc0 := ha.cell 0 rfl
  have hc1 := ha.cell 1 rfl
  have hc2 := ha.cell 2 rfl
  have hc3 := ha.cell 3 rfl
  have hf0 := ha.free 0
  have hf1 := ha.free 1
  have hf2 := ha.free 2
  have hf3 := ha.free 3
  have HA := Lib.hid ha
  clear ha
  generalize s.size = m at *
  go_enter Try.func18, Try.ntmps18
  go_wp2_with fail
  go_end0
  have key : At (((((w.setCell ⟨b, 0, none⟩ (.int .i64 (r : Nat))).setCell ⟨b, 1, none⟩ (.slice none 0 0)).setCell ⟨b, 2, none⟩ (.int .i64 0)).setCell ⟨b, 3, none⟩ (.int .i64 0))) b 50 (rgCells r 0 0 none 0) :=
    (((HA.out.set_ 0 _).set_ 1 _).set_ 2 _).set_ 3 _
  refine ⟨rfl, none, ⟨0, 0, key, Nat.le_refl _, Nat.zero_le _, hr.out, Or.inr ⟨rfl, rfl⟩, [], rfl, Or.inl ⟨rfl, rfl⟩, fun _ h => absurd h (Nat.not_lt_zero _)⟩, ?_, Grows.none _ _⟩
  exact (turns_set _ _ _ _ _).trans (Grows.refl _ _) ((turns_set _ _ _ _ _).trans (Grows.refl _ _) ((turns_set _ _ _ _ _).trans (Grows.refl _ _) (turns_set _ _ _ _ _)))
theorem rg_clear_nil (w : World) :
    Calls Try.prog 18 #[.pointer none] w fun e w' => e = .returned (.tuple #[]) ∧ w = w' := by
  go_enter Try.func18, Try.ntmps18
  go_wp2_with fail
  go_end0
  exact ⟨rfl, rfl⟩
end Go.Proofs.Ytkmnlpohbemlgaa

/- Proved: lemmas of one statement's proof, merged by program: what each part proves stands ahead of it. Conditions: those that the lemmas name. -/
import Derived.Test.YtedecminaopgaaaM9
import Derived.Test.YtedecminaopgaaaM8
import Derived.Deep.QuietTactic
import Derived.BigQuiet

/- Plain lemmas on an order (blocks put in order) in memory. No condition beyond those that each lemma names. -/
namespace Go.Proofs.Ytedecminaopgaaa
open Go.ChangeShapes Go.WideShapes Go.ChangeAt Go.RowKit

theorem scells_one (l : List ByteArray) : ∀ u ∈ scells l, u.oneCell' = true := by
  intro u hu
  unfold scells at hu
  obtain ⟨x, _, rfl⟩ := List.mem_map.1 hu
  rfl
theorem scells_app (l r : List ByteArray) : scells (l ++ r) = scells l ++ scells r := by unfold scells; rw [List.map_append]
theorem scells_set (l : List ByteArray) (i : Nat) (s : ByteArray) : (scells l).set i (.string s) = scells (l.set i s) := by unfold scells; rw [List.map_set]
theorem scells_drop (l : List ByteArray) (k : Nat) : (scells l).drop k = scells (l.drop k) := by unfold scells; rw [List.map_drop]
theorem scells_none (n : Nat) : scells (List.replicate n S0) = List.replicate n (Value.string S0) := by unfold scells; rw [List.map_replicate]

/-- a row of texts that a slice shows, from any place of its block on. -/
abbrev Qs (w : World) (r : Option Nat) (v : Value) (L : List ByteArray) : Prop := Qu w r 9 1 v L.length (scells L)
theorem Qs.at_ {w : World} {r : Option Nat} {v : Value} {L : List ByteArray} (h : Qs w r v L) {i : Nat} (hi : i < L.length) :
    ∃ g o cap, r = some g ∧ v = .slice (some ⟨g, o, none⟩) L.length cap ∧ g < w.heap.size ∧ L.length ≤ cap ∧ w.cell? ⟨g, o + i, none⟩ = some (.string (st_ L i)) ∧ ∀ j, w.frozen? ⟨g, j, none⟩ = false := by
  obtain ⟨g, o, cap, hr, hv, hg, hc, hx, hf⟩ := h.head (by omega)
  exact ⟨g, o, cap, hr, hv, hg, hc, hx _ _ (scells_at L i hi), hf⟩

/-! ### an order -/
/-- Block b is an order: its base is B, its window n; L waits from the base on, r is its row. -/
structure Od (w : World) (b : Nat) (B n : Int) (r : Option Nat) (v : Value) (L : List ByteArray) : Prop where
  own : At w b 93 [.int .u32 B, .int .i64 n, v]
  row : Qs w r v L
  ne : ∀ g, r = some g → g ≠ b
  u32 : U32 B
  low : 1 ≤ n
  high : n ≤ 64
  few : (L.length : Int) ≤ n
/-- an order's own blocks. -/
abbrev OdOwn (b : Nat) (r : Option Nat) : Nat → Prop := fun i => i = b ∨ r = some i
section
variable {w w' : World} {b : Nat} {B n : Int} {r : Option Nat} {v : Value} {L : List ByteArray}
theorem Od.lt (h : Od w b B n r v L) : b < w.heap.size := h.own.lt
theorem Od.tn {c : Nat → Prop} (h : Od w b B n r v L) (t : Tn c w w') (hf : ¬ c b) (hr : ∀ g, r = some g → ¬ c g) : Od w' b B n r v L :=
  ⟨h.own.tn t hf, h.row.tn t hr, h.ne, h.u32, h.low, h.high, h.few⟩
theorem Od.below (h : Od w b B n r v L) (t : Below w.heap.size w w') : Od w' b B n r v L := h.tn (tn_below Nil t) (fun e => e) (fun _ _ e => e)
theorem Od.form (h : Od w b B n r v L) : ∃ A cap, v = .slice A L.length cap := h.row.form
theorem Od.n64 (h : Od w b B n r v L) : L.length ≤ 64 := by have := h.few; have := h.high; omega
end
/-- An order, or none. -/
def OdO (w : World) (p : Option Addr) (B : Int) (v : Value) (L : List ByteArray) : Prop :=
  (p = none ∧ B = 0 ∧ v = .slice none 0 0 ∧ L = []) ∨ ∃ b n r, p = some ⟨b, 0, none⟩ ∧ Od w b B n r v L
section
variable {w w' : World} {p : Option Addr} {B : Int} {v : Value} {L : List ByteArray}
theorem Od.odo {b : Nat} {n : Int} {r : Option Nat} (h : Od w b B n r v L) : OdO w (some ⟨b, 0, none⟩) B v L := .inr ⟨b, n, r, rfl, h⟩
end
end Go.Proofs.Ytedecminaopgaaa

/- Proved: what New, Base, Len, Has of package order answer, and what stands at a place. Conditions: those that the theorems name. -/
namespace Go.Proofs.Ytedecminaopgaaa
open Go.ChangeShapes Go.WideShapes Go.ChangeAt Go.RowKit

/-! ### New -/
theorem or_new_any (base : Int) (n : Int) (w : World) (hb : U32 base) (h0 : 1 ≤ n) (h1 : n ≤ 64) :
    Calls Try.prog 27 #[.int .u32 base, .int .i64 n] w fun e w' => e = .returned (.tuple #[.pointer (some ⟨w.heap.size, 0, none⟩), .int .i64 0]) ∧ Od w' w.heap.size base n none (.slice none 0 0) [] ∧ Below w.heap.size w w' := by
  have HU := Lib.hid hb
  have HH := Lib.hid (And.intro h0 h1)
  have h0' : ¬ n < 1 := by omega
  have h1' : ¬ 64 < n := by omega
  clear h0 h1 hb
  go_enter Try.func27, Try.ntmps27
  go_wp2_with fail
  go_ret2
  exact ⟨rfl, ⟨At.new w _ [.int .u32 base, .int .i64 n, .slice none 0 0], Qu.nil _ _ _, fun _ e => (nomatch e), HU.out, HH.out.1, HH.out.2, by have := HH.out; simp; omega⟩, (Below.refl _ _).alloc (Nat.le_refl _) _⟩
/-! ### Base -/
theorem or_base_any (p : Option Addr) (B : Int) (v : Value) (L : List ByteArray) (w : World) (h : OdO w p B v L) :
    Calls Try.prog 36 #[.pointer p] w fun e w' => e = .returned (.int .u32 B) ∧ w = w' := by
  rcases h with ⟨rfl, rfl, rfl, rfl⟩ | ⟨b, n, r, rfl, h⟩
  · go_enter Try.func36, Try.ntmps36
    go_wp2_with fail
    go_ret
    exact ⟨rfl, rfl⟩
  · have c0 := h.own.cell 0 rfl
    clear h
    go_enter Try.func36, Try.ntmps36
    go_wp2_with fail
    go_ret
    exact ⟨rfl, rfl⟩

/-! ### what stands at a place -/
theorem row_at_any (r : Option Nat) (v : Value) (L : List ByteArray) (z : Int) (w : World) (h : Qs w r v L) :
    Calls Try.prog 70 #[v, .int .i64 z] w fun e w' => e = .returned (.string (atZ L z)) ∧ w = w' := by
  obtain ⟨A, cap, hv⟩ := h.form
  by_cases a : z < 0
  · rw [atZ_out (.inl a)]
    subst hv
    clear h
    go_enter Try.func70, Try.ntmps70
    go_wp2_with fail
    go_ret
    exact ⟨rfl, rfl⟩
  by_cases b : (L.length : Int) ≤ z
  · rw [atZ_out (.inr b)]
    subst hv
    clear h
    go_enter Try.func70, Try.ntmps70
    go_wp2_with fail
    go_ret
    exact ⟨rfl, rfl⟩
  · obtain ⟨i, rfl⟩ := Int.eq_ofNat_of_zero_le (show 0 ≤ z by omega)
    have hi : i < L.length := by omega
    obtain ⟨g, o, c, _, rfl, _, _, hc, _⟩ := h.at_ hi
    show Calls Try.prog _ _ _ fun e w' => e = .returned (.string (atZ L (i : Int))) ∧ w = w'
    rw [atZ_nat]
    generalize st_ L i = s at *
    have hi' : (i : Int) < (L.length : Int) := by omega
    have hi0 : (0 : Int) ≤ (i : Int) := Int.natCast_nonneg _
    clear h hv a b
    go_enter Try.func70, Try.ntmps70
    go_wp2_with fail
    go_ret
    exact ⟨rfl, rfl⟩
end Go.Proofs.Ytedecminaopgaaa

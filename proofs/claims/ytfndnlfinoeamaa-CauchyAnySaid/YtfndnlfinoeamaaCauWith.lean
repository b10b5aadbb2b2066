/- Proved: what the law's own with leaves of a slice of ints. Conditions: those that the theorems name. -/
import Derived.Test.YtfndnlfinoeamaaCauLaw
namespace Go.Proofs.Ytfndnlfinoeamaa
open Go.ChangeShapes Go.WideShapes Go.ChangeAt Go.RowKit

/-- a number more, if it is not there. -/
def withL (l : List Int) (x : Int) : List Int := if x ∈ l then l else l ++ [x]
theorem withL_in {l : List Int} {x : Int} (h : x ∈ l) : withL l x = l := if_pos h
theorem withL_out {l : List Int} {x : Int} (h : ¬ x ∈ l) : withL l x = l ++ [x] := if_neg h
theorem withL_mem (l : List Int) (x y : Int) : y ∈ withL l x ↔ y ∈ l ∨ y = x := by
  unfold withL
  split
  · rename_i h
    constructor
    · exact Or.inl
    · rintro (h1 | rfl)
      · exact h1
      · exact h
  · simp
theorem withL_len (l : List Int) (x : Int) : l.length ≤ (withL l x).length ∧ (withL l x).length ≤ l.length + 1 := by
  unfold withL
  split <;> simp
theorem mem_at {l : List Int} {x : Int} (h : x ∈ l) : ∃ j, j < l.length ∧ l.getD j 0 = x := by
  obtain ⟨j, hj, e⟩ := List.getElem_of_mem h
  exact ⟨j, hj, by rw [List.getD_eq_getElem?_getD, List.getElem?_eq_getElem hj]; exact e⟩
theorem at_mem {l : List Int} {j : Nat} (h : j < l.length) : l.getD j 0 ∈ l := by
  rw [List.getD_eq_getElem?_getD, List.getElem?_eq_getElem h]
  exact List.getElem_mem h

/-- A slice of ints with l comes back; nothing that was there has turned. -/
def GivesI (W : World) (l : List Int) (e : Ending) (w' : World) : Prop :=
  ∃ A n c, e = .returned (.slice A n c) ∧ n ≤ c ∧ (A = none → n = 0 ∧ c = 0) ∧ Is w' A n l ∧ Below W.heap.size W w'
theorem is_of_none {w : World} {base n : Nat} {v : Value} {l : List Int} (h : w.ownsRow base 3 1 v n (icells l)) : ∃ A c, v = .slice A n c ∧ n ≤ c ∧ (A = none → n = 0 ∧ c = 0) ∧ Is w A n l := by
  obtain ⟨A, c, e, h1, h2⟩ := is_of h
  subst e
  refine ⟨A, c, rfl, h1, fun q => ?_, h2⟩
  subst q
  rcases h.2 with ⟨e, _⟩ | ⟨g, cap, cur, e, _⟩
  · injection e with e1 e2 e3
    exact ⟨e2, e3⟩
  · injection e with e1
    exact absurd e1 (by simp)
theorem icells_one (l : List Int) : ∀ u ∈ icells l, u.oneCell' = true := by
  intro u hu
  unfold icells at hu
  obtain ⟨x, _, rfl⟩ := List.mem_map.1 hu
  rfl
theorem Is.source {w : World} {ad : Addr} {n : Nat} {l : List Int} (h : Is w (some ad) n l) : ∀ j u, (icells l)[j]? = some u → w.cell? (ad.add j) = some u := by
  intro j u hu
  have hj : j < l.length := by
    have := (List.getElem?_eq_some_iff.1 hu).1
    rwa [icells_len] at this
  obtain ⟨ad', e, _, hc⟩ := h.2 (by rw [← h.1]; omega)
  injection e with e
  subst e
  rw [icells_at l j hj] at hu
  rw [← hu]
  exact hc j (by rw [← h.1]; exact hj)

set_option maxRecDepth 100000 in
set_option maxHeartbeats 1600000 in
theorem with_any (A : Option Addr) (n c : Nat) (l : List Int) (x : Int) (w : World) (hl : Is w A n l) (hc : n ≤ c) (hn : n ≤ 1000) (hA : A = none → n = 0 ∧ c = 0) :
    Calls Try.prog 15 #[.slice A n c, .int .i64 x] w (GivesI w (withL l x)) := by
  obtain ⟨i0, hi0, hz0, hz1, hz2⟩ := info_parts Try.infoInt
  have HL := Lib.hid hl
  have HC := Lib.hid hc
  have HA := Lib.hid hA
  clear hl hc hA
  go_enter Try.func15, Try.ntmps15
  go_wp2_with fail
  go_loop [5] (fun i => ∃ j : Nat, j ≤ n ∧ i = .int .i64 j ∧ ∀ q, q < j → l.getD q 0 ≠ x) (fun i => n - (intOf i).toNat)
  case atStart => exact ⟨0, by omega, rfl, fun _ h => absurd h (by omega)⟩
  case round =>
    obtain ⟨j, hj, rfl, hne⟩ := hrel
    have HN := Lib.hid hne
    clear hne
    by_cases hlt : j < n
    · obtain ⟨ad, rfl, had, hac⟩ := HL.out.at_ hlt
      have hlt' : (j : Int) < (n : Int) := by omega
      have hj0 : (0 : Int) ≤ (j : Int) := Int.natCast_nonneg _
      by_cases hx : l.getD j 0 = x
      · have HX : Hid (withL l x = l) := Lib.hid (withL_in (by rw [← hx]; exact at_mem (by rw [HL.out.len]; exact hlt)))
        rw [hx] at hac
        clear hx
        go_wp2_with fail
        go_ret
        exact ⟨_, _, _, rfl, HC.out, HA.out, by rw [HX.out]; exact HL.out, Below.refl _ _⟩
      · have HX := Lib.hid hx
        have hxx : (l.getD j 0 == x) = false := by simpa using hx
        clear hx
        generalize hy : l.getD j 0 = y at *
        have HY := Lib.hid hy
        clear hy
        go_wp2_with fail
        go_round
        case rel =>
          refine ⟨j + 1, by omega, by go_num, fun q hq => ?_⟩
          rcases Nat.lt_or_ge q j with h | h
          · exact HN.out q h
          · rw [show q = j by omega, HY.out]; exact HX.out
        case measure => simp [intOf]; omega
    · obtain rfl : j = n := by omega
      have HX : Hid (withL l x = l ++ [x]) := Lib.hid (withL_out fun h => by
        obtain ⟨q, hq, e⟩ := mem_at h
        exact HN.out q (by rw [← HL.out.len]; exact hq) e)
      have hcj : j ≤ c := HC.out
      have hal := Lib.hid ((Below.refl w.heap.size w).alloc (Nat.le_refl _) (.cells #[.int .i64 x] 3))
      have HL1 := Lib.hid (HL.out.below hal.out)
      have HA1 : Hid (A = none → j = 0 ∧ j = 0) := Lib.hid fun e => ⟨(HA.out e).1, (HA.out e).1⟩
      have hlen : Hid ((icells l).length = j * 1) := Lib.hid (by rw [icells_len, HL.out.len, Nat.mul_one])
      go_wp2_with (at_builtin; refine wpList_append_grows _ rfl _ _ 22 rfl 3 i0 (.int .i64 0) 1 8 Try.underlying22 hi0 hz0 hz1 hz2 rfl (by decide) A j j (icells l) rfl HA1.out hlen.out (by intro b e; rw [e] at HL1; exact HL1.out.source) ⟨w.heap.size, 0, none⟩ 1 1 [.int .i64 x] rfl (by simp) (World.news_of_block (cs := #[.int .i64 x]) (t := 3) (fr := (0, 0)) (heap_alloc_new w _)) (by simp [Value.oneCell']) (by omega) (by unfold maxLen; omega) (by omega) ?_; intro v1 w1 hown hgr; have hb1 := hal.out.trans (((Below.refl _ _).grown hgr (Nat.le_refl _) (by simp) : Below _ (w.alloc (.cells #[.int .i64 x] 3)) w1).mono hal.out.size); rw [show ([Value.int .i64 x] : List Value) = icells [x] from rfl, show icells l ++ icells [x] = icells (l ++ [x]) from by unfold icells; rw [List.map_append]] at hown; obtain ⟨A', c', rfl, hc', ha', hi'⟩ := is_of_none hown; have HN' := Lib.hid ha'; clear ha'; have HI := Lib.hid hi'; have HB := Lib.hid hb1; clear hown hgr hi' hb1)
      go_ret
      exact ⟨_, _, _, rfl, hc', HN'.out, by rw [HX.out]; exact HI.out, HB.out⟩
end Go.Proofs.Ytfndnlfinoeamaa

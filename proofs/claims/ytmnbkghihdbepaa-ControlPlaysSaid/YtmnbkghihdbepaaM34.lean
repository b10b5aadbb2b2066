/- Proved: lemmas of one statement's proof, merged by program: what each part proves stands ahead of it. Conditions: those that the lemmas name. -/
import Derived.Test.YtmnbkghihdbepaaM25
import Derived.Test.YtmnbkghihdbepaaM29
import Derived.Deep.DeepCutAuto

/- Proved: what the document's like of layer 25 answers; and plain lemmas on slices of datagrams. Conditions: those that the theorems name. -/
namespace Go.Proofs.Ytmnbkghihdbepaa
open Go.ChangeShapes Go.WideShapes Go.ChangeAt Go.RowKit

/-! ### slices of datagrams -/
def dcs : List Dg → List Value
  | [] => []
  | d :: r => d.cells ++ dcs r
theorem dcs_len (S : List Dg) : (dcs S).length = S.length * 10 := by
  induction S with
  | nil => rfl
  | cons d r ih => rw [dcs, List.length_append, ih, List.length_cons]; show 10 + _ = _; omega
theorem dcs_app (S T : List Dg) : dcs (S ++ T) = dcs S ++ dcs T := by
  induction S with
  | nil => rfl
  | cons d r ih => rw [List.cons_append, dcs, dcs, ih, List.append_assoc]
theorem dcells_one (d : Dg) : ∀ u ∈ d.cells, u.oneCell' = true := by
  intro u hu
  simp only [Dg.cells, List.mem_cons, List.not_mem_nil, or_false] at hu
  rcases hu with rfl | rfl | rfl | rfl | rfl | rfl | rfl | rfl | rfl | rfl <;> rfl
theorem dcs_one (S : List Dg) : ∀ u ∈ dcs S, u.oneCell' = true := by
  induction S with
  | nil => intro u hu; simp [dcs] at hu
  | cons d r ih =>
    intro u hu
    rw [dcs, List.mem_append] at hu
    rcases hu with hu | hu
    · exact dcells_one d u hu
    · exact ih u hu
theorem dcs_at {S : List Dg} {k : Nat} {d : Dg} (h : S[k]? = some d) {i : Nat} {v : Value} (hi : d.cells[i]? = some v) : (dcs S)[k * 10 + i]? = some v := by
  induction S generalizing k with
  | nil => simp at h
  | cons a r ih =>
    have h10 : a.cells.length = 10 := rfl
    cases k with
    | zero =>
      have h : a = d := by simpa using h
      subst h
      rw [dcs, Nat.zero_mul, Nat.zero_add, List.getElem?_append_left (List.getElem?_eq_some_iff.1 hi).1]
      exact hi
    | succ k =>
      have h : r[k]? = some d := by simpa using h
      rw [dcs, List.getElem?_append_right (by rw [h10]; omega), h10, show (k + 1) * 10 + i - 10 = k * 10 + i by omega]
      exact ih h
theorem infoDg : (Try.prog.info? 29).map (fun i => (i.zero, i.size, i.bytes)) = some (some dgZ.val, 10, 96) := by kernel_rfl
/-- where datagram k of a slice lies. -/
theorem Cl.dg {w : World} {c : Nat → Prop} {A : Option Addr} {S : List Dg} (h : Cl w c A (dcs S)) {k : Nat} {d : Dg} (hk : S[k]? = some d) : ∃ g o, A = some ⟨g, o, none⟩ ∧ c g ∧ g < w.heap.size ∧ ∀ i v, d.cells[i]? = some v → w.cell? ⟨g, o + k * 10 + i, none⟩ = some v := by
  have hl := (List.getElem?_eq_some_iff.1 hk).1
  obtain ⟨g, o, e, hc, hg, hx⟩ := h (by rw [dcs_len]; omega)
  exact ⟨g, o, e, hc, hg, fun i v hi => by rw [Nat.add_assoc]; exact hx _ v (dcs_at hk hi)⟩
/-- one datagram more behind an own row. -/
theorem dv_one {w : World} {base n : Nat} {v : Value} {S : List Dg} (h : w.ownsRow base 29 10 v n (dcs S)) (hn : n ≤ 65536) (hbase : base ≤ w.heap.size) (d : Dg) :
    ∃ v' w', (Builtin.append_ #[26, 26] 26 #[v, .slice (some ⟨w.heap.size, 0, none⟩) 1 1]).run Try.prog (w.alloc (.cells #[.int .i64 d.kind, .int .i64 d.stream, .int .u32 d.block, .int .i64 d.index, .int .i64 d.k, .int .i64 d.n, .int .i64 d.len, .int .i64 d.credit, .string d.has, .string d.body] 29)) = .ok v' w' ∧ w'.ownsRow base 29 10 v' (n + 1) (dcs (S ++ [d])) ∧ (w.alloc (.cells #[.int .i64 d.kind, .int .i64 d.stream, .int .u32 d.block, .int .i64 d.index, .int .i64 d.k, .int .i64 d.n, .int .i64 d.len, .int .i64 d.credit, .string d.has, .string d.body] 29)).grownBy w' v.ownBlock := by
  have hA := At.new w 29 d.cells
  obtain ⟨v', w', hr, ho, hg⟩ := run_copy (ty := 26) Try.underlying26 infoDg rfl (by decide) (h.alloc (.cells #[.int .i64 d.kind, .int .i64 d.stream, .int .u32 d.block, .int .i64 d.index, .int .i64 d.k, .int .i64 d.n, .int .i64 d.len, .int .i64 d.credit, .string d.has, .string d.body] 29)) (c := fun _ => True) (A := some ⟨w.heap.size, 0, none⟩) (m := 1) (cp := 1) (ys := dcs [d]) rfl (cl_at (n := 10) hA trivial rfl) (fun e => nomatch e) (dcs_one _) (by omega) (by decide) (Nat.le_trans hbase (by simp))
  exact ⟨v', w', hr, by rw [dcs_app]; exact ho, hg⟩
/-- a slice of datagrams and a number come back. -/
def GivesR (w : World) (c : Nat → Prop) (S : List Dg) (z : Int) (e : Ending) (w' : World) : Prop :=
  ∃ A cp, e = .returned (.tuple #[.slice A S.length cp, .int .i64 z]) ∧ Cl w' c A (dcs S) ∧ S.length ≤ cp ∧ (A = none → cp = 0) ∧ Below w.heap.size w w'

/-! ### like -/
theorem likeB_eq (a d : Dg) : likeB a d = (decide (a.kind = d.kind) && (decide (a.stream = d.stream) && (!decide (d.kind = 3) || decide (a.block = d.block)))) := by
  unfold likeB subj
  rw [Bool.eq_iff_iff]
  simp only [decide_eq_true_eq, Bool.and_eq_true, Bool.or_eq_true, Bool.not_eq_true', decide_eq_false_iff_not, Prod.mk.injEq]
  constructor
  · rintro ⟨h1, h2, h3⟩
    refine ⟨h1, h2, ?_⟩
    by_cases h : d.kind = 3
    · rw [if_pos (h1.trans h), if_pos h] at h3
      right
      omega
    · left; exact h
  · rintro ⟨h1, h2, h3⟩
    refine ⟨h1, h2, ?_⟩
    by_cases h : d.kind = 3
    · rw [if_pos (h1.trans h), if_pos h]
      rcases h3 with h3 | h3
      · exact absurd h h3
      · rw [h3]
    · rw [if_neg (fun q => h (h1.symm.trans q)), if_neg h]
set_option maxRecDepth 100000 in
set_option maxHeartbeats 1600000 in
theorem rlike_any (a d : Dg) (w : World) : Calls Try.prog 18 #[a.val, d.val] w fun e w' => e = .returned (.bool (likeB a d)) ∧ Below w.heap.size w w' := by
  rw [likeB_eq]
  obtain ⟨a0, a1, a2, a3, a4, a5, a6, a7, a8, a9⟩ := a
  obtain ⟨d0, d1, d2, d3, d4, d5, d6, d7, d8, d9⟩ := d
  have HB : Hid (Below w.heap.size w ((w.alloc (.cells #[.int .i64 a0, .int .i64 a1, .int .u32 a2, .int .i64 a3, .int .i64 a4, .int .i64 a5, .int .i64 a6, .int .i64 a7, .string a8, .string a9] 29)).alloc (.cells #[.int .i64 d0, .int .i64 d1, .int .u32 d2, .int .i64 d3, .int .i64 d4, .int .i64 d5, .int .i64 d6, .int .i64 d7, .string d8, .string d9] 29))) := Lib.hid (((Below.refl _ _).alloc (Nat.le_refl _) _).alloc (by simp) _)
  unfold Dg.val
  dsimp only
  by_cases h0 : a0 = d0
  · subst h0
    by_cases h1 : a1 = d1
    · subst h1
      by_cases h2 : a0 = 3
      · subst h2
        by_cases h3 : a2 = d2
        · subst h3
          go_enter Try.func18, Try.ntmps18
          go_wp2_with fail
          go_ret
          exact ⟨by simp, HB.out⟩
        · have e3 : ((a2 : Int) == (d2 : Int)) = false := beq_eq_false_iff_ne.2 (by omega)
          have H3 := Lib.hid h3
          clear h3
          go_enter Try.func18, Try.ntmps18
          go_wp2_with fail
          go_ret
          exact ⟨by simp [H3.out], HB.out⟩
      · have e2 : (a0 == 3) = false := beq_eq_false_iff_ne.2 h2
        have H2 := Lib.hid h2
        clear h2
        go_enter Try.func18, Try.ntmps18
        go_wp2_with fail
        go_ret
        exact ⟨by simp [H2.out], HB.out⟩
    · have e1 : (a1 == d1) = false := beq_eq_false_iff_ne.2 h1
      have H1 := Lib.hid h1
      clear h1
      go_enter Try.func18, Try.ntmps18
      go_wp2_with fail
      go_ret
      exact ⟨by simp [H1.out], HB.out⟩
  · have e0 : (a0 == d0) = false := beq_eq_false_iff_ne.2 h0
    have H0 := Lib.hid h0
    clear h0
    go_enter Try.func18, Try.ntmps18
    go_wp2_with fail
    go_ret
    exact ⟨by simp [H0.out], HB.out⟩
end Go.Proofs.Ytmnbkghihdbepaa

/- Proved: what the document's Drop of layer 25 answers. Conditions: those that the theorems name. -/
namespace Go.Proofs.Ytmnbkghihdbepaa
open Go.ChangeShapes Go.WideShapes Go.ChangeAt Go.RowKit

theorem keepS_take {S : List Dg} {u : Dg → Bool} {i : Nat} {d : Dg} (h : S[i]? = some d) : keepS u (S.take (i + 1)) = keepS u (S.take i) ++ (if u d = true then [] else [d]) := by
  unfold keepS
  rw [List.take_add_one, h, List.filter_append]
  congr 1
  simp only [Option.toList, List.filter_cons, List.filter_nil]
  cases u d <;> rfl
theorem keepS_few (S : List Dg) (u : Dg → Bool) (i : Nat) : (keepS u (S.take i)).length ≤ S.length := Nat.le_trans (keepS_len u _) (List.length_take_le' _ _)
set_option maxRecDepth 100000 in
set_option maxHeartbeats 1600000 in
theorem rdrop_any {w : World} {c : Nat → Prop} {A : Option Addr} {cp : Nat} {S : List Dg} (h : Cl w c A (dcs S)) (hc : ∀ g, w.heap.size ≤ g → c g) (hS : S.length ≤ 60000) (s : Int) :
    Calls Try.prog 12 #[.slice A S.length cp, .int .i64 s] w (GivesR w c (keepS (dropU s) S) ((S.length - (keepS (dropU s) S).length : Nat) : Int)) := by
  have HG0 := Lib.hid h
  have HC := Lib.hid hc
  have hfw : (S.length : Int) ≤ 60000 := by omega
  have HKL := Lib.hid (keepS_len (dropU s) S)
  clear h hc hS
  generalize hm : S.length = m at *
  have HM := Lib.hid hm
  clear hm
  go_enter Try.func12, Try.ntmps12
  go_wp2_with fail
  go_loopw [6, 7] (fun v i wr => ∃ j : Nat, j ≤ m ∧ i = .int .i64 j ∧ wr.ownsRow w.heap.size 29 10 v (keepS (dropU s) (S.take j)).length (dcs (keepS (dropU s) (S.take j))) ∧ Below w.heap.size w wr) (fun _ i _ => m - (intOf i).toNat)
  case atStart => exact ⟨0, by omega, rfl, World.ownsRow_nil _ _ _ _, Below.refl _ _⟩
  case round =>
    obtain ⟨i, hj, rfl, hown, hbel⟩ := hrel
    have HO := Lib.hid hown
    have HB := Lib.hid hbel
    clear hown hbel
    have hj0 : (0 : Int) ≤ (i : Int) := Int.natCast_nonneg _
    by_cases hlt : i < m
    · obtain ⟨x, hx⟩ : ∃ x, S[i]? = some x := ⟨_, List.getElem?_eq_getElem (by rw [HM.out]; exact hlt)⟩
      obtain ⟨g, o, e, _, hgl, hcs⟩ := HG0.out.dg hx
      have e : A = some ⟨g, o, none⟩ := e
      subst e
      have HT := Lib.hid (keepS_take (u := dropU s) hx)
      have HLL : Hid ((keepS (dropU s) (S.take i)).length ≤ 65536) := Lib.hid (by have := keepS_few S (dropU s) i; rw [HM.out] at this; omega)
      have hlt' : (i : Int) < (m : Int) := by omega
      have HV := Lib.hid (dv_one HO.out HLL.out HB.out.size x)
      obtain ⟨x0, x1, x2, x3, x4, x5, x6, x7, x8, x9⟩ := x
      have d0 : wr.cell? ⟨g, o + i * 10, none⟩ = some (.int .i64 x0) := (HB.out.cell (p := ⟨g, o + i * 10, none⟩) hgl).trans (hcs 0 _ rfl)
      have d1 := (HB.out.cell (p := ⟨g, o + i * 10 + 1, none⟩) hgl).trans (hcs 1 _ rfl)
      have d2 := (HB.out.cell (p := ⟨g, o + i * 10 + 2, none⟩) hgl).trans (hcs 2 _ rfl)
      have d3 := (HB.out.cell (p := ⟨g, o + i * 10 + 3, none⟩) hgl).trans (hcs 3 _ rfl)
      have d4 := (HB.out.cell (p := ⟨g, o + i * 10 + 4, none⟩) hgl).trans (hcs 4 _ rfl)
      have d5 := (HB.out.cell (p := ⟨g, o + i * 10 + 5, none⟩) hgl).trans (hcs 5 _ rfl)
      have d6 := (HB.out.cell (p := ⟨g, o + i * 10 + 6, none⟩) hgl).trans (hcs 6 _ rfl)
      have d7 := (HB.out.cell (p := ⟨g, o + i * 10 + 7, none⟩) hgl).trans (hcs 7 _ rfl)
      have d8 := (HB.out.cell (p := ⟨g, o + i * 10 + 8, none⟩) hgl).trans (hcs 8 _ rfl)
      have d9 := (HB.out.cell (p := ⟨g, o + i * 10 + 9, none⟩) hgl).trans (hcs 9 _ rfl)
      clear hcs hx hgl
      by_cases e : x1 = s ∧ ¬ x0 = 6
      · obtain ⟨rfl, e6⟩ := e
        have hP : dropU x1 ⟨x0, x1, x2, x3, x4, x5, x6, x7, x8, x9⟩ = true := by simp [dropU, e6]
        rw [hP, if_pos rfl, List.append_nil] at HT
        have hn1 : (x1 != x1) = false := by simp
        have hn6 : (x0 == 6) = false := beq_eq_false_iff_ne.2 e6
        clear hP e6
        go_wp2_with fail
        go_roundw
        case rel => exact ⟨i + 1, by omega, by go_num, by rw [HT.out]; exact HO.out, HB.out⟩
        case measure => simp [intOf]; omega
      · have hP : dropU s ⟨x0, x1, x2, x3, x4, x5, x6, x7, x8, x9⟩ = false := by
          simp only [dropU, Bool.and_eq_false_iff, decide_eq_false_iff_not, Bool.not_eq_false', decide_eq_true_eq]
          by_cases h : x1 = s
          · right; exact Classical.byContradiction fun q => e ⟨h, q⟩
          · left; exact h
        rw [hP, if_neg (by decide)] at HT
        obtain ⟨v', w', hr, ho, hg⟩ := HV.out
        have HO2 := Lib.hid ho
        have HB2 : Hid (Below w.heap.size w w') := Lib.hid ((HB.out.alloc HB.out.size _).trans (below_grown hg (Nat.le_trans HB.out.size (by simp)) fun k e => (HO.out.lt k e).1))
        dsimp only at hr
        clear ho hg hP
        by_cases h1 : x1 = s
        · have h6 : x0 = 6 := Classical.byContradiction fun q => e ⟨h1, q⟩
          subst h1; subst h6
          have hn1 : (x1 != x1) = false := by simp
          clear e
          go_wp2_with (at_builtin; refine Lib.wpList_append_run _ rfl _ _ _ _ rfl _ _ rfl rfl _ _ hr ?_)
          go_roundw
          case rel => exact ⟨i + 1, by omega, by go_num, by rw [HT.out, List.length_append]; exact HO2.out, HB2.out⟩
          case measure => simp [intOf]; omega
        · have hn1 : (x1 != s) = true := by simpa using h1
          clear e h1
          go_wp2_with (at_builtin; refine Lib.wpList_append_run _ rfl _ _ _ _ rfl _ _ rfl rfl _ _ hr ?_)
          go_roundw
          case rel => exact ⟨i + 1, by omega, by go_num, by rw [HT.out, List.length_append]; exact HO2.out, HB2.out⟩
          case measure => simp [intOf]; omega
    · obtain rfl : i = m := by omega
      have HT : Hid (S.take i = S) := Lib.hid (by rw [← HM.out, List.take_length])
      rw [HT.out] at HO
      obtain ⟨A3, cap, rfl, hcap, hno, hcl⟩ := Cl.own (c := c) HO.out (fun g hg => HC.out g hg)
      have HF := Lib.hid (And.intro hcl (And.intro hcap hno))
      clear hcl hcap hno HO
      have hsub : ((keepS (dropU s) S).length : Int) ≤ (i : Int) := by have := HKL.out; omega
      have hy0 : (0 : Int) ≤ ((keepS (dropU s) S).length : Int) := Int.natCast_nonneg _
      have HSUB : Hid ((i : Int) - ((keepS (dropU s) S).length : Int) = ((i - (keepS (dropU s) S).length : Nat) : Int)) := Lib.hid (by omega)
      generalize keepS (dropU s) S = T at *
      go_wp2_with fail
      rw [HSUB.out]
      go_ret2
      exact ⟨A3, cap, rfl, HF.out.1, HF.out.2.1, HF.out.2.2, HB.out⟩
end Go.Proofs.Ytmnbkghihdbepaa

/- Proved: lemmas of one statement's proof, merged by program: what each part proves stands ahead of it. Conditions: those that the lemmas name. -/
import Derived.Test.YtedecminaopgaaaM27
import Derived.Test.YtedecminaopgaaaM29
import Derived.StillTailTactics
import Derived.Lib.MinMax

/- Proved: what the document's New, Numbers, Held, Lacks of what a stream takes answer. Conditions: those that the theorems name. -/
namespace Go.Proofs.Ytedecminaopgaaa
open Go.ChangeShapes Go.WideShapes Go.ChangeAt Go.RowKit

theorem ri_numbers (A B : Option Addr) (n c c' : Nat) (l : List Int) (w : World) (hl : Uw w A n l) (hr : Uw w B n l) (hn : n ≤ 1000) :
    Calls Try.prog 15 #[.slice A n c, .slice B n c'] w fun e w' => e = .returned (.bool true) ∧ Below w.heap.size w w' := by
  have HS := Lib.hid (rsame15 A B n c c' l w hl hr hn)
  clear hl hr hn
  go_enter Try.func15, Try.ntmps15
  go_wp2_with fail
  refine HS.out.mono ?_; rintro e w1 ⟨rfl, g1⟩
  have G1 := Lib.hid g1
  clear g1
  go_wp2_with fail
  go_ret
  exact ⟨rfl, G1.out⟩

/-! ### Held -/
theorem szX_le {X : List Xb} (h : ∀ y ∈ X, y.2.size ≤ 1048576) (j : Nat) : szX (X.take j) ≤ j * 1048576 := by
  induction X generalizing j with
  | nil => simp [szX]
  | cons y r ih =>
    cases j with
    | zero => simp [szX]
    | succ j =>
      have h1 := h y (by simp)
      have h2 := ih (fun z hz => h z (by simp [hz])) j
      rw [List.take_succ_cons]
      show y.2.size + szX (r.take j) ≤ _
      rw [Nat.succ_mul]; omega
set_option maxRecDepth 100000 in
set_option maxHeartbeats 1600000 in
theorem ri_held (c : Cf) (M : IbM) (p : RiP) (S : List Int) (X : List Xb) (w : World) (h : RiM w M p S X) (hI : IbI M) (hB : U32 M.B) (hl : M.L.length ≤ 64) (hs : M.s.size ≤ 1048576) :
    Calls Try.prog 19 #[riV c M p] w fun e w' => e = .returned (.int .i64 M.hd) ∧ Below w.heap.size w w' := by
  obtain ⟨W1, HW, A1, B1, _⟩ := ribox c M p w
  have HB1 := Lib.hid B1
  have HO := Lib.hid (h.o.below B1)
  have HD : Hid (M.hd = (M.s.size : Int) + (szX X : Nat)) := Lib.hid (by rw [hI.held, h.rel.sum hB hl]; omega)
  have HT : Hid (∀ y ∈ X, y.2.size ≤ 1048576) := Lib.hid fun y hy => by
    obtain ⟨i, hi, _, hs, _⟩ := (h.rel.all y.1 y.2).1 hy
    rw [← hs, st_at hi]
    exact hI.text _ (List.getElem_mem hi)
  have hm := h.rel.few hl
  have HOM := Lib.hid h.om
  have c13 := A1.cell 13 rfl
  have c15 := A1.cell 15 rfl
  have hs0 : (0 : Int) ≤ (M.s.size : Int) := Int.natCast_nonneg _
  have hs1 : (M.s.size : Int) ≤ 1048576 := by omega
  rw [h.om] at c13
  generalize hml : X.length = m at *
  have HML := Lib.hid hml
  have hm' : (m : Int) ≤ 64 := by omega
  clear h hI hB hl hs A1 B1 hml
  go_enter Try.func19, Try.ntmps19
  go_upto_region 1 with fail
  change Code.wp _ _ _ _ (w.alloc (.cells (ri c M p).toArray tI))
  rw [← HW]; clear HW
  go_wp2_with fail
  go_loopw [3, 4] (fun v i wr => ∃ j : Nat, j ≤ m ∧ i = .int .i64 j ∧ v = .int .i64 ((M.s.size : Int) + (szX (X.take j) : Nat)) ∧ wr = W1) (fun _ i _ => m - (intOf i).toNat)
  case atStart => exact ⟨0, by omega, rfl, by simp [szX], rfl⟩
  case round =>
    obtain ⟨j, hj, rfl, rfl, rfl⟩ := hrel
    have hj0 : (0 : Int) ≤ (j : Int) := Int.natCast_nonneg _
    have hz := szX_le HT.out j
    have hz1 : ((szX (X.take j) : Nat) : Int) ≤ 67108864 := by
      have : j * 1048576 ≤ 64 * 1048576 := Nat.mul_le_mul_right _ (by omega)
      omega
    have hz0 : (0 : Int) ≤ ((szX (X.take j) : Nat) : Int) := Int.natCast_nonneg _
    clear hz
    by_cases hlt : j < m
    · obtain ⟨y, hy⟩ : ∃ y, X[j]? = some y := ⟨_, List.getElem?_eq_getElem (by rw [HML.out]; exact hlt)⟩
      obtain ⟨g, o, hA, _, d0, d1⟩ := Bw.at_ HO.out hy
      have HY := Lib.hid (szX_take hy)
      have hy1 : (y.2.size : Int) ≤ 1048576 := by have := HT.out y (List.mem_of_getElem? hy); omega
      have hy0 : (0 : Int) ≤ (y.2.size : Int) := Int.natCast_nonneg _
      have hlt' : (j : Int) < (m : Int) := by omega
      rw [hA] at c13
      clear hy
      obtain ⟨y0, y1⟩ := y
      dsimp only at d0 d1 HY hy1 hy0
      generalize szX (X.take j) = sz at *
      go_wp2_with fail
      go_roundw
      case rel => exact ⟨j + 1, by omega, by go_num, by rw [HY.out]; go_num, trivial⟩
      case measure => simp [intOf]; omega
    · obtain rfl : j = m := by omega
      have e : X.take j = X := by rw [← HML.out, List.take_length]
      rw [e]
      have HD' := HD.out
      go_wp2_with fail
      go_ret
      rw [HD']
      exact ⟨rfl, HB1.out⟩

/-! ### Lacks -/
set_option maxRecDepth 100000 in
set_option maxHeartbeats 3200000 in
theorem ri_lacks (c : Cf) (M : IbM) (p : RiP) (S : List Int) (X : List Xb) (d : Nat) (w : World) (h : RiM w M p S X) (hv : Sv M S d) (hk : M.k ≤ 64) (hS : S.length ≤ 300) (hd : d ≤ 1000) (hB : U32 M.B) (hl : M.L.length ≤ 64) :
    Calls Try.prog 17 #[riV c M p] w (GivesU w (lkL M.B M.L M.k)) := by
  obtain ⟨W1, HW, A1, B1, _⟩ := ribox c M p w
  have HB1 := Lib.hid B1
  have HR := Lib.hid (h.below B1)
  have HA1 := Lib.hid A1
  have HV := Lib.hid hv
  have HAh := Lib.hid (fun (x : Int) (hx : U32 x) W => rahead_any M.B x hB hx W)
  have HH : Hid (∀ V i, Below W1.heap.size W1 V → i ≤ 65 → Calls Try.prog 40 #[.agg #[.int .u32 M.B, .int .i64 M.n, .slice p.oA p.om p.oc], .int .u32 (wpl M.B i)] V fun e w' => e = .returned (.bool (!emB (st_ M.L i))) ∧ Below V.heap.size V w') := Lib.hid fun V i g hi => by
    have hh := has_place (L := M.L) hB (wpl_u32 M.B i) hl
    have e : hasO M.B M.L (wpl M.B i) = !emB (st_ M.L i) := by unfold hasO atO; rw [ah_place hB (by omega), atZ_nat]
    rw [← e, h.om]
    exact rhas23_any M.B M.n p.oA p.oc M.L X (wpl M.B i) V ((h.o.below B1).below g) h.rel hB (wpl_u32 _ _) hl
  have HK : Hid (M.k ≤ 64 ∧ d ≤ 1000 ∧ U32 M.B ∧ W1.heap.size = w.heap.size + 1) := Lib.hid ⟨hk, hd, hB, by rw [HW]; simp⟩
  have hsl : p.sm = S.length := h.s.1.symm
  have c11 := A1.cell 11 rfl
  have c14 := A1.cell 14 rfl
  rw [hsl] at c14
  have HU : Hid (Uw W1 p.sA S.length S) := Lib.hid (by rw [← hsl]; exact (h.s.below B1))
  have hS' : (S.length : Int) ≤ 300 := by omega
  generalize hml : S.length = m at *
  have HML := Lib.hid hml
  clear h hv hk hS hd hB hl A1 B1 hsl hml
  go_enter Try.func17, Try.ntmps17
  go_upto_region 1 with fail
  change Code.wp _ _ _ _ (w.alloc (.cells (ri c M p).toArray tI))
  rw [← HW]; clear HW
  go_wp2_with fail
  go_loopw [3, 4] (fun v i wr => ∃ (j : Nat) (z : Int), j ≤ m ∧ i = .int .i64 j ∧ v = .int .i64 z ∧ -1 ≤ z ∧ z ≤ (M.k : Int) - 1 ∧ (∀ q, q < j → ah M.B (S.getD q 0) ≤ z) ∧ Below W1.heap.size W1 wr) (fun _ i _ => m - (intOf i).toNat)
  case atStart => exact ⟨0, -1, by omega, rfl, rfl, by omega, by omega, fun q hq => absurd hq (by omega), Below.refl _ _⟩
  case round =>
    obtain ⟨j, z, hj, rfl, rfl, hz0, hz1, hall, hbel⟩ := hrel
    have HAL := Lib.hid hall
    have HBL := Lib.hid hbel
    have HK64 : (M.k : Int) ≤ 64 := by have := HK.out.1; omega
    clear hall hbel c11 c14
    have c11 := (HA1.out.below HBL.out HA1.out.lt).cell 11 rfl
    have c14 := (HA1.out.below HBL.out HA1.out.lt).cell 14 rfl
    have hsl : p.sm = m := by rw [← HML.out]; exact HR.out.s.1.symm
    rw [hsl] at c14
    have hj0 : (0 : Int) ≤ (j : Int) := Int.natCast_nonneg _
    by_cases hlt : j < m
    · obtain ⟨ad, hA, had, d0⟩ := (HU.out.below HBL.out).at_ hlt
      have hlt' : (j : Int) < (m : Int) := by omega
      rw [hA] at c14
      obtain ⟨y, hy⟩ : ∃ y, S.getD j 0 = y := ⟨_, rfl⟩
      have hmem : y ∈ S := by
        rw [← hy, List.getD_eq_getElem?_getD, List.getElem?_eq_getElem (by rw [HML.out]; exact hlt)]
        exact List.getElem_mem _
      obtain ⟨hu, hlo, hhi⟩ := HV.out.ins y hmem
      have HA := Lib.hid (fun W => HAh.out y hu W)
      have hlo' : -1000 ≤ ah M.B y := by have := HK.out.2.1; omega
      have HY := Lib.hid hy
      rw [hy] at d0
      clear hy hmem hu hlo hsl
      generalize hq : ah M.B y = q at *
      have HQ := Lib.hid hq
      clear hq
      go_wp2_with fail
      refine wp_region_still_tail 10 (by kernel_rfl) (by kernel_rfl) ?_
      simp only [List.take_succ_cons, List.take_zero, List.drop_succ_cons, List.drop_zero]
      repeat still_step
      still_call ((HA.out _).mono fun _ _ h => ⟨h.1, h.2.symm⟩)
      refine wpStill_nil ?_
      change wpList _ _ _ _ _ wr.drew
      have HB2 : Hid (Below W1.heap.size W1 wr.drew) := Lib.hid HBL.out.drew
      clear HA d0
      generalize wr.drew = w2 at *
      go_wp2_with fail
      go_roundw
      case rel =>
        refine ⟨j + 1, max z q, by omega, by go_num, rfl, by omega, by omega, fun i hi => ?_, HB2.out⟩
        rcases Nat.lt_or_ge i j with e | e
        · have := HAL.out i e; omega
        · obtain rfl : i = j := by omega
          rw [HY.out, HQ.out]; omega
      case measure => simp [intOf]; omega
    · obtain rfl : j = m := by omega
      have hz : z = (M.k : Int) - 1 := by
        rcases HV.out.top with e | ⟨x, hx, e⟩
        · omega
        · obtain ⟨i, hi, e2⟩ := List.mem_iff_getElem.1 hx
          have := HAL.out i (by have := HML.out; omega)
          rw [List.getD_eq_getElem?_getD, List.getElem?_eq_getElem hi] at this
          have this : ah M.B S[i] ≤ z := this
          rw [e2, e] at this
          omega
      have HZ := Lib.hid hz
      clear hz
      have hlt' : ¬ (j : Int) < (j : Int) := by omega
      go_wp2_with fail
      clear hlt' c11 c14
      go_loopw [5, 6] (fun v i wr2 => ∃ q : Nat, (q : Int) ≤ z + 1 ∧ i = .int .i64 q ∧ wr2.ownsRow W1.heap.size 32 1 v (lkL M.B M.L q).length (ucells (lkL M.B M.L q)) ∧ Below W1.heap.size W1 wr2) (fun _ i _ => z.toNat + 1 - (intOf i).toNat)
      case atStart => exact ⟨0, by have := HZ.out; show (0 : Int) ≤ z + 1; omega, rfl, World.ownsRow_nil _ _ _ _, HBL.out⟩
      case round =>
        obtain ⟨q, hq, rfl, hown, hb2⟩ := hrel
        have HO := Lib.hid hown
        have HB2 := Lib.hid hb2
        have hq0 : (0 : Int) ≤ (q : Int) := Int.natCast_nonneg _
        have hqk : (q : Int) ≤ 64 := by have := HZ.out; omega
        have hz64 : z ≤ 64 := by have := HZ.out; omega
        clear hown hb2
        have HA2 := Lib.hid (HA1.out.below HB2.out HA1.out.lt)
        have c11 := HA2.out.cell 11 rfl
        have c12 := HA2.out.cell 12 rfl
        have c13 := HA2.out.cell 13 rfl
        by_cases hlt2 : (q : Int) ≤ z
        · have hx : (M.B + (q : Int)) % 4294967296 = wpl M.B q := rfl
          have HC := Lib.hid (HH.out wr q HB2.out (by omega))
          cases hin : emB (st_ M.L q)
          · rw [hin] at HC
            have HI : Hid (lkL M.B M.L (q + 1) = lkL M.B M.L q) := Lib.hid (by show lkL M.B M.L q ++ (if _ then _ else _) = _; rw [if_neg (by rw [hin]; decide), List.append_nil])
            clear hin
            generalize wpl M.B q = y at *
            go_wp2_with fail
            refine HC.out.mono ?_; rintro e w3 ⟨rfl, g3⟩
            have HB3 := Lib.hid (HB2.out.trans (g3.mono HB2.out.size))
            have HO3 : Hid (w3.ownsRow W1.heap.size 32 1 u5 (lkL M.B M.L q).length (ucells (lkL M.B M.L q))) := Lib.hid (HO.out.kept (grown_below g3 none) (Classical.em _))
            clear g3 HO HB2 c11 c12 c13
            go_wp2_with fail
            go_roundw
            case rel => exact ⟨q + 1, by omega, by go_num, by rw [HI.out]; exact HO3.out, HB3.out⟩
            case measure => simp only [intOf]; omega
          · rw [hin] at HC
            have HI : Hid (lkL M.B M.L (q + 1) = lkL M.B M.L q ++ [wpl M.B q]) := Lib.hid (by show lkL M.B M.L q ++ (if _ then _ else _) = _; rw [if_pos hin])
            have HQL : Hid ((lkL M.B M.L q).length ≤ 64) := Lib.hid (by have := lk_len M.B M.L q; omega)
            clear hin
            generalize hpl : lkL M.B M.L q = pl at HI HQL HO ⊢
            generalize wpl M.B q = y at HI HC hx ⊢
            clear hpl
            go_wp2_with fail
            refine HC.out.mono ?_; rintro e w3 ⟨rfl, g3⟩
            have HB3 := Lib.hid (HB2.out.trans (g3.mono HB2.out.size))
            have HO3 : Hid ((w3.alloc (.cells #[.int .u32 y] 32)).ownsRow W1.heap.size 32 1 u5 pl.length (ucells pl)) := Lib.hid ((HO.out.kept (grown_below g3 none) (Classical.em _)).alloc (.cells #[.int .u32 y] 32))
            have hb3 := (Below.refl w3.heap.size w3).alloc (Nat.le_refl _) (.cells #[.int .u32 y] 32)
            have HB4 := Lib.hid (HB3.out.trans (hb3.mono HB3.out.size))
            have hs3 : W1.heap.size ≤ (w3.alloc (.cells #[.int .u32 y] 32)).heap.size := HB4.out.size
            have HRB : Hid (∀ q, u5.ownBlock = some q → W1.heap.size ≤ q) := Lib.hid fun q e => (HO.out.lt q e).1
            have hqq := HQL.out
            have HC2 := Lib.hid (uw_one w3 y)
            clear g3 HO HC hb3 HB2 HB3 c11 c12 c13
            go_wp2_with (at_builtin; refine uw_append rfl _ _ rfl _ _ _ pl rfl HO3.out _ 1 1 [y] rfl HC2.out (fun e => nomatch e) (by omega) hs3 ?_; intro v4 w4 hown4 hg4; have HO4 := Lib.hid hown4; have HG4 := Lib.hid hg4; clear hown4 hg4)
            go_roundw
            case rel =>
              refine ⟨q + 1, by omega, by go_num, ?_, HB4.out.grown HG4.out HB4.out.size HRB.out⟩
              rw [HI.out, List.length_append]; exact HO4.out
            case measure => simp only [intOf]; omega
        · have hqz : (q : Int) = z + 1 := by omega
          have HQK : Hid (q = M.k) := Lib.hid (by have := HZ.out; omega)
          clear hqz
          go_wp2_with fail
          go_ret
          obtain ⟨A, cc, e1, e2, e3, e4⟩ := uw_of HO.out
          rw [e1]
          have hsz := HK.out.2.2.2
          rw [HQK.out] at e2 e4 ⊢
          exact ⟨A, cc, rfl, e2, e3, e4, HB1.out.trans (HB2.out.mono HB1.out.size)⟩
end Go.Proofs.Ytedecminaopgaaa

/- Proved: what the document's at, Get and Same of calls answer. Conditions: those that the theorems name. -/
import Derived.Test.YtamcpdhehipcfaaCaBase
namespace Go.Proofs.Ytamcpdhehipcfaa
open Go.ChangeShapes Go.WideShapes Go.ChangeAt Go.RowKit

/-! ### at -/
/-- the place of a call; -1: none waits. -/
def placeW (l : List Wt) (k : Pk) : Int := match l.findIdx? (fun x => decide (x.key = k)) with | some j => (j : Int) | none => -1
theorem placeW_none {l : List Wt} {k : Pk} (h : wasW l k = false) : placeW l k = -1 := by
  unfold placeW
  rw [List.findIdx?_eq_none_iff.2 fun x hx => by simpa using wasW_neg.1 h x hx]
theorem placeW_some {l : List Wt} {k : Pk} {j : Nat} (hj : j < l.length) (he : (wt_ l j).key = k) (hn : ∀ p, p < j → (wt_ l p).key ≠ k) : placeW l k = j := by
  unfold placeW
  have : l.findIdx? (fun x => decide (x.key = k)) = some j := by
    rw [List.findIdx?_eq_some_iff_getElem]
    refine ⟨hj, ?_, fun p hp => ?_⟩
    · rw [← wt_at hj]; simpa using he
    · have := hn p hp
      rw [wt_at (by omega)] at this
      simpa using this
  rw [this]
set_option maxRecDepth 100000 in
set_option maxHeartbeats 1600000 in
theorem rca_at (A : Option Addr) (n c : Nat) (l : List Wt) (s k : Int) (w : World) (hl : Ws w A n l) (hn : n ≤ 1000) :
    Calls Try.prog 17 #[.slice A n c, .int .i64 s, .int .i64 k] w fun e w' => e = .returned (.int .i64 (placeW l (s, k))) ∧ Below w.heap.size w w' := by
  have HL := Lib.hid hl
  have HS : Hid (∀ j, j < n → (wt_ l j).key = (s, k) → (∀ p, p < j → (wt_ l p).key ≠ (s, k)) → placeW l (s, k) = j) := Lib.hid fun j hj he hn => placeW_some (by rw [hl.len]; exact hj) he hn
  have HN : Hid ((∀ p, p < n → (wt_ l p).key ≠ (s, k)) → placeW l (s, k) = -1) := Lib.hid fun h => placeW_none (notW_was hl.len h)
  generalize placeW l (s, k) = z at *
  clear hl
  go_enter Try.func17, Try.ntmps17
  go_wp2_with fail
  go_loopw [7] (fun i wr => ∃ j : Nat, j ≤ n ∧ i = .int .i64 j ∧ (∀ p, p < j → (wt_ l p).key ≠ (s, k)) ∧ Below w.heap.size w wr) (fun i _ => n - (intOf i).toNat)
  case atStart => exact ⟨0, by omega, rfl, fun p hp => absurd hp (by omega), Below.refl _ _⟩
  case round =>
    obtain ⟨j, hj, rfl, hne, hbel⟩ := hrel
    have HB := Lib.hid hbel
    have HD := Lib.hid hne
    clear hbel hne
    have hj0 : (0 : Int) ≤ (j : Int) := Int.natCast_nonneg _
    by_cases hlt : j < n
    · obtain ⟨ad, rfl, had, hcw⟩ := HL.out.at_ hlt
      have hlt' : (j : Int) < (n : Int) := by omega
      obtain ⟨c0, c1, c2, c3, c4⟩ := hcw.below HB.out (by rw [add_block]; exact had)
      have HSJ := Lib.hid (HS.out j hlt)
      have HXX : Hid (∃ y, wt_ l j = y) := Lib.hid ⟨_, rfl⟩
      have HNE : Hid ((wt_ l j).key ≠ (s, k) → ∀ p, p < j + 1 → (wt_ l p).key ≠ (s, k)) := Lib.hid fun hh p hp => by
        rcases Nat.lt_or_ge p j with q | q
        · exact HD.out p q
        · obtain rfl : p = j := by omega
          exact hh
      clear hcw HXX c0 c3 c4
      generalize wt_ l j = y at *
      obtain ⟨y0, y1, y2, y3, y4⟩ := y
      dsimp only [Wt.key] at c1 c2 HSJ HNE
      by_cases h2 : y2 = s
      · subst h2
        by_cases h1 : y1 = k
        · subst h1
          have hz := HSJ.out rfl HD.out
          subst hz
          go_wp2_with fail
          go_ret
          exact ⟨rfl, HB.out⟩
        · have h1' : decide (y1 = k) = false := decide_eq_false h1
          have h1b : (y1 == k) = false := by simp [h1]
          have HD2 := Lib.hid (HNE.out (fun e => h1 (congrArg Prod.snd e)))
          clear HNE HSJ h1
          go_wp2_with fail
          go_roundw
          case rel => exact ⟨j + 1, by omega, by go_num, HD2.out, HB.out⟩
          case measure => simp [intOf]; omega
      · have h2' : decide (y2 = s) = false := decide_eq_false h2
        have h2b : (y2 == s) = false := by simp [h2]
        have HD2 := Lib.hid (HNE.out (fun e => h2 (congrArg Prod.fst e)))
        clear HNE HSJ h2
        go_wp2_with fail
        go_roundw
        case rel => exact ⟨j + 1, by omega, by go_num, HD2.out, HB.out⟩
        case measure => simp [intOf]; omega
    · obtain rfl : j = n := by omega
      obtain rfl := HN.out HD.out
      go_wp2_with fail
      go_ret
      exact ⟨rfl, HB.out⟩

/-! ### Get -/
theorem res_rcget {T : Array Value} {W : World} {b : Nat} {x : Wt} {z : Bool} (h6 : T.getD 6 undef = .pointer (some ⟨b, 0, none⟩)) (h7 : T.getD 7 undef = .bool z) (h : At W b tW (wtC x)) : (results Try.f8 T).run Try.prog W = .ok (.tuple #[wtV x, .bool z]) W := by
  have hl := wt_out h
  rw [results_cell_tmp rfl, h6, h7]
  simp only [asAddr, Sem.run_pure, Result.andThen_ok, hl]
/-- either none waits there, or the one at some place does. -/
theorem placeW_cases (l : List Wt) (hl : GoodW l) (k : Pk) : (wasW l k = false ∧ placeW l k = -1 ∧ atW l k = wt0) ∨ ∃ j, j < l.length ∧ wasW l k = true ∧ placeW l k = (j : Int) ∧ atW l k = wt_ l j := by
  cases h : wasW l k
  · exact Or.inl ⟨rfl, placeW_none h, atW_none h⟩
  · obtain ⟨x, hx, rfl⟩ := wasW_iff.1 h
    cases hf : l.findIdx? (fun y => decide (y.key = x.key)) with
    | none =>
      have := List.findIdx?_eq_none_iff.1 hf x hx
      simp at this
    | some j =>
      obtain ⟨hj, he, _⟩ := List.findIdx?_eq_some_iff_getElem.1 hf
      have e : l[j] = x := hl.one (List.getElem_mem hj) hx (by simpa using he)
      refine Or.inr ⟨j, hj, rfl, ?_, ?_⟩
      · unfold placeW; rw [hf]
      · rw [atW_mem hl hx, wt_at hj, e]
set_option maxRecDepth 100000 in
set_option maxHeartbeats 1600000 in
theorem rca_get (A : Option Addr) (n c : Nat) (l : List Wt) (s k : Int) (w : World) (hl : Ws w A n l) (hg : GoodW l) (hn : n ≤ 1000) :
    Calls Try.prog 8 #[.slice A n c, .int .i64 s, .int .i64 k] w fun e w' => e = .returned (.tuple #[wtV (atW l (s, k)), .bool (wasW l (s, k))]) ∧ Below w.heap.size w w' := by
  obtain ⟨W1, HW, A1, B1, hz⟩ := wbox wt0 w
  have HL := Lib.hid (hl.below B1)
  have HAt := Lib.hid (rca_at A n c l s k W1 (hl.below B1) hn)
  have HA1 := Lib.hid A1
  have HB1 := Lib.hid B1
  have HLen := Lib.hid hl.len
  clear A1 B1 hz hl
  rcases placeW_cases l hg (s, k) with ⟨e1, e2, e3⟩ | ⟨j, hj, e1, e2, e3⟩
  · rw [e1, e3]
    rw [e2] at HAt
    clear e1 e2 e3 hg
    go_enter Try.func8, Try.ntmps8
    go_upto_region 1 with fail
    change Code.wp _ _ _ _ (w.alloc (.cells (wtC wt0).toArray tW))
    rw [← HW]; clear HW
    go_wp2_with fail
    refine HAt.out.mono ?_; rintro e W2 ⟨rfl, g2⟩
    have HA2 := Lib.hid (HA1.out.below g2 HA1.out.lt)
    have HB2 := Lib.hid (HB1.out.trans (g2.mono HB1.out.size))
    clear g2 HA1 HB1 HAt
    go_wp2_with (refine wpw_store rfl _ _ rfl rfl wt0 rfl HA2.out rfl ?_; intro W3 ha3 hg3 _; have HA3 := Lib.hid ha3; have HB3 := Lib.hid (HB2.out.grown hg3 HB2.out.size (fun q e => by injection e with e; omega)); clear ha3 hg3)
    exact bodyPost_ret (v := .tuple #[wtV wt0, .bool false]) (res_rcget rfl rfl HA3.out) rfl ⟨rfl, HB3.out⟩
  · rw [e1, e3]
    rw [e2] at HAt
    have hjn : j < n := by rw [← HLen.out]; exact hj
    obtain ⟨ad, rfl, had, hcw⟩ := HL.out.at_ hjn
    have HCW := Lib.hid hcw
    have HAD := Lib.hid had
    clear e1 e2 e3 hg hcw hj
    generalize wt_ l j = y at *
    have hj0 : (0 : Int) ≤ (j : Int) := Int.natCast_nonneg _
    have hjn' : (j : Int) < (n : Int) := by omega
    go_enter Try.func8, Try.ntmps8
    go_upto_region 1 with fail
    change Code.wp _ _ _ _ (w.alloc (.cells (wtC wt0).toArray tW))
    rw [← HW]; clear HW
    go_wp2_with fail
    refine HAt.out.mono ?_; rintro e W2 ⟨rfl, g2⟩
    have HA2 := Lib.hid (HA1.out.below g2 HA1.out.lt)
    have HB2 := Lib.hid (HB1.out.trans (g2.mono HB1.out.size))
    have HC2 := Lib.hid (HCW.out.below g2 (by rw [add_block]; exact HAD.out))
    clear g2 HA1 HB1 HAt HCW
    go_wp2_with (first
      | (refine wpw_load rfl _ rfl rfl HC2.out ?_)
      | (refine wpw_store rfl _ _ rfl rfl y rfl HA2.out rfl ?_; intro W3 ha3 hg3 _; have HA3 := Lib.hid ha3; have HB3 := Lib.hid (HB2.out.grown hg3 HB2.out.size (fun q e => by injection e with e; omega)); clear ha3 hg3))
    exact bodyPost_ret (v := .tuple #[wtV y, .bool true]) (res_rcget rfl rfl HA3.out) rfl ⟨rfl, HB3.out⟩

/-! ### Same -/
set_option maxRecDepth 100000 in
set_option maxHeartbeats 1600000 in
theorem rca_same (A B : Option Addr) (n c d : Nat) (l : List Wt) (w : World) (ha : Ws w A n l) (hb : Ws w B n l) (hn : n ≤ 1000) :
    Calls Try.prog 13 #[.slice A n c, .slice B n d] w fun e w' => e = .returned (.bool true) ∧ Below w.heap.size w w' := by
  have HX := Lib.hid ha
  have HY := Lib.hid hb
  clear ha hb
  go_enter Try.func13, Try.ntmps13
  go_wp2_with fail
  go_loopw [5] (fun i wr => ∃ j : Nat, j ≤ n ∧ i = .int .i64 j ∧ Below w.heap.size w wr) (fun i _ => n - (intOf i).toNat)
  case atStart => exact ⟨0, by omega, rfl, Below.refl _ _⟩
  case round =>
    obtain ⟨j, hj, rfl, hbel⟩ := hrel
    have HB := Lib.hid hbel
    clear hbel
    have hj0 : (0 : Int) ≤ (j : Int) := Int.natCast_nonneg _
    by_cases hlt : j < n
    · obtain ⟨ad, rfl, had, hcw⟩ := HX.out.at_ hlt
      obtain ⟨ae, rfl, hae, hdw⟩ := HY.out.at_ hlt
      have hlt' : (j : Int) < (n : Int) := by omega
      obtain ⟨c0, c1, c2, c3, c4⟩ := hcw.below HB.out (by rw [add_block]; exact had)
      obtain ⟨d0, d1, d2, d3, d4⟩ := hdw.below HB.out (by rw [add_block]; exact hae)
      have he := fun W => neq_wt (wt_ l j) (wt_ l j) W
      rw [decide_eq_true rfl] at he
      unfold wtV at he
      clear hcw hdw had hae
      generalize wt_ l j = y at *
      obtain ⟨y0, y1, y2, y3, y4⟩ := y
      dsimp only at c0 c1 c2 c3 c4 d0 d1 d2 d3 d4 he
      go_wp2_with fail
      go_quiet (fail)
      go_wp2_with fail
      go_roundw
      case rel => exact ⟨j + 1, by omega, by go_num, HB.out.grown (grown_drewN _ _ none) HB.out.size (by simp)⟩
      case measure => simp [intOf]; omega
    · obtain rfl : j = n := by omega
      go_wp2_with fail
      go_ret
      exact ⟨rfl, HB.out⟩
end Go.Proofs.Ytamcpdhehipcfaa

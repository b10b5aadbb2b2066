/- Proved: what the document's Ask of calls answers. Conditions: those that the theorems name. -/
import Derived.Test.YtamcpdhehipcfaaCaRef
namespace Go.Proofs.Ytamcpdhehipcfaa
open Go.ChangeShapes Go.WideShapes Go.ChangeAt Go.RowKit

/-! ### a call of a client, by value -/
def clC (x : Wt) : List Value := [.int .i64 x.kind, .int .i64 x.str, .int .i64 x.num, .string x.body]
def clV (x : Wt) : Value := .agg (clC x).toArray
abbrev tCl : TypeId := 28
theorem tCl_size : (Try.prog.info? tCl).map (·.size) = some 4 := by kernel_rfl
theorem clC_one (x : Wt) : ∀ v ∈ clC x, v.oneCell' = true := by
  intro v hv
  unfold clC at hv
  simp only [List.mem_cons, List.not_mem_nil, or_false] at hv
  rcases hv with rfl | rfl | rfl | rfl <;> rfl
theorem cl_range {w : World} {b : Nat} {x : Wt} (h : At w b tW (wtC x)) : w.rangeAt b 1 (clC x) := fun j v hj => by
  have hl := (List.getElem?_eq_some_iff.1 hj).1
  match j, hj with
  | 0, hj => exact h.cell 1 hj
  | 1, hj => exact h.cell 2 hj
  | 2, hj => exact h.cell 3 hj
  | 3, hj => exact h.cell 4 hj
  | (j + 4), hj => simp [clC] at hj
section
variable {ops : Array Oper} {rest : List Oper} {op : Oper} {a : Act} {w : World} {Q : Exit → Act → World → Prop}
theorem wpc_load (hgd : op.guard = none) (y : Operand) (ho : op.op = .load tCl y) {b : Nat} (hx : a.eval y = .pointer (some ⟨b, 1, none⟩)) {x : Wt} (hA : At w b tW (wtC x))
    (h : wpList Try.prog ops Q rest (a.put op.dst (clV x)) w) : wpList Try.prog ops Q (op :: rest) a w :=
  wpList_load_mid hgd tCl y ho b 1 hx (clC x) _ (cl_range hA) Try.underlying28 rfl tCl_size h
theorem wpc_store (hgd : op.guard = none) (y z : Operand) (ho : op.op = .store tCl y z) {b : Nat} (hx : a.eval y = .pointer (some ⟨b, 0, none⟩)) (x : Wt) (hz : a.eval z = clV x) {old : List Value} (hA : At w b tCl old) (hl : old.length = 4)
    (h : ∀ w', At w' b tCl (clC x) → w.grownBy w' (some b) → w'.heap.size = w.heap.size → wpList Try.prog ops Q rest (a.put op.dst undef) w') : wpList Try.prog ops Q (op :: rest) a w :=
  wpList_store_mid hgd tCl y z ho b 0 (clC x).toArray hx hz (hA.there (by rw [hl]; rfl)) tCl_size (all_oneCell_toArray (clC_one x)) (h _ (hA.all_ _ (by rw [hl]; rfl)) (grown_sets _ _ _ _) (size_sets _ _ _ _))
end

/-- What Ask answers: the calls, and the error's number. -/
def GivesAskR (w : World) (l : List Wt) (x : Wt) (e : Ending) (w' : World) : Prop :=
  ∃ A n c, e = .returned (.tuple #[.slice A n c, .int .i64 (askE l x)]) ∧ Ws w' A n (askM l x) ∧ n ≤ c ∧ (A = none → c = 0) ∧ Below w.heap.size w w'
set_option maxRecDepth 100000 in
set_option maxHeartbeats 3200000 in
theorem rca_ask_bad (A : Option Addr) (n c : Nat) (l : List Wt) (x : Wt) (w : World) (hl : Ws w A n l) (hc : n ≤ c) (ha : A = none → c = 0) (hm : ¬ x.May) :
    Calls Try.prog 9 #[.slice A n c, wtV x] w (GivesAskR w l x) := by
  obtain ⟨W1, HW, A1, B1, hz⟩ := wbox x w
  have HA1 := Lib.hid A1
  have HAx := Lib.hid (A1.alloc (.cells [Value.int .i64 0, .int .i64 0, .int .i64 0, .string ByteArray.empty].toArray tCl))
  have HBx := Lib.hid (B1.alloc B1.size (.cells [Value.int .i64 0, .int .i64 0, .int .i64 0, .string ByteArray.empty].toArray tCl))
  have HX1 := Lib.hid (At.new W1 tCl [Value.int .i64 0, .int .i64 0, .int .i64 0, .string ByteArray.empty])
  have HZ := Lib.hid hz
  have HL := Lib.hid hl
  have HCN : Hid (n ≤ c ∧ (A = none → c = 0)) := Lib.hid ⟨hc, ha⟩
  unfold GivesAskR askE askM
  rw [if_pos hm, if_pos hm]
  unfold Wt.May at hm
  clear A1 B1 hz hl hc ha
  by_cases h1 : x.kind < 2
  · clear hm
    go_enter Try.func9, Try.ntmps9
    go_upto_region 1 with fail
    change Code.wp _ _ _ _ (w.alloc (.cells (wtC x).toArray tW))
    rw [← HW]; clear HW
    go_upto_region 2 with (first
      | (refine wpc_load rfl _ rfl rfl HA1.out ?_)
      | (refine wpc_store rfl _ _ rfl rfl x rfl HX1.out rfl ?_; intro W2 ha2 hg2 _; have HD2 := Lib.hid ha2; have HA2 := Lib.hid (HAx.out.kept hg2 (fun e => by injection e with e; have := HZ.out; omega)); have HB2 := Lib.hid (HBx.out.grown hg2 HBx.out.size (fun q e => by injection e with e; have := HZ.out; omega)); have HT2 := Lib.hid (HL.out.below (HBx.out.grown hg2 HBx.out.size (fun q e => by injection e with e; have := HZ.out; omega))); clear ha2 hg2))
    have k0 := HD2.out.cell 0 rfl
    have k1 := HD2.out.cell 1 rfl
    clear HX1 HA1 HAx HBx HL
    go_wp2_with fail
    go_ret2
    exact ⟨_, _, _, rfl, HT2.out, HCN.out.1, HCN.out.2, HB2.out⟩
  · by_cases h2 : 4 < x.kind
    · have h1' : decide (x.kind < 2) = false := decide_eq_false h1
      clear hm h1
      go_enter Try.func9, Try.ntmps9
      go_upto_region 1 with fail
      change Code.wp _ _ _ _ (w.alloc (.cells (wtC x).toArray tW))
      rw [← HW]; clear HW
      go_upto_region 2 with (first
        | (refine wpc_load rfl _ rfl rfl HA1.out ?_)
        | (refine wpc_store rfl _ _ rfl rfl x rfl HX1.out rfl ?_; intro W2 ha2 hg2 _; have HD2 := Lib.hid ha2; have HA2 := Lib.hid (HAx.out.kept hg2 (fun e => by injection e with e; have := HZ.out; omega)); have HB2 := Lib.hid (HBx.out.grown hg2 HBx.out.size (fun q e => by injection e with e; have := HZ.out; omega)); have HT2 := Lib.hid (HL.out.below (HBx.out.grown hg2 HBx.out.size (fun q e => by injection e with e; have := HZ.out; omega))); clear ha2 hg2))
      have k0 := HD2.out.cell 0 rfl
      have k1 := HD2.out.cell 1 rfl
      clear HX1 HA1 HAx HBx HL
      go_wp2_with fail
      go_ret2
      exact ⟨_, _, _, rfl, HT2.out, HCN.out.1, HCN.out.2, HB2.out⟩
    · by_cases h3 : x.str < 0
      · have h1' : decide (x.kind < 2) = false := decide_eq_false h1
        have h2' : decide (4 < x.kind) = false := decide_eq_false h2
        clear hm h1 h2
        go_enter Try.func9, Try.ntmps9
        go_upto_region 1 with fail
        change Code.wp _ _ _ _ (w.alloc (.cells (wtC x).toArray tW))
        rw [← HW]; clear HW
        go_upto_region 2 with (first
          | (refine wpc_load rfl _ rfl rfl HA1.out ?_)
          | (refine wpc_store rfl _ _ rfl rfl x rfl HX1.out rfl ?_; intro W2 ha2 hg2 _; have HD2 := Lib.hid ha2; have HA2 := Lib.hid (HAx.out.kept hg2 (fun e => by injection e with e; have := HZ.out; omega)); have HB2 := Lib.hid (HBx.out.grown hg2 HBx.out.size (fun q e => by injection e with e; have := HZ.out; omega)); have HT2 := Lib.hid (HL.out.below (HBx.out.grown hg2 HBx.out.size (fun q e => by injection e with e; have := HZ.out; omega))); clear ha2 hg2))
        have k0 := HD2.out.cell 0 rfl
        have k1 := HD2.out.cell 1 rfl
        clear HX1 HA1 HAx HBx HL
        go_wp2_with fail
        go_ret2
        exact ⟨_, _, _, rfl, HT2.out, HCN.out.1, HCN.out.2, HB2.out⟩
      · have h1' : decide (x.kind < 2) = false := decide_eq_false h1
        have h2' : decide (4 < x.kind) = false := decide_eq_false h2
        have h3' : decide (x.str < 0) = false := decide_eq_false h3
        have h4 : 255 < x.str := by omega
        clear hm h1 h2 h3
        go_enter Try.func9, Try.ntmps9
        go_upto_region 1 with fail
        change Code.wp _ _ _ _ (w.alloc (.cells (wtC x).toArray tW))
        rw [← HW]; clear HW
        go_upto_region 2 with (first
          | (refine wpc_load rfl _ rfl rfl HA1.out ?_)
          | (refine wpc_store rfl _ _ rfl rfl x rfl HX1.out rfl ?_; intro W2 ha2 hg2 _; have HD2 := Lib.hid ha2; have HA2 := Lib.hid (HAx.out.kept hg2 (fun e => by injection e with e; have := HZ.out; omega)); have HB2 := Lib.hid (HBx.out.grown hg2 HBx.out.size (fun q e => by injection e with e; have := HZ.out; omega)); have HT2 := Lib.hid (HL.out.below (HBx.out.grown hg2 HBx.out.size (fun q e => by injection e with e; have := HZ.out; omega))); clear ha2 hg2))
        have k0 := HD2.out.cell 0 rfl
        have k1 := HD2.out.cell 1 rfl
        clear HX1 HA1 HAx HBx HL
        go_wp2_with fail
        go_ret2
        exact ⟨_, _, _, rfl, HT2.out, HCN.out.1, HCN.out.2, HB2.out⟩
set_option maxRecDepth 100000 in
set_option maxHeartbeats 3200000 in
theorem rca_ask_busy (A : Option Addr) (n c : Nat) (l : List Wt) (x : Wt) (w : World) (hl : Ws w A n l) (hg : GoodW l) (hn : n ≤ 900) (hc : n ≤ c) (ha : A = none → c = 0) (hm : x.May) (hw : wasW l x.key = true) :
    Calls Try.prog 9 #[.slice A n c, wtV x] w (GivesAskR w l x) := by
  obtain ⟨W1, HW, A1, B1, hz⟩ := wbox x w
  have HA1 := Lib.hid A1
  have HAx := Lib.hid (A1.alloc (.cells [Value.int .i64 0, .int .i64 0, .int .i64 0, .string ByteArray.empty].toArray tCl))
  have HBx := Lib.hid (B1.alloc B1.size (.cells [Value.int .i64 0, .int .i64 0, .int .i64 0, .string ByteArray.empty].toArray tCl))
  have HX1 := Lib.hid (At.new W1 tCl [Value.int .i64 0, .int .i64 0, .int .i64 0, .string ByteArray.empty])
  have HZ := Lib.hid hz
  have HL := Lib.hid hl
  have HCN : Hid (n ≤ c ∧ (A = none → c = 0)) := Lib.hid ⟨hc, ha⟩
  unfold GivesAskR askE askM
  rw [if_neg (not_not_intro hm), if_neg (not_not_intro hm), if_pos hw, if_pos hw]
  obtain ⟨j, hj⟩ : ∃ j : Nat, placeW l x.key = j := by
    rcases placeW_cases l hg x.key with ⟨e1, _⟩ | ⟨j, _, _, e, _⟩
    · rw [hw] at e1; cases e1
    · exact ⟨j, e⟩
  have HAT : Hid (∀ W, Ws W A n l → Calls Try.prog 17 #[.slice A n c, .int .i64 x.str, .int .i64 x.kind] W fun e w' => e = .returned (.int .i64 (j : Nat)) ∧ Below W.heap.size W w') := Lib.hid fun W g => by
    have := rca_at A n c l x.str x.kind W g (by omega)
    rw [show placeW l (x.str, x.kind) = (j : Int) from hj] at this
    exact this
  have hj0 : (0 : Int) ≤ (j : Int) := Int.natCast_nonneg _
  obtain ⟨h1, h2, h3, h4⟩ := hm
  have h1' : decide (x.kind < 2) = false := decide_eq_false (by omega)
  have h2' : decide (4 < x.kind) = false := decide_eq_false (by omega)
  have h3' : decide (x.str < 0) = false := decide_eq_false (by omega)
  have h4' : decide (255 < x.str) = false := decide_eq_false (by omega)
  clear A1 B1 hz hl hc ha hj hg hn hw h1 h2 h3 h4
  go_enter Try.func9, Try.ntmps9
  go_upto_region 1 with fail
  change Code.wp _ _ _ _ (w.alloc (.cells (wtC x).toArray tW))
  rw [← HW]; clear HW
  go_upto_region 2 with (first
    | (refine wpc_load rfl _ rfl rfl HA1.out ?_)
    | (refine wpc_store rfl _ _ rfl rfl x rfl HX1.out rfl ?_; intro W2 ha2 hg2 _; have HD2 := Lib.hid ha2; have HA2 := Lib.hid (HAx.out.kept hg2 (fun e => by injection e with e; have := HZ.out; omega)); have HB2 := Lib.hid (HBx.out.grown hg2 HBx.out.size (fun q e => by injection e with e; have := HZ.out; omega)); have HT2 := Lib.hid (HL.out.below (HBx.out.grown hg2 HBx.out.size (fun q e => by injection e with e; have := HZ.out; omega))); clear ha2 hg2))
  have k0 := HD2.out.cell 0 rfl
  have k1 := HD2.out.cell 1 rfl
  clear HX1 HA1 HAx HBx HL
  go_wp2_with fail
  refine (HAT.out _ HT2.out).mono ?_; rintro e W3 ⟨rfl, g3⟩
  have HT3 := Lib.hid (HT2.out.below g3)
  have HB3 := Lib.hid (HB2.out.trans (g3.mono HB2.out.size))
  clear g3 HAT HT2 HB2 k0 k1 HD2 HA2
  go_wp2_with fail
  go_ret2
  exact ⟨_, _, _, rfl, HT3.out, HCN.out.1, HCN.out.2, HB3.out⟩
set_option maxRecDepth 100000 in
set_option maxHeartbeats 3200000 in
theorem rca_ask_good (A : Option Addr) (n c : Nat) (l : List Wt) (x : Wt) (w : World) (hl : Ws w A n l) (hn : n ≤ 900) (hc : n ≤ c) (ha : A = none → c = 0) (hm : x.May) (hw : wasW l x.key = false) :
    Calls Try.prog 9 #[.slice A n c, wtV x] w (GivesAskR w l x) := by
  obtain ⟨W1, HW, A1, B1, hz⟩ := wbox x w
  have HA1 := Lib.hid A1
  have HAx := Lib.hid (A1.alloc (.cells [Value.int .i64 0, .int .i64 0, .int .i64 0, .string ByteArray.empty].toArray tCl))
  have HBx := Lib.hid (B1.alloc B1.size (.cells [Value.int .i64 0, .int .i64 0, .int .i64 0, .string ByteArray.empty].toArray tCl))
  have HX1 := Lib.hid (At.new W1 tCl [Value.int .i64 0, .int .i64 0, .int .i64 0, .string ByteArray.empty])
  have HZ := Lib.hid hz
  have HL := Lib.hid hl
  have HL0 := Lib.hid hl
  have HCN : Hid (n ≤ c ∧ (A = none → c = 0)) := Lib.hid ⟨hc, ha⟩
  unfold GivesAskR askE askM
  rw [if_neg (not_not_intro hm), if_neg (not_not_intro hm), if_neg (by rw [hw]; decide), if_neg (by rw [hw]; decide)]
  have HAT : Hid (∀ W, Ws W A n l → Calls Try.prog 17 #[.slice A n c, .int .i64 x.str, .int .i64 x.kind] W fun e w' => e = .returned (.int .i64 (-1)) ∧ Below W.heap.size W w') := Lib.hid fun W g => by
    have := rca_at A n c l x.str x.kind W g (by omega)
    rw [show placeW l (x.str, x.kind) = -1 from placeW_none hw] at this
    exact this
  obtain ⟨h1, h2, h3, h4⟩ := hm
  have h1' : decide (x.kind < 2) = false := decide_eq_false (by omega)
  have h2' : decide (4 < x.kind) = false := decide_eq_false (by omega)
  have h3' : decide (x.str < 0) = false := decide_eq_false (by omega)
  have h4' : decide (255 < x.str) = false := decide_eq_false (by omega)
  clear A1 B1 hz hl hc ha hw h1 h2 h3 h4
  go_enter Try.func9, Try.ntmps9
  go_upto_region 1 with fail
  change Code.wp _ _ _ _ (w.alloc (.cells (wtC x).toArray tW))
  rw [← HW]; clear HW
  go_upto_region 2 with (first
    | (refine wpc_load rfl _ rfl rfl HA1.out ?_)
    | (refine wpc_store rfl _ _ rfl rfl x rfl HX1.out rfl ?_; intro W2 ha2 hg2 _; have HD2 := Lib.hid ha2; have HA2 := Lib.hid (HAx.out.kept hg2 (fun e => by injection e with e; have := HZ.out; omega)); have HB2 := Lib.hid (HBx.out.grown hg2 HBx.out.size (fun q e => by injection e with e; have := HZ.out; omega)); have HT2 := Lib.hid (HL.out.below (HBx.out.grown hg2 HBx.out.size (fun q e => by injection e with e; have := HZ.out; omega))); clear ha2 hg2))
  have k0 := HD2.out.cell 0 rfl
  have k1 := HD2.out.cell 1 rfl
  clear HX1 HA1 HAx HBx HL
  go_wp2_with fail
  refine (HAT.out _ HT2.out).mono ?_; rintro e W3 ⟨rfl, g3⟩
  have HB3 := Lib.hid (HB2.out.trans (g3.mono HB2.out.size))
  have HA3 := Lib.hid (HA2.out.below g3 HA2.out.lt)
  have HD3 := Lib.hid (HD2.out.below g3 HD2.out.lt)
  clear g3 HAT HT2 HB2 k0 k1 HD2 HA2 h1' h2' h3' h4'
  obtain ⟨b6, hb6⟩ : ∃ b6, b6 = W1.heap.size := ⟨_, rfl⟩
  rw [← hb6] at HD3 ⊢
  clear hb6 HZ
  have HL := HL0
  clear HL0
  go_wp2_with fail
  go_loopw [7] (fun i wr => ∃ j : Nat, j ≤ n ∧ i = .int .i64 j ∧ (∀ q, q < j → lessW (wt_ l q) x = true) ∧ At wr w.heap.size tW (wtC x) ∧ At wr b6 tCl (clC x) ∧ Below w.heap.size w wr) (fun i _ => n - (intOf i).toNat)
  case atStart => exact ⟨0, by omega, rfl, fun q hq => absurd hq (by omega), HA3.out, HD3.out, HB3.out⟩
  case round =>
    obtain ⟨j, hj, rfl, hls, hat, hdt, hbel⟩ := hrel
    have HA := Lib.hid hat
    have HD := Lib.hid hdt
    have HB := Lib.hid hbel
    have HS := Lib.hid hls
    have y0 := hdt.cell 0 rfl
    have y1 := hdt.cell 1 rfl
    clear hat hdt hbel hls HA3 HD3 HB3
    have hj0 : (0 : Int) ≤ (j : Int) := Int.natCast_nonneg _
    by_cases hlt : j < n
    · obtain ⟨ad, rfl, had, hcw⟩ := HL.out.at_ hlt
      have hlt' : (j : Int) < (n : Int) := by omega
      have hd : decide ((j : Int) < (n : Int)) = true := decide_eq_true hlt'
      obtain ⟨c0, c1, c2, c3, c4⟩ := hcw.below HB.out (by rw [add_block]; exact had)
      have HNX : Hid (lessW (wt_ l j) x = true → ∀ q, q < j + 1 → lessW (wt_ l q) x = true) := Lib.hid fun hh q hq => by
        rcases Nat.lt_or_ge q j with h | h
        · exact HS.out q h
        · obtain rfl : q = j := by omega
          exact hh
      have HEX : Hid (lessW (wt_ l j) x = false → l.takeWhile (fun y => lessW y x) = l.take j ∧ l.dropWhile (fun y => lessW y x) = l.drop j) := Lib.hid fun hh => takeW_is (by rw [HL.out.len]; exact hj) HS.out fun _ => hh
      clear hcw had c0 c3 c4
      generalize wt_ l j = y at *
      by_cases g1 : y.str < x.str
      · have g1' : decide (y.str < x.str) = true := decide_eq_true g1
        have HSN := Lib.hid (HNX.out ((lessW_iff _ _).2 (Or.inl g1)))
        clear g1
        clear HEX HNX
        go_wp2_with fail
        go_quiet (fail)
        have HA4 := Lib.hid (HA.out.kept (grown_drewN wr nq none) (by simp))
        have HD4 := Lib.hid (HD.out.kept (grown_drewN wr nq none) (by simp))
        have HB4 := Lib.hid (HB.out.grown (grown_drewN wr nq none) HB.out.size (by simp))
        go_wp2_with fail
        go_roundw
        case rel => exact ⟨j + 1, by omega, by go_num, HSN.out, HA4.out, HD4.out, HB4.out⟩
        case measure => simp [intOf]; omega
      · have g1' : decide (y.str < x.str) = false := decide_eq_false g1
        by_cases g2 : y.str = x.str
        · have g2' : (y.str == x.str) = true := by simp [g2]
          by_cases g3 : y.kind < x.kind
          · have g3' : decide (y.kind < x.kind) = true := decide_eq_true g3
            have HSN := Lib.hid (HNX.out ((lessW_iff _ _).2 (Or.inr ⟨g2, g3⟩)))
            clear g1 g2 g3
            clear HEX HNX
            go_wp2_with fail
            go_quiet (fail)
            have HA4 := Lib.hid (HA.out.kept (grown_drewN wr nq none) (by simp))
            have HD4 := Lib.hid (HD.out.kept (grown_drewN wr nq none) (by simp))
            have HB4 := Lib.hid (HB.out.grown (grown_drewN wr nq none) HB.out.size (by simp))
            go_wp2_with fail
            go_roundw
            case rel => exact ⟨j + 1, by omega, by go_num, HSN.out, HA4.out, HD4.out, HB4.out⟩
            case measure => simp [intOf]; omega
          · have g3' : decide (y.kind < x.kind) = false := decide_eq_false g3
            have HDn := Lib.hid (HEX.out ((lessW_neg _ _).2 (by omega)))
            clear HEX HNX g1 g2 g3
            go_wp2_with fail
            go_quiet (fail)
            clear c1 c2 hd g1' g2' g3' hlt
            have hh := wt_head_run (some ad) n c j (by have := HCN.out.1; omega)
            have hr := wt_rest_run (some ad) n c j hj
            have HRT : Hid (wtA (some ad) c j = none → c - j = 0) := Lib.hid (by
              intro e
              unfold wtA at e
              split at e
              · omega
              · cases hA : (some ad) with
                | none => rw [HCN.out.2 hA]; omega
                | some _ => rw [hA] at e; cases e)
            have HTx := Lib.hid (HL.out.below (HB.out.grown (grown_drewN wr nq none) HB.out.size (by simp)))
            have HAx := Lib.hid (HA.out.kept (grown_drewN wr nq none) (by simp))
            have HBx := Lib.hid (HB.out.grown (grown_drewN wr nq none) HB.out.size (by simp))
            clear HA HB HD y0 y1
            generalize wr.drewN nq = w4 at *
            have hbb : w4.heap.size ≤ w4.heap.size := Nat.le_refl _
            have HWB0 := Lib.hid HBx.out.size
            obtain ⟨bb, hbbe⟩ : ∃ bb, w4.heap.size = bb := ⟨_, rfl⟩
            have HWB : Hid (w.heap.size ≤ bb) := Lib.hid (by rw [← hbbe]; exact HWB0.out)
            have hbs : bb ≤ w4.heap.size := by omega
            have HTB : Hid (∀ ad', (some ad : Option Addr) = some ad' → 0 < n → ad'.block < bb) := Lib.hid (by rw [← hbbe]; exact HTx.out.lt)
            clear hbb HWB0 hbbe
            go_wp2_with (first
              | (at_builtin; refine wt_append rfl _ _ _ rfl Try.underlying26 bb (.slice none 0 0) 0 [] rfl (World.ownsRow_nil _ _ _ _) (some ad) j c (l.take j) rfl (HTx.out.cut hj) HCN.out.2 (by omega) hbs ?_; intro v5 w5 hown5 hg5; have hg5' : w4.grownBy w5 none := hg5; have HO5 := Lib.hid hown5; have HT5 := Lib.hid (HTx.out.below (below_grown hg5' (Nat.le_refl _) (by simp))); have HA5 := Lib.hid (HAx.out.kept hg5' (by simp)); have HB5 := Lib.hid (HBx.out.grown hg5' HBx.out.size (by simp)); have hbs5 : bb ≤ w5.heap.size := Nat.le_trans hbs hg5'.size; clear hown5 hg5 hg5' HTx HAx HBx)
              | (refine wpw_load rfl _ rfl rfl (wtc_at HA5.out) ?_)
              | (refine wpw_one rfl _ rfl x rfl ?_; intro w6 hw6; have q1 := HO5.out.alloc (.cells (wtC x).toArray tW); have q2 := HT5.out.below ((Below.refl w5.heap.size w5).alloc (Nat.le_refl _) (.cells (wtC x).toArray tW)); have q3 := HB5.out.alloc HB5.out.size (.cells (wtC x).toArray tW); have q4 := ws_lit w5 x; have q5 : bb ≤ (w5.alloc (.cells (wtC x).toArray tW)).heap.size := (by simp; omega); rw [← hw6] at q1 q2 q3 q4 q5; have HO6 := Lib.hid q1; have HT6 := Lib.hid q2; have HB6 := Lib.hid q3; have HX6 := Lib.hid q4; have hbs6 := q5; clear hw6 q1 q2 q3 q4 q5)
              | (at_builtin; refine wt_append rfl _ _ _ rfl Try.underlying26 bb v5 (0 + j) ([] ++ l.take j) rfl HO6.out _ 1 1 [x] rfl HX6.out (fun e => nomatch e) (by omega) hbs6 ?_; intro v7 w7 hown7 hg7; have HO7 := Lib.hid hown7; have HR7 : Hid (∀ q, v5.ownBlock = some q → bb ≤ q) := Lib.hid (fun q e => (HO6.out.lt q e).1); have HT7 := Lib.hid (HT6.out.grown2 hg7 HR7.out HTB.out); have HB7 := Lib.hid (HB6.out.grown hg7 HB6.out.size (fun q e => Nat.le_trans HWB.out (HR7.out q e))); have hbs7 : bb ≤ w7.heap.size := Nat.le_trans hbs6 hg7.size; clear hown7 hg7)
              | (at_builtin; refine wt_append rfl _ _ _ rfl Try.underlying26 bb v7 (0 + j + 1) ([] ++ l.take j ++ [x]) rfl HO7.out _ (n - j) (c - j) (l.drop j) rfl (HT7.out.rest HCN.out.1 hj) HRT.out (by omega) hbs7 ?_; intro v8 w8 hown8 hg8; have HO8 := Lib.hid hown8; have HB8 := Lib.hid (HB7.out.grown hg8 HB7.out.size (fun q e => Nat.le_trans HWB.out (HO7.out.lt q e).1)); clear hown8 hg8))
            obtain ⟨A9, c9, rfl, hc9, hn9, ht9⟩ := ws_of HO8.out
            have HT9 := Lib.hid ht9
            clear ht9
            go_wp2_with fail
            go_ret2
            refine ⟨_, _, _, rfl, ?_, hc9, hn9, HB8.out⟩
            have e : ([] ++ l.take j ++ [x] ++ l.drop j : List Wt) = putW l x := by
              unfold putW
              rw [HDn.out.1, HDn.out.2]
              simp
            rw [e] at HT9
            exact HT9.out
        · have g2' : (y.str == x.str) = false := by simp [g2]
          have HDn := Lib.hid (HEX.out ((lessW_neg _ _).2 (by omega)))
          clear HEX HNX g1 g2
          go_wp2_with fail
          go_quiet (fail)
          clear c1 c2 hd g1' g2' hlt
          have hh := wt_head_run (some ad) n c j (by have := HCN.out.1; omega)
          have hr := wt_rest_run (some ad) n c j hj
          have HRT : Hid (wtA (some ad) c j = none → c - j = 0) := Lib.hid (by
            intro e
            unfold wtA at e
            split at e
            · omega
            · cases hA : (some ad) with
              | none => rw [HCN.out.2 hA]; omega
              | some _ => rw [hA] at e; cases e)
          have HTx := Lib.hid (HL.out.below (HB.out.grown (grown_drewN wr nq none) HB.out.size (by simp)))
          have HAx := Lib.hid (HA.out.kept (grown_drewN wr nq none) (by simp))
          have HBx := Lib.hid (HB.out.grown (grown_drewN wr nq none) HB.out.size (by simp))
          clear HA HB HD y0 y1
          generalize wr.drewN nq = w4 at *
          have hbb : w4.heap.size ≤ w4.heap.size := Nat.le_refl _
          have HWB0 := Lib.hid HBx.out.size
          obtain ⟨bb, hbbe⟩ : ∃ bb, w4.heap.size = bb := ⟨_, rfl⟩
          have HWB : Hid (w.heap.size ≤ bb) := Lib.hid (by rw [← hbbe]; exact HWB0.out)
          have hbs : bb ≤ w4.heap.size := by omega
          have HTB : Hid (∀ ad', (some ad : Option Addr) = some ad' → 0 < n → ad'.block < bb) := Lib.hid (by rw [← hbbe]; exact HTx.out.lt)
          clear hbb HWB0 hbbe
          go_wp2_with (first
            | (at_builtin; refine wt_append rfl _ _ _ rfl Try.underlying26 bb (.slice none 0 0) 0 [] rfl (World.ownsRow_nil _ _ _ _) (some ad) j c (l.take j) rfl (HTx.out.cut hj) HCN.out.2 (by omega) hbs ?_; intro v5 w5 hown5 hg5; have hg5' : w4.grownBy w5 none := hg5; have HO5 := Lib.hid hown5; have HT5 := Lib.hid (HTx.out.below (below_grown hg5' (Nat.le_refl _) (by simp))); have HA5 := Lib.hid (HAx.out.kept hg5' (by simp)); have HB5 := Lib.hid (HBx.out.grown hg5' HBx.out.size (by simp)); have hbs5 : bb ≤ w5.heap.size := Nat.le_trans hbs hg5'.size; clear hown5 hg5 hg5' HTx HAx HBx)
            | (refine wpw_load rfl _ rfl rfl (wtc_at HA5.out) ?_)
            | (refine wpw_one rfl _ rfl x rfl ?_; intro w6 hw6; have q1 := HO5.out.alloc (.cells (wtC x).toArray tW); have q2 := HT5.out.below ((Below.refl w5.heap.size w5).alloc (Nat.le_refl _) (.cells (wtC x).toArray tW)); have q3 := HB5.out.alloc HB5.out.size (.cells (wtC x).toArray tW); have q4 := ws_lit w5 x; have q5 : bb ≤ (w5.alloc (.cells (wtC x).toArray tW)).heap.size := (by simp; omega); rw [← hw6] at q1 q2 q3 q4 q5; have HO6 := Lib.hid q1; have HT6 := Lib.hid q2; have HB6 := Lib.hid q3; have HX6 := Lib.hid q4; have hbs6 := q5; clear hw6 q1 q2 q3 q4 q5)
            | (at_builtin; refine wt_append rfl _ _ _ rfl Try.underlying26 bb v5 (0 + j) ([] ++ l.take j) rfl HO6.out _ 1 1 [x] rfl HX6.out (fun e => nomatch e) (by omega) hbs6 ?_; intro v7 w7 hown7 hg7; have HO7 := Lib.hid hown7; have HR7 : Hid (∀ q, v5.ownBlock = some q → bb ≤ q) := Lib.hid (fun q e => (HO6.out.lt q e).1); have HT7 := Lib.hid (HT6.out.grown2 hg7 HR7.out HTB.out); have HB7 := Lib.hid (HB6.out.grown hg7 HB6.out.size (fun q e => Nat.le_trans HWB.out (HR7.out q e))); have hbs7 : bb ≤ w7.heap.size := Nat.le_trans hbs6 hg7.size; clear hown7 hg7)
            | (at_builtin; refine wt_append rfl _ _ _ rfl Try.underlying26 bb v7 (0 + j + 1) ([] ++ l.take j ++ [x]) rfl HO7.out _ (n - j) (c - j) (l.drop j) rfl (HT7.out.rest HCN.out.1 hj) HRT.out (by omega) hbs7 ?_; intro v8 w8 hown8 hg8; have HO8 := Lib.hid hown8; have HB8 := Lib.hid (HB7.out.grown hg8 HB7.out.size (fun q e => Nat.le_trans HWB.out (HO7.out.lt q e).1)); clear hown8 hg8))
          obtain ⟨A9, c9, rfl, hc9, hn9, ht9⟩ := ws_of HO8.out
          have HT9 := Lib.hid ht9
          clear ht9
          go_wp2_with fail
          go_ret2
          refine ⟨_, _, _, rfl, ?_, hc9, hn9, HB8.out⟩
          have e : ([] ++ l.take j ++ [x] ++ l.drop j : List Wt) = putW l x := by
            unfold putW
            rw [HDn.out.1, HDn.out.2]
            simp
          rw [e] at HT9
          exact HT9.out
    · have hlt' : ¬ (j : Int) < (n : Int) := by omega
      have HDn : Hid (l.takeWhile (fun y => lessW y x) = l.take j ∧ l.dropWhile (fun y => lessW y x) = l.drop j) := Lib.hid (takeW_is (by rw [HL.out.len]; exact hj) HS.out fun h => absurd h (by rw [HL.out.len]; exact hlt))
      have hd : decide ((j : Int) < (n : Int)) = false := decide_eq_false hlt'
      go_wp2_with fail
      go_quiet (fail)
      clear hd hlt
      have hh := wt_head_run A n c j (by have := HCN.out.1; omega)
      have hr := wt_rest_run A n c j hj
      have HRT : Hid (wtA A c j = none → c - j = 0) := Lib.hid (by
        intro e
        unfold wtA at e
        split at e
        · omega
        · cases hA : A with
          | none => rw [HCN.out.2 hA]; omega
          | some _ => rw [hA] at e; cases e)
      have HTx := Lib.hid (HL.out.below (HB.out.grown (grown_drewN wr nq none) HB.out.size (by simp)))
      have HAx := Lib.hid (HA.out.kept (grown_drewN wr nq none) (by simp))
      have HBx := Lib.hid (HB.out.grown (grown_drewN wr nq none) HB.out.size (by simp))
      clear HA HB HD y0 y1
      generalize wr.drewN nq = w4 at *
      have hbb : w4.heap.size ≤ w4.heap.size := Nat.le_refl _
      have HWB0 := Lib.hid HBx.out.size
      obtain ⟨bb, hbbe⟩ : ∃ bb, w4.heap.size = bb := ⟨_, rfl⟩
      have HWB : Hid (w.heap.size ≤ bb) := Lib.hid (by rw [← hbbe]; exact HWB0.out)
      have hbs : bb ≤ w4.heap.size := by omega
      have HTB : Hid (∀ ad', A = some ad' → 0 < n → ad'.block < bb) := Lib.hid (by rw [← hbbe]; exact HTx.out.lt)
      clear hbb HWB0 hbbe
      go_wp2_with (first
        | (at_builtin; refine wt_append rfl _ _ _ rfl Try.underlying26 bb (.slice none 0 0) 0 [] rfl (World.ownsRow_nil _ _ _ _) A j c (l.take j) rfl (HTx.out.cut hj) HCN.out.2 (by omega) hbs ?_; intro v5 w5 hown5 hg5; have hg5' : w4.grownBy w5 none := hg5; have HO5 := Lib.hid hown5; have HT5 := Lib.hid (HTx.out.below (below_grown hg5' (Nat.le_refl _) (by simp))); have HA5 := Lib.hid (HAx.out.kept hg5' (by simp)); have HB5 := Lib.hid (HBx.out.grown hg5' HBx.out.size (by simp)); have hbs5 : bb ≤ w5.heap.size := Nat.le_trans hbs hg5'.size; clear hown5 hg5 hg5' HTx HAx HBx)
        | (refine wpw_load rfl _ rfl rfl (wtc_at HA5.out) ?_)
        | (refine wpw_one rfl _ rfl x rfl ?_; intro w6 hw6; have q1 := HO5.out.alloc (.cells (wtC x).toArray tW); have q2 := HT5.out.below ((Below.refl w5.heap.size w5).alloc (Nat.le_refl _) (.cells (wtC x).toArray tW)); have q3 := HB5.out.alloc HB5.out.size (.cells (wtC x).toArray tW); have q4 := ws_lit w5 x; have q5 : bb ≤ (w5.alloc (.cells (wtC x).toArray tW)).heap.size := (by simp; omega); rw [← hw6] at q1 q2 q3 q4 q5; have HO6 := Lib.hid q1; have HT6 := Lib.hid q2; have HB6 := Lib.hid q3; have HX6 := Lib.hid q4; have hbs6 := q5; clear hw6 q1 q2 q3 q4 q5)
        | (at_builtin; refine wt_append rfl _ _ _ rfl Try.underlying26 bb v5 (0 + j) ([] ++ l.take j) rfl HO6.out _ 1 1 [x] rfl HX6.out (fun e => nomatch e) (by omega) hbs6 ?_; intro v7 w7 hown7 hg7; have HO7 := Lib.hid hown7; have HR7 : Hid (∀ q, v5.ownBlock = some q → bb ≤ q) := Lib.hid (fun q e => (HO6.out.lt q e).1); have HT7 := Lib.hid (HT6.out.grown2 hg7 HR7.out HTB.out); have HB7 := Lib.hid (HB6.out.grown hg7 HB6.out.size (fun q e => Nat.le_trans HWB.out (HR7.out q e))); have hbs7 : bb ≤ w7.heap.size := Nat.le_trans hbs6 hg7.size; clear hown7 hg7)
        | (at_builtin; refine wt_append rfl _ _ _ rfl Try.underlying26 bb v7 (0 + j + 1) ([] ++ l.take j ++ [x]) rfl HO7.out _ (n - j) (c - j) (l.drop j) rfl (HT7.out.rest HCN.out.1 hj) HRT.out (by omega) hbs7 ?_; intro v8 w8 hown8 hg8; have HO8 := Lib.hid hown8; have HB8 := Lib.hid (HB7.out.grown hg8 HB7.out.size (fun q e => Nat.le_trans HWB.out (HO7.out.lt q e).1)); clear hown8 hg8))
      obtain ⟨A9, c9, rfl, hc9, hn9, ht9⟩ := ws_of HO8.out
      have HT9 := Lib.hid ht9
      clear ht9
      go_wp2_with fail
      go_ret2
      refine ⟨_, _, _, rfl, ?_, hc9, hn9, HB8.out⟩
      have e : ([] ++ l.take j ++ [x] ++ l.drop j : List Wt) = putW l x := by
        unfold putW
        rw [HDn.out.1, HDn.out.2]
        simp
      rw [e] at HT9
      exact HT9.out
theorem rca_ask (A : Option Addr) (n c : Nat) (l : List Wt) (x : Wt) (w : World) (hl : Ws w A n l) (hg : GoodW l) (hn : n ≤ 900) (hc : n ≤ c) (ha : A = none → c = 0) :
    Calls Try.prog 9 #[.slice A n c, wtV x] w (GivesAskR w l x) := by
  by_cases hm : x.May
  · cases hw : wasW l x.key
    · exact rca_ask_good A n c l x w hl hn hc ha hm hw
    · exact rca_ask_busy A n c l x w hl hg hn hc ha hm hw
  · exact rca_ask_bad A n c l x w hl hc ha hm
end Go.Proofs.Ytamcpdhehipcfaa

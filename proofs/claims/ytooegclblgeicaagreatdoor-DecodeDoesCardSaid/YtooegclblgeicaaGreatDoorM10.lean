/- Proved: lemmas of one statement's proof, merged by program: what each part proves stands ahead of it. Conditions: those that the lemmas name. -/
import Derived.Test.YtooegclblgeicaaGreatDoorM4
import Derived.Test.YtooegclblgeicaaGreatDoorM8
import Derived.Test.YtooegclblgeicaaGreatDoorM9
import Derived.WalkMore
import Derived.ScopeJumps

/- Proved: what Scale and MulAdd of package vector answer for every byte and rows of bytes. Conditions: those that the theorems name. -/
namespace Go.Proofs.YtooegclblgeicaaGreatDoor
open Go.ChangeShapes Go.WideShapes Go.ChangeAt Go.RowKit

set_option maxHeartbeats 400000 in
theorem scale_none (B : Option Addr) (m d : Nat) (w : World) :
    Calls Tryz.prog 77 #[.int .u8 (m : Nat), .slice B 0 d] w (GivesC w 0 []) := by
  go_enter Tryz.func77, Tryz.ntmps77
  go_wp2_with (go_at_call 87; refine (row_none _ _ _).mono ?_; rintro e w' ⟨rfl, rfl⟩)
  go_loop [12] (fun i => i = .int .i64 0) (fun _ => 0)
  case atStart => rfl
  case round =>
    subst hrel
    go_wp2_with fail
    go_ret
    exact ⟨_, _, rfl, Nat.le_refl _, Bs.nil _ _, Below.refl _ _⟩

theorem mul_swap (m v : Nat) (hm : m < 256) (hv : v < 256) (w : World) :
    Calls Tryz.prog 89 #[.int .u8 (v : Nat), .int .u8 (m : Nat)] w fun e w' => e = .returned (.int .u8 (gmul m v : Nat)) ∧ w = w' := by
  rw [gmul_comm m v hm hv]; exact mul_any v m hv hm w

set_option maxHeartbeats 400000 in
theorem scale_some (bd : Addr) (m n d : Nat) (b : List Nat) (w : World) (hmm : m < 256) (hb : Bs w (some bd) n b) (h0 : 0 < n) (hm : n ≤ 140737488355328) :
    Calls Tryz.prog 77 #[.int .u8 (m : Nat), .slice (some bd) n d] w (GivesC w n (scaleL n m b)) := by
  have HB := Lib.hid hb
  clear hb
  go_enter Tryz.func77, Tryz.ntmps77
  go_wp2_with (go_at_call 87; refine (row_some bd n d b w HB.out h0 hm).mono ?_; rintro e w1 ⟨g, hg, rfl, ho, hbel⟩; have HO := Lib.hid ho; have HW := Lib.hid hbel; clear ho hbel)
  go_loopw [12] (fun i wr => ∃ k : Nat, k ≤ n ∧ i = .int .i64 k ∧ ∃ l, Upto n k (fun j => gmul m (b.getD j 0)) b l ∧ Own wr g n l ∧ Below w.heap.size w wr) (fun i _ => n - (intOf i).toNat)
  case atStart => exact ⟨0, by omega, rfl, b, Upto.start HB.out.len, HO.out, HW.out⟩
  case round =>
    obtain ⟨k, hk, rfl, l, hu, ho, hbel⟩ := hrel
    have HU := Lib.hid hu
    have HO' := Lib.hid ho
    have HW' := Lib.hid hbel
    clear hu ho hbel HO HW
    by_cases hlt : k < n
    · have hac : wr.cell? ⟨g, k, none⟩ = some (.int .u8 (b.getD k 0 : Nat)) := by
        rw [← HU.out.here hlt]; exact HO'.out.cell hlt
      have hfz := HO'.out.frozen k
      have hy := HB.out.lt k
      go_wp2_with (go_at_call 89; refine (mul_swap m _ hmm hy _).mono ?_; rintro e w' ⟨rfl, rfl⟩)
      go_roundw
      case rel => exact ⟨k + 1, by omega, by go_num, _, HU.out.next hlt, HO'.out.set_ hlt (gmul_lt _ hmm), HW'.out.setCell hg _⟩
      case measure => simp [intOf]; omega
    · obtain rfl : k = n := by omega
      go_wp2_with fail
      go_ret
      refine ⟨_, _, rfl, Nat.le_refl _, ?_, HW'.out⟩
      have e := HU.out.done
      have h := HO'.out.bs
      rw [e] at h
      exact h

theorem scale_cap (B : Option Addr) (m n d : Nat) (b : List Nat) (w : World) (hmm : m < 256) (hb : Bs w B n b) (hm : n ≤ 140737488355328) :
    Calls Tryz.prog 77 #[.int .u8 (m : Nat), .slice B n d] w (GivesC w n (scaleL n m b)) := by
  by_cases h0 : n = 0
  · subst h0; exact scale_none B m d w
  · obtain ⟨bd, rfl, _⟩ := hb.at_ (k := 0) (by omega)
    exact scale_some bd m n d b w hmm hb (by omega) hm
theorem scale_any (B : Option Addr) (m n d : Nat) (b : List Nat) (w : World) (hmm : m < 256) (hb : Bs w B n b) (hm : n ≤ 140737488355328) :
    Calls Tryz.prog 77 #[.int .u8 (m : Nat), .slice B n d] w (Gives w n (scaleL n m b)) := (scale_cap B m n d b w hmm hb hm).mono fun _ _ h => h.gives

set_option maxHeartbeats 400000 in
theorem muladd_cap (A B : Option Addr) (m n c d : Nat) (a b : List Nat) (w : World) (hmm : m < 256) (ha : Bs w A n a) (hb : Bs w B n b) (hm : n ≤ 140737488355328) :
    Calls Tryz.prog 58 #[.slice A n c, .int .u8 (m : Nat), .slice B n d] w (Gives2C w n (addL n a (scaleL n m b))) := by
  have HA := Lib.hid ha
  have HB := Lib.hid hb
  clear ha hb
  go_enter Tryz.func58, Tryz.ntmps58
  go_wp2_with fail
  refine (scale_any B m n d b w hmm HB.out hm).mono ?_; rintro e w1 ⟨A1, c1, rfl, h1, g1⟩
  have H1 := Lib.hid h1; have G1 := Lib.hid g1; clear h1 g1
  go_wp2_with fail
  refine (add_cap A A1 n c c1 a _ w1 (HA.out.below G1.out) H1.out hm).mono ?_; rintro e w2 ⟨A2, c2, rfl, k2, h2, g2⟩
  have H2 := Lib.hid h2; have G2 := Lib.hid g2; clear h2 g2
  go_wp2_with fail
  go_ret2
  exact ⟨_, _, rfl, k2, H2.out, G1.out.trans (G2.out.mono G1.out.size)⟩
theorem muladd_like (A B : Option Addr) (m n c d : Nat) (a b : List Nat) (w : World) (hmm : m < 256) (ha : Bs w A n a) (hb : Bs w B n b) (hm : n ≤ 140737488355328) :
    Calls Tryz.prog 58 #[.slice A n c, .int .u8 (m : Nat), .slice B n d] w (Gives2 w n (addL n a (scaleL n m b))) := (muladd_cap A B m n c d a b w hmm ha hb hm).mono fun _ _ h => h.gives

set_option maxHeartbeats 400000 in
theorem muladd_unlike (A B : Option Addr) (m n k c d : Nat) (b : List Nat) (w : World) (hmm : m < 256) (h : n ≠ k) (hb : Bs w B k b) (hm : k ≤ 140737488355328) :
    Calls Tryz.prog 58 #[.slice A n c, .int .u8 (m : Nat), .slice B k d] w fun e w' => e = .returned (.tuple #[.slice none 0 0, .int .i64 16]) ∧ Below w.heap.size w w' := by
  have HB := Lib.hid hb
  have HN := Lib.hid h
  clear hb h
  go_enter Tryz.func58, Tryz.ntmps58
  go_wp2_with fail
  refine (scale_any B m k d b w hmm HB.out hm).mono ?_; rintro e w1 ⟨A1, c1, rfl, h1, g1⟩
  have G1 := Lib.hid g1; clear h1 g1
  go_wp2_with fail
  refine (add_unlike A A1 n k c c1 w1 HN.out).mono ?_; rintro e w2 ⟨rfl, rfl⟩
  go_wp2_with fail
  go_ret2
  exact ⟨rfl, G1.out⟩
end Go.Proofs.YtooegclblgeicaaGreatDoor

/- Proved: what pivot, clearOthers and reduce of package matrix answer for every table. Conditions: those that the theorems name. -/
namespace Go.Proofs.YtooegclblgeicaaGreatDoor
open Go.ChangeShapes Go.WideShapes Go.ChangeAt Go.RowKit

set_option maxRecDepth 100000 in
set_option maxHeartbeats 800000 in
theorem pivot_any (A : Option Addr) (n c m done place places : Nat) (t : List (List Nat)) (w : World) (ht : Rows w A n t) (hl : ∀ r, r < n → (rw_ t r).length = m) (hn : n ≤ 255) (hd : done ≤ n) (hp : place ≤ places) (hm : places ≤ m) (hm2 : m ≤ 1000) :
    Calls Tryz.prog 80 #[.slice A n c, .int .i64 (done : Nat), .int .i64 (place : Nat), .int .i64 (places : Nat)] w fun e w' => w = w' ∧ ∃ v q, e = .returned (.tuple #[v, .int .i64 (q : Nat)]) ∧ PivAt t n done place places v q := by
  have HT := Lib.hid ht
  have HL := Lib.hid hl
  clear ht hl
  go_enter Tryz.func80, Tryz.ntmps80
  go_wp2_with fail
  go_step3
  go_wp2_with fail
  go_step3
  go_wp2_with fail
  go_loop [9] (fun i => ∃ q : Nat, place ≤ q ∧ q ≤ places ∧ i = .int .i64 q ∧ ∀ j, place ≤ j → j < q → ∀ i, done ≤ i → i < n → bt t i j = 0) (fun i => places - (intOf i).toNat)
  case atStart => exact ⟨place, by omega, by omega, rfl, fun j h1 h2 => absurd h2 (by omega)⟩
  case round =>
    obtain ⟨q, hq1, hq2, rfl, hz⟩ := hrel
    have HZ := Lib.hid hz
    clear hz
    by_cases hlt : q < places
    · go_wp2_with fail
      go_loop [8] (fun i => ∃ p : Nat, done ≤ p ∧ p ≤ n ∧ i = .int .i64 p ∧ ∀ i, done ≤ i → i < p → bt t i q = 0) (fun i => n - (intOf i).toNat)
      case atStart => exact ⟨done, by omega, by omega, rfl, fun j h1 h2 => absurd h2 (by omega)⟩
      case round =>
        obtain ⟨p, hp1, hp2, rfl, hy⟩ := hrel
        have HY := Lib.hid hy
        clear hy
        by_cases hpn : p < n
        · obtain ⟨ad, B, d, rfl, _, hac, hbs⟩ := HT.out.at_ hpn
          have hql : q < (rw_ t p).length := by rw [HL.out p hpn]; omega
          obtain ⟨bd, rfl, _, hbc⟩ := hbs.at_ hql
          rw [HL.out p hpn] at hac
          have hqm : q < m := by omega
          clear hbs hql
          obtain ⟨x, ex⟩ : ∃ x, x = (rw_ t p).getD q 0 := ⟨_, rfl⟩
          rw [← ex] at hbc
          have EX : Hid (bt t p q = x) := Lib.hid ex.symm
          clear ex
          by_cases hx : x = 0
          · subst hx
            go_wp2_with fail
            go_round
            case rel => exact ⟨p + 1, by omega, by omega, by go_num, fun i h1 h2 => by
              by_cases e : i = p
              · rw [e]; exact EX.out
              · exact HY.out i h1 (by omega)⟩
            case measure => simp [intOf]; omega
          · have hx' : ((x : Int) != 0) = true := by simp; omega
            have hx2 : ¬ (x : Int) = 0 := by omega
            have HX := Lib.hid hx
            clear hx
            go_wp2_with fail
            try rw [Exit.noGoto_ret]
            go_ret2
            exact ⟨rfl, _, _, rfl, hq1, hq2, HZ.out, fun _ => ⟨p, rfl, hp1, hpn, by rw [EX.out]; exact HX.out⟩⟩
        · obtain rfl : p = n := by omega
          go_wp2_with fail
          go_round
          case rel => exact ⟨q + 1, by omega, by omega, by go_num, fun j h1 h2 => by
            by_cases e : j = q
            · rw [e]; exact HY.out
            · exact HZ.out j h1 (by omega)⟩
          case measure => simp [intOf]; omega
    · obtain rfl : q = places := by omega
      go_wp2_with fail
      try rw [Exit.noGoto_ret]
      go_ret2
      exact ⟨rfl, _, _, rfl, hq1, hq2, HZ.out, fun h => absurd h (by omega)⟩
end Go.Proofs.YtooegclblgeicaaGreatDoor

/- Proved: what clearOthers of package matrix leaves of every table. Conditions: those that the theorems name. -/
namespace Go.Proofs.YtooegclblgeicaaGreatDoor
open Go.ChangeShapes Go.WideShapes Go.ChangeAt Go.RowKit

/-- the rows when the first k have been cleared. -/
def ClearMid (n m done q k : Nat) (t t' : List (List Nat)) : Prop :=
  t'.length = n ∧ ∀ r, r < n → rw_ t' r = if r < k ∨ r = done then clearL m done q t r else rw_ t r
theorem ClearMid.start {n m done q : Nat} {t : List (List Nat)} (h : t.length = n) (hd : done < n) : ClearMid n m done q 0 t (t.set done (leadL m done q t)) := by
  refine ⟨by rw [List.length_set, h], fun r _ => ?_⟩
  rw [rw_set _ _ _ _ (by omega)]
  by_cases e : done = r
  · rw [if_pos e, if_pos (Or.inr e.symm)]
    unfold clearL
    rw [if_pos e.symm]
  · rw [if_neg e, if_neg (by omega)]
theorem ClearMid.skip {n m done q k : Nat} {t t' : List (List Nat)} (h : ClearMid n m done q k t t') (hs : k = done ∨ clearL m done q t k = rw_ t k) : ClearMid n m done q (k + 1) t t' := by
  refine ⟨h.1, fun r hr => ?_⟩
  rw [h.2 r hr]
  by_cases e : r = k
  · subst e
    rcases hs with e' | e'
    · rw [if_pos (Or.inr e'), if_pos (Or.inr e')]
    · have e3 : (if r < r + 1 ∨ r = done then clearL m done q t r else rw_ t r) = clearL m done q t r := if_pos (Or.inl (by omega))
      rw [e3]
      split
      · rfl
      · exact e'.symm
  · by_cases e2 : r < k ∨ r = done
    · rw [if_pos e2, if_pos (by omega)]
    · rw [if_neg e2, if_neg (by omega)]
theorem ClearMid.next {n m done q k : Nat} {t t' : List (List Nat)} (h : ClearMid n m done q k t t') (hk : k < n) : ClearMid n m done q (k + 1) t (t'.set k (clearL m done q t k)) := by
  refine ⟨by rw [List.length_set, h.1], fun r hr => ?_⟩
  rw [rw_set _ _ _ _ (by rw [h.1]; exact hk)]
  by_cases e : k = r
  · subst e; rw [if_pos rfl, if_pos (Or.inl (by omega))]
  · rw [if_neg e, h.2 r hr]
    by_cases e2 : r < k ∨ r = done
    · rw [if_pos e2, if_pos (by omega)]
    · rw [if_neg e2, if_neg (by omega)]
theorem ClearMid.done_ {n m done q : Nat} {t t' : List (List Nat)} (h : ClearMid n m done q n t t') : t' = mkR n (clearL m done q t) :=
  eq_mkR h.1 fun r hr => by rw [h.2 r hr, if_pos (Or.inl hr)]

set_option maxRecDepth 100000 in
set_option maxHeartbeats 1600000 in
theorem clear_any (g n c m done q : Nat) (t : List (List Nat)) (w : World) (ht : OwnT w g n t) (hl : ∀ r, r < n → (rw_ t r).length = m) (hn : n ≤ 255) (hd : done < n) (hq : q < m) (hm : m ≤ 1000) (hne : bt t done q ≠ 0) :
    Calls Tryz.prog 81 #[.slice (some ⟨g, 0, none⟩) n c, .int .i64 (done : Nat), .int .i64 (q : Nat)] w fun e w' => e = .returned (.tuple #[]) ∧ OwnT w' g n (mkR n (clearL m done q t)) ∧ Below g w w' := by
  have HT := Lib.hid ht
  have HL := Lib.hid hl
  have HGd := Lib.hid (ht.good hl)
  clear ht hl
  have hgl := HT.out.block_lt
  obtain ⟨B, d, hc, hbs⟩ := HT.out.at_ hd
  have hql : q < (rw_ t done).length := by rw [HL.out done hd]; exact hq
  obtain ⟨bd, rfl, hbd, hbc⟩ := hbs.at_ hql
  rw [HL.out done hd] at hc hbs
  have HB := Lib.hid hbs
  have hxl := HB.out.lt q
  clear hbs hql
  obtain ⟨x, ex⟩ : ∃ x, x = (rw_ t done).getD q 0 := ⟨_, rfl⟩
  rw [← ex] at hbc hxl
  have EX : Hid (bt t done q = x) := Lib.hid ex.symm
  have hx0 : x ≠ 0 := by rw [← EX.out]; exact hne
  clear ex hne
  have HX0 := Lib.hid hx0
  clear hx0
  go_enter Tryz.func81, Tryz.ntmps81
  go_wp2_with fail
  refine (inv_keep x HX0.out hxl _).mono ?_; rintro e w1 ⟨rfl, g1⟩
  have G1 := Lib.hid g1; clear g1
  have HT1 := Lib.hid (HT.out.below G1.out)
  have HB1 := Lib.hid (HB.out.below G1.out)
  rw [← G1.out.cell (p := ⟨g, done, none⟩) hgl] at hc
  have hgl1 := HT1.out.block_lt
  go_wp2_with fail
  refine (scale_cap _ (ginv x) m _ (rw_ t done) _ (ginv_lt x) HB1.out (by omega)).mono ?_; rintro e w2 ⟨A2, c2, rfl, k2, h2, g2⟩
  have H2 := Lib.hid h2; have G2 := Lib.hid g2; clear h2 g2 hc hbc
  have HT2 := Lib.hid (HT1.out.below G2.out)
  have hgl2 := HT2.out.block_lt
  have HW2 : Hid (Below g w w2) := Lib.hid ((G1.out.mono (by omega)).trans (G2.out.mono (by omega)))
  have hlead : scaleL m (ginv x) (rw_ t done) = leadL m done q t := by unfold leadL; rw [EX.out]
  rw [hlead] at H2
  clear hlead
  obtain ⟨B3, d3, hc3, _⟩ := HT2.out.at_ hd
  have hfz := HT2.out.frozen done
  have HO := Lib.hid (HT2.out.set_ (c := c2) hd k2 H2.out)
  have HLd := Lib.hid (H2.out.put hc3 (.slice A2 m c2))
  have HS := Lib.hid (HW2.out.setCell (p := ⟨g, done, none⟩) (Nat.le_refl g) (.slice A2 m c2))
  go_wp2_with fail
  clear hc3 hfz
  go_loopw [34] (fun i wr => ∃ k : Nat, k ≤ n ∧ i = .int .i64 k ∧ ∃ t', ClearMid n m done q k t t' ∧ OwnT wr g n t' ∧ Bs wr A2 m (leadL m done q t) ∧ Below g w wr) (fun i _ => n - (intOf i).toNat)
  case atStart => exact ⟨0, by omega, rfl, _, ClearMid.start HT.out.len hd, HO.out, HLd.out, HS.out⟩
  case round =>
    obtain ⟨k, hk, rfl, t', hu, ho, hlb, hbel⟩ := hrel
    have HU := Lib.hid hu
    have HO' := Lib.hid ho
    have HLb := Lib.hid hlb
    have HW' := Lib.hid hbel
    clear hu ho hlb hbel HO HLd HS
    by_cases hlt : k < n
    · obtain ⟨B4, d4, hc4, hb4⟩ := HO'.out.at_ hlt
      have hgl4 := HO'.out.block_lt
      have hfz := HO'.out.frozen k
      by_cases hkd : k = done
      · subst hkd
        generalize (rw_ t' k).length = z at *
        go_wp2_with fail
        go_roundw
        case rel => exact ⟨k + 1, by omega, by go_num, t', HU.out.skip (Or.inl rfl), HO'.out, HLb.out, HW'.out⟩
        case measure => simp [intOf]; omega
      · have hrow : rw_ t' k = rw_ t k := by rw [HU.out.2 k hlt, if_neg (by omega)]
        rw [hrow, HL.out k hlt] at hc4
        rw [hrow, HL.out k hlt] at hb4
        have hql : q < (rw_ t k).length := by rw [HL.out k hlt]; exact hq
        obtain ⟨ad4, rfl, _, hx4⟩ := hb4.at_ hq
        have HB4 := Lib.hid hb4
        have hyl := HB4.out.lt q
        clear hb4 hql hrow
        obtain ⟨y, ey⟩ : ∃ y, y = (rw_ t k).getD q 0 := ⟨_, rfl⟩
        rw [← ey] at hx4 hyl
        have EY : Hid (bt t k q = y) := Lib.hid ey.symm
        clear ey
        have hkd' : ((k : Int) != (done : Int)) = true := by simp; omega
        have hkd2 : ¬ (k : Int) = (done : Int) := by omega
        by_cases hy : y = 0
        · subst hy
          go_wp2_with fail
          go_roundw
          case rel => exact ⟨k + 1, by omega, by go_num, t', HU.out.skip (Or.inr (clear_none HGd.out hlt hkd EY.out)), HO'.out, HLb.out, HW'.out⟩
          case measure => simp [intOf]; omega
        · have hy' : ((y : Int) != 0) = true := by simp; omega
          have hy2 : ¬ (y : Int) = 0 := by omega
          clear hy
          go_wp2_with fail
          refine (muladd_cap _ A2 y m _ c2 (rw_ t k) (leadL m done q t) _ hyl HB4.out HLb.out (by omega)).mono ?_; rintro e w5 ⟨A5, c5, rfl, k5, h5, g5⟩
          have H5 := Lib.hid h5; have G5 := Lib.hid g5; clear h5 g5
          have HO5 := Lib.hid (HO'.out.below G5.out)
          have HL5 := Lib.hid (HLb.out.below G5.out)
          have HW5 : Hid (Below g w w5) := Lib.hid (HW'.out.trans (G5.out.mono (by omega)))
          have hrow : addL m (rw_ t k) (scaleL m y (leadL m done q t)) = clearL m done q t k := by unfold clearL; rw [if_neg hkd, EY.out]
          rw [hrow] at H5
          clear hrow hc4 hfz
          obtain ⟨B6, d6, hc6, _⟩ := HO5.out.at_ hlt
          have hfz := HO5.out.frozen k
          have HO6 := Lib.hid (HO5.out.set_ (c := c5) hlt k5 H5.out)
          have HL6 := Lib.hid (HL5.out.put hc6 (.slice A5 m c5))
          have HW6 := Lib.hid (HW5.out.setCell (p := ⟨g, k, none⟩) (Nat.le_refl g) (.slice A5 m c5))
          go_wp2_with fail
          go_roundw
          case rel => exact ⟨k + 1, by omega, by go_num, _, HU.out.next hlt, HO6.out, HL6.out, HW6.out⟩
          case measure => simp [intOf]; omega
    · obtain rfl : k = n := by omega
      go_wp2_with fail
      go_end0
      exact ⟨rfl, by rw [← HU.out.done_]; exact HO'.out, HW'.out⟩
end Go.Proofs.YtooegclblgeicaaGreatDoor

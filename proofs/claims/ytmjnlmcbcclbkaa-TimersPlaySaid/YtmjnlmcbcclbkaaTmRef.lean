/- Proved: what the document's less, At, Drop and Same of timers answer. Conditions: those that the theorems name. -/
import Derived.Test.YtmjnlmcbcclbkaaTmMem
namespace Go.Proofs.Ytmjnlmcbcclbkaa
open Go.ChangeShapes Go.WideShapes Go.ChangeAt Go.RowKit

theorem eq_ky (k k' : Ky) (w : World) : (binOp .eql 32 (.agg #[.int .i64 k.1, .int .u32 k.2]) (.agg #[.int .i64 k'.1, .int .u32 k'.2])).run Try.prog w = .ok (.bool (decide (k = k'))) w := by
  rw [run_eql_struct, run_equalIn_agg w _ 32 _ _ (by kernel_rfl) (by kernel_rfl)]
  obtain ⟨a, b⟩ := k
  obtain ⟨c, d⟩ := k'
  simp [go_sem, Try.underlying32]
  by_cases h : a = c <;> by_cases g : b = d <;> simp [h, g]
theorem neq_tm (x y : Tm) (w : World) : (binOp .neq 41 (tmV x) (tmV y)).run Try.prog w = .ok (.bool (!decide (x = y))) w := by
  rw [run_neq_struct, run_equalIn_agg w _ 41 _ _ (by kernel_rfl) (by kernel_rfl)]
  obtain ⟨⟨a, b⟩, t⟩ := x
  obtain ⟨⟨c, d⟩, u⟩ := y
  simp [go_sem, Try.underlying41, Try.underlying32]
  by_cases h : a = c <;> by_cases g : b = d <;> by_cases f : t = u <;> simp [h, g, f]

/-! ### less -/
set_option maxRecDepth 100000 in
set_option maxHeartbeats 800000 in
theorem rless_any13 (x y : Tm) (w : World) :
    Calls Try.prog 22 #[tmV x, tmV y] w fun e w' => e = .returned (.bool (lessT x y)) ∧ Below w.heap.size w w' := by
  obtain ⟨⟨s, b⟩, t⟩ := x
  obtain ⟨⟨s', b'⟩, t'⟩ := y
  have X1 := At.new w 41 [.int .i64 s, .int .u32 b, .int .i64 t]
  have X2 := At.new (w.alloc (.cells [.int .i64 s, .int .u32 b, .int .i64 t].toArray 41)) 41 [.int .i64 s', .int .u32 b', .int .i64 t']
  have B0 := (Below.refl w.heap.size w).alloc (Nat.le_refl _) (.cells [.int .i64 s, .int .u32 b, .int .i64 t].toArray 41)
  have B1 := Lib.hid (B0.alloc B0.size (.cells [.int .i64 s', .int .u32 b', .int .i64 t'].toArray 41))
  have X3 := X1.alloc (.cells [.int .i64 s', .int .u32 b', .int .i64 t'].toArray 41)
  have c0 := X3.cell 0 rfl
  have c1 := X3.cell 1 rfl
  have c2 := X3.cell 2 rfl
  have d0 := X2.cell 0 rfl
  have d1 := X2.cell 1 rfl
  have d2 := X2.cell 2 rfl
  clear X1 X2 X3 B0
  rw [show (w.alloc (.cells [.int .i64 s, .int .u32 b, .int .i64 t].toArray 41)).heap.size = w.heap.size + 1 by simp] at d0 d1 d2
  unfold lessT
  dsimp only
  by_cases h : t = t'
  · rw [if_neg (by simpa using h)]
    have h' : (t != t') = false := by simp [h]
    by_cases g : s = s'
    · rw [if_neg (by simpa using g)]
      have g' : (s != s') = false := by simp [g]
      clear h g
      go_enter Try.func22, Try.ntmps22
      go_wp2_with fail
      go_ret
      exact ⟨rfl, B1.out⟩
    · rw [if_pos g]
      have g' : (s != s') = true := by simp [g]
      clear h g
      go_enter Try.func22, Try.ntmps22
      go_wp2_with fail
      go_ret
      exact ⟨rfl, B1.out⟩
  · rw [if_pos h]
    have h' : (t != t') = true := by simp [h]
    clear h
    go_enter Try.func22, Try.ntmps22
    go_wp2_with fail
    go_ret
    exact ⟨rfl, B1.out⟩

/-! ### At -/
theorem not_was {l : List Tm} {k : Ky} {n : Nat} (hn : l.length = n) (h : ∀ j, j < n → (tm_ l j).1 ≠ k) : wasT l k = false := by
  rw [wasT_neg]
  intro x hx
  obtain ⟨j, hj, rfl⟩ := List.getElem_of_mem hx
  rw [← tm_at hj]
  exact h j (by omega)
set_option maxRecDepth 100000 in
set_option maxHeartbeats 1600000 in
theorem rat_any (A : Option Addr) (n c : Nat) (l : List Tm) (k : Ky) (w : World) (hl : Ts w A n l) (hg : Good l) (hn : n ≤ 1000) :
    Calls Try.prog 10 #[.slice A n c, kyV k] w fun e w' => e = .returned (.tuple #[.int .i64 (atT l k), .bool (wasT l k)]) ∧ Below w.heap.size w w' := by
  have HG := Lib.hid hg
  have HL := Lib.hid hl
  have HK := Lib.hid (At.new w 32 [.int .i64 k.1, .int .u32 k.2])
  have B1 := Lib.hid ((Below.refl w.heap.size w).alloc (Nat.le_refl _) (.cells [.int .i64 k.1, .int .u32 k.2].toArray 32))
  have HE := Lib.hid (fun (x : Tm) W => eq_ky x.1 k W)
  have HF : Hid (∀ x, x ∈ l → x.1 = k → atT l k = x.2 ∧ wasT l k = true) := Lib.hid fun x hx e => by
    subst e
    exact ⟨atT_mem hg hx, wasT_mem hx⟩
  have HN : Hid ((∀ j, j < n → (tm_ l j).1 ≠ k) → atT l k = 0 ∧ wasT l k = false) := Lib.hid fun h => ⟨atT_none (not_was hl.len h), not_was hl.len h⟩
  generalize atT l k = z at *
  generalize wasT l k = s at *
  clear hl hg
  obtain ⟨k0, k1⟩ := k
  go_enter Try.func10, Try.ntmps10
  go_wp2_with fail
  generalize w.alloc (.cells #[.int .i64 k0, .int .u32 k1] 32) = w1 at *
  go_loopw [6] (fun i wr => ∃ j : Nat, j ≤ n ∧ i = .int .i64 j ∧ (∀ p, p < j → (tm_ l p).1 ≠ (k0, k1)) ∧ At wr w.heap.size 32 [.int .i64 k0, .int .u32 k1] ∧ Below w.heap.size w wr) (fun i _ => n - (intOf i).toNat)
  case atStart => exact ⟨0, by omega, rfl, fun p hp => absurd hp (by omega), HK.out, B1.out⟩
  case round =>
    obtain ⟨j, hj, rfl, hne, hat, hbel⟩ := hrel
    have HA := Lib.hid hat
    have HB := Lib.hid hbel
    have HD := Lib.hid hne
    have y0 := hat.cell 0 rfl
    have y1 := hat.cell 1 rfl
    clear hat hbel hne HK B1
    have hj0 : (0 : Int) ≤ (j : Int) := Int.natCast_nonneg _
    by_cases hlt : j < n
    · obtain ⟨ad, rfl, had, c0, c1, c2⟩ := HL.out.at_ hlt
      have hlt' : (j : Int) < (n : Int) := by omega
      have d0 := (HB.out.cell (p := ad.add (j * 3)) (by rw [add_block]; exact had)).trans c0
      have d1 := (HB.out.cell (p := ⟨(ad.add (j * 3)).block, (ad.add (j * 3)).off + 1, none⟩) (by show (ad.add (j * 3)).block < _; rw [add_block]; exact had)).trans c1
      have d2 := (HB.out.cell (p := ⟨(ad.add (j * 3)).block, (ad.add (j * 3)).off + 2, none⟩) (by show (ad.add (j * 3)).block < _; rw [add_block]; exact had)).trans c2
      have HM : Hid (tm_ l j ∈ l) := Lib.hid (tm_mem (by rw [HL.out.len]; exact hlt))
      have HX := Lib.hid (show tm_ l j = tm_ l j from rfl)
      clear c0 c1 c2
      generalize hx : tm_ l j = x at d0 d1 d2 HM HX
      have HXX := Lib.hid hx
      clear hx HX
      have he := fun W => HE.out x W
      obtain ⟨⟨x0, x1⟩, x2⟩ := x
      dsimp only at d0 d1 d2 he
      by_cases hk : ((x0, x1) : Ky) = (k0, k1)
      · obtain ⟨rfl, rfl⟩ := HF.out _ HM.out hk
        rw [decide_eq_true hk] at he
        clear hk
        go_wp2_with fail
        go_quiet (fail)
        go_wp2_with fail
        go_ret2
        exact ⟨rfl, HB.out.grown (grown_drewN _ _ none) HB.out.size (by simp)⟩
      · rw [decide_eq_false hk] at he
        have HDK := Lib.hid hk
        clear hk
        go_wp2_with fail
        go_quiet (fail)
        go_wp2_with fail
        go_roundw
        case rel =>
          refine ⟨j + 1, by omega, by go_num, fun p hp => ?_, HA.out.kept (grown_drewN _ _ none) (by simp), HB.out.grown (grown_drewN _ _ none) HB.out.size (by simp)⟩
          rcases Nat.lt_or_ge p j with q | q
          · exact HD.out p q
          · obtain rfl : p = j := by omega
            rw [HXX.out]; exact HDK.out
        case measure => simp [intOf]; omega
    · obtain rfl : j = n := by omega
      obtain ⟨rfl, rfl⟩ := HN.out HD.out
      go_wp2_with fail
      go_ret2
      exact ⟨rfl, HB.out⟩

/-! ### Drop -/
theorem take_one {l : List Tm} {j : Nat} (h : j < l.length) : l.take (j + 1) = l.take j ++ [tm_ l j] := by
  rw [tm_at h, List.take_add_one, List.getElem?_eq_getElem h]; rfl
theorem drop_app (l r : List Tm) (k : Ky) : dropT (l ++ r) k = dropT l k ++ dropT r k := List.filter_append ..
theorem was_app (l r : List Tm) (k : Ky) : wasT (l ++ r) k = (wasT l k || wasT r k) := List.any_append ..
theorem ts_lit (w : World) (x : Tm) : Ts (w.alloc (.cells #[.int .i64 x.1.1, .int .u32 x.1.2, .int .i64 x.2] 41)) (some ⟨w.heap.size, 0, none⟩) 1 [x] := by
  have h := At.new w 41 [.int .i64 x.1.1, .int .u32 x.1.2, .int .i64 x.2]
  refine ⟨rfl, fun _ => ⟨_, rfl, h.lt, fun j hj => ?_⟩⟩
  obtain rfl : j = 0 := by omega
  exact ⟨h.cell 0 rfl, h.cell 1 rfl, h.cell 2 rfl⟩
/-- Times come back in new memory; nothing that was there has turned. -/
def Rows13 (w : World) (v : Value) (l : List Tm) (w' : World) : Prop := w'.ownsRow (w.heap.size + 1) 41 3 v l.length (tcells l) ∧ Below w.heap.size w w' ∧ w.heap.size + 1 ≤ w'.heap.size
set_option maxRecDepth 100000 in
set_option maxHeartbeats 1600000 in
theorem rdrop_any (A : Option Addr) (n c : Nat) (l : List Tm) (k : Ky) (w : World) (hl : Ts w A n l) (hn : n ≤ 100) :
    Calls Try.prog 17 #[.slice A n c, kyV k] w fun e w' => ∃ v, e = .returned (.tuple #[v, .bool (wasT l k)]) ∧ Rows13 w v (dropT l k) w' := by
  have HL := Lib.hid hl
  have HK := Lib.hid (At.new w 32 [.int .i64 k.1, .int .u32 k.2])
  have B1 := Lib.hid ((Below.refl w.heap.size w).alloc (Nat.le_refl _) (.cells [.int .i64 k.1, .int .u32 k.2].toArray 32))
  have HZ : Hid (w.heap.size + 1 ≤ (w.alloc (.cells [.int .i64 k.1, .int .u32 k.2].toArray 32)).heap.size) := Lib.hid (by simp)
  have HE := Lib.hid (fun (x : Tm) W => eq_ky x.1 k W)
  clear hl
  obtain ⟨k0, k1⟩ := k
  go_enter Try.func17, Try.ntmps17
  go_wp2_with fail
  generalize w.alloc (.cells #[.int .i64 k0, .int .u32 k1] 32) = w1 at *
  go_loopw [6, 7, 8] (fun v b i wr => ∃ j : Nat, j ≤ n ∧ i = .int .i64 j ∧ b = .bool (wasT (l.take j) (k0, k1)) ∧ wr.ownsRow (w.heap.size + 1) 41 3 v (dropT (l.take j) (k0, k1)).length (tcells (dropT (l.take j) (k0, k1))) ∧ At wr w.heap.size 32 [.int .i64 k0, .int .u32 k1] ∧ Below w.heap.size w wr ∧ w.heap.size + 1 ≤ wr.heap.size) (fun _ _ i _ => n - (intOf i).toNat)
  case atStart => exact ⟨0, by omega, rfl, rfl, World.ownsRow_nil _ _ _ _, HK.out, B1.out, HZ.out⟩
  case round =>
    obtain ⟨j, hj, rfl, rfl, hown, hat, hbel, hgs⟩ := hrel
    have HA := Lib.hid hat
    have HB := Lib.hid hbel
    have HO := Lib.hid hown
    have HS := Lib.hid hgs
    have y0 := hat.cell 0 rfl
    have y1 := hat.cell 1 rfl
    clear hat hbel hown hgs HK B1 HZ
    have hj0 : (0 : Int) ≤ (j : Int) := Int.natCast_nonneg _
    by_cases hlt : j < n
    · obtain ⟨ad, rfl, had, c0, c1, c2⟩ := HL.out.at_ hlt
      have hlt' : (j : Int) < (n : Int) := by omega
      have hb' := HB.out
      have d0 := fun q => ((below_grown (grown_drewN wr q none) hb'.size (by simp)).cell (p := ad.add (j * 3)) (by rw [add_block]; exact had)).trans ((hb'.cell (p := ad.add (j * 3)) (by rw [add_block]; exact had)).trans c0)
      have d1 := fun q => ((below_grown (grown_drewN wr q none) hb'.size (by simp)).cell (p := ⟨(ad.add (j * 3)).block, (ad.add (j * 3)).off + 1, none⟩) (by show (ad.add (j * 3)).block < _; rw [add_block]; exact had)).trans ((hb'.cell (p := ⟨(ad.add (j * 3)).block, (ad.add (j * 3)).off + 1, none⟩) (by show (ad.add (j * 3)).block < _; rw [add_block]; exact had)).trans c1)
      have d2 := fun q => ((below_grown (grown_drewN wr q none) hb'.size (by simp)).cell (p := ⟨(ad.add (j * 3)).block, (ad.add (j * 3)).off + 2, none⟩) (by show (ad.add (j * 3)).block < _; rw [add_block]; exact had)).trans ((hb'.cell (p := ⟨(ad.add (j * 3)).block, (ad.add (j * 3)).off + 2, none⟩) (by show (ad.add (j * 3)).block < _; rw [add_block]; exact had)).trans c2)
      have HT : Hid (l.take (j + 1) = l.take j ++ [tm_ l j]) := Lib.hid (take_one (by rw [HL.out.len]; exact hlt))
      clear c0 c1 c2 hb'
      generalize hx : tm_ l j = x at d0 d1 d2 HT
      clear hx
      have he := fun W => HE.out x W
      obtain ⟨⟨x0, x1⟩, x2⟩ := x
      dsimp only at d0 d1 d2 he
      have e0 := d0 0
      have e1 := d1 0
      have e2 := d2 0
      change wr.cell? _ = _ at e0 e1 e2
      by_cases hk : ((x0, x1) : Ky) = (k0, k1)
      · rw [decide_eq_true hk] at he
        have HW : Hid (wasT (l.take (j + 1)) (k0, k1) = true ∧ dropT (l.take (j + 1)) (k0, k1) = dropT (l.take j) (k0, k1)) := Lib.hid (by
          rw [HT.out, was_app, drop_app]
          simp [wasT, dropT, hk])
        clear hk d0 d1 d2
        go_wp2_with fail
        go_quiet (fail)
        go_wp2_with fail
        go_roundw
        case rel =>
          refine ⟨j + 1, by omega, by go_num, by rw [HW.out.1], ?_, HA.out.kept (grown_drewN _ _ none) (by simp), HB.out.grown (grown_drewN _ _ none) HB.out.size (by simp), HS.out⟩
          rw [HW.out.2]
          exact HO.out
        case measure => simp [intOf]; omega
      · rw [decide_eq_false hk] at he
        have HW : Hid (wasT (l.take (j + 1)) (k0, k1) = wasT (l.take j) (k0, k1) ∧ dropT (l.take (j + 1)) (k0, k1) = dropT (l.take j) (k0, k1) ++ [((x0, x1), x2)]) := Lib.hid (by
          rw [HT.out, was_app, drop_app]
          simp [wasT, dropT, hk])
        have HQ : Hid ((dropT (l.take j) (k0, k1)).length ≤ 100) := Lib.hid (by
          have := drop_le (l.take j) (k0, k1)
          rw [List.length_take] at this
          omega)
        generalize dropT (l.take j) (k0, k1) = p at *
        generalize wasT (l.take j) (k0, k1) = s at *
        clear hk
        go_wp2_with fail
        go_quiet (fail)
        have HA2 := Lib.hid (HA.out.kept (grown_drewN wr nq none) (by simp))
        have HB2 := Lib.hid (HB.out.grown (grown_drewN wr nq none) HB.out.size (by simp))
        have HO2 : Hid ((wr.drewN nq).ownsRow (w.heap.size + 1) 41 3 u6 p.length (tcells p)) := Lib.hid HO.out
        have HS2 : Hid (w.heap.size + 1 ≤ (wr.drewN nq).heap.size) := Lib.hid HS.out
        have f0 := d0 nq
        have f1 := d1 nq
        have f2 := d2 nq
        clear HA HB HO HS d0 d1 d2 e0 e1 e2 y0 y1
        generalize wr.drewN nq = w2 at *
        have HC := Lib.hid (ts_lit w2 ((x0, x1), x2))
        have HO3 := Lib.hid (HO2.out.alloc (.cells #[.int .i64 x0, .int .u32 x1, .int .i64 x2] 41))
        have hb3 := HB2.out.alloc HB2.out.size (.cells #[.int .i64 x0, .int .u32 x1, .int .i64 x2] 41)
        have HB3 := Lib.hid hb3
        have HA3 := Lib.hid (HA2.out.alloc (.cells #[.int .i64 x0, .int .u32 x1, .int .i64 x2] 41))
        have hs3 : w.heap.size + 1 ≤ (w2.alloc (.cells #[.int .i64 x0, .int .u32 x1, .int .i64 x2] 41)).heap.size := by have := HS2.out; simp; omega
        have hq := HQ.out
        clear hb3 HA2 HB2 HO2
        go_wp2_with (at_builtin; refine tm_append rfl _ _ _ rfl Try.underlying27 _ _ _ p rfl HO3.out _ 1 1 [((x0, x1), x2)] rfl HC.out (fun e => nomatch e) (by omega) hs3 ?_; intro v3 w3 hown3 hg3)
        have HO4 := Lib.hid hown3
        have HG4 := Lib.hid hg3
        have HSS := Lib.hid hs3
        have HR : Hid (∀ q, u6.ownBlock = some q → w.heap.size + 1 ≤ q) := Lib.hid fun q e => (HO3.out.lt q e).1
        clear hown3 hg3 hs3
        go_roundw
        case rel =>
          refine ⟨j + 1, by omega, by go_num, by rw [HW.out.1], ?_, HA3.out.kept HG4.out (fun e => by have := HR.out _ e; omega), HB3.out.grown HG4.out HB3.out.size (fun q e => by have := HR.out q e; omega), Nat.le_trans HSS.out HG4.out.size⟩
          rw [HW.out.2, List.length_append]
          exact HO4.out
        case measure => simp [intOf]; omega
    · obtain rfl : j = n := by omega
      have e : l.take j = l := by rw [← HL.out.len, List.take_length]
      rw [e] at HO ⊢
      clear e
      go_wp2_with fail
      go_ret2
      exact ⟨_, rfl, HO.out, HB.out, HS.out⟩
end Go.Proofs.Ytmjnlmcbcclbkaa

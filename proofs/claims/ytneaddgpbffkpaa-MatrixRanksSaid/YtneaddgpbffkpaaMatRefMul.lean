/- Proved: what the document's Mul of tables answers for every two tables. Conditions: those that the theorems name. -/
import Derived.Test.YtneaddgpbffkpaaMatMul2
import Derived.Test.YtneaddgpbffkpaaVecRefAdd
namespace Go.Proofs.Ytneaddgpbffkpaa
open Go.ChangeShapes Go.WideShapes Go.ChangeAt Go.RowKit

theorem ownsRow_below {w w' : World} {base size n : Nat} {e : TypeId} {v : Value} {xs : List Value} (h : w.ownsRow base e size v n xs) (hb : Below w.heap.size w w') : w'.ownsRow base e size v n xs := by
  obtain ⟨h1, h2 | ⟨g, cap, cur, rfl, hg, hc, h3⟩⟩ := h
  · exact ⟨h1, Or.inl h2⟩
  · exact ⟨h1, Or.inr ⟨g, cap, cur, rfl, hg, (hb.block g (Array.getElem?_eq_some_iff.1 hc).1).trans hc, h3⟩⟩

set_option maxHeartbeats 400000 in
theorem rmul_bad1 (A B : Option Addr) (n m c d : Nat) (a : List (List Nat)) (w : World) (ha : Rows w A n a) (h1 : chk a ≠ 0) :
    Calls Try.prog 10 #[.slice A n c, .slice B m d] w (GivesT w 0 [] (chk a)) := by
  have HC := fun W h => rcheck_any A n c a W h
  have HA := Lib.hid ha
  clear ha
  generalize chk a = k at *
  have HC' := Lib.hid HC
  clear HC
  have hk : ((k : Int) != 0) = true := by simp; omega
  have hk' : ¬ ((k : Int) = 0) := by omega
  go_enter Try.func10, Try.ntmps10
  go_wp2_with fail
  refine (HC'.out _ HA.out).mono ?_; rintro e w' ⟨rfl, q, rfl⟩
  go_wp2_with fail
  go_ret2
  exact ⟨_, _, rfl, Rows.nil _ _, below_drawn ⟨_, rfl⟩⟩

set_option maxHeartbeats 400000 in
theorem rmul_bad2 (A B : Option Addr) (n m c d : Nat) (a b : List (List Nat)) (w : World) (ha : Rows w A n a) (hb : Rows w B m b) (h1 : chk a = 0) (h2 : chk b ≠ 0) :
    Calls Try.prog 10 #[.slice A n c, .slice B m d] w (GivesT w 0 [] (chk b)) := by
  have HC := fun W h => rcheck_any B m d b W h
  have HD := fun W h => rcheck_any A n c a W h
  rw [h1] at HD
  have HD' := Lib.hid HD
  have HA := Lib.hid ha
  have HB := Lib.hid hb
  clear ha hb h1 HD
  generalize chk b = k at *
  have HC' := Lib.hid HC
  clear HC
  have hk : ((k : Int) != 0) = true := by simp; omega
  have hk' : ¬ ((k : Int) = 0) := by omega
  go_enter Try.func10, Try.ntmps10
  go_wp2_with fail
  refine (HD'.out _ HA.out).mono ?_; rintro e w1 ⟨rfl, q1, h1⟩
  have S1 := Lib.hid (below_drawn (B := w.heap.size) ⟨q1, h1⟩); clear h1
  go_wp2_with fail
  refine (HC'.out _ (HB.out.below S1.out)).mono ?_; rintro e w2 ⟨rfl, q2, h2⟩
  have S2 := Lib.hid (S1.out.trans (below_drawn ⟨q2, h2⟩)); clear h2
  go_wp2_with fail
  go_ret2
  exact ⟨_, _, rfl, Rows.nil _ _, S2.out⟩

set_option maxHeartbeats 400000 in
theorem rmul_bad3 (A B : Option Addr) (n m c d : Nat) (a b : List (List Nat)) (w : World) (ha : Rows w A n a) (hb : Rows w B m b) (h1 : chk a = 0) (h2 : chk b = 0) (h3 : (rw_ a 0).length ≠ b.length) :
    Calls Try.prog 10 #[.slice A n c, .slice B m d] w (GivesT w 0 [] 16) := by
  have HC := fun W h => rcheck_any B m d b W h
  have HD := fun W h => rcheck_any A n c a W h
  rw [h1] at HD
  rw [h2] at HC
  have hd := chk_zero h1
  rw [ha.len] at hd
  have hn : 0 < n := hd.1.1
  rw [hb.len] at h3
  have HC' := Lib.hid HC
  have HD' := Lib.hid HD
  have HA := Lib.hid ha
  have HB := Lib.hid hb
  have H3 := Lib.hid h3
  clear ha hb h1 h2 HC HD hd h3
  go_enter Try.func10, Try.ntmps10
  go_wp2_with fail
  refine (HD'.out _ HA.out).mono ?_; rintro e w1 ⟨rfl, q1, h1⟩
  have S1 := Lib.hid (below_drawn (B := w.heap.size) ⟨q1, h1⟩); clear h1
  go_wp2_with fail
  refine (HC'.out _ (HB.out.below S1.out)).mono ?_; rintro e w2 ⟨rfl, q2, h2⟩
  have S2 := Lib.hid (S1.out.trans (below_drawn ⟨q2, h2⟩)); clear h2
  obtain ⟨ad, B1, d1, rfl, _, hc, _⟩ := (HA.out.below S2.out).at_ (k := 0) hn
  rw [Addr.add_zero' ad] at hc
  have h3 := H3.out
  generalize (rw_ a 0).length = k at *
  have hk : ((k : Int) != (m : Int)) = true := by simp; omega
  clear h3
  go_wp2_with fail
  go_ret2
  exact ⟨_, _, rfl, Rows.nil _ _, S2.out⟩

set_option maxRecDepth 100000 in
set_option maxHeartbeats 3200000 in
theorem rmul_good (A B : Option Addr) (n k m c d : Nat) (a b : List (List Nat)) (w : World) (ha : Rows w A n a) (hb : Rows w B k b) (h1 : chk a = 0) (h2 : chk b = 0) (hla : ∀ r, r < n → (rw_ a r).length = k) (hlb : ∀ r, r < k → (rw_ b r).length = m)
    (hn1 : 1 ≤ n) (hn2 : n ≤ 255) (hk1 : 1 ≤ k) (hk2 : k ≤ 255) (hm1 : 1 ≤ m) (hm2 : m ≤ 255) :
    Calls Try.prog 10 #[.slice A n c, .slice B k d] w (GivesT w n (mulL n k m a b) 0) := by
  obtain ⟨i0, hi0, hz0, hz1, hz2⟩ := info_parts Try.infoRow
  obtain ⟨j0, hj0, hy0, hy1, hy2⟩ := info_parts Try.infoByte
  have HC := fun W h => rcheck_any B k d b W h
  have HD := fun W h => rcheck_any A n c a W h
  rw [h1] at HD
  rw [h2] at HC
  have HC' := Lib.hid HC
  have HD' := Lib.hid HD
  have HA := Lib.hid ha
  have HB := Lib.hid hb
  have HLA := Lib.hid hla
  have HLB := Lib.hid hlb
  clear ha hb h1 h2 HC HD hla hlb
  have hn : 0 < n := hn1
  have hk : 0 < k := hk1
  go_enter Try.func10, Try.ntmps10
  go_wp2_with fail
  refine (HD'.out _ HA.out).mono ?_; rintro e w1 ⟨rfl, q1, h1⟩
  have S1 := Lib.hid (below_drawn (B := w.heap.size) ⟨q1, h1⟩); clear h1
  go_wp2_with fail
  refine (HC'.out _ (HB.out.below S1.out)).mono ?_; rintro e w2 ⟨rfl, q2, h2⟩
  have S2 := Lib.hid (S1.out.trans (below_drawn ⟨q2, h2⟩)); clear h2 S1
  obtain ⟨ad, B1, d1, rfl, _, hc, _⟩ := (HA.out.below S2.out).at_ (k := 0) hn
  rw [Addr.add_zero' ad, HLA.out 0 hn] at hc
  go_wp2_with fail
  clear hc
  go_loopw [8, 9] (fun v i wr => ∃ r : Nat, r ≤ n ∧ i = .int .i64 r ∧ ∃ xs, wr.ownsRow w.heap.size 42 1 v r xs ∧ Cut wr v xs (mkR r fun i => mk m fun j => dotN k (rw_ a i) (colL k b j)) ∧ Below w.heap.size w wr) (fun _ i _ => n - (intOf i).toNat)
  case atStart => exact ⟨0, by omega, rfl, _, World.ownsRow_nil _ _ _ _, Cut.nil _ _, S2.out⟩
  case round =>
    obtain ⟨r, hr, rfl, xs, hown, hcut, hbel⟩ := hrel
    rename World => w0
    have HO := Lib.hid hown
    have HCt := Lib.hid hcut
    have HW := Lib.hid hbel
    clear hown hcut hbel S2
    by_cases hlt : r < n
    · obtain ⟨ad', A1, e1, h', hadlt, hac, has⟩ := (HA.out.below HW.out).at_ hlt
      injection h' with h'
      subst h'
      rw [HLA.out r hlt] at hac has
      have HAs := Lib.hid has
      clear has
      have hrn : (r : Int) < (n : Int) := by omega
      have hr0 : (0 : Int) ≤ (r : Int) := by omega
      go_wp2_with fail
      go_loopw [10, 11] (fun v i w3 => ∃ j : Nat, j ≤ m ∧ i = .int .i64 j ∧ w3.ownsRow w0.heap.size 5 1 v j (cells (mk j fun j => dotN k (rw_ a r) (colL k b j))) ∧ Below w0.heap.size w0 w3) (fun _ i _ => m - (intOf i).toNat)
      case atStart => exact ⟨0, by omega, rfl, World.ownsRow_nil _ _ _ _, Below.refl _ _⟩
      case round =>
        obtain ⟨j, hj, rfl, hown, hbel⟩ := hrel
        rename World => w3
        have HO3 := Lib.hid hown
        have HW3 := Lib.hid hbel
        have HWW : Hid (Below w.heap.size w w3) := Lib.hid (HW.out.trans (HW3.out.mono HW.out.size))
        clear hown hbel
        obtain ⟨bd, B1, d1, rfl, hbdlt, hbc, _⟩ := (HB.out.below HWW.out).at_ (k := 0) hk
        rw [Addr.add_zero' bd, HLB.out 0 hk] at hbc
        by_cases hjm : j < m
        · go_wp2_with fail
          clear hbc hac
          go_loopw [12, 13] (fun x i w5 => ∃ l q : Nat, l ≤ k ∧ i = .int .i64 l ∧ x = .int .u8 (dotN l (rw_ a r) (colL k b j) : Nat) ∧ w5 = w3.drewN q) (fun _ i _ => k - (intOf i).toNat)
          case atStart => exact ⟨0, 0, by omega, rfl, rfl, rfl⟩
          case round =>
            obtain ⟨l, q, hl, rfl, rfl, rfl⟩ := hrel
            by_cases hlk : l < k
            · obtain ⟨ad', A2, e2, h', _, hac, has⟩ := (HA.out.below HWW.out).at_ hlt
              injection h' with h'
              subst h'
              obtain ⟨bd', B2, d2, h', _, hbc, hbs⟩ := (HB.out.below HWW.out).at_ hlk
              injection h' with h'
              subst h'
              rw [HLA.out r hlt] at hac has
              rw [HLB.out l hlk] at hbc hbs
              obtain ⟨xd, rfl, _, hxc⟩ := has.at_ hlk
              obtain ⟨yd, rfl, _, hyc⟩ := hbs.at_ hjm
              have hx := has.lt l
              have hy := hbs.lt j
              have hdl := dotN_lt l (rw_ a r) (colL k b j) has.lt
              have hds := dotN_succ l (rw_ a r) (colL k b j)
              have hcl : (colL k b j).getD l 0 = (rw_ b l).getD j 0 := mk_at _ _ _ hlk
              rw [hcl] at hds
              clear has hbs hcl
              generalize (rw_ a r).getD l 0 = x at *
              generalize (rw_ b l).getD j 0 = y at *
              generalize dotN l (rw_ a r) (colL k b j) = z at *
              have HDS := Lib.hid hds
              clear hds
              have hp := gmul_lt y hx
              have hlk' : (l : Int) < (k : Int) := by omega
              have hl0 : (0 : Int) ≤ (l : Int) := by omega
              have hjm' : (j : Int) < (m : Int) := by omega
              have hj0 : (0 : Int) ≤ (j : Int) := by omega
              go_wp2_with fail
              go_quiet ((go_at_call 22; exact (prod_any x y hx hy _).mono fun _ _ h => ⟨h.1, _, h.2.symm⟩))
              go_wp2_with fail
              go_roundw
              case rel =>
                refine ⟨l + 1, _, by omega, by go_num, val_int ?_, by first | rfl | rw [World.drewN_drewN]⟩
                rw [u8_xor_nat _ _ hdl hp, HDS.out]
              case measure => simp [intOf]; omega
            · obtain rfl : l = k := by omega
              have HO5 : Hid ((w3.drewN q).ownsRow w0.heap.size 5 1 _ j (cells (mk j fun j => dotN l (rw_ a r) (colL l b j)))) := HO3
              have HW5 : Hid (Below w0.heap.size w0 (w3.drewN q)) := Lib.hid (HW3.out.trans (below_drawn ⟨q, rfl⟩))
              generalize w3.drewN q = w5 at *
              have hmax : j + 1 ≤ maxLen := by unfold maxLen; omega
              have hws := HW5.out.size
              have HX : Hid (∀ z, z = dotN l (rw_ a r) (colL l b j) → cells (mk j fun j => dotN l (rw_ a r) (colL l b j)) ++ [.int .u8 (z : Nat)] = cells (mk (j + 1) fun j => dotN l (rw_ a r) (colL l b j))) := Lib.hid (fun z e => by rw [e]; exact cells_mk_succ j fun j => dotN l (rw_ a r) (colL l b j))
              generalize hz : dotN l (rw_ a r) (colL l b j) = z
              have HZ := Lib.hid hz
              clear hz
              go_wp2_with (at_builtin; refine wpList_append_lies _ rfl _ _ _ rfl w0.heap.size 5 j0 _ 1 1 Try.underlying42 hj0 hy0 hy1 hy2 rfl (by omega) _ j _ rfl (HO5.out.alloc _) ⟨w5.heap.size, 0, none⟩ 1 1 [.int .u8 (z : Nat)] rfl rfl (World.news_of_block (cs := #[.int .u8 (z : Nat)]) (t := 5) (fr := (0, 0)) (heap_alloc_new w5 _)) (by simp [Value.oneCell']) (by omega) hmax (by omega) (by simp; omega) (w5.heap.size + 1) (by simp) ?_; intro gg cap w6 hown1 hgrow hat hlt1)
              go_roundw
              case rel =>
                refine ⟨j + 1, by omega, by go_num, ?_, (HW5.out.alloc hws _).grown hgrow (by simp; omega) (fun j e => (HO5.out.lt j e).1)⟩
                have h := hown1
                rw [HX.out z HZ.out.symm] at h
                exact h
              case measure => simp [intOf]; omega
        · obtain rfl : j = m := by omega
          obtain ⟨g, cap, rfl, hg, hcap, _, ho3⟩ := own_of HO3.out (mk_lt j _ fun i => dotN_lt k _ _ HAs.out.lt) (by omega)
          have f1 := Lib.hid ho3.bs
          have f2 := Lib.hid (ownsRow_below HO.out HW3.out)
          have f3 := Lib.hid (HCt.out.below HW3.out)
          have f5 : Hid (∀ ad : Addr, (some ⟨g, 0, none⟩ : Option Addr) = some ad → 0 < j → u8.ownBlock ≠ some ad.block) := Lib.hid fun ad e _ q => by
            injection e with e
            subst e
            have h1 : g < w0.heap.size := (HO.out.lt _ q).2
            omega
          clear ho3 HO HCt HO3 hg
          have hmax : r + 1 ≤ maxLen := by unfold maxLen; omega
          have hws := HWW.out.size
          go_wp2_with (at_builtin; refine wpList_append_lies _ rfl _ _ _ rfl w.heap.size 42 i0 _ 1 24 Try.underlying22 hi0 hz0 hz1 hz2 rfl (by omega) _ r _ rfl (f2.out.alloc _) ⟨w3.heap.size, 0, none⟩ 1 1 [.slice (some ⟨g, 0, none⟩) j cap] rfl rfl (World.news_of_block (cs := #[.slice (some ⟨g, 0, none⟩) j cap]) (t := 42) (fr := (0, 0)) (heap_alloc_new w3 _)) (by simp [Value.oneCell']) (by omega) hmax (by omega) (by simp; omega) (w3.heap.size + 1) (by simp) ?_; intro gg cap2 w6 hown1 hgrow hat hlt1)
          go_roundw
          case rel =>
            refine ⟨r + 1, by omega, by go_num, _, hown1, ?_, (HWW.out.alloc hws _).grown hgrow (by simp; omega) (fun j e => (f2.out.lt j e).1)⟩
            rw [← mkR_succ]
            exact f3.out.grow hcap f1.out f5.out hgrow hat
          case measure => simp [intOf]; omega
    · obtain rfl : r = n := by omega
      obtain ⟨A', c', rfl, hr⟩ := rows_of HO.out HCt.out
      have HR := Lib.hid hr
      clear hr
      go_wp2_with fail
      go_ret2
      exact ⟨_, _, rfl, HR.out, HW.out⟩

theorem rtmul_any (A B : Option Addr) (n m c d : Nat) (a b : List (List Nat)) (w : World) (ha : Rows w A n a) (hb : Rows w B m b) :
    Calls Try.prog 10 #[.slice A n c, .slice B m d] w (GivesT w (mulV a b).length (mulV a b) (mulE a b)) := by
  by_cases h1 : chk a = 0
  · by_cases h2 : chk b = 0
    · by_cases h3 : (rw_ a 0).length = b.length
      · have e : mulE a b = 0 := by unfold mulE; rw [if_neg (by omega), if_neg (by omega), if_pos h3]
        obtain ⟨n1, k1, l1, r1, r2, r3, r4, r5, r6⟩ := chk_dims h1
        obtain ⟨m1, p1, l2, s1, s2, s3, s4, s5, s6⟩ := chk_dims h2
        have hn : n1 = n := l1.symm.trans ha.len
        have hm : m1 = m := l2.symm.trans hb.len
        have hk : k1 = m := by omega
        subst hn hm hk
        have := rmul_good A B n1 k1 p1 c d a b w ha hb h1 h2 r6 s6 r1 r2 s1 s2 s3 s4
        unfold mulV
        rw [e, if_pos rfl, l1, l2, s5]
        have hl : (mulL n1 k1 p1 a b).length = n1 := mkR_len _ _
        rw [hl]
        exact this
      · have e : mulE a b = 16 := by unfold mulE; rw [if_neg (by omega), if_neg (by omega), if_neg h3]
        unfold mulV
        rw [e, if_neg (by decide)]
        exact rmul_bad3 A B n m c d a b w ha hb h1 h2 h3
    · have e : mulE a b = chk b := by unfold mulE; rw [if_neg (by omega), if_pos h2]
      unfold mulV
      rw [e, if_neg h2]
      exact rmul_bad2 A B n m c d a b w ha hb h1 h2
  · have e : mulE a b = chk a := by unfold mulE; rw [if_pos h1]
    unfold mulV
    rw [e, if_neg h1]
    exact rmul_bad1 A B n m c d a w ha h1
end Go.Proofs.Ytneaddgpbffkpaa

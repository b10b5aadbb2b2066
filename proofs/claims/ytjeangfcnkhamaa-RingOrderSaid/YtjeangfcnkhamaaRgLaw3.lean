/- Proved: the walk of the law on the order of bytes in package ring. Conditions: those that the theorems name. -/
import Derived.Test.YtjeangfcnkhamaaRgLaw2
namespace Go.Proofs.Ytjeangfcnkhamaa
open Go.ChangeShapes Go.WideShapes Go.ChangeAt Go.RowKit

theorem rg_append_empty (s t : ByteArray) (h : t.size = 0) : s ++ t = s := rg_ext (n := s.size) (by rw [rg_append_size]; omega) rfl fun j hj => by rw [rg_append_at, if_pos hj]
theorem rg_cut_both (s : ByteArray) (k : Nat) (h : k ≤ s.size) : s.extract 0 k ++ s.extract k s.size = s := by
  refine rg_ext (n := s.size) (by rw [rg_append_size, rg_cut_size, rg_cut_size]; omega) rfl fun j hj => ?_
  rw [rg_append_at, rg_cut_size]
  by_cases a : j < min k s.size - 0
  · rw [if_pos a, rg_cut_at _ _ _ (by omega)]
  · rw [if_neg a, rg_rest_at]
    congr 1
    omega
theorem rg_append_assoc (s t u : ByteArray) : s ++ t ++ u = s ++ (t ++ u) := by
  apply bts_inj
  rw [rg_bts_append, rg_bts_append, rg_bts_append, rg_bts_append, List.append_assoc]
/-- what is taken by number y. -/
def tkN (y : Int) (s : ByteArray) : Nat := (max 0 (min y (s.size : Int))).toNat
theorem tkN_le (y : Int) (s : ByteArray) : tkN y s ≤ s.size := by unfold tkN; omega
theorem rb_take2 {w wi : World} {b r : Nat} {s : ByteArray} (h : RB w wi b r s) (z : Int) :
    Calls Try.prog 12 #[.pointer (some ⟨b, 0, none⟩), .int .i64 z] wi fun e w' => e = .returned (.string (s.extract 0 (tkN z s))) ∧ RB w w' b r (s.extract (tkN z s) s.size) := rb_take h z

set_option maxRecDepth 100000 in
set_option maxHeartbeats 3200000 in
theorem rg_order_main (x : Nat) (A : Option Addr) (m c : Nat) (l : List ByteArray) (A2 : Option Addr) (nn c2 : Nat) (ns : List Nat) (w : World) (hx : x < 256) (hm : (m : Int) ≤ 40) (hl : Ss w A m l) (hns : Bs w A2 nn ns) :
    Calls Try.prog 4 #[.int .u8 (x : Nat), .slice A m c, .slice A2 nn c2] w fun e w' => e = .returned (.bool true) ∧ Below w.heap.size w w' := by
  have R0 := Lib.hid (rb_new w w (x + 1) (Below.refl _ _) (by omega))
  have HL := Lib.hid hl
  have HNS := Lib.hid hns
  have HN := rg_new_any (x + 1) w (by omega) (by omega)
  have e1 : ((x + 1 : Nat) : Int) = (x : Int) + 1 := by omega
  rw [e1] at HN
  have HN := Lib.hid HN
  have hx0 : (0 : Int) ≤ (x : Int) := Int.natCast_nonneg _
  have hx1 : (x : Int) < 256 := by omega
  have HX := Lib.hid hx
  clear hl hns hx e1
  go_enter Try.func4, Try.ntmps4
  go_wp2_with fail
  refine HN.out.mono ?_; rintro e w1 ⟨rfl, hw1⟩
  rw [← hw1] at R0
  have HB := Lib.hid (show w.heap.size = w.heap.size from rfl)
  generalize hb : w.heap.size = b at R0 ⊢
  clear hw1 HN HB hb
  obtain ⟨R, hR⟩ : ∃ R, R = x + 1 := ⟨_, rfl⟩
  rw [← hR] at R0
  have HRR : Hid (1 ≤ R ∧ R ≤ 256) := Lib.hid (by have := HX.out; omega)
  clear hR
  go_wp2_with fail
  go_loopw [9, 10, 11] (fun u v i wr => ∃ k : Nat, k ≤ m ∧ i = .int .i64 k ∧ ∃ p q s : ByteArray, u = .string p ∧ v = .string q ∧ p = q ++ s ∧ p.size ≤ 300 * k ∧ RB w wr b R s) (fun _ _ i _ => m - (intOf i).toNat)
  case atStart => exact ⟨0, by omega, rfl, S0, S0, S0, rfl, rfl, rfl, Nat.zero_le _, R0.out⟩
  case round =>
    obtain ⟨k, hk, rfl, p, q, s, rfl, rfl, hpq, hps, hrb⟩ := hrel
    have HR := Lib.hid hrb
    have HPQ := Lib.hid hpq
    have HPS := Lib.hid hps
    clear R0 hrb hpq hps
    by_cases hlt : k < m
    · obtain ⟨ad, rfl, had, hc0⟩ := HL.out.at_ hlt
      have hlt' : (k : Int) < (m : Int) := by omega
      have hk0 : (0 : Int) ≤ (k : Int) := Int.natCast_nonneg _
      have hd0 := (HR.out.bel.cell (p := ad.add k) (by rw [add_block]; exact had)).trans hc0
      have HC0 := Lib.hid hc0
      have HAD := Lib.hid had
      clear hc0 had
      generalize st_ l k = t at *
      by_cases hbig : (300 : Int) < (t.size : Int)
      · go_wp2_with fail
        go_roundw
        case rel => exact ⟨k + 1, by omega, by go_num, p, q, s, rfl, rfl, HPQ.out, by have := HPS.out; omega, HR.out⟩
        case measure => simp [intOf]; omega
      · have HS := HR.out.size
        have HP := Lib.hid (rb_put HR.out t)
        have hs0 : p.size = q.size + s.size := by rw [HPQ.out, rg_append_size]
        obtain ⟨j, hj⟩ : ∃ j, j = min t.size (R - s.size) := ⟨_, rfl⟩
        rw [← hj] at HP
        have hsl : ∀ W, (Instr.slice 9 (Value.string t) none (some (Value.int .i64 (j : Int))) none).run Try.prog W = .ok (Value.string (t.extract 0 j)) W := fun W => by
          rw [run_slice_string_to_if W 9 t .i64 (j : Int) Try.underlying9, if_pos ⟨by omega, by omega⟩]; rfl
        have hT : (t.extract 0 j).size = j := by rw [rg_cut_size]; omega
        have hov : (p.size : Int) + ((t.extract 0 j).size : Int) ≤ 12300 := by have := HPS.out; omega
        have HNP : Hid (p ++ t.extract 0 j = q ++ (s ++ t.extract 0 j) ∧ (p ++ t.extract 0 j).size ≤ 300 * (k + 1)) := Lib.hid ⟨by rw [HPQ.out, rg_append_assoc], by rw [rg_append_size]; have := HPS.out; omega⟩
        have hj0 : (0 : Int) ≤ (j : Int) := Int.natCast_nonneg _
        have hj1 : (j : Int) ≤ (t.size : Int) := by omega
        have hss : (s ++ t.extract 0 j).size = s.size + j := by rw [rg_append_size, hT]
        have hway : 0 < j ∨ (j = 0 ∧ t.size = 0) ∨ (j = 0 ∧ 0 < t.size ∧ (R : Int) - ((s ++ t.extract 0 j).size : Int) = 0) := by omega
        have hqs : (q.size : Int) + (s.size : Int) + (j : Int) ≤ 12300 := by omega
        have hqs2 : (q.size : Int) + ((s ++ t.extract 0 j).size : Int) ≤ 12300 := by omega
        have HQS := Lib.hid hqs2
        have HTZ := Lib.hid hT
        generalize hST : s ++ t.extract 0 j = s' at *
        generalize t.extract 0 j = T at *
        clear hST hss hT hj HS hs0 hqs hqs2
        by_cases hn : k < nn
        · rcases hway with hA | hB | hC
          · have hA' : (0 : Int) < (j : Int) := by omega
            obtain ⟨ad2, rfl, hz1, hz2⟩ := HNS.out.at_ hn
            have hn' : (k : Int) < (nn : Int) := by omega
            have hzb := HNS.out.lt k
            have HZ := Lib.hid (And.intro hz1 hz2)
            clear hz1 hz2
            generalize ns.getD k 0 = y at *
            have hy0 : (0 : Int) ≤ (y : Int) := Int.natCast_nonneg _
            have hy1 : (y : Int) < 256 := by omega
            go_wp2_with fail
            refine HP.out.mono ?_; rintro e w2 ⟨rfl, r2⟩
            have R2 := Lib.hid r2
            have hd2 := (R2.out.bel.cell (p := ad.add k) (by rw [add_block]; exact HAD.out)).trans HC0.out
            clear r2 HP hd0
            have hz3 := (R2.out.bel.cell (p := ad2.add k) (by rw [add_block]; exact HZ.out.1)).trans HZ.out.2
            go_wp2_with fail
            have HTK := Lib.hid (rb_take2 R2.out (y : Int))
            have hle := tkN_le (y : Int) s'
            have hcs : ((s'.extract 0 (tkN (y : Int) s')).size : Int) ≤ (s'.size : Int) := by rw [rg_cut_size]; omega
            have HCB := Lib.hid (rg_cut_both s' _ hle)
            have hov2 : (q.size : Int) + ((s'.extract 0 (tkN (y : Int) s')).size : Int) ≤ 12300 := by have := HQS.out; omega
            clear hcs hle
            generalize s'.extract 0 (tkN (y : Int) s') = U at *
            generalize s'.extract (tkN (y : Int) s') s'.size = V at *
            refine HTK.out.mono ?_; rintro e w4 ⟨rfl, r4⟩
            have R4 := Lib.hid r4
            clear r4 HTK R2 hz3
            go_wp2_with fail
            go_roundw
            case rel => exact ⟨k + 1, by omega, by go_num, p ++ T, q ++ U, V, rfl, rfl, by rw [HNP.out.1, ← HCB.out, rg_append_assoc], HNP.out.2, R4.out⟩
            case measure => simp [intOf]; omega
          · obtain ⟨hj2, ht0⟩ := hB
            subst hj2
            obtain rfl : t = S0 := size_zero ht0
            clear ht0
            obtain ⟨ad2, rfl, hz1, hz2⟩ := HNS.out.at_ hn
            have hn' : (k : Int) < (nn : Int) := by omega
            have hzb := HNS.out.lt k
            have HZ := Lib.hid (And.intro hz1 hz2)
            clear hz1 hz2
            generalize ns.getD k 0 = y at *
            have hy0 : (0 : Int) ≤ (y : Int) := Int.natCast_nonneg _
            have hy1 : (y : Int) < 256 := by omega
            go_wp2_with fail
            refine HP.out.mono ?_; rintro e w2 ⟨rfl, r2⟩
            have R2 := Lib.hid r2
            have hd2 := (R2.out.bel.cell (p := ad.add k) (by rw [add_block]; exact HAD.out)).trans HC0.out
            clear r2 HP hd0
            rw [rg_append_empty p T HTZ.out] at HNP
            have hz3 := (R2.out.bel.cell (p := ad2.add k) (by rw [add_block]; exact HZ.out.1)).trans HZ.out.2
            go_wp2_with fail
            have HTK := Lib.hid (rb_take2 R2.out (y : Int))
            have hle := tkN_le (y : Int) s'
            have hcs : ((s'.extract 0 (tkN (y : Int) s')).size : Int) ≤ (s'.size : Int) := by rw [rg_cut_size]; omega
            have HCB := Lib.hid (rg_cut_both s' _ hle)
            have hov2 : (q.size : Int) + ((s'.extract 0 (tkN (y : Int) s')).size : Int) ≤ 12300 := by have := HQS.out; omega
            clear hcs hle
            generalize s'.extract 0 (tkN (y : Int) s') = U at *
            generalize s'.extract (tkN (y : Int) s') s'.size = V at *
            refine HTK.out.mono ?_; rintro e w4 ⟨rfl, r4⟩
            have R4 := Lib.hid r4
            clear r4 HTK R2 hz3
            go_wp2_with fail
            go_roundw
            case rel => exact ⟨k + 1, by omega, by go_num, p, q ++ U, V, rfl, rfl, by rw [HNP.out.1, ← HCB.out, rg_append_assoc], HNP.out.2, R4.out⟩
            case measure => simp [intOf]; omega
          · obtain ⟨hj2, ht0, hroom⟩ := hC
            subst hj2
            have hte := list_ne (size_ne ht0)
            have hte2 : t ≠ S0 := size_ne ht0
            have hte3 : t.toList.isEmpty = false := by rw [ByteArray.toList_eq]; cases q : t.data.toList with | nil => exact absurd ht0 (by show ¬ 1 ≤ t.data.size; rw [← Array.length_toList, q]; decide) | cons a r => rfl
            have ht0' : (0 : Int) < (t.size : Int) := by omega
            clear ht0
            obtain ⟨ad2, rfl, hz1, hz2⟩ := HNS.out.at_ hn
            have hn' : (k : Int) < (nn : Int) := by omega
            have hzb := HNS.out.lt k
            have HZ := Lib.hid (And.intro hz1 hz2)
            clear hz1 hz2
            generalize ns.getD k 0 = y at *
            have hy0 : (0 : Int) ≤ (y : Int) := Int.natCast_nonneg _
            have hy1 : (y : Int) < 256 := by omega
            go_wp2_with fail
            refine HP.out.mono ?_; rintro e w2 ⟨rfl, r2⟩
            have R2 := Lib.hid r2
            have hd2 := (R2.out.bel.cell (p := ad.add k) (by rw [add_block]; exact HAD.out)).trans HC0.out
            clear r2 HP hd0
            go_wp2_with fail
            refine (rb_room R2.out).mono ?_; rintro e w3 ⟨rfl, r3⟩
            have R3 := Lib.hid r3
            clear r3 R2 hd2
            have hd3 := (R3.out.bel.cell (p := ad.add k) (by rw [add_block]; exact HAD.out)).trans HC0.out
            rw [rg_append_empty p T HTZ.out] at HNP
            have hz3 := (R3.out.bel.cell (p := ad2.add k) (by rw [add_block]; exact HZ.out.1)).trans HZ.out.2
            go_wp2_with fail
            have HTK := Lib.hid (rb_take2 R3.out (y : Int))
            have hle := tkN_le (y : Int) s'
            have hcs : ((s'.extract 0 (tkN (y : Int) s')).size : Int) ≤ (s'.size : Int) := by rw [rg_cut_size]; omega
            have HCB := Lib.hid (rg_cut_both s' _ hle)
            have hov2 : (q.size : Int) + ((s'.extract 0 (tkN (y : Int) s')).size : Int) ≤ 12300 := by have := HQS.out; omega
            clear hcs hle
            generalize s'.extract 0 (tkN (y : Int) s') = U at *
            generalize s'.extract (tkN (y : Int) s') s'.size = V at *
            refine HTK.out.mono ?_; rintro e w4 ⟨rfl, r4⟩
            have R4 := Lib.hid r4
            clear r4 HTK R3 hz3
            go_wp2_with fail
            go_roundw
            case rel => exact ⟨k + 1, by omega, by go_num, p, q ++ U, V, rfl, rfl, by rw [HNP.out.1, ← HCB.out, rg_append_assoc], HNP.out.2, R4.out⟩
            case measure => simp [intOf]; omega
        · rcases hway with hA | hB | hC
          · have hA' : (0 : Int) < (j : Int) := by omega
            have hn' : ¬ (k : Int) < (nn : Int) := by omega
            go_wp2_with fail
            refine HP.out.mono ?_; rintro e w2 ⟨rfl, r2⟩
            have R2 := Lib.hid r2
            have hd2 := (R2.out.bel.cell (p := ad.add k) (by rw [add_block]; exact HAD.out)).trans HC0.out
            clear r2 HP hd0
            go_wp2_with fail
            go_roundw
            case rel => exact ⟨k + 1, by omega, by go_num, p ++ T, q, s', rfl, rfl, HNP.out.1, HNP.out.2, R2.out⟩
            case measure => simp [intOf]; omega
          · obtain ⟨hj2, ht0⟩ := hB
            subst hj2
            obtain rfl : t = S0 := size_zero ht0
            clear ht0
            have hn' : ¬ (k : Int) < (nn : Int) := by omega
            go_wp2_with fail
            refine HP.out.mono ?_; rintro e w2 ⟨rfl, r2⟩
            have R2 := Lib.hid r2
            have hd2 := (R2.out.bel.cell (p := ad.add k) (by rw [add_block]; exact HAD.out)).trans HC0.out
            clear r2 HP hd0
            rw [rg_append_empty p T HTZ.out] at HNP
            go_wp2_with fail
            go_roundw
            case rel => exact ⟨k + 1, by omega, by go_num, p, q, s', rfl, rfl, HNP.out.1, HNP.out.2, R2.out⟩
            case measure => simp [intOf]; omega
          · obtain ⟨hj2, ht0, hroom⟩ := hC
            subst hj2
            have hte := list_ne (size_ne ht0)
            have hte2 : t ≠ S0 := size_ne ht0
            have hte3 : t.toList.isEmpty = false := by rw [ByteArray.toList_eq]; cases q : t.data.toList with | nil => exact absurd ht0 (by show ¬ 1 ≤ t.data.size; rw [← Array.length_toList, q]; decide) | cons a r => rfl
            have ht0' : (0 : Int) < (t.size : Int) := by omega
            clear ht0
            have hn' : ¬ (k : Int) < (nn : Int) := by omega
            go_wp2_with fail
            refine HP.out.mono ?_; rintro e w2 ⟨rfl, r2⟩
            have R2 := Lib.hid r2
            have hd2 := (R2.out.bel.cell (p := ad.add k) (by rw [add_block]; exact HAD.out)).trans HC0.out
            clear r2 HP hd0
            go_wp2_with fail
            refine (rb_room R2.out).mono ?_; rintro e w3 ⟨rfl, r3⟩
            have R3 := Lib.hid r3
            clear r3 R2 hd2
            have hd3 := (R3.out.bel.cell (p := ad.add k) (by rw [add_block]; exact HAD.out)).trans HC0.out
            rw [rg_append_empty p T HTZ.out] at HNP
            go_wp2_with fail
            go_roundw
            case rel => exact ⟨k + 1, by omega, by go_num, p, q, s', rfl, rfl, HNP.out.1, HNP.out.2, R3.out⟩
            case measure => simp [intOf]; omega
    · obtain rfl : k = m := by omega
      have HS := HR.out.size
      have HTK := Lib.hid (rb_take2 HR.out 1048576)
      have he : tkN 1048576 s = s.size := by unfold tkN; have := HRR.out; omega
      rw [he] at HTK
      have he1 : s.extract 0 s.size = s := rg_rest_none s
      have he2 : s.extract s.size s.size = S0 := size_zero (by rw [rg_cut_size]; omega)
      rw [he1, he2] at HTK
      have hov : (q.size : Int) + (s.size : Int) ≤ 12300 := by
        have h1 := HPS.out
        rw [HPQ.out, rg_append_size] at h1
        omega
      have hpq := HPQ.out
      subst hpq
      clear he he1 he2 HS
      go_wp2_with fail
      refine HTK.out.mono ?_; rintro e w2 ⟨rfl, r2⟩
      have R2 := Lib.hid r2
      clear r2 HTK HR
      go_wp2_with fail
      refine (rb_len R2.out).mono ?_; rintro e w3 ⟨rfl, rfl⟩
      go_wp2_with fail
      refine (rg_awake_any _).mono ?_; rintro e w3 ⟨rfl, g3⟩
      have R4 := Lib.hid (R2.out.below g3)
      clear g3
      go_wp2_with fail
      go_ret
      exact ⟨rfl, R4.out.bel⟩
theorem rg_order_walk (x : Nat) (A : Option Addr) (m c : Nat) (l : List ByteArray) (A2 : Option Addr) (nn c2 : Nat) (ns : List Nat) (w : World) (hx : x < 256) (hl : Ss w A m l) (hns : Bs w A2 nn ns) :
    Calls Try.prog 4 #[.int .u8 (x : Nat), .slice A m c, .slice A2 nn c2] w fun e w' => e = .returned (.bool true) ∧ Below w.heap.size w w' := by
  by_cases hm : (m : Int) ≤ 40
  · exact rg_order_main x A m c l A2 nn c2 ns w hx hm hl hns
  · have h' : (40 : Int) < (m : Int) := by omega
    clear hl hns hm hx
    go_enter Try.func4, Try.ntmps4
    go_wp2_with fail
    refine (rg_awake_any _).mono ?_; rintro e w2 ⟨rfl, g2⟩
    have G2 := Lib.hid g2
    clear g2
    go_wp2_with fail
    go_ret
    exact ⟨rfl, G2.out⟩
end Go.Proofs.Ytjeangfcnkhamaa

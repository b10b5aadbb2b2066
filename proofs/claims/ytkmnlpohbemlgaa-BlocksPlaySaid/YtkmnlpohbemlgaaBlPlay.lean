/- Proved: the walk of the law on whatever is written to blocks, and asked of them. Conditions: those that the theorems name. -/
import Derived.Test.YtkmnlpohbemlgaaBlLaw
namespace Go.Proofs.Ytkmnlpohbemlgaa
open Go.ChangeShapes Go.WideShapes Go.ChangeAt Go.RowKit

/-! ### the block that comes of bytes -/
set_option maxRecDepth 100000 in
set_option maxHeartbeats 1600000 in
theorem next_as (n : Nat) (f : Bool) (s : ByteArray) (w : World) (h1 : 1 ≤ n) :
    Calls Try.prog 9 #[.string s, .int .i64 (n : Nat), .bool f] w fun e w' => e = .returned (.tuple #[.string (s.extract 0 (nxK n f s)), .string (s.extract (nxK n f s) s.size), .bool (nxB n f s)]) ∧ ∃ q, w' = w.drewN q := by
  by_cases a : n ≤ s.size
  · have e1 : nxB n f s = true := by unfold nxB; rw [decide_eq_true a]; rfl
    have e2 : nxK n f s = n := by unfold nxK; rw [if_pos e1]; omega
    rw [e1, e2]
    have a' : (n : Int) ≤ (s.size : Int) := by omega
    have hs1 : ∀ W, (Instr.slice 9 (Value.string s) none (some (Value.int .i64 (n : Int))) none).run Try.prog W = .ok (Value.string (s.extract 0 n)) W := fun W => by
      rw [run_slice_string_to_if W 9 s .i64 (n : Int) Try.underlying9, if_pos ⟨by omega, by omega⟩]; rfl
    have hs2 : ∀ W, (Instr.slice 9 (Value.string s) (some (Value.int .i64 (n : Int))) none none).run Try.prog W = .ok (Value.string (s.extract n s.size)) W := fun W => by
      rw [run_slice_string_from_if W 9 s .i64 (n : Int) Try.underlying9, if_pos ⟨by omega, by omega⟩]; rfl
    clear e1 e2 h1
    go_enter Try.func9, Try.ntmps9
    go_wp2_with fail
    go_quiet (fail)
    go_wp2_with fail
    go_ret3
    exact ⟨rfl, _, rfl⟩
  · have a' : ¬ (n : Int) ≤ (s.size : Int) := by omega
    by_cases b : f = true ∧ 0 < s.size
    · have e1 : nxB n f s = true := by unfold nxB; rw [b.1, decide_eq_true b.2, Bool.and_self, Bool.or_true]
      have e2 : nxK n f s = s.size := by unfold nxK; rw [if_pos e1]; omega
      rw [e1, e2, rg_rest_none, nx_all]
      obtain ⟨rfl, b2⟩ := b
      have t1 := text_ne b2
      have t2 := list_ne (size_ne b2)
      have t3 : s ≠ S0 := size_ne b2
      clear e1 e2 h1 a
      go_enter Try.func9, Try.ntmps9
      go_wp2_with fail
      go_ret3
      exact ⟨rfl, 0, rfl⟩
    · have e1 : nxB n f s = false := by
        unfold nxB
        rw [decide_eq_false a]
        by_cases c : 0 < s.size
        · rw [show f = false by cases f; rfl; exact absurd ⟨rfl, c⟩ b]; rfl
        · rw [decide_eq_false c, Bool.and_false]; rfl
      have e2 : nxK n f s = 0 := by unfold nxK; rw [e1]; rfl
      rw [e1, e2, rg_rest_none, nx_zero]
      cases f
      · clear e1 e2 h1 a b
        go_enter Try.func9, Try.ntmps9
        go_wp2_with fail
        go_ret3
        exact ⟨rfl, 0, rfl⟩
      · obtain rfl : s = S0 := size_zero (Nat.eq_zero_of_not_pos fun c => b ⟨rfl, c⟩)
        have a2 : ¬ (n : Int) ≤ 0 := by omega
        clear e1 e2 a b
        go_enter Try.func9, Try.ntmps9
        go_wp2_with fail
        go_ret3
        exact ⟨rfl, 0, rfl⟩

/-! ### deeds -/
/-- a deed. -/
structure Bd where
  kind : Int
  body : ByteArray
def bd_ (l : List Bd) (j : Nat) : Bd := l.getD j ⟨0, S0⟩
/-- The slice value with address A and length n holds the deeds l, in memory that is there. -/
def Bds (w : World) (A : Option Addr) (n : Nat) (l : List Bd) : Prop :=
  l.length = n ∧ (0 < n → ∃ ad, A = some ad ∧ ad.block < w.heap.size ∧ ∀ j, j < n → w.cell? (ad.add (j * 2)) = some (.int .i64 (bd_ l j).kind) ∧ w.cell? ⟨(ad.add (j * 2)).block, (ad.add (j * 2)).off + 1, none⟩ = some (.string (bd_ l j).body))
theorem Bds.nil (w : World) (A : Option Addr) : Bds w A 0 [] := ⟨rfl, fun h => absurd h (by omega)⟩
theorem Bds.at_ {w : World} {A : Option Addr} {n : Nat} {l : List Bd} (h : Bds w A n l) {k : Nat} (hk : k < n) :
    ∃ ad, A = some ad ∧ ad.block < w.heap.size ∧ w.cell? (ad.add (k * 2)) = some (.int .i64 (bd_ l k).kind) ∧ w.cell? ⟨(ad.add (k * 2)).block, (ad.add (k * 2)).off + 1, none⟩ = some (.string (bd_ l k).body) := by
  obtain ⟨ad, e, hb, hc⟩ := h.2 (by omega)
  exact ⟨ad, e, hb, hc k hk⟩

set_option maxRecDepth 100000 in
set_option maxHeartbeats 6400000 in
theorem bl_plays_main (n r : Nat) (A : Option Addr) (m c : Nat) (l : List Bd) (w : World) (h0 : 1 ≤ n) (h1 : n ≤ 32768) (h2 : n ≤ r) (h3 : r ≤ 1048576) (hm : (m : Int) ≤ 60) (hl : Bds w A m l) :
    Calls Try.prog 3 #[.int .i64 (n : Nat), .int .i64 (r : Nat), .slice A m c] w fun e w' => e = .returned (.bool true) ∧ Below w.heap.size w w' := by
  have HL := Lib.hid hl
  have HN := Lib.hid (bb_new w w n r (Below.refl _ _) h0 h1 h2 h3)
  have hn0 : ¬ (n : Int) < 1 := by omega
  have hn1 : ¬ (32768 : Int) < (n : Int) := by omega
  have hr0 : ¬ (r : Int) < (n : Int) := by omega
  have hr1 : ¬ (1048576 : Int) < (r : Int) := by omega
  have hx0 : decide ((n : Int) < 1) = false := decide_eq_false hn0
  have hx1 : decide ((32768 : Int) < (n : Int)) = false := decide_eq_false hn1
  have hx2 : decide ((r : Int) < (n : Int)) = false := decide_eq_false hr0
  have hx3 : decide (r < n) = false := decide_eq_false (by omega)
  have hx4 : decide ((1048576 : Int) < (r : Int)) = false := decide_eq_false hr1
  have HH := Lib.hid h0
  clear hl h0 h1 h2 h3
  go_enter Try.func3, Try.ntmps3
  go_wp2_with fail
  refine HN.out.mono ?_; rintro e w1 ⟨b, rfl, r0⟩
  have R0 := Lib.hid r0
  clear r0 HN
  go_wp2_with fail
  clear hn0 hn1 hr0
  go_loopw [9, 10] (fun v i wr => ∃ k : Nat, k ≤ m ∧ i = .int .i64 k ∧ ∃ s : ByteArray, v = .string s ∧ BB w wr b n r s) (fun _ i _ => m - (intOf i).toNat)
  case atStart => exact ⟨0, by omega, rfl, S0, rfl, R0.out⟩
  case round =>
    obtain ⟨k, hk, rfl, s, rfl, hrb⟩ := hrel
    have HR := Lib.hid hrb
    clear R0 hrb
    by_cases hlt : k < m
    · obtain ⟨ad, rfl, had, hc0, hc1⟩ := HL.out.at_ hlt
      have hlt' : (k : Int) < (m : Int) := by omega
      have hk0 : (0 : Int) ≤ (k : Int) := Int.natCast_nonneg _
      have hb0 := HR.out.bel
      have hd0 := (hb0.cell (p := ad.add (k * 2)) (by rw [add_block]; exact had)).trans hc0
      have hd1 := (hb0.cell (p := ⟨(ad.add (k * 2)).block, (ad.add (k * 2)).off + 1, none⟩) (by show (ad.add (k * 2)).block < _; rw [add_block]; exact had)).trans hc1
      have HC : Hid (∀ W s', BB w W b n r s' → W.cell? (ad.add (k * 2)) = some (.int .i64 (bd_ l k).kind) ∧ W.cell? ⟨(ad.add (k * 2)).block, (ad.add (k * 2)).off + 1, none⟩ = some (.string (bd_ l k).body)) := Lib.hid fun W s' q =>
        ⟨(q.bel.cell (p := ad.add (k * 2)) (by rw [add_block]; exact had)).trans hc0, (q.bel.cell (p := ⟨(ad.add (k * 2)).block, (ad.add (k * 2)).off + 1, none⟩) (by show (ad.add (k * 2)).block < _; rw [add_block]; exact had)).trans hc1⟩
      clear hc0 hc1 hb0 had
      generalize bd_ l k = d at *
      obtain ⟨kd, t⟩ := d
      dsimp only at hd0 hd1 HC
      have hsz := HR.out.size
      have hs1 : (s.size : Int) ≤ (r : Int) := by omega
      have hs0 : (0 : Int) ≤ (s.size : Int) := Int.natCast_nonneg _
      have HSZ := Lib.hid hsz
      clear hsz
      by_cases hbig : (500 : Int) < (t.size : Int)
      · go_wp2_with fail
        go_roundw
        case rel => exact ⟨k + 1, by omega, by go_num, s, rfl, HR.out⟩
        case measure => simp [intOf]; omega
      · by_cases k0 : kd = 0
        · subst k0
          have HW := Lib.hid (bb_write HR.out t)
          obtain ⟨j, hj⟩ : ∃ j, j = min t.size (r - s.size) := ⟨_, rfl⟩
          rw [← hj] at HW
          have hmin : min (t.size : Int) ((r : Int) - (s.size : Int)) = (j : Int) := by have := HSZ.out; omega
          have hj0 : (0 : Int) ≤ (j : Int) := Int.natCast_nonneg _
          have hsl : ∀ W, (Instr.slice 9 (Value.string t) none (some (Value.int .i64 (j : Int))) none).run Try.prog W = .ok (Value.string (t.extract 0 j)) W := fun W => by
            rw [run_slice_string_to_if W 9 t .i64 (j : Int) Try.underlying9, if_pos ⟨by omega, by omega⟩]; rfl
          have hX : (t.extract 0 j).size = j := by rw [rg_cut_size]; omega
          have hov : (s.size : Int) + ((t.extract 0 j).size : Int) ≤ 1048576 := by have := HSZ.out; omega
          have hss : ((s ++ t.extract 0 j).size : Int) ≤ (r : Int) := by rw [rg_append_size]; have := HSZ.out; omega
          have hss0 : (0 : Int) ≤ ((s ++ t.extract 0 j).size : Int) := Int.natCast_nonneg _
          generalize t.extract 0 j = X at *
          have hadd : ∀ W, (Op.stringOp .add s X).run Try.prog W = .ok (.string (s ++ X)) W := fun W => run_string_add_sum W _ _ (by omega)
          generalize s ++ X = s' at *
          clear hX hj
          go_wp2_with fail
          refine HW.out.mono ?_; rintro e w2 ⟨rfl, r2⟩
          have R2 := Lib.hid r2
          obtain ⟨hd2, hd3⟩ := HC.out _ _ r2
          clear r2 HW hd0 hd1
          go_wp2_with fail
          refine (bb_len R2.out).mono ?_; rintro e w3 ⟨rfl, r3⟩
          have R3 := Lib.hid r3
          clear r3 R2 HR
          go_wp2_with fail
          refine (bb_room R3.out).mono ?_; rintro e w4 ⟨rfl, r4⟩
          have R4 := Lib.hid r4
          clear r4 R3
          go_wp2_with fail
          go_roundw
          case rel => exact ⟨k + 1, by omega, by go_num, s', rfl, R4.out⟩
          case measure => simp [intOf]; omega
        · by_cases k1 : kd = 1 ∨ kd = 2
          · have HX := Lib.hid (next_as n (decide (kd = 2)) s · HH.out)
            have HY := Lib.hid (fun W (q : BB w W b n r s) => bb_next q (decide (kd = 2)))
            have hss : ((s.extract (nxK n (decide (kd = 2)) s) s.size).size : Int) ≤ (r : Int) := by rw [rg_cut_size]; have := HSZ.out; omega
            have hss0 : (0 : Int) ≤ ((s.extract (nxK n (decide (kd = 2)) s) s.size).size : Int) := Int.natCast_nonneg _
            generalize s.extract 0 (nxK n (decide (kd = 2)) s) = V at *
            generalize s.extract (nxK n (decide (kd = 2)) s) s.size = s' at *
            generalize nxB n (decide (kd = 2)) s = y at *
            have hVV : (V.toList == V.toList) = true := by simp
            rcases k1 with k1 | k1
            · subst k1
              go_wp2_with fail
              refine (HX.out _).mono ?_; rintro e w2 ⟨rfl, g2⟩
              have r2 := HR.out.below (two_drawn g2)
              have R2 := Lib.hid r2
              obtain ⟨hd2, hd3⟩ := HC.out _ _ r2
              clear r2 g2 HX hd0 hd1
              go_wp2_with fail
              refine (HY.out _ R2.out).mono ?_; rintro e w2 ⟨rfl, r2⟩
              have R3 := Lib.hid r2
              clear r2 R2 HY hd2 hd3
              go_wp2_with fail
              refine (bb_len R3.out).mono ?_; rintro e w3 ⟨rfl, r3⟩
              have R4 := Lib.hid r3
              clear r3 HR
              go_wp2_with fail
              refine (bb_room R4.out).mono ?_; rintro e w4 ⟨rfl, r4⟩
              have R5 := Lib.hid r4
              clear r4 R4
              go_wp2_with fail
              go_roundw
              case rel => exact ⟨k + 1, by omega, by go_num, s', rfl, R5.out⟩
              case measure => simp [intOf]; omega
            · subst k1
              go_wp2_with fail
              refine (HX.out _).mono ?_; rintro e w2 ⟨rfl, g2⟩
              have r2 := HR.out.below (two_drawn g2)
              have R2 := Lib.hid r2
              obtain ⟨hd2, hd3⟩ := HC.out _ _ r2
              clear r2 g2 HX hd0 hd1
              go_wp2_with fail
              refine (HY.out _ R2.out).mono ?_; rintro e w2 ⟨rfl, r2⟩
              have R3 := Lib.hid r2
              clear r2 R2 HY hd2 hd3
              go_wp2_with fail
              refine (bb_len R3.out).mono ?_; rintro e w3 ⟨rfl, r3⟩
              have R4 := Lib.hid r3
              clear r3 HR
              go_wp2_with fail
              refine (bb_room R4.out).mono ?_; rintro e w4 ⟨rfl, r4⟩
              have R5 := Lib.hid r4
              clear r4 R4
              go_wp2_with fail
              go_roundw
              case rel => exact ⟨k + 1, by omega, by go_num, s', rfl, R5.out⟩
              case measure => simp [intOf]; omega
          · have k2 : ¬ kd = 1 := fun x => k1 (Or.inl x)
            have k3 : ¬ kd = 2 := fun x => k1 (Or.inr x)
            clear k1
            go_wp2_with fail
            refine (bb_clear HR.out).mono ?_; rintro e w2 ⟨rfl, r2⟩
            have R2 := Lib.hid r2
            clear r2 hd0 hd1
            have hss : ((S0.size : Nat) : Int) = 0 := rfl
            go_wp2_with fail
            refine (bb_len R2.out).mono ?_; rintro e w3 ⟨rfl, r3⟩
            have R3 := Lib.hid r3
            clear r3 R2 HR
            go_wp2_with fail
            refine (bb_room R3.out).mono ?_; rintro e w4 ⟨rfl, r4⟩
            have R4 := Lib.hid r4
            clear r4 R3
            go_wp2_with fail
            go_roundw
            case rel => exact ⟨k + 1, by omega, by go_num, S0, rfl, R4.out⟩
            case measure => simp [intOf]; omega
    · obtain rfl : k = m := by omega
      go_wp2_with fail
      refine (bl_awake_any _).mono ?_; rintro e w2 ⟨rfl, g2⟩
      have R4 := Lib.hid (HR.out.below g2)
      clear g2
      go_wp2_with fail
      go_ret
      exact ⟨rfl, R4.out.bel⟩
set_option maxRecDepth 100000 in
set_option maxHeartbeats 1600000 in
theorem bl_plays_walk (z y : Int) (A : Option Addr) (m c : Nat) (l : List Bd) (w : World) (hl : Bds w A m l) :
    Calls Try.prog 3 #[.int .i64 z, .int .i64 y, .slice A m c] w fun e w' => e = .returned (.bool true) ∧ Below w.heap.size w w' := by
  by_cases hm : (m : Int) ≤ 60
  · by_cases h : z < 1 ∨ 32768 < z ∨ y < z ∨ 1048576 < y
    · have HN := Lib.hid (bl_new_bad z y w h)
      clear hl
      by_cases a : z < 1
      · clear h
        go_enter Try.func3, Try.ntmps3
        go_wp2_with fail
        refine HN.out.mono ?_; rintro e w1 ⟨rfl, rfl⟩
        go_wp2_with fail
        refine (bl_awake_any _).mono ?_; rintro e w2 ⟨rfl, g2⟩
        have G2 := Lib.hid g2
        clear g2
        go_wp2_with fail
        go_ret
        exact ⟨rfl, G2.out⟩
      by_cases b : 32768 < z
      · clear h
        go_enter Try.func3, Try.ntmps3
        go_wp2_with fail
        refine HN.out.mono ?_; rintro e w1 ⟨rfl, rfl⟩
        go_wp2_with fail
        refine (bl_awake_any _).mono ?_; rintro e w2 ⟨rfl, g2⟩
        have G2 := Lib.hid g2
        clear g2
        go_wp2_with fail
        go_ret
        exact ⟨rfl, G2.out⟩
      by_cases c' : y < z
      · clear h
        go_enter Try.func3, Try.ntmps3
        go_wp2_with fail
        refine HN.out.mono ?_; rintro e w1 ⟨rfl, rfl⟩
        go_wp2_with fail
        refine (bl_awake_any _).mono ?_; rintro e w2 ⟨rfl, g2⟩
        have G2 := Lib.hid g2
        clear g2
        go_wp2_with fail
        go_ret
        exact ⟨rfl, G2.out⟩
      · have d : 1048576 < y := by omega
        clear h
        go_enter Try.func3, Try.ntmps3
        go_wp2_with fail
        refine HN.out.mono ?_; rintro e w1 ⟨rfl, rfl⟩
        go_wp2_with fail
        refine (bl_awake_any _).mono ?_; rintro e w2 ⟨rfl, g2⟩
        have G2 := Lib.hid g2
        clear g2
        go_wp2_with fail
        go_ret
        exact ⟨rfl, G2.out⟩
    · obtain ⟨n, rfl⟩ := Int.eq_ofNat_of_zero_le (show 0 ≤ z by omega)
      obtain ⟨r, rfl⟩ := Int.eq_ofNat_of_zero_le (show 0 ≤ y by omega)
      exact bl_plays_main n r A m c l w (by omega) (by omega) (by omega) (by omega) hm hl
  · have h' : (60 : Int) < (m : Int) := by omega
    clear hl hm
    go_enter Try.func3, Try.ntmps3
    go_wp2_with fail
    refine (bl_awake_any _).mono ?_; rintro e w2 ⟨rfl, g2⟩
    have G2 := Lib.hid g2
    clear g2
    go_wp2_with fail
    go_ret
    exact ⟨rfl, G2.out⟩
end Go.Proofs.Ytkmnlpohbemlgaa

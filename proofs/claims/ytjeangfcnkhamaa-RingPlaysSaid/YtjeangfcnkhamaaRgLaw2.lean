/- Proved: the walks of the laws of package ring. Conditions: those that the theorems name. -/
import Derived.Test.YtjeangfcnkhamaaRgLaw
namespace Go.Proofs.Ytjeangfcnkhamaa
open Go.ChangeShapes Go.WideShapes Go.ChangeAt Go.RowKit

/-! ### a ring that is none -/
set_option maxRecDepth 100000 in
set_option maxHeartbeats 1600000 in
theorem rg_none_walk (d : Dee) (w : World) :
    Calls Try.prog 5 #[d.val] w fun e w' => e = .returned (.bool true) ∧ Below w.heap.size w w' := by
  obtain ⟨kd, n, t⟩ := d
  show Calls Try.prog 5 #[.agg #[.int .i64 kd, .int .i64 n, .string t]] w _
  have D1 := At.new w 29 [.int .i64 kd, .int .i64 n, .string t]
  have B1 := Lib.hid ((Below.refl w.heap.size w).alloc (Nat.le_refl _) (.cells [.int .i64 kd, .int .i64 n, .string t].toArray 29))
  have x0 := D1.cell 0 rfl
  have x1 := D1.cell 1 rfl
  have x2 := D1.cell 2 rfl
  clear D1
  go_enter Try.func5, Try.ntmps5
  go_wp2_with fail
  generalize w.alloc (.cells #[.int .i64 kd, .int .i64 n, .string t] 29) = w1 at *
  refine (rg_clear_nil _).mono ?_; rintro e w2 ⟨rfl, rfl⟩
  go_wp2_with fail
  refine (rg_put_nil _ _).mono ?_; rintro e w2 ⟨rfl, rfl⟩
  go_wp2_with fail
  refine (rg_take_nil _ _).mono ?_; rintro e w2 ⟨rfl, rfl⟩
  go_wp2_with fail
  refine (rg_peek_nil _ _).mono ?_; rintro e w2 ⟨rfl, rfl⟩
  go_wp2_with fail
  refine (rg_len_nil _).mono ?_; rintro e w2 ⟨rfl, rfl⟩
  go_wp2_with fail
  refine (rg_room_nil _).mono ?_; rintro e w2 ⟨rfl, rfl⟩
  go_wp2_with fail
  refine (rg_awake_any _).mono ?_; rintro e w2 ⟨rfl, g⟩
  have B2 := Lib.hid (B1.out.trans (g.mono B1.out.size))
  clear g
  go_wp2_with fail
  go_ret
  exact ⟨rfl, B2.out⟩

/-! ### whatever deeds -/
def dee_ (l : List Dee) (j : Nat) : Dee := l.getD j ⟨0, 0, S0⟩
/-- The slice value with address A and length n holds the deeds l, in memory that is there. -/
def Ds (w : World) (A : Option Addr) (n : Nat) (l : List Dee) : Prop :=
  l.length = n ∧ (0 < n → ∃ ad, A = some ad ∧ ad.block < w.heap.size ∧ ∀ j, j < n → w.cell? (ad.add (j * 3)) = some (.int .i64 (dee_ l j).kind) ∧ w.cell? ⟨(ad.add (j * 3)).block, (ad.add (j * 3)).off + 1, none⟩ = some (.int .i64 (dee_ l j).n) ∧ w.cell? ⟨(ad.add (j * 3)).block, (ad.add (j * 3)).off + 2, none⟩ = some (.string (dee_ l j).body))
theorem Ds.nil (w : World) (A : Option Addr) : Ds w A 0 [] := ⟨rfl, fun h => absurd h (by omega)⟩
theorem Ds.at_ {w : World} {A : Option Addr} {n : Nat} {l : List Dee} (h : Ds w A n l) {k : Nat} (hk : k < n) :
    ∃ ad, A = some ad ∧ ad.block < w.heap.size ∧ w.cell? (ad.add (k * 3)) = some (.int .i64 (dee_ l k).kind) ∧ w.cell? ⟨(ad.add (k * 3)).block, (ad.add (k * 3)).off + 1, none⟩ = some (.int .i64 (dee_ l k).n) ∧ w.cell? ⟨(ad.add (k * 3)).block, (ad.add (k * 3)).off + 2, none⟩ = some (.string (dee_ l k).body) := by
  obtain ⟨ad, e, hb, hc⟩ := h.2 (by omega)
  exact ⟨ad, e, hb, hc k hk⟩
set_option maxRecDepth 100000 in
set_option maxHeartbeats 3200000 in
theorem rg_plays_main (r : Nat) (A : Option Addr) (m c : Nat) (l : List Dee) (w : World) (h0 : 1 ≤ r) (h1 : r ≤ 1048576) (hm : (m : Int) ≤ 60) (hl : Ds w A m l) :
    Calls Try.prog 3 #[.int .i64 (r : Nat), .slice A m c] w fun e w' => e = .returned (.bool true) ∧ Below w.heap.size w w' := by
  have R0 := Lib.hid (rb_new w w r (Below.refl _ _) h1)
  have HL := Lib.hid hl
  have HN := Lib.hid (rg_new_any r w h0 h1)
  have hr0 : ¬ (r : Int) < 1 := by omega
  have hr1 : ¬ (1048576 : Int) < (r : Int) := by omega
  clear hl h0 h1
  go_enter Try.func3, Try.ntmps3
  go_wp2_with fail
  refine HN.out.mono ?_; rintro e w1 ⟨rfl, hw1⟩
  rw [← hw1] at R0
  have HB := Lib.hid (show w.heap.size = w.heap.size from rfl)
  generalize hb : w.heap.size = b at R0 ⊢
  clear hw1 HN HB hb
  go_wp2_with fail
  go_loopw [7, 8] (fun v i wr => ∃ k : Nat, k ≤ m ∧ i = .int .i64 k ∧ ∃ s : ByteArray, v = .string s ∧ RB w wr b r s) (fun _ i _ => m - (intOf i).toNat)
  case atStart => exact ⟨0, by omega, rfl, S0, rfl, R0.out⟩
  case round =>
    obtain ⟨k, hk, rfl, s, rfl, hrb⟩ := hrel
    have HR := Lib.hid hrb
    clear R0 hrb
    by_cases hlt : k < m
    · obtain ⟨ad, rfl, had, hc0, hc1, hc2⟩ := HL.out.at_ hlt
      have hlt' : (k : Int) < (m : Int) := by omega
      have hk0 : (0 : Int) ≤ (k : Int) := Int.natCast_nonneg _
      have hb0 := HR.out.bel
      have hd0 := (hb0.cell (p := ad.add (k * 3)) (by rw [add_block]; exact had)).trans hc0
      have hd1 := (hb0.cell (p := ⟨(ad.add (k * 3)).block, (ad.add (k * 3)).off + 1, none⟩) (by show (ad.add (k * 3)).block < _; rw [add_block]; exact had)).trans hc1
      have hd2 := (hb0.cell (p := ⟨(ad.add (k * 3)).block, (ad.add (k * 3)).off + 2, none⟩) (by show (ad.add (k * 3)).block < _; rw [add_block]; exact had)).trans hc2
      clear hc0 hc1 hc2 hb0
      generalize dee_ l k = d at *
      by_cases hbig : (500 : Int) < (d.body.size : Int)
      · obtain ⟨kd, n, t⟩ := d
        dsimp only at hd0 hd1 hd2 hbig
        go_wp2_with fail
        go_roundw
        case rel => exact ⟨k + 1, by omega, by go_num, s, rfl, HR.out⟩
        case measure => simp [intOf]; omega
      · have HD := Lib.hid (fun W (q : RB w W b r s) => rb_do q d)
        have HS : Hid (∀ W s', RB w W b r s' → (s'.size : Int) ≤ (r : Int)) := Lib.hid fun W s' q => by have := q.size; omega
        generalize hs' : d.does r s = s' at *
        clear hs'
        obtain ⟨kd, n, t⟩ := d
        have hbig' : ¬ (500 : Int) < (t.size : Int) := hbig
        dsimp only at hd0 hd1 hd2
        change Hid (∀ W, RB w W b r s → Calls _ _ #[.pointer (some ⟨b, 0, none⟩), .string s, .int .i64 (r : Nat), .agg #[.int .i64 kd, .int .i64 n, .string t]] W _) at HD
        clear hbig
        go_wp2_with fail
        refine (HD.out _ HR.out).mono ?_; rintro e w2 ⟨rfl, r2⟩
        have R2 := Lib.hid r2
        have hsz := HS.out _ _ r2
        have hsz0 : (0 : Int) ≤ (s'.size : Int) := Int.natCast_nonneg _
        clear r2 HD hd0 hd1 hd2
        go_wp2_with fail
        refine (rb_len R2.out).mono ?_; rintro e w3 ⟨rfl, rfl⟩
        go_wp2_with fail
        refine (rb_room R2.out).mono ?_; rintro e w3 ⟨rfl, r3⟩
        have R3 := Lib.hid r3
        clear r3 R2 HR
        go_wp2_with fail
        go_roundw
        case rel => exact ⟨k + 1, by omega, by go_num, s', rfl, R3.out⟩
        case measure => simp [intOf]; omega
    · obtain rfl : k = m := by omega
      go_wp2_with fail
      refine (rg_awake_any _).mono ?_; rintro e w2 ⟨rfl, g2⟩
      have R4 := Lib.hid (HR.out.below g2)
      clear g2
      go_wp2_with fail
      go_ret
      exact ⟨rfl, R4.out.bel⟩
set_option maxRecDepth 100000 in
set_option maxHeartbeats 1600000 in
theorem rg_plays_walk (z : Int) (A : Option Addr) (m c : Nat) (l : List Dee) (w : World) (hl : Ds w A m l) :
    Calls Try.prog 3 #[.int .i64 z, .slice A m c] w fun e w' => e = .returned (.bool true) ∧ Below w.heap.size w w' := by
  by_cases hm : (m : Int) ≤ 60
  · by_cases h : z < 1 ∨ 1048576 < z
    · have HN := Lib.hid (rg_new_bad z w h)
      clear hl
      rcases h with h | h
      · go_enter Try.func3, Try.ntmps3
        go_wp2_with fail
        refine HN.out.mono ?_; rintro e w1 ⟨rfl, rfl⟩
        go_wp2_with fail
        refine (rg_awake_any _).mono ?_; rintro e w2 ⟨rfl, g2⟩
        have G2 := Lib.hid g2
        clear g2
        go_wp2_with fail
        go_ret
        exact ⟨rfl, G2.out⟩
      · have h' : ¬ z < 1 := by omega
        go_enter Try.func3, Try.ntmps3
        go_wp2_with fail
        refine HN.out.mono ?_; rintro e w1 ⟨rfl, rfl⟩
        go_wp2_with fail
        refine (rg_awake_any _).mono ?_; rintro e w2 ⟨rfl, g2⟩
        have G2 := Lib.hid g2
        clear g2
        go_wp2_with fail
        go_ret
        exact ⟨rfl, G2.out⟩
    · have h0 : 1 ≤ z := by omega
      obtain ⟨r, rfl⟩ := Int.eq_ofNat_of_zero_le (show 0 ≤ z by omega)
      exact rg_plays_main r A m c l w (by omega) (by omega) hm hl
  · have h' : (60 : Int) < (m : Int) := by omega
    clear hl hm
    go_enter Try.func3, Try.ntmps3
    go_wp2_with fail
    refine (rg_awake_any _).mono ?_; rintro e w2 ⟨rfl, g2⟩
    have G2 := Lib.hid g2
    clear g2
    go_wp2_with fail
    go_ret
    exact ⟨rfl, G2.out⟩
end Go.Proofs.Ytjeangfcnkhamaa

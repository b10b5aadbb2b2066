/- Proved: the walk of the law that plays edges. Conditions: those that the theorems name. -/
import Derived.Test.YtgappggllplblaaCrLaw
namespace Go.Proofs.Ytgappggllplblaa
open Go.ChangeShapes Go.WideShapes Go.ChangeAt Go.RowKit

theorem gr_cases (a base n : Int) : (¬ 0 ≤ n ∧ grB a base n = false ∧ grA a base n = a) ∨ ((0 ≤ n ∧ ¬ n ≤ 65535) ∧ grB a base n = false ∧ grA a base n = a) ∨ ((0 ≤ n ∧ n ≤ 65535) ∧ decide (0 < ah a (pl base n)) = false ∧ grB a base n = false ∧ grA a base n = a) ∨ ((0 ≤ n ∧ n ≤ 65535) ∧ decide (0 < ah a (pl base n)) = true ∧ grB a base n = true ∧ grA a base n = pl base n) := by
  have hA : ∀ s, grB a base n = s → grA a base n = if s = true then pl base n else a := fun s e => by unfold grA; rw [e]
  by_cases h0 : 0 ≤ n
  · by_cases h1 : n ≤ 65535
    · have hm : mayB n = true := (may_iff n).2 ⟨h0, h1⟩
      cases hd : decide (0 < ah a (pl base n))
      · have e : grB a base n = false := by unfold grB; rw [hm, hd]; rfl
        exact Or.inr (Or.inr (Or.inl ⟨⟨h0, h1⟩, rfl, e, hA _ e⟩))
      · have e : grB a base n = true := by unfold grB; rw [hm, hd]; rfl
        exact Or.inr (Or.inr (Or.inr ⟨⟨h0, h1⟩, rfl, e, hA _ e⟩))
    · have e : grB a base n = false := by unfold grB mayB; rw [decide_eq_false h1, Bool.and_false, Bool.false_and]
      exact Or.inr (Or.inl ⟨⟨h0, h1⟩, e, hA _ e⟩)
  · have e : grB a base n = false := by unfold grB mayB; rw [decide_eq_false h0, Bool.false_and, Bool.false_and]
    exact Or.inl ⟨h0, e, hA _ e⟩
set_option maxRecDepth 100000 in
set_option maxHeartbeats 6400000 in
theorem cr_play_main (B0 z0 : Int) (A : Option Addr) (m c : Nat) (ds : List Cd) (w : World) (hm : (m : Int) ≤ 80) (hd : Cds w A m ds) (hz : mayB z0 = true) :
    Calls Try.prog 3 #[.int .u32 B0, .int .i64 z0, .slice A m c] w fun e w' => e = .returned (.bool true) ∧ Below w.heap.size w w' := by
  have HN := Lib.hid (cb_new w B0 z0 hz)
  have HL := Lib.hid hd
  have g1 : ¬ z0 < 0 := by have := (may_iff z0).1 hz; omega
  have g2 : ¬ 65535 < z0 := by have := (may_iff z0).1 hz; omega
  have HP := Lib.hid (show (B0 + z0) % 4294967296 = pl B0 z0 by have := (may_iff z0).1 hz; unfold pl; omega)
  clear hd hz
  go_enter Try.func3, Try.ntmps3
  go_wp2_with fail
  refine HN.out.mono ?_; rintro e w1 ⟨b, rfl, r1⟩
  have R1 := Lib.hid r1
  clear r1 HN
  go_wp2_with fail
  rw [HP.out]
  go_loopw [9, 10] (fun v i wr => ∃ k : Nat, k ≤ m ∧ i = .int .i64 k ∧ ∃ a, v = .int .u32 a ∧ CB w wr b a) (fun _ i _ => m - (intOf i).toNat)
  case atStart => exact ⟨0, by omega, rfl, _, rfl, R1.out⟩
  case round =>
    obtain ⟨k, hk, rfl, a, rfl, hcb⟩ := hrel
    have HB := Lib.hid hcb
    clear hcb R1 HP
    by_cases hlt : k < m
    · obtain ⟨ad, rfl, hx, hcs⟩ := HL.out.at_ hlt
      have hlt' : (k : Int) < (m : Int) := by omega
      have hk0 : (0 : Int) ≤ (k : Int) := Int.natCast_nonneg _
      have HCS := Lib.hid hcs
      have HXU := Lib.hid hx
      clear hcs hx
      generalize cd_ ds k = d at *
      obtain ⟨x, z⟩ := d
      dsimp only at HCS HXU
      have KP : Hid (∀ W, Below w.heap.size w W → W.cell? (ad.add (k * 2)) = some (.int .u32 x) ∧ W.cell? ⟨(ad.add (k * 2)).block, (ad.add (k * 2)).off + 1, none⟩ = some (.int .i64 z)) := HCS
      have HG := Lib.hid (fun W (g : CB w W b a) => cb_grant g x z)
      have HC := Lib.hid (gr_cases a x z)
      have HP : (x + z % 4294967296) % 4294967296 = pl x z := rfl
      have HLE := Lib.hid (fun W => rless_any a (pl x z) HB.out.1.2 (pl_u32 x z) W)
      have HAU := Lib.hid (grA_u32 HB.out.1.2 x z)
      have HLS := Lib.hid (fun W => rless_any x (grA a x z) HXU.out HAU.out W)
      have HLT := Lib.hid (fun W (g : CB w W b (grA a x z)) => cb_lets g HXU.out)
      generalize hs : grB a x z = s at *
      generalize hr : grA a x z = r at *
      generalize decide (0 < ah a (pl x z)) = t at *
      generalize decide (0 < ah x r) = u at *
      generalize hX : pl x z = X at *
      clear hs hr hX
      obtain ⟨k0, k1⟩ := KP.out _ HB.out.bel
      go_wp2_with fail
      go_quiet (fail)
      have HB4 : Hid (CB w (wr.drewN nq) b a) := Lib.hid (HB.out.below (below_grown (grown_drewN wr nq none) (Nat.le_refl _) (by simp)))
      clear k0 k1 HB
      generalize wr.drewN nq = w4 at *
      obtain ⟨k0, k1⟩ := KP.out _ HB4.out.bel
      have HBQ : Hid (CB w w4.drew b a) := Lib.hid (HB4.out.below (Below.refl w4.heap.size w4).drew)
      rcases HC.out with ⟨h0, rfl, rfl⟩ | ⟨⟨h0, h1⟩, rfl, rfl⟩ | ⟨⟨h0, h1⟩, rfl, rfl, rfl⟩ | ⟨⟨h0, h1⟩, rfl, rfl, rfl⟩
      all_goals
        go_wp2_with (first | (refine (HLE.out _).mono ?_; rintro e w5 ⟨rfl, rfl⟩))
        clear k0 k1 HB4
        obtain ⟨k0, k1⟩ := KP.out _ HBQ.out.bel
        go_region_held3 (fun w' => w'.cell? (ad.add (k * 2)) = some (.int .u32 x) ∧ w'.cell? ⟨(ad.add (k * 2)).block, (ad.add (k * 2)).off + 1, none⟩ = some (.int .i64 z))
          (first | go_keep | with_reducible exact KP.out _ R2.out.bel)
          (first
          | ((with_reducible refine (HG.out _ HBQ.out).mono ?_); rintro e wq ⟨rfl, r2⟩; have R2 := Lib.hid r2; clear r2)
          | ((with_reducible refine (cb_at R2.out).mono ?_); rintro e wq ⟨rfl, rfl⟩)
          | ((with_reducible refine (HLT.out _ R2.out).mono ?_); rintro e wq ⟨rfl, rfl⟩)
          | ((with_reducible refine (HLS.out _).mono ?_); rintro e wq ⟨rfl, rfl⟩))
        go_wp2_with fail
        go_roundw
        case rel => exact ⟨k + 1, by omega, by go_num, _, rfl, R2.out⟩
        case measure => simp [intOf]; omega
    · obtain rfl : k = m := by omega
      go_wp2_with fail
      refine (cr_awake _).mono ?_; rintro e w2 ⟨rfl, g2⟩
      have R4 := Lib.hid (HB.out.below g2)
      clear g2
      go_wp2_with fail
      go_ret
      exact ⟨rfl, R4.out.bel⟩
set_option maxRecDepth 100000 in
set_option maxHeartbeats 1600000 in
theorem cr_play_walk (B0 z : Int) (A : Option Addr) (m c : Nat) (ds : List Cd) (w : World) (hd : Cds w A m ds) :
    Calls Try.prog 3 #[.int .u32 B0, .int .i64 z, .slice A m c] w fun e w' => e = .returned (.bool true) ∧ Below w.heap.size w w' := by
  by_cases hm : (m : Int) ≤ 80
  · cases hz : mayB z
    · have HO := Lib.hid (fun W => cr_new_bad B0 z W hz)
      clear hd
      by_cases h1 : z < 0
      · clear hz
        go_enter Try.func3, Try.ntmps3
        go_wp2_with fail
        refine (HO.out _).mono ?_; rintro e w1 ⟨rfl, rfl⟩
        go_wp2_with fail
        refine (cr_awake _).mono ?_; rintro e w2 ⟨rfl, g2⟩
        have G2 := Lib.hid g2
        clear g2
        go_wp2_with fail
        go_ret
        exact ⟨rfl, G2.out⟩
      · have h2 : 65535 < z := by
          have : ¬ (0 ≤ z ∧ z ≤ 65535) := fun q => by rw [(may_iff z).2 q] at hz; cases hz
          omega
        clear hz
        go_enter Try.func3, Try.ntmps3
        go_wp2_with fail
        refine (HO.out _).mono ?_; rintro e w1 ⟨rfl, rfl⟩
        go_wp2_with fail
        refine (cr_awake _).mono ?_; rintro e w2 ⟨rfl, g2⟩
        have G2 := Lib.hid g2
        clear g2
        go_wp2_with fail
        go_ret
        exact ⟨rfl, G2.out⟩
    · exact cr_play_main B0 z A m c ds w hm hd hz
  · have h' : (80 : Int) < (m : Int) := by omega
    clear hd hm
    go_enter Try.func3, Try.ntmps3
    go_wp2_with fail
    refine (cr_awake _).mono ?_; rintro e w2 ⟨rfl, g2⟩
    have G2 := Lib.hid g2
    clear g2
    go_wp2_with fail
    go_ret
    exact ⟨rfl, G2.out⟩
end Go.Proofs.Ytgappggllplblaa

/- Proved: what package credit answers at an edge that a call has made itself; the laws' example; the laws' walks. Conditions: those that the theorems name. -/
import Derived.Test.YtgappggllplblaaCrBase
import Derived.Deep.RegionHeld3
namespace Go.Proofs.Ytgappggllplblaa
open Go.ChangeShapes Go.WideShapes Go.ChangeAt Go.RowKit

theorem cr_add_block (a : Addr) (n : Nat) : (a.add n).block = a.block := by unfold Addr.add; split <;> rfl
/-- Block b is an edge that was made since w; of what was there in w nothing has turned. -/
def CB (w wi : World) (b : Nat) (a : Int) : Prop := Ce wi b a ∧ w.heap.size ≤ b ∧ Below w.heap.size w wi
theorem CB.below {w wi w' : World} {b : Nat} {a : Int} (h : CB w wi b a) (k : Below wi.heap.size wi w') : CB w w' b a := ⟨⟨h.1.1.below k h.1.1.lt, h.1.2⟩, h.2.1, h.2.2.trans (k.mono h.2.2.size)⟩
theorem CB.bel {w wi : World} {b : Nat} {a : Int} (h : CB w wi b a) : Below w.heap.size w wi := h.2.2
theorem cb_new (w : World) (B n : Int) (h : mayB n = true) :
    Calls Try.prog 6 #[.int .u32 B, .int .i64 n] w fun e w' => ∃ b, e = .returned (.tuple #[.pointer (some ⟨b, 0, none⟩), .int .i64 0]) ∧ CB w w' b (pl B n) := by
  refine (cr_new B n w h).mono ?_
  rintro e w' ⟨b, rfl, h1, h2, h3⟩
  exact ⟨b, rfl, h1, h2, h3⟩
theorem cb_at {w wi : World} {b : Nat} {a : Int} (h : CB w wi b a) :
    Calls Try.prog 9 #[.pointer (some ⟨b, 0, none⟩)] wi fun e w' => e = .returned (.int .u32 a) ∧ wi = w' := cr_at h.1
theorem cb_lets {w wi : World} {b : Nat} {a x : Int} (h : CB w wi b a) (hx : U32 x) :
    Calls Try.prog 10 #[.pointer (some ⟨b, 0, none⟩), .int .u32 x] wi fun e w' => e = .returned (.bool (decide (0 < ah x a))) ∧ wi = w' := cr_lets h.1 hx
theorem cb_grant {w wi : World} {b : Nat} {a : Int} (h : CB w wi b a) (base n : Int) :
    Calls Try.prog 8 #[.pointer (some ⟨b, 0, none⟩), .int .u32 base, .int .i64 n] wi fun e w' => e = .returned (.bool (grB a base n)) ∧ CB w w' b (grA a base n) := by
  refine (cr_grant h.1 base n).mono ?_
  rintro e w' ⟨rfl, h1, h2⟩
  exact ⟨rfl, h1, h.2.1, h.2.2.grown h2 h.2.2.size (fun q e => by injection e with e; rw [← e]; exact h.2.1)⟩
theorem cu (x : Int) (h0 : 0 ≤ x := by decide) (h1 : x ≤ 4294967295 := by decide) : U32 x := ⟨h0, h1⟩
theorem cb_grant_as {w wi : World} {b : Nat} {a : Int} (h : CB w wi b a) {base n : Int} {s : Bool} {r : Int} (e1 : grB a base n = s) (e2 : grA a base n = r) :
    Calls Try.prog 8 #[.pointer (some ⟨b, 0, none⟩), .int .u32 base, .int .i64 n] wi fun e w' => e = .returned (.bool s) ∧ CB w w' b r := by
  subst e1; subst e2; exact cb_grant h base n
theorem cb_lets_as {w wi : World} {b : Nat} {a x : Int} (h : CB w wi b a) (hx : U32 x) {s : Bool} (e : decide (0 < ah x a) = s) :
    Calls Try.prog 10 #[.pointer (some ⟨b, 0, none⟩), .int .u32 x] wi fun e w' => e = .returned (.bool s) ∧ wi = w' := by
  subst e; exact cb_lets h hx

/-! ### the example -/
set_option maxRecDepth 100000 in
set_option maxHeartbeats 3200000 in
theorem cr_awake (w : World) :
    Calls Try.prog 5 #[] w fun e w' => e = .returned (.bool true) ∧ Below w.heap.size w w' := by
  have HN := Lib.hid (cb_new w 0 2 (by decide))
  have HO := Lib.hid (fun W => cr_new_bad 0 (-1) W (by decide))
  rw [show pl 0 2 = 2 by decide] at HN
  go_enter Try.func5, Try.ntmps5
  go_wp2_with fail
  refine HN.out.mono ?_; rintro e w1 ⟨b, rfl, r1⟩
  have R1 := Lib.hid r1
  clear r1 HN
  go_wp2_with fail
  refine (HO.out _).mono ?_; rintro e w2 ⟨rfl, rfl⟩
  go_wp2_with fail
  refine (cb_grant_as R1.out (s := false) (r := 2) (by decide +kernel) (by decide +kernel)).mono ?_; rintro e w2 ⟨rfl, r2⟩
  have R2 := Lib.hid r2
  clear r2 R1
  go_wp2_with fail
  refine (cb_grant_as R2.out (s := true) (r := 4) (by decide +kernel) (by decide +kernel)).mono ?_; rintro e w3 ⟨rfl, r3⟩
  have R3 := Lib.hid r3
  clear r3 R2
  go_wp2_with fail
  refine (cb_at R3.out).mono ?_; rintro e w4 ⟨rfl, rfl⟩
  go_wp2_with fail
  refine (cb_lets_as R3.out (cu 3) (s := true) (by decide +kernel)).mono ?_; rintro e w4 ⟨rfl, rfl⟩
  go_wp2_with fail
  refine (cb_lets_as R3.out (cu 4) (s := false) (by decide +kernel)).mono ?_; rintro e w4 ⟨rfl, rfl⟩
  go_wp2_with fail
  go_ret
  exact ⟨rfl, R3.out.2.2⟩

/-- A deed. -/
structure Cd where
  x : Int
  n : Int
def cd_ (l : List Cd) (j : Nat) : Cd := l.getD j ⟨0, 0⟩
/-- The slice value with address A and length n holds the deeds l, in memory that is there. -/
def Cds (w : World) (A : Option Addr) (n : Nat) (l : List Cd) : Prop :=
  l.length = n ∧ (∀ j, j < n → U32 (cd_ l j).x) ∧ (0 < n → ∃ ad, A = some ad ∧ ad.block < w.heap.size ∧ ∀ j, j < n → w.cell? (ad.add (j * 2)) = some (.int .u32 (cd_ l j).x) ∧ w.cell? ⟨(ad.add (j * 2)).block, (ad.add (j * 2)).off + 1, none⟩ = some (.int .i64 (cd_ l j).n))
theorem Cds.nil (w : World) (A : Option Addr) : Cds w A 0 [] := ⟨rfl, fun _ h => absurd h (by omega), fun h => absurd h (by omega)⟩
theorem Cds.at_ {w : World} {A : Option Addr} {n : Nat} {l : List Cd} (h : Cds w A n l) {k : Nat} (hk : k < n) :
    ∃ ad, A = some ad ∧ U32 (cd_ l k).x ∧ ∀ w', Below w.heap.size w w' → w'.cell? (ad.add (k * 2)) = some (.int .u32 (cd_ l k).x) ∧ w'.cell? ⟨(ad.add (k * 2)).block, (ad.add (k * 2)).off + 1, none⟩ = some (.int .i64 (cd_ l k).n) := by
  obtain ⟨ad, e, hlt, hc⟩ := h.2.2 (by omega)
  refine ⟨ad, e, h.2.1 k hk, fun w' hb => ?_⟩
  obtain ⟨c0, c1⟩ := hc k hk
  have hl : (ad.add (k * 2)).block < w.heap.size := by rw [cr_add_block]; omega
  exact ⟨(hb.cell hl).trans c0, (hb.cell (p := ⟨(ad.add (k * 2)).block, (ad.add (k * 2)).off + 1, none⟩) hl).trans c1⟩

/-! ### the edge never moves back -/
theorem ah_back_no {a base n : Int} (h : U32 a) : decide (0 < ah (grA a base n) a) = false := by
  unfold grA
  split
  · rename_i hg
    unfold grB at hg
    have h1 : 0 < ah a (pl base n) := by
      cases hm : mayB n
      · rw [hm] at hg; simp at hg
      · rw [hm, Bool.true_and] at hg; exact of_decide_eq_true hg
    have hp := pl_u32 base n
    generalize pl base n = x at *
    clear hg
    apply decide_eq_false
    unfold U32 ah at *
    omega
  · rw [ah_self]; rfl
set_option maxRecDepth 100000 in
set_option maxHeartbeats 3200000 in
theorem cr_ahead_main (B0 : Int) (A : Option Addr) (m c : Nat) (ds : List Cd) (w : World) (hm : (m : Int) ≤ 80) (hd : Cds w A m ds) :
    Calls Try.prog 4 #[.int .u32 B0, .slice A m c] w fun e w' => e = .returned (.bool true) ∧ Below w.heap.size w w' := by
  have HN := Lib.hid (cb_new w B0 3 (by decide))
  have HL := Lib.hid hd
  clear hd
  go_enter Try.func4, Try.ntmps4
  go_wp2_with fail
  refine HN.out.mono ?_; rintro e w1 ⟨b, rfl, r1⟩
  have R1 := Lib.hid r1
  clear r1 HN
  go_wp2_with fail
  go_loopw [7] (fun i wr => ∃ k : Nat, k ≤ m ∧ i = .int .i64 k ∧ ∃ a, CB w wr b a) (fun i _ => m - (intOf i).toNat)
  case atStart => exact ⟨0, by omega, rfl, _, R1.out⟩
  case round =>
    obtain ⟨k, hk, rfl, a, hcb⟩ := hrel
    have HB := Lib.hid hcb
    clear hcb R1
    by_cases hlt : k < m
    · obtain ⟨ad, rfl, hx, hcs⟩ := HL.out.at_ hlt
      have hlt' : (k : Int) < (m : Int) := by omega
      have hk0 : (0 : Int) ≤ (k : Int) := Int.natCast_nonneg _
      have HCS := Lib.hid hcs
      clear hcs hx
      generalize cd_ ds k = d at *
      obtain ⟨x, z⟩ := d
      dsimp only at HCS
      have QQ : Hid (Below wr.heap.size wr wr.drew) := Lib.hid (Below.refl wr.heap.size wr).drew
      have KP : Hid (∀ W, Below w.heap.size w W → W.cell? (ad.add (k * 2)) = some (.int .u32 x) ∧ W.cell? ⟨(ad.add (k * 2)).block, (ad.add (k * 2)).off + 1, none⟩ = some (.int .i64 z)) := HCS
      have HBQ := Lib.hid (HB.out.below QQ.out)
      have HG := Lib.hid (fun W (g : CB w W b a) => cb_grant g x z)
      have HAH := Lib.hid (ah_back_no (base := x) (n := z) HB.out.1.2)
      have HAU := Lib.hid (grA_u32 HB.out.1.2 x z)
      have HLS := Lib.hid (fun W => rless_any (grA a x z) a HAU.out HB.out.1.2 W)
      rw [HAH.out] at HLS
      generalize grB a x z = s at *
      generalize grA a x z = r at *
      obtain ⟨k0, k1⟩ := KP.out _ HBQ.out.2.2
      go_wp2_with fail
      refine (cb_at HB.out).mono ?_; rintro e w2 ⟨rfl, rfl⟩
      go_wp2_with fail
      go_region_held3 (fun w' => w'.cell? (ad.add (k * 2)) = some (.int .u32 x) ∧ w'.cell? ⟨(ad.add (k * 2)).block, (ad.add (k * 2)).off + 1, none⟩ = some (.int .i64 z))
        (first | go_keep | with_reducible exact KP.out _ R2.out.bel)
        (first
        | ((with_reducible refine (HG.out _ HBQ.out).mono ?_); rintro e wq ⟨rfl, r2⟩; have R2 := Lib.hid r2; clear r2))
      go_wp2_with fail
      refine (cb_at R2.out).mono ?_; rintro e w4 ⟨rfl, rfl⟩
      go_wp2_with fail
      refine (HLS.out _).mono ?_; rintro e w4 ⟨rfl, rfl⟩
      go_wp2_with fail
      go_roundw
      case rel => exact ⟨k + 1, by omega, by go_num, _, R2.out⟩
      case measure => simp [intOf]; omega
    · obtain rfl : k = m := by omega
      go_wp2_with fail
      refine (cr_grant_nil _ 1 _).mono ?_; rintro e w2 ⟨rfl, rfl⟩
      go_wp2_with fail
      refine (cr_lets_nil _ _).mono ?_; rintro e w2 ⟨rfl, rfl⟩
      go_wp2_with fail
      refine (cr_at_nil _).mono ?_; rintro e w2 ⟨rfl, rfl⟩
      go_wp2_with fail
      refine (cr_awake _).mono ?_; rintro e w2 ⟨rfl, g2⟩
      have R4 := Lib.hid (HB.out.below g2)
      clear g2
      go_wp2_with fail
      go_ret
      exact ⟨rfl, R4.out.2.2⟩
set_option maxRecDepth 100000 in
theorem cr_ahead_walk (B0 : Int) (A : Option Addr) (m c : Nat) (ds : List Cd) (w : World) (hd : Cds w A m ds) :
    Calls Try.prog 4 #[.int .u32 B0, .slice A m c] w fun e w' => e = .returned (.bool true) ∧ Below w.heap.size w w' := by
  by_cases hm : (m : Int) ≤ 80
  · exact cr_ahead_main B0 A m c ds w hm hd
  · have h' : (80 : Int) < (m : Int) := by omega
    clear hd hm
    go_enter Try.func4, Try.ntmps4
    go_wp2_with fail
    refine (cr_awake _).mono ?_; rintro e w2 ⟨rfl, g2⟩
    have G2 := Lib.hid g2
    clear g2
    go_wp2_with fail
    go_ret
    exact ⟨rfl, G2.out⟩
end Go.Proofs.Ytgappggllplblaa

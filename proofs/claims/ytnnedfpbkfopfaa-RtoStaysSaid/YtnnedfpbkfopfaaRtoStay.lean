/- Proved: the walk of the law of package rto on samples that come again and again. Conditions: those that the theorems name. -/
import Derived.Test.YtnnedfpbkfopfaaRtoLaw
import Derived.Test.YtnnedfpbkfopfaaVecMem
import Derived.WalkSpells
import Derived.Deep.QuietTactic
import Derived.BigQuiet
import Derived.Deep.DeepCutAuto
import Derived.Deep.RegionWith
namespace Go.Proofs.Ytnnedfpbkfopfaa
open Go.ChangeShapes Go.WideShapes Go.ChangeAt Go.RowKit

/-- what is known of samples below 2^16. -/
def Low (r : Rt) : Prop := (0 ≤ r.m ∧ r.m ≤ 524280) ∧ (0 ≤ r.v ∧ r.v ≤ 1073741824) ∧ 0 ≤ r.n
theorem Low.fine {r : Rt} (h : Low r) {s : Int} (h0 : 0 ≤ s) (h1 : s ≤ 65535) : fineB r s = true := by
  unfold Low at h
  rw [fine_iff]
  omega
theorem Low.err {r : Rt} (h : Low r) {s : Int} (h0 : 0 ≤ s) (h1 : s ≤ 65535) : takeE r s = 0 := by
  unfold takeE; rw [if_pos (h.fine h0 h1)]
theorem Low.next {r : Rt} (h : Low r) {s : Int} (h0 : 0 ≤ s) (h1 : s ≤ 65535) : Low (takeR r s) := by
  unfold takeR
  rw [if_pos (h.fine h0 h1)]
  unfold Low at *
  obtain ⟨⟨a, b⟩, ⟨c, d⟩, e⟩ := h
  by_cases hn : r.n = 0
  · rw [if_pos hn]
    unfold knownR
    dsimp only
    omega
  · rw [if_neg hn]
    unfold knownR absI
    dsimp only
    omega
/-- how far off what is known may be behind so many samples. -/
def bnd : Nat → Int
  | 0 => 524280
  | i + 1 => bnd i - bnd i / 8
theorem bnd_end : bnd 400 ≤ 7 := by decide +kernel
theorem bnd_low (i : Nat) : 0 ≤ bnd i := by
  induction i with
  | zero => decide
  | succ i ih => show 0 ≤ bnd i - bnd i / 8; omega
def Near (r : Rt) (s : Int) (i : Nat) : Prop := Low r ∧ -(bnd i) ≤ r.m - 8 * s ∧ r.m - 8 * s ≤ bnd i
theorem Near.start {r : Rt} {s : Int} (h : Low r) (h0 : 0 ≤ s) (h1 : s ≤ 65535) : Near r s 0 := by
  refine ⟨h, ?_⟩
  unfold Low at h
  show -524280 ≤ r.m - 8 * s ∧ r.m - 8 * s ≤ 524280
  omega
theorem Near.next {r : Rt} {s : Int} {i : Nat} (h : Near r s i) (h0 : 0 ≤ s) (h1 : s ≤ 65535) : Near (takeR r s) s (i + 1) := by
  obtain ⟨hl, ha, hb⟩ := h
  refine ⟨hl.next h0 h1, ?_⟩
  have hp := bnd_low i
  show -(bnd i - bnd i / 8) ≤ (takeR r s).m - 8 * s ∧ (takeR r s).m - 8 * s ≤ bnd i - bnd i / 8
  unfold takeR
  rw [if_pos (hl.fine h0 h1)]
  unfold Low at hl
  by_cases hn : r.n = 0
  · rw [if_pos hn]
    unfold knownR
    dsimp only
    omega
  · rw [if_neg hn]
    unfold knownR
    dsimp only
    omega
theorem Near.done {r : Rt} {s : Int} (h : Near r s 400) : -8 ≤ r.m / 8 - s ∧ r.m / 8 - s ≤ 8 := by
  have := bnd_end
  obtain ⟨_, ha, hb⟩ := h
  omega
theorem wait_low (r : Rt) : 3 ≤ waitZ r 3 ∧ waitZ r 3 ≤ 1048576 := by
  unfold waitZ
  split
  · have := (wi_bounds (min (r.m / 8) 1048576 + min r.v 1048576)).2
    have h3 : wi 3 = 3 := by decide
    rw [h3]; omega
  · decide

/-- The slice with address A and length n holds numbers below 2^16, in memory that is there. -/
def Us (w : World) (A : Option Addr) (n : Nat) : Prop := 0 < n → ∃ ad, A = some ad ∧ ad.block < w.heap.size ∧ ∀ j, j < n → ∃ x : Int, 0 ≤ x ∧ x ≤ 65535 ∧ w.cell? (ad.add j) = some (.int .u16 x)

set_option maxRecDepth 100000 in
set_option maxHeartbeats 3200000 in
theorem stays_few (A : Option Addr) (n c : Nat) (s : Int) (w : World) (hA : Us w A n) (hn : n ≤ 60) (s0 : 0 ≤ s) (s1 : s ≤ 65535) : Calls Try.prog 5 #[.slice A n c, .int .u16 s] w fun e w' => e = .returned (.bool true) ∧ Below w.heap.size w w' := by
  have hn' : ¬ (n : Int) > 60 := by omega
  have HS := Lib.hid hA
  have HT := Lib.hid (fun (m v n : Int) (s : Int) (w : World) => take_any ⟨m, v, n⟩ s w)
  have HW := Lib.hid (fun (m v n : Int) (w : World) hm hv => timeout_any ⟨m, v, n⟩ 3 w hm hv)
  unfold GivesRt GivesN Rt.val at *
  dsimp only at HT HW
  clear hA
  have A0 := Lib.hid (At.new w 23 [.int .i64 0, .int .i64 0, .int .i64 0])
  have B0 := Lib.hid ((Below.refl w.heap.size w).alloc (Nat.le_refl _) (.cells #[.int .i64 0, .int .i64 0, .int .i64 0] 23))
  go_enter Try.func5, Try.ntmps5
  go_wp2_with fail
  change Hid (At (w.alloc (.cells #[.int .i64 0, .int .i64 0, .int .i64 0] 23)) _ _ _) at A0
  generalize w.alloc (.cells #[.int .i64 0, .int .i64 0, .int .i64 0] 23) = W0 at *
  go_loopw [6] (fun i wr => ∃ (j : Nat) (r : Rt), j ≤ n ∧ i = .int .i64 j ∧ Low r ∧ At wr w.heap.size 23 [.int .i64 r.m, .int .i64 r.v, .int .i64 r.n] ∧ Below w.heap.size w wr) (fun i _ => n - (intOf i).toNat)
  case atStart => exact ⟨0, ⟨0, 0, 0⟩, by omega, rfl, by unfold Low; decide, A0.out, B0.out⟩
  case round =>
    obtain ⟨j, r, hj, rfl, hlow, hat, hbel⟩ := hrel
    obtain ⟨m, v, q⟩ := r
    dsimp only at hat
    have HL := Lib.hid hlow
    have HA := Lib.hid hat
    have HB := Lib.hid hbel
    clear hlow hat hbel A0 B0
    have hj0 : (0 : Int) ≤ (j : Int) := Int.natCast_nonneg _
    by_cases hlt : j < n
    · obtain ⟨ad, rfl, had, hcs⟩ := HS.out (by omega)
      obtain ⟨x, x0, x1, hx⟩ := hcs j hlt
      have hlt' : (j : Int) < (n : Int) := by omega
      have HE := Lib.hid (HL.out.err x0 x1)
      have HN := Lib.hid (HL.out.next x0 x1)
      clear hcs
      have hx' : Hid (∀ w6, Below w.heap.size w w6 → w6.cell? (ad.add j) = some (.int .u16 x)) := Lib.hid fun w6 h => (h.cell (p := ad.add j) (by rw [add_block]; exact had)).trans hx
      have HJ := Lib.hid (show j + 1 ≤ n by omega)
      have hwx : IntKind.i64.wrap x = x := IntWalk.i64_in _ (by omega)
      have HTx := Lib.hid (fun W => HT.out m v q x W)
      rw [HE.out] at HTx
      clear HE
      generalize takeR ⟨m, v, q⟩ x = R at *
      obtain ⟨m', v', q'⟩ := R
      dsimp only at HTx
      clear hx
      have KP : Hid (∀ w6, Below wr.heap.size wr w6 → w6.cell? ⟨w.heap.size, 0, none⟩ = some (.int .i64 m) ∧ w6.cell? ⟨w.heap.size, 1, none⟩ = some (.int .i64 v) ∧ w6.cell? ⟨w.heap.size, 2, none⟩ = some (.int .i64 q) ∧ w6.cell? (ad.add j) = some (.int .u16 x)) := Lib.hid fun w6 h => by
        have d := HA.out.below h HA.out.lt
        exact ⟨d.cell 0 rfl, d.cell 1 rfl, d.cell 2 rfl, hx'.out _ (HB.out.trans (h.mono HB.out.size))⟩
      have BA : Hid (∀ w6, Below wr.drew.heap.size wr.drew w6 → Below wr.heap.size wr w6) := Lib.hid fun w6 h => (Below.refl wr.heap.size wr).drew.trans h
      have BB : Hid (∀ w6, Below (wr.alloc (.cells #[.int .i64 0, .int .i64 0, .int .i64 0] 23)).drew.heap.size (wr.alloc (.cells #[.int .i64 0, .int .i64 0, .int .i64 0] 23)).drew w6 → Below wr.heap.size wr w6) := Lib.hid fun w6 h => ((Below.refl wr.heap.size wr).alloc (Nat.le_refl _) _).drew.trans (h.mono (by simp))
      obtain ⟨k0, k1, k2, k3⟩ := KP.out wr (Below.refl _ _)
      go_upto_region 7 with fail
      go_cut [7, 8] (fun u u' wx => ∃ p, u = .pointer (some ⟨p, 0, none⟩) ∧ u' = .int .i64 0 ∧ At wx p 23 [.int .i64 m', .int .i64 v', .int .i64 q'] ∧ wr.heap.size ≤ p ∧ Below wr.heap.size wr wx)
      case first =>
        go_region_held3 (fun w6 => w6.cell? ⟨w.heap.size, 0, none⟩ = some (.int .i64 m) ∧ w6.cell? ⟨w.heap.size, 1, none⟩ = some (.int .i64 v) ∧ w6.cell? ⟨w.heap.size, 2, none⟩ = some (.int .i64 q) ∧ w6.cell? (ad.add j) = some (.int .u16 x))
          (first | go_keep | with_reducible exact KP.out _ (BA.out _ (Below.refl _ _)) | with_reducible exact KP.out _ (BA.out _ G4.out) | with_reducible exact KP.out _ (BA.out _ (G4.out.alloc G4.out.size _)) | with_reducible exact KP.out _ (BB.out _ (Below.refl _ _)) | with_reducible exact KP.out _ (BB.out _ G4.out) | with_reducible exact KP.out _ ((BB.out _ G4.out).setCell (Nat.le_refl _) _) | with_reducible exact KP.out _ (((BB.out _ G4.out).setCell (Nat.le_refl _) _).setCell (Nat.le_refl _) _) | with_reducible exact KP.out _ ((((BB.out _ G4.out).setCell (Nat.le_refl _) _).setCell (Nat.le_refl _) _).setCell (Nat.le_refl _) _))
          (first
          | ((with_reducible refine (HTx.out wr.drew).mono ?_); rintro e w2 ⟨rfl, g4⟩; have G4 := Lib.hid g4; clear g4)
          | ((with_reducible refine (HTx.out (wr.alloc (.cells #[.int .i64 0, .int .i64 0, .int .i64 0] 23)).drew).mono ?_); rintro e w2 ⟨rfl, g4⟩; have G4 := Lib.hid g4; have A4 := (show At ((wr.alloc (.cells #[.int .i64 0, .int .i64 0, .int .i64 0] 23)).drew) wr.heap.size 23 [.int .i64 0, .int .i64 0, .int .i64 0] from At.new wr _ _).below g4 (by simp); have z0 := A4.cell 0 rfl; have z1 := A4.cell 1 rfl; have z2 := A4.cell 2 rfl; have y0 := A4.free 0; have y1 := A4.free 1; have y2 := A4.free 2; have H4 := Lib.hid A4; clear A4 g4))
        all_goals
          go_wp2_with fail
          go_meet
          first
            | exact ⟨w2.heap.size, rfl, rfl, At.new w2 _ [.int .i64 m', .int .i64 v', .int .i64 q'], (BA.out _ G4.out).size, BA.out _ (G4.out.alloc G4.out.size _)⟩
            | exact ⟨wr.heap.size, rfl, rfl, ((H4.out.set_ 0 _).set_ 1 _).set_ 2 _, Nat.le_refl _, (((BB.out _ G4.out).setCell (Nat.le_refl _) _).setCell (Nat.le_refl _) _).setCell (Nat.le_refl _) _⟩
      case rest =>
        obtain ⟨p, rfl, rfl, hpt, hpr, hbel2⟩ := hcut
        rename World => w5
        have h0 := hpt.cell 0 rfl
        have h1 := hpt.cell 1 rfl
        have h2 := hpt.cell 2 rfl
        have HP := Lib.hid hpt
        have HL' := HN.out
        unfold Low at HL'
        obtain ⟨⟨l0, l1⟩, ⟨l2, l3⟩, l4⟩ := HL'
        dsimp only at l0 l1 l2 l3 l4
        have HB2 := Lib.hid hbel2
        have HPR := Lib.hid hpr
        have HWx := Lib.hid (fun W => HW.out m' v' q' W (by omega) (by omega))
        obtain ⟨g0, g1⟩ := wait_low ⟨m', v', q'⟩
        generalize waitZ ⟨m', v', q'⟩ 3 = z at *
        clear hpt hpr hbel2 k0 k1 k2 k3 BA BB
        go_wp2_with fail
        refine (HWx.out _).mono ?_; rintro e w7 ⟨rfl, g⟩
        have HP7 := HP.out.below g HP.out.lt
        clear h0 h1 h2
        have h0 := HP7.cell 0 rfl
        have h1 := HP7.cell 1 rfl
        have h2 := HP7.cell 2 rfl
        have G7 : Hid (Below wr.heap.size wr w7) := Lib.hid (HB2.out.trans (g.mono HB2.out.size))
        have AA := HA.out.below G7.out HA.out.lt
        have d0 := AA.cell 0 rfl
        have d1 := AA.cell 1 rfl
        have d2 := AA.cell 2 rfl
        have f0 := AA.free 0
        have f1 := AA.free 1
        have f2 := AA.free 2
        have HAA := Lib.hid AA
        have HG7 : Hid (Below w.heap.size w w7) := Lib.hid (HB.out.trans (G7.out.mono HB.out.size))
        clear g HP7 AA KP
        go_wp2_with fail
        go_roundw
        case rel => exact ⟨j + 1, ⟨m', v', q'⟩, HJ.out, by go_num, HN.out, ((HAA.out.set_ 0 _).set_ 1 _).set_ 2 _, below_set (below_set (below_set HG7.out (Nat.le_refl _) (Nat.le_refl _)) (Nat.le_refl _) (Nat.le_refl _)) (Nat.le_refl _) (Nat.le_refl _)⟩
        case measure => have := HJ.out; simp [intOf]; omega
    · obtain rfl : j = n := by omega
      have HN0 := Lib.hid (Near.start HL.out s0 s1)
      have hws : IntKind.i64.wrap s = s := IntWalk.i64_in _ (by omega)
      clear HL HS HW
      have hj1 : ¬ (j : Int) < (j : Int) := by omega
      go_wp2_with fail
      go_loopw [10] (fun i wx => ∃ (k : Nat) (r : Rt), k ≤ 400 ∧ i = .int .i64 k ∧ Near r s k ∧ At wx w.heap.size 23 [.int .i64 r.m, .int .i64 r.v, .int .i64 r.n] ∧ Below w.heap.size w wx) (fun i _ => 400 - (intOf i).toNat)
      case atStart => exact ⟨0, ⟨m, v, q⟩, by omega, rfl, HN0.out, HA.out, HB.out⟩
      case round =>
        obtain ⟨k, r, hk, rfl, hnear, hat, hbel⟩ := hrel
        obtain ⟨m', v', q'⟩ := r
        dsimp only at hat
        clear HN0 HA HB
        have HN := Lib.hid hnear
        have HA := Lib.hid hat
        have HB := Lib.hid hbel
        have d0 := hat.cell 0 rfl
        have d1 := hat.cell 1 rfl
        have d2 := hat.cell 2 rfl
        have hk0 : (0 : Int) ≤ (k : Int) := Int.natCast_nonneg _
        clear hnear hat hbel
        by_cases hlt : k < 400
        · have hlt' : (k : Int) < 400 := by omega
          have HTx := Lib.hid (fun W => HT.out m' v' q' s W)
          rw [HN.out.1.err s0 s1] at HTx
          have HM := Lib.hid (HN.out.next s0 s1)
          generalize takeR ⟨m', v', q'⟩ s = R at *
          obtain ⟨m2, v2, q2⟩ := R
          dsimp only at HTx
          go_wp2_with fail
          refine (HTx.out _).mono ?_; rintro e w2 ⟨rfl, g⟩
          have B2 := Lib.hid ((HB.out.trans (g.mono HB.out.size)).alloc (Nat.le_trans HB.out.size g.size) (.cells #[.int .i64 m2, .int .i64 v2, .int .i64 q2] 23))
          have A2 := (HA.out.below g HA.out.lt).alloc (.cells #[.int .i64 m2, .int .i64 v2, .int .i64 q2] 23)
          have X2 := At.new w2 23 [.int .i64 m2, .int .i64 v2, .int .i64 q2]
          have x0 := X2.cell 0 rfl
          have x1 := X2.cell 1 rfl
          have x2 := X2.cell 2 rfl
          have e0 := A2.cell 0 rfl
          have e1 := A2.cell 1 rfl
          have e2 := A2.cell 2 rfl
          have f0 := A2.free 0
          have f1 := A2.free 1
          have f2 := A2.free 2
          have HA2 := Lib.hid A2
          clear A2 X2 g d0 d1 d2
          go_wp2_with fail
          go_roundw
          case rel => exact ⟨k + 1, ⟨m2, v2, q2⟩, by omega, by go_num, HM.out, ((HA2.out.set_ 0 _).set_ 1 _).set_ 2 _, below_set (below_set (below_set B2.out (Nat.le_refl _) (Nat.le_refl _)) (Nat.le_refl _) (Nat.le_refl _)) (Nat.le_refl _) (Nat.le_refl _)⟩
          case measure => simp [intOf]; omega
        · obtain rfl : k = 400 := by omega
          have hd := HN.out.done
          have hl := HN.out.1
          unfold Low at hl
          dsimp only at hd hl
          obtain ⟨⟨l0, l1⟩, _⟩ := hl
          obtain ⟨z0, z1⟩ := hd
          have l2 : 0 ≤ m' / 8 := by omega
          have l3 : m' / 8 ≤ 65535 := by omega
          generalize hz : m' / 8 = z at *
          have hk4 : ¬ ((400 : Nat) : Int) < 400 := by omega
          go_wp2_with fail
          refine (rto_awake _).mono ?_; rintro e w2 ⟨rfl, g⟩
          have B2 := Lib.hid (HB.out.trans (g.mono HB.out.size))
          clear g
          go_wp2_with fail
          go_ret
          exact ⟨rfl, B2.out⟩

set_option maxRecDepth 100000 in
set_option maxHeartbeats 800000 in
theorem stays_many (A : Option Addr) (n c : Nat) (s : Int) (w : World) (hn : ¬ n ≤ 60) : Calls Try.prog 5 #[.slice A n c, .int .u16 s] w fun e w' => e = .returned (.bool true) ∧ Below w.heap.size w w' := by
  have hn' : (n : Int) > 60 := by omega
  clear hn
  go_enter Try.func5, Try.ntmps5
  go_wp2_with fail
  refine (rto_awake _).mono ?_; rintro e w2 ⟨rfl, g⟩
  go_wp2_with fail
  go_ret
  exact ⟨rfl, g⟩
end Go.Proofs.Ytnnedfpbkfopfaa

/- Proved: lemmas of one statement's proof, merged by program: what each part proves stands ahead of it. Conditions: those that the lemmas name. -/
import Derived.Test.YtooegclblgeicaaGreatDoorM3
import Derived.Test.YtooegclblgeicaaGreatDoorM2
import Derived.Test.YtooegclblgeicaaGreatDoorM1

/- Proved: what Mul of package gf answers for every two bytes. Conditions: the bounds that the theorem names. -/
namespace Go.Proofs.YtooegclblgeicaaGreatDoor
open Go.ChangeShapes Go.WideShapes Go.ChangeAt Go.RowKit

theorem mul_step (x p y : Nat) (hx : x < 256) (hp : p < 256) (hy : y < 256) :
    bits BinOp.xor IntKind.u8 (p : Int) ((x : Int) * bits BinOp.and IntKind.u8 (y : Int) 1 % 256) = ((p ^^^ (x * (y % 2)) : Nat) : Int) := by
  have e := u8_and_nat y 1 hy (by decide)
  rw [Nat.and_one_is_mod] at e
  have e' : bits BinOp.and IntKind.u8 (y : Int) 1 = ((y % 2 : Nat) : Int) := e
  rw [e']
  have hb : y % 2 = 0 ∨ y % 2 = 1 := by omega
  rcases hb with e0 | e0 <;> rw [e0]
  · exact u8_xor_nat p 0 hp (by decide)
  · rw [show (x : Int) * ((1 : Nat) : Int) % 256 = ((x * 1 : Nat) : Int) by omega]
    exact u8_xor_nat p (x * 1) hp (by omega)

theorem mulN_succ (k a b : Nat) : mulN (k + 1) a b = mulN k a b ^^^ (dblN k a * (b / 2 ^ k % 2)) := rfl

set_option maxHeartbeats 400000 in
theorem mul_any (a b : Nat) (ha : a < 256) (hb : b < 256) (w : World) :
    Calls Tryz.prog 89 #[.int .u8 a, .int .u8 b] w fun e w' => e = .returned (.int .u8 (gmul a b : Nat)) ∧ w = w' := by
  go_enter Tryz.func89, Tryz.ntmps89
  go_wp2_with fail
  go_loop [0, 1, 5, 6] (fun x y p i => ∃ k : Nat, k ≤ 8 ∧ i = .int .i64 k ∧ x = .int .u8 (dblN k a : Nat) ∧ y = .int .u8 (b / 2 ^ k : Nat) ∧ p = .int .u8 (mulN k a b : Nat)) (fun _ _ _ i => 8 - (intOf i).toNat)
  case atStart => exact ⟨0, by omega, rfl, rfl, by simp, rfl⟩
  case round =>
    obtain ⟨k, hk, rfl, rfl, rfl, rfl⟩ := hrel
    have hl := dblN_lt k ha
    have hm := mulN_lt k b ha
    have hy : b / 2 ^ k < 256 := Nat.lt_of_le_of_lt (Nat.div_le_self _ _) hb
    by_cases hlt : k < 8
    · have H := Lib.hid (mul_step (dblN k a) (mulN k a b) (b / 2 ^ k) hl hm hy)
      go_wp2_with (go_at_call 96; refine (double_any _ (by omega) _).mono ?_; rintro e w' ⟨rfl, rfl⟩)
      go_round
      case rel => exact ⟨k + 1, by omega, by go_num, rfl, val_int (by rw [Nat.pow_succ, ← Nat.div_div_eq_div_mul]; rw [Int.natCast_ediv]; rfl), val_int (by rw [mulN_succ]; first | exact H.out | (push_cast at *; exact H.out))⟩
      case measure => simp [intOf]; omega
    · have : k = 8 := by omega
      subst this
      go_wp2_with fail
      go_ret
      exact ⟨rfl, rfl⟩
end Go.Proofs.YtooegclblgeicaaGreatDoor

/- Proved: what Add of package vector answers for every two rows of bytes. Conditions: those that the theorems name. -/
namespace Go.Proofs.YtooegclblgeicaaGreatDoor
open Go.ChangeShapes Go.WideShapes Go.ChangeAt Go.RowKit

/-- A row with l comes back, in memory that is there; nothing that was there has turned. -/
def Gives (W : World) (n : Nat) (l : List Nat) (e : Ending) (w' : World) : Prop :=
  ∃ A c, e = .returned (.slice A n c) ∧ Bs w' A n l ∧ Below W.heap.size W w'
/-- Likewise, with no error beside it. -/
def Gives2 (W : World) (n : Nat) (l : List Nat) (e : Ending) (w' : World) : Prop :=
  ∃ A c, e = .returned (.tuple #[.slice A n c, .int .i64 0]) ∧ Bs w' A n l ∧ Below W.heap.size W w'
/-- The same, and its capacity is no less than its length. -/
def GivesC (W : World) (n : Nat) (l : List Nat) (e : Ending) (w' : World) : Prop :=
  ∃ A c, e = .returned (.slice A n c) ∧ n ≤ c ∧ Bs w' A n l ∧ Below W.heap.size W w'
def Gives2C (W : World) (n : Nat) (l : List Nat) (e : Ending) (w' : World) : Prop :=
  ∃ A c, e = .returned (.tuple #[.slice A n c, .int .i64 0]) ∧ n ≤ c ∧ Bs w' A n l ∧ Below W.heap.size W w'
theorem GivesC.gives {W : World} {n : Nat} {l : List Nat} {e : Ending} {w' : World} (h : GivesC W n l e w') : Gives W n l e w' := by
  obtain ⟨A, c, h1, _, h2, h3⟩ := h
  exact ⟨A, c, h1, h2, h3⟩
theorem Gives2C.gives {W : World} {n : Nat} {l : List Nat} {e : Ending} {w' : World} (h : Gives2C W n l e w') : Gives2 W n l e w' := by
  obtain ⟨A, c, h1, _, h2, h3⟩ := h
  exact ⟨A, c, h1, h2, h3⟩

set_option maxHeartbeats 400000 in
theorem add_none (A B : Option Addr) (c d : Nat) (w : World) :
    Calls Tryz.prog 76 #[.slice A 0 c, .slice B 0 d] w (Gives2C w 0 []) := by
  go_enter Tryz.func76, Tryz.ntmps76
  go_wp2_with (go_at_call 87; refine (row_none _ _ _).mono ?_; rintro e w' ⟨rfl, rfl⟩)
  go_loop [18] (fun i => i = .int .i64 0) (fun _ => 0)
  case atStart => rfl
  case round =>
    subst hrel
    go_wp2_with fail
    go_ret2
    exact ⟨_, _, rfl, Nat.le_refl _, Bs.nil _ _, Below.refl _ _⟩

set_option maxHeartbeats 400000 in
theorem add_some (ad bd : Addr) (n c d : Nat) (a b : List Nat) (w : World) (ha : Bs w (some ad) n a) (hb : Bs w (some bd) n b) (h0 : 0 < n) (hm : n ≤ 140737488355328) :
    Calls Tryz.prog 76 #[.slice (some ad) n c, .slice (some bd) n d] w (Gives2C w n (addL n a b)) := by
  have HA := Lib.hid ha
  have HB := Lib.hid hb
  clear ha hb
  go_enter Tryz.func76, Tryz.ntmps76
  go_wp2_with (go_at_call 87; refine (row_some ad n c a w HA.out h0 hm).mono ?_; rintro e w1 ⟨g, hg, rfl, ho, hbel⟩; have HO := Lib.hid ho; have HW := Lib.hid hbel; clear ho hbel)
  go_loopw [18] (fun i wr => ∃ k : Nat, k ≤ n ∧ i = .int .i64 k ∧ ∃ l, Upto n k (fun j => a.getD j 0 ^^^ b.getD j 0) a l ∧ Own wr g n l ∧ Below w.heap.size w wr) (fun i _ => n - (intOf i).toNat)
  case atStart => exact ⟨0, by omega, rfl, a, Upto.start HA.out.len, HO.out, HW.out⟩
  case round =>
    obtain ⟨k, hk, rfl, l, hu, ho, hbel⟩ := hrel
    have HU := Lib.hid hu
    have HO' := Lib.hid ho
    have HW' := Lib.hid hbel
    clear hu ho hbel HO HW
    by_cases hlt : k < n
    · have hbc : wr.cell? (bd.add k) = some (.int .u8 (b.getD k 0 : Nat)) := by
        obtain ⟨_, e, _, hc⟩ := (HB.out.below HW'.out).at_ hlt
        injection e with e; subst e; exact hc
      have hac : wr.cell? ⟨g, k, none⟩ = some (.int .u8 (a.getD k 0 : Nat)) := by
        rw [← HU.out.here hlt]; exact HO'.out.cell hlt
      have hfz := HO'.out.frozen k
      have hx := HA.out.lt k
      have hy := HB.out.lt k
      go_wp2_with (go_at_call 88; refine (add_any _ _ hx hy _).mono ?_; rintro e w' ⟨rfl, rfl⟩)
      go_roundw
      case rel => exact ⟨k + 1, by omega, by go_num, _, HU.out.next hlt, HO'.out.set_ hlt (xor_lt _ _ hx hy), HW'.out.setCell hg _⟩
      case measure => simp [intOf]; omega
    · obtain rfl : k = n := by omega
      go_wp2_with fail
      go_ret2
      refine ⟨_, _, rfl, Nat.le_refl _, ?_, HW'.out⟩
      have e := HU.out.done
      have h := HO'.out.bs
      rw [e] at h
      exact h

/-- Two rows that are alike long. -/
theorem add_cap (A B : Option Addr) (n c d : Nat) (a b : List Nat) (w : World) (ha : Bs w A n a) (hb : Bs w B n b) (hm : n ≤ 140737488355328) :
    Calls Tryz.prog 76 #[.slice A n c, .slice B n d] w (Gives2C w n (addL n a b)) := by
  by_cases h0 : n = 0
  · subst h0; exact add_none A B c d w
  · obtain ⟨ad, rfl, _⟩ := ha.at_ (k := 0) (by omega)
    obtain ⟨bd, rfl, _⟩ := hb.at_ (k := 0) (by omega)
    exact add_some ad bd n c d a b w ha hb (by omega) hm
theorem add_like (A B : Option Addr) (n c d : Nat) (a b : List Nat) (w : World) (ha : Bs w A n a) (hb : Bs w B n b) (hm : n ≤ 140737488355328) :
    Calls Tryz.prog 76 #[.slice A n c, .slice B n d] w (Gives2 w n (addL n a b)) := (add_cap A B n c d a b w ha hb hm).mono fun _ _ h => h.gives

set_option maxHeartbeats 400000 in
theorem add_unlike (A B : Option Addr) (n m c d : Nat) (w : World) (h : n ≠ m) :
    Calls Tryz.prog 76 #[.slice A n c, .slice B m d] w fun e w' => e = .returned (.tuple #[.slice none 0 0, .int .i64 16]) ∧ w = w' := by
  have h1 : ((n : Int) != (m : Int)) = true := by simp; omega
  have h2 : ((n : Int) == (m : Int)) = false := by simp; omega
  clear h
  go_enter Tryz.func76, Tryz.ntmps76
  go_wp2_with fail
  go_ret2
  exact ⟨rfl, rfl⟩
end Go.Proofs.YtooegclblgeicaaGreatDoor

/- Proved: what the document's Mul answers for every two bytes. Conditions: the bounds that the theorem names. -/
namespace Go.Proofs.YtooegclblgeicaaGreatDoor
open Go.ChangeShapes Go.WideShapes Go.ChangeAt Go.RowKit

theorem i64_xor_nat (a b : Nat) (ha : a < 65536) (hb : b < 65536) : bits BinOp.xor IntKind.i64 (a : Int) (b : Int) = ((a ^^^ b : Nat) : Int) := by
  have hx : a ^^^ b < 2 ^ 16 := Nat.xor_lt_two_pow (by omega) (by omega)
  show IntKind.i64.wrap ((BitVec.ofInt 64 (a : Int) ^^^ BitVec.ofInt 64 (b : Int)).toNat : Int) = _
  have e : ∀ c : Nat, c < 65536 → (BitVec.ofInt 64 (c : Int)).toNat = c := fun c hc => by
    rw [BitVec.ofInt_natCast, BitVec.toNat_ofNat]; exact Nat.mod_eq_of_lt (by omega)
  rw [BitVec.toNat_xor, e a ha, e b hb]
  exact IntWalk.i64_in _ (by omega)
theorem tmod2_nat (x i : Nat) : ((x : Int) / 2 ^ i).tmod 2 = ((x / 2 ^ i % 2 : Nat) : Int) := by
  have e : (x : Int) / 2 ^ i = ((x / 2 ^ i : Nat) : Int) := by rw [Int.natCast_ediv]; push_cast; rfl
  rw [e, Int.tmod_eq_emod_of_nonneg (Int.natCast_nonneg _)]
  generalize x / 2 ^ i = y
  omega
theorem up_yes (a b k p : Nat) (hk : k < 8) (ha : a < 256) (hp : p < 65536) (h : (((b : Int) / 2 ^ k).tmod 2 == 1) = true) :
    bits BinOp.xor IntKind.i64 (p : Int) (wrap64 ((a : Int) * 2 ^ k)) = ((p ^^^ (a * 2 ^ k * (b / 2 ^ k % 2)) : Nat) : Int) := by
  rw [tmod2_nat] at h
  have h1 : b / 2 ^ k % 2 = 1 := by
    have := eq_of_beq h
    omega
  have hs := shl_lt k a hk ha
  rw [h1, Nat.mul_one, show (a : Int) * 2 ^ k = ((a * 2 ^ k : Nat) : Int) by push_cast; rfl, IntWalk.wrap64_in _ (by omega)]
  exact i64_xor_nat _ _ hp hs
theorem up_no (b k c p : Nat) (h : (((b : Int) / 2 ^ k).tmod 2 == 1) = false) :
    (p : Int) = ((p ^^^ (c * (b / 2 ^ k % 2)) : Nat) : Int) := by
  rw [tmod2_nat] at h
  have h1 : b / 2 ^ k % 2 = 0 := by
    have hb := bit_lt b k
    have : b / 2 ^ k % 2 ≠ 1 := by
      intro e; rw [e] at h; exact absurd h (by decide)
    omega
  rw [h1, Nat.mul_zero, Nat.xor_zero]
theorem refUp_succ (k a b : Nat) : refUp (k + 1) a b = refUp k a b ^^^ (a * 2 ^ k * (b / 2 ^ k % 2)) := rfl

theorem dn_yes (j p : Nat) (hj : j < 8) (hp : p < 65536) (h : (((p : Int) / 2 ^ (15 - j)).tmod 2 == 1) = true) :
    bits BinOp.xor IntKind.i64 (p : Int) (wrap64 (285 * 2 ^ (15 - j - 8))) = ((p ^^^ (285 * 2 ^ (7 - j) * (p / 2 ^ (15 - j) % 2)) : Nat) : Int) := by
  rw [tmod2_nat] at h
  have h1 : p / 2 ^ (15 - j) % 2 = 1 := by
    have := eq_of_beq h
    omega
  have hs := shl285_lt j
  rw [h1, Nat.mul_one, show 15 - j - 8 = 7 - j by omega, show (285 : Int) * 2 ^ (7 - j) = ((285 * 2 ^ (7 - j) : Nat) : Int) by rw [Int.natCast_mul, Int.natCast_pow]; rfl, IntWalk.wrap64_in _ (by omega)]
  exact i64_xor_nat _ _ hp hs
theorem refDn_succ (k p : Nat) : refDn (k + 1) p = refDn k p ^^^ (285 * 2 ^ (7 - k) * (refDn k p / 2 ^ (15 - k) % 2)) := rfl

set_option maxHeartbeats 800000 in
theorem rmul_any (a b : Nat) (ha : a < 256) (hb : b < 256) (w : World) :
    Calls Tryz.prog 32 #[.int .u8 a, .int .u8 b] w fun e w' => e = .returned (.int .u8 (rmul a b : Nat)) ∧ w = w' := by
  go_enter Tryz.func32, Tryz.ntmps32
  go_wp2_with fail
  go_loop [5, 6] (fun p i => ∃ k : Nat, k ≤ 8 ∧ i = .int .i64 k ∧ p = .int .i64 (refUp k a b : Nat)) (fun _ i => 8 - (intOf i).toNat)
  case atStart => exact ⟨0, by omega, rfl, rfl⟩
  case round =>
    obtain ⟨k, hk, rfl, rfl⟩ := hrel
    have hu := refUp_lt k a b hk ha
    by_cases hlt : k < 8
    · go_wp2_with fail
      · go_round
        case rel => exact ⟨k + 1, by omega, by go_num, val_int (by rw [refUp_succ]; exact up_yes a b k _ hlt ha hu ‹_›)⟩
        case measure => simp [intOf]; omega
      · go_round
        case rel => exact ⟨k + 1, by omega, by go_num, val_int (by rw [refUp_succ]; exact up_no b k _ _ ‹_›)⟩
        case measure => simp [intOf]; omega
    · have : k = 8 := by omega
      subst this
      clear hk hlt
      generalize hq : refUp 8 a b = q at *
      have HQ := Lib.hid hq
      clear hq
      go_wp2_with fail
      go_loop [5, 7] (fun p i => ∃ j : Nat, j ≤ 8 ∧ i = .int .i64 (15 - (j : Int)) ∧ p = .int .i64 (refDn j q : Nat)) (fun _ i => ((intOf i) - 7).toNat)
      case atStart => exact ⟨0, by omega, rfl, rfl⟩
      case round =>
        obtain ⟨j, hj, rfl, rfl⟩ := hrel
        have hd := refDn_lt j q hu
        by_cases hlt : j < 8
        · go_wp2_with fail
          · go_round
            case rel => exact ⟨j + 1, by omega, val_int (by omega), val_int (by rw [refDn_succ]; exact dn_yes j _ hlt hd ‹_›)⟩
            case measure => simp [intOf]; omega
          · go_round
            case rel => exact ⟨j + 1, by omega, val_int (by omega), val_int (by rw [refDn_succ]; exact up_no _ (15 - j) _ _ ‹_›)⟩
            case measure => simp [intOf]; omega
        · have : j = 8 := by omega
          subst this
          clear hj hlt
          go_wp2_with fail
          go_ret
          refine ⟨ret_int ?_, rfl⟩
          have := HQ.out
          unfold rmul
          rw [this]
          omega
theorem prod_any (a b : Nat) (ha : a < 256) (hb : b < 256) (w : World) :
    Calls Tryz.prog 32 #[.int .u8 a, .int .u8 b] w fun e w' => e = .returned (.int .u8 (gmul a b : Nat)) ∧ w = w' := by
  have := rmul_any a b ha hb w
  rwa [rmul_eq a b ha] at this

theorem times2_any (a : Nat) (ha : a < 256) (w : World) :
    Calls Tryz.prog 32 #[.int .u8 a, .int .u8 2] w fun e w' => e = .returned (.int .u8 (dbl a : Nat)) ∧ w = w' := by
  have := prod_any a 2 ha (by decide) w
  rwa [gmul_two a ha] at this
end Go.Proofs.YtooegclblgeicaaGreatDoor

/- Proved: what pivot, clearOthers and reduce of package matrix answer for every table. Conditions: those that the theorems name. -/
import Derived.Test.YtfndnlfinoeamaaMatElim
import Derived.Test.YtfndnlfinoeamaaGfInvKeep
import Derived.Test.YtfndnlfinoeamaaVecScale
import Derived.WalkMore
import Derived.ScopeJumps
namespace Go.Proofs.Ytfndnlfinoeamaa
open Go.ChangeShapes Go.WideShapes Go.ChangeAt Go.RowKit

set_option maxRecDepth 100000 in
set_option maxHeartbeats 800000 in
theorem pivot_any (A : Option Addr) (n c m done place places : Nat) (t : List (List Nat)) (w : World) (ht : Rows w A n t) (hl : ∀ r, r < n → (rw_ t r).length = m) (hn : n ≤ 255) (hd : done ≤ n) (hp : place ≤ places) (hm : places ≤ m) (hm2 : m ≤ 1000) :
    Calls Try.prog 33 #[.slice A n c, .int .i64 (done : Nat), .int .i64 (place : Nat), .int .i64 (places : Nat)] w fun e w' => w = w' ∧ ∃ v q, e = .returned (.tuple #[v, .int .i64 (q : Nat)]) ∧ PivAt t n done place places v q := by
  have HT := Lib.hid ht
  have HL := Lib.hid hl
  clear ht hl
  go_enter Try.func33, Try.ntmps33
  go_wp2_with fail
  go_step3
  go_wp2_with fail
  go_step3
  go_wp2_with fail
  go_loop [9] (fun i => ∃ q : Nat, place ≤ q ∧ q ≤ places ∧ i = .int .i64 q ∧ ∀ j, place ≤ j → j < q → ∀ i, done ≤ i → i < n → bt t i j = 0) (fun i => places - (intOf i).toNat)
  case atStart => exact ⟨place, by omega, by omega, rfl, fun j h1 h2 => absurd h2 (by omega)⟩
  case round =>
    obtain ⟨q, hq1, hq2, rfl, hz⟩ := hrel
    have HZ := Lib.hid hz
    clear hz
    by_cases hlt : q < places
    · go_wp2_with fail
      go_loop [8] (fun i => ∃ p : Nat, done ≤ p ∧ p ≤ n ∧ i = .int .i64 p ∧ ∀ i, done ≤ i → i < p → bt t i q = 0) (fun i => n - (intOf i).toNat)
      case atStart => exact ⟨done, by omega, by omega, rfl, fun j h1 h2 => absurd h2 (by omega)⟩
      case round =>
        obtain ⟨p, hp1, hp2, rfl, hy⟩ := hrel
        have HY := Lib.hid hy
        clear hy
        by_cases hpn : p < n
        · obtain ⟨ad, B, d, rfl, _, hac, hbs⟩ := HT.out.at_ hpn
          have hql : q < (rw_ t p).length := by rw [HL.out p hpn]; omega
          obtain ⟨bd, rfl, _, hbc⟩ := hbs.at_ hql
          rw [HL.out p hpn] at hac
          have hqm : q < m := by omega
          clear hbs hql
          obtain ⟨x, ex⟩ : ∃ x, x = (rw_ t p).getD q 0 := ⟨_, rfl⟩
          rw [← ex] at hbc
          have EX : Hid (bt t p q = x) := Lib.hid ex.symm
          clear ex
          by_cases hx : x = 0
          · subst hx
            go_wp2_with fail
            go_round
            case rel => exact ⟨p + 1, by omega, by omega, by go_num, fun i h1 h2 => by
              by_cases e : i = p
              · rw [e]; exact EX.out
              · exact HY.out i h1 (by omega)⟩
            case measure => simp [intOf]; omega
          · have hx' : ((x : Int) != 0) = true := by simp; omega
            have hx2 : ¬ (x : Int) = 0 := by omega
            have HX := Lib.hid hx
            clear hx
            go_wp2_with fail
            try rw [Exit.noGoto_ret]
            go_ret2
            exact ⟨rfl, _, _, rfl, hq1, hq2, HZ.out, fun _ => ⟨p, rfl, hp1, hpn, by rw [EX.out]; exact HX.out⟩⟩
        · obtain rfl : p = n := by omega
          go_wp2_with fail
          go_round
          case rel => exact ⟨q + 1, by omega, by omega, by go_num, fun j h1 h2 => by
            by_cases e : j = q
            · rw [e]; exact HY.out
            · exact HZ.out j h1 (by omega)⟩
          case measure => simp [intOf]; omega
    · obtain rfl : q = places := by omega
      go_wp2_with fail
      try rw [Exit.noGoto_ret]
      go_ret2
      exact ⟨rfl, _, _, rfl, hq1, hq2, HZ.out, fun h => absurd h (by omega)⟩
end Go.Proofs.Ytfndnlfinoeamaa

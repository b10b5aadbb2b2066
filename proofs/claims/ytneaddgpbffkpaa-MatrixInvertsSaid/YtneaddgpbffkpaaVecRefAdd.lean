/- Proved: what the document's Add, Scale and MulAdd of rows answer for every byte and rows of bytes. Conditions: those that the theorems name. -/
import Derived.Test.YtneaddgpbffkpaaVecAdd
import Derived.Test.YtneaddgpbffkpaaGfRefMul
import Derived.WalkSpells
import Derived.StillTactics
import Derived.OwnWalk
import Derived.Deep.RegionHeld3
import Derived.Deep.AppendLies
namespace Go.Proofs.Ytneaddgpbffkpaa
open Go.ChangeShapes Go.WideShapes Go.ChangeAt Go.RowKit

theorem cells_mk_succ (n : Nat) (f : Nat → Nat) : cells (mk n f) ++ [Value.int .u8 (f n : Nat)] = cells (mk (n + 1) f) := by
  unfold cells mk
  rw [List.range_succ, List.map_append, List.map_append]; rfl
/-- What was gathered, as a row that reads as a list. -/
theorem bs_of_cap {w : World} {base n : Nat} {v : Value} {l : List Nat} (h : w.ownsRow base 5 1 v n (cells l)) (hb : ∀ j, l.getD j 0 < 256) : ∃ A c, v = .slice A n c ∧ n ≤ c ∧ Bs w A n l := by
  by_cases hn : n = 0
  · subst hn
    have hl : l = [] := by
      have := h.1
      rw [cells_len, Nat.zero_mul] at this
      exact List.eq_nil_of_length_eq_zero this
    subst hl
    rcases h.2 with ⟨rfl, _⟩ | ⟨g, cap, cur, rfl, _⟩
    · exact ⟨_, _, rfl, Nat.zero_le _, Bs.nil _ _⟩
    · exact ⟨_, _, rfl, Nat.zero_le _, Bs.nil _ _⟩
  · obtain ⟨g, cap, rfl, _, hc, _, ho⟩ := own_of h hb (by omega)
    exact ⟨_, _, rfl, hc, ho.bs⟩
theorem bs_of {w : World} {base n : Nat} {v : Value} {l : List Nat} (h : w.ownsRow base 5 1 v n (cells l)) (hb : ∀ j, l.getD j 0 < 256) : ∃ A c, v = .slice A n c ∧ Bs w A n l := by
  obtain ⟨A, c, e, _, h2⟩ := bs_of_cap h hb
  exact ⟨A, c, e, h2⟩

set_option maxHeartbeats 400000 in
theorem radd_cap (A B : Option Addr) (n c d : Nat) (a b : List Nat) (w : World) (ha : Bs w A n a) (hb : Bs w B n b) (hm : n ≤ 140737488355328) :
    Calls Try.prog 43 #[.slice A n c, .slice B n d] w (Gives2C w n (addL n a b)) := by
  obtain ⟨i0, hi0, hz0, hz1, hz2⟩ := info_parts Try.infoByte
  have HA := Lib.hid ha
  have HB := Lib.hid hb
  clear ha hb
  go_enter Try.func43, Try.ntmps43
  go_wp2_with fail
  go_loopw [6, 7] (fun v i wr => ∃ k : Nat, k ≤ n ∧ i = .int .i64 k ∧ wr.ownsRow w.heap.size 5 1 v k (cells (mk k fun j => a.getD j 0 ^^^ b.getD j 0)) ∧ Below w.heap.size w wr) (fun _ i _ => n - (intOf i).toNat)
  case atStart => exact ⟨0, by omega, rfl, World.ownsRow_nil _ _ _ _, Below.refl _ _⟩
  case round =>
    obtain ⟨k, hk, rfl, hown, hbel⟩ := hrel
    have HO := Lib.hid hown
    have HW := Lib.hid hbel
    clear hown hbel
    by_cases hlt : k < n
    · obtain ⟨ad, rfl, la, hac⟩ := HA.out.at_ hlt
      obtain ⟨bd, rfl, lb, hbc⟩ := HB.out.at_ hlt
      rw [← HW.out.cell (p := ad.add k) (by rw [add_block]; exact la)] at hac
      rw [← HW.out.cell (p := bd.add k) (by rw [add_block]; exact lb)] at hbc
      have hx := HA.out.lt k
      have hy := HB.out.lt k
      obtain ⟨x, ex⟩ : ∃ x, x = a.getD k 0 := ⟨_, rfl⟩
      obtain ⟨y, ey⟩ : ∃ y, y = b.getD k 0 := ⟨_, rfl⟩
      rw [← ex] at hac hx
      rw [← ey] at hbc hy
      have EX := Lib.hid ex
      have EY := Lib.hid ey
      clear ex ey
      have fa := Lib.hid (show some (ad.add k).block ≠ u6.ownBlock from fun e => by have := (HO.out.lt _ e.symm).1; rw [add_block] at this; omega)
      have fb := Lib.hid (show some (bd.add k).block ≠ u6.ownBlock from fun e => by have := (HO.out.lt _ e.symm).1; rw [add_block] at this; omega)
      have la' : (ad.add k).block < wr.heap.size := by have := HW.out.size; rw [add_block]; omega
      have lb' : (bd.add k).block < wr.heap.size := by have := HW.out.size; rw [add_block]; omega
      have hlt' : (k : Int) < (n : Int) := by omega
      have hk0 : (0 : Int) ≤ (k : Int) := Int.natCast_nonneg _
      have hmax : k + 1 ≤ maxLen := by unfold maxLen; omega
      have hws := HW.out.size
      go_wp2_with fail
      go_region_held3 (fun w' => w'.cell? (ad.add k) = some (.int .u8 (x : Nat)) ∧ w'.cell? (bd.add k) = some (.int .u8 (y : Nat)))
        (first
          | go_keep
          | (go_split_ands
             refine ⟨?_, ?_⟩
             · (rw [hgrow.cell_far _ (by simp; omega) fa.out]; assumption)
             · (rw [hgrow.cell_far _ (by simp; omega) fb.out]; assumption)))
        ((refine step_append_lies _ (by rfl) _ _ _ (by rfl) w.heap.size 5 i0 _ 1 1 Try.underlying42 hi0 hz0 hz1 hz2 rfl (by omega) u6 k _ (by rfl) ((HO.out.alloc _).drew)
            ⟨wr.heap.size, 0, none⟩ 1 1 [.int .u8 (bits BinOp.xor IntKind.u8 (x : Nat) (y : Nat))] (by rfl) (by rfl) (World.news_of_block (cs := #[.int .u8 (bits BinOp.xor IntKind.u8 (x : Nat) (y : Nat))]) (t := 5) (fr := (0, 0)) (heap_alloc_new wr _)) (by simp [Value.oneCell'])
            (by omega) hmax (by omega) (by simp; omega) (wr.heap.size + 1) (by simp) ?_; intro gg cap w1 hown1 hgrow hat hlt1))
      go_wp2
      go_roundw
      case rel =>
        refine ⟨k + 1, by omega, by go_num, ?_, ((HW.out.alloc hws _).drew).grown hgrow (by simp; omega) (fun j e => (HO.out.lt j e).1)⟩
        have h := hown1
        rw [u8_xor_nat x y hx hy, EX.out, EY.out, cells_mk_succ] at h
        exact h
      case measure => simp [intOf]; omega
    · obtain rfl : k = n := by omega
      obtain ⟨A', c', rfl, hcap, hbs⟩ := bs_of_cap HO.out (addL_lt k a b HA.out.lt HB.out.lt)
      have HBS := Lib.hid hbs
      clear hbs
      go_wp2_with fail
      go_ret2
      exact ⟨_, _, rfl, hcap, HBS.out, HW.out⟩
theorem radd_like (A B : Option Addr) (n c d : Nat) (a b : List Nat) (w : World) (ha : Bs w A n a) (hb : Bs w B n b) (hm : n ≤ 140737488355328) :
    Calls Try.prog 43 #[.slice A n c, .slice B n d] w (Gives2 w n (addL n a b)) := (radd_cap A B n c d a b w ha hb hm).mono fun _ _ h => h.gives

set_option maxHeartbeats 400000 in
theorem radd_unlike (A B : Option Addr) (n m c d : Nat) (w : World) (h : n ≠ m) :
    Calls Try.prog 43 #[.slice A n c, .slice B m d] w fun e w' => e = .returned (.tuple #[.slice none 0 0, .int .i64 16]) ∧ w = w' := by
  have h1 : ((n : Int) != (m : Int)) = true := by simp; omega
  have h2 : ((n : Int) == (m : Int)) = false := by simp; omega
  clear h
  go_enter Try.func43, Try.ntmps43
  go_wp2_with fail
  go_ret2
  exact ⟨rfl, rfl⟩
end Go.Proofs.Ytneaddgpbffkpaa

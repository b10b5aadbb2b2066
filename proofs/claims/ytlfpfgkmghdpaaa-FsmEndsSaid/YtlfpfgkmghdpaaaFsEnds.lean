/- Proved: the walk of the law on what a stream's end means. Conditions: those that the theorems name. -/
import Derived.Test.YtlfpfgkmghdpaaaFsAwake
import Derived.Test.YtlfpfgkmghdpaaaVecMath
namespace Go.Proofs.Ytlfpfgkmghdpaaa
open Go.ChangeShapes Go.WideShapes Go.ChangeAt Go.RowKit

/-- what is said here and there, by the state. -/
def FsOk (s : Int) (c f : Bool) : Prop := (s = 0 ∧ c = false ∧ f = false) ∨ (s = 1 ∧ c = false ∧ f = false) ∨ (s = 2 ∧ c = true ∧ f = false) ∨ (s = 3 ∧ c = false ∧ f = true) ∨ (s = 4 ∧ c = true ∧ f = true) ∨ s = 5
/-- the events that may be. -/
theorem fs_may {s e : Int} {c f : Bool} (h : FsOk s c f) (he : 0 ≤ e ∧ e ≤ 5) (h0 : nxtE s e = 0) :
    (s = 0 ∧ e = 0 ∧ nxtS s e = 1 ∧ c = false ∧ f = false) ∨ (s = 1 ∧ e = 1 ∧ nxtS s e = 2 ∧ c = false ∧ f = false) ∨ (s = 3 ∧ e = 1 ∧ nxtS s e = 4 ∧ c = false ∧ f = true) ∨ (s = 1 ∧ e = 2 ∧ nxtS s e = 3 ∧ c = false ∧ f = false) ∨ (s = 2 ∧ e = 2 ∧ nxtS s e = 4 ∧ c = true ∧ f = false) ∨ (s = 1 ∧ e = 3 ∧ nxtS s e = 5 ∧ c = false ∧ f = false) ∨ (s = 2 ∧ e = 3 ∧ nxtS s e = 5 ∧ c = true ∧ f = false) ∨ (s = 3 ∧ e = 3 ∧ nxtS s e = 5 ∧ c = false ∧ f = true) ∨ (s = 1 ∧ e = 4 ∧ nxtS s e = 5 ∧ c = false ∧ f = false) ∨ (s = 2 ∧ e = 4 ∧ nxtS s e = 5 ∧ c = true ∧ f = false) ∨ (s = 3 ∧ e = 4 ∧ nxtS s e = 5 ∧ c = false ∧ f = true) ∨ (s = 4 ∧ e = 5 ∧ nxtS s e = 0 ∧ c = true ∧ f = true) ∨ (s = 5 ∧ e = 5 ∧ nxtS s e = 0) := by
  rcases h with ⟨rfl, rfl, rfl⟩ | ⟨rfl, rfl, rfl⟩ | ⟨rfl, rfl, rfl⟩ | ⟨rfl, rfl, rfl⟩ | ⟨rfl, rfl, rfl⟩ | rfl <;> rcases six he with rfl | rfl | rfl | rfl | rfl | rfl <;>
    first
    | exact absurd h0 (by decide)
    | exact .inl ⟨rfl, rfl, rfl, rfl, rfl⟩
    | exact .inr (.inl ⟨rfl, rfl, rfl, rfl, rfl⟩)
    | exact .inr (.inr (.inl ⟨rfl, rfl, rfl, rfl, rfl⟩))
    | exact .inr (.inr (.inr (.inl ⟨rfl, rfl, rfl, rfl, rfl⟩)))
    | exact .inr (.inr (.inr (.inr (.inl ⟨rfl, rfl, rfl, rfl, rfl⟩))))
    | exact .inr (.inr (.inr (.inr (.inr (.inl ⟨rfl, rfl, rfl, rfl, rfl⟩)))))
    | exact .inr (.inr (.inr (.inr (.inr (.inr (.inl ⟨rfl, rfl, rfl, rfl, rfl⟩))))))
    | exact .inr (.inr (.inr (.inr (.inr (.inr (.inr (.inl ⟨rfl, rfl, rfl, rfl, rfl⟩)))))))
    | exact .inr (.inr (.inr (.inr (.inr (.inr (.inr (.inr (.inl ⟨rfl, rfl, rfl, rfl, rfl⟩))))))))
    | exact .inr (.inr (.inr (.inr (.inr (.inr (.inr (.inr (.inr (.inl ⟨rfl, rfl, rfl, rfl, rfl⟩)))))))))
    | exact .inr (.inr (.inr (.inr (.inr (.inr (.inr (.inr (.inr (.inr (.inl ⟨rfl, rfl, rfl, rfl, rfl⟩))))))))))
    | exact .inr (.inr (.inr (.inr (.inr (.inr (.inr (.inr (.inr (.inr (.inr (.inl ⟨rfl, rfl, rfl, rfl, rfl⟩)))))))))))
    | exact .inr (.inr (.inr (.inr (.inr (.inr (.inr (.inr (.inr (.inr (.inr (.inr (⟨rfl, rfl, rfl⟩))))))))))))
set_option maxRecDepth 100000 in
set_option maxHeartbeats 6400000 in
theorem fs_ends_main (A : Option Addr) (m c : Nat) (l : List Nat) (w : World) (hm : (m : Int) ≤ 100) (hl : Bs w A m l) :
    Calls Try.prog 4 #[.slice A m c] w fun e w' => e = .returned (.bool true) ∧ Below w.heap.size w w' := by
  have HL := Lib.hid hl
  clear hl
  go_enter Try.func4, Try.ntmps4
  go_wp2_with fail
  go_loopw [3, 4, 5, 6] (fun s c f i wr => ∃ j : Nat, j ≤ m ∧ i = .int .i64 j ∧ ∃ (x : Int) (y z : Bool), s = .int .i64 x ∧ c = .bool y ∧ f = .bool z ∧ (0 ≤ x ∧ x ≤ 5) ∧ FsOk x y z ∧ Below w.heap.size w wr) (fun _ _ _ i _ => m - (intOf i).toNat)
  case atStart => exact ⟨0, by omega, rfl, 0, false, false, rfl, rfl, rfl, by decide, .inl ⟨rfl, rfl, rfl⟩, Below.refl _ _⟩
  case round =>
    obtain ⟨j, hj, rfl, s, cl, fi, rfl, rfl, rfl, hs, hok, hb⟩ := hrel
    have HB := Lib.hid hb
    have HS := Lib.hid hs
    have HO := Lib.hid hok
    clear hb hs hok
    have hj0 : (0 : Int) ≤ (j : Int) := Int.natCast_nonneg _
    by_cases hlt : j < m
    · obtain ⟨ad, rfl, had, c0⟩ := HL.out.at_ hlt
      have hlt' : (j : Int) < (m : Int) := by omega
      have d0 := (HB.out.cell (p := ad.add j) (by rw [add_block]; exact had)).trans c0
      have hy := HL.out.lt j
      generalize l.getD j 0 = y at *
      obtain ⟨n, hn⟩ : ∃ n, n = y % 6 := ⟨_, rfl⟩
      have hyn : (y : Int) % 6 = (n : Int) := by omega
      have hn6 : n < 6 := by omega
      have hn0 : (0 : Int) ≤ (n : Int) := Int.natCast_nonneg _
      have hn1 : (n : Int) < 6 := by omega
      have hy0 : (0 : Int) ≤ (y : Int) := Int.natCast_nonneg _
      have hy1 : (y : Int) < 256 := by omega
      have HE : Hid (0 ≤ (n : Int) ∧ (n : Int) ≤ 5) := Lib.hid ⟨hn0, by omega⟩
      clear c0 had hn hy hn6
      go_wp2_with fail
      refine (next_any s n _).mono ?_; rintro e w2 ⟨rfl, g2⟩
      have G2 := Lib.hid (HB.out.trans (g2.mono HB.out.size))
      clear g2 HB d0 hyn hy0 hy1
      generalize (n : Int) = ev at *
      by_cases hz : nxtE s ev = 0
      · have hc := fs_may HO.out HE.out hz
        rw [hz]
        clear HE HO HS hz hn0 hn1
        rcases hc with ⟨rfl, rfl, h1, rfl, rfl⟩ | ⟨rfl, rfl, h1, rfl, rfl⟩ | ⟨rfl, rfl, h1, rfl, rfl⟩ | ⟨rfl, rfl, h1, rfl, rfl⟩ | ⟨rfl, rfl, h1, rfl, rfl⟩ | ⟨rfl, rfl, h1, rfl, rfl⟩ | ⟨rfl, rfl, h1, rfl, rfl⟩ | ⟨rfl, rfl, h1, rfl, rfl⟩ | ⟨rfl, rfl, h1, rfl, rfl⟩ | ⟨rfl, rfl, h1, rfl, rfl⟩ | ⟨rfl, rfl, h1, rfl, rfl⟩ | ⟨rfl, rfl, h1, rfl, rfl⟩ | ⟨rfl, rfl, h1⟩
        · rw [h1]
          clear h1
          go_wp2_with fail
          refine (may_is (s := 1) (k := 2) (x := 0) rfl _).mono ?_; rintro e w3 ⟨rfl, g3⟩
          have G3 := Lib.hid (G2.out.trans (g3.mono G2.out.size))
          clear g3 G2
          go_wp2_with fail
          go_roundw
          case rel => exact ⟨j + 1, by omega, by go_num, 1, false, false, rfl, rfl, rfl, by decide, .inr (.inl ⟨rfl, rfl, rfl⟩), G3.out⟩
          case measure => simp [intOf]; omega
        · rw [h1]
          clear h1
          go_wp2_with fail
          refine (may_is (s := 2) (k := 2) (x := 11) rfl _).mono ?_; rintro e w3 ⟨rfl, g3⟩
          have G3 := Lib.hid (G2.out.trans (g3.mono G2.out.size))
          clear g3 G2
          go_wp2_with fail
          go_roundw
          case rel => exact ⟨j + 1, by omega, by go_num, 2, true, false, rfl, rfl, rfl, by decide, .inr (.inr (.inl ⟨rfl, rfl, rfl⟩)), G3.out⟩
          case measure => simp [intOf]; omega
        · rw [h1]
          clear h1
          go_wp2_with fail
          refine (may_is (s := 4) (k := 2) (x := 11) rfl _).mono ?_; rintro e w3 ⟨rfl, g3⟩
          have G3 := Lib.hid (G2.out.trans (g3.mono G2.out.size))
          clear g3 G2
          go_wp2_with fail
          go_roundw
          case rel => exact ⟨j + 1, by omega, by go_num, 4, true, true, rfl, rfl, rfl, by decide, .inr (.inr (.inr (.inr (.inl ⟨rfl, rfl, rfl⟩)))), G3.out⟩
          case measure => simp [intOf]; omega
        · rw [h1]
          clear h1
          go_wp2_with fail
          refine (may_is (s := 3) (k := 2) (x := 0) rfl _).mono ?_; rintro e w3 ⟨rfl, g3⟩
          have G3 := Lib.hid (G2.out.trans (g3.mono G2.out.size))
          clear g3 G2
          go_wp2_with fail
          go_roundw
          case rel => exact ⟨j + 1, by omega, by go_num, 3, false, true, rfl, rfl, rfl, by decide, .inr (.inr (.inr (.inl ⟨rfl, rfl, rfl⟩))), G3.out⟩
          case measure => simp [intOf]; omega
        · rw [h1]
          clear h1
          go_wp2_with fail
          refine (may_is (s := 4) (k := 2) (x := 11) rfl _).mono ?_; rintro e w3 ⟨rfl, g3⟩
          have G3 := Lib.hid (G2.out.trans (g3.mono G2.out.size))
          clear g3 G2
          go_wp2_with fail
          go_roundw
          case rel => exact ⟨j + 1, by omega, by go_num, 4, true, true, rfl, rfl, rfl, by decide, .inr (.inr (.inr (.inr (.inl ⟨rfl, rfl, rfl⟩)))), G3.out⟩
          case measure => simp [intOf]; omega
        · rw [h1]
          clear h1
          go_wp2_with fail
          go_roundw
          case rel => exact ⟨j + 1, by omega, by go_num, 5, false, false, rfl, rfl, rfl, by decide, .inr (.inr (.inr (.inr (.inr rfl)))), G2.out⟩
          case measure => simp [intOf]; omega
        · rw [h1]
          clear h1
          go_wp2_with fail
          go_roundw
          case rel => exact ⟨j + 1, by omega, by go_num, 5, true, false, rfl, rfl, rfl, by decide, .inr (.inr (.inr (.inr (.inr rfl)))), G2.out⟩
          case measure => simp [intOf]; omega
        · rw [h1]
          clear h1
          go_wp2_with fail
          go_roundw
          case rel => exact ⟨j + 1, by omega, by go_num, 5, false, true, rfl, rfl, rfl, by decide, .inr (.inr (.inr (.inr (.inr rfl)))), G2.out⟩
          case measure => simp [intOf]; omega
        · rw [h1]
          clear h1
          go_wp2_with fail
          go_roundw
          case rel => exact ⟨j + 1, by omega, by go_num, 5, false, false, rfl, rfl, rfl, by decide, .inr (.inr (.inr (.inr (.inr rfl)))), G2.out⟩
          case measure => simp [intOf]; omega
        · rw [h1]
          clear h1
          go_wp2_with fail
          go_roundw
          case rel => exact ⟨j + 1, by omega, by go_num, 5, true, false, rfl, rfl, rfl, by decide, .inr (.inr (.inr (.inr (.inr rfl)))), G2.out⟩
          case measure => simp [intOf]; omega
        · rw [h1]
          clear h1
          go_wp2_with fail
          go_roundw
          case rel => exact ⟨j + 1, by omega, by go_num, 5, false, true, rfl, rfl, rfl, by decide, .inr (.inr (.inr (.inr (.inr rfl)))), G2.out⟩
          case measure => simp [intOf]; omega
        · rw [h1]
          clear h1
          go_wp2_with fail
          refine (may_is (s := 0) (k := 2) (x := 7) rfl _).mono ?_; rintro e w3 ⟨rfl, g3⟩
          have G3 := Lib.hid (G2.out.trans (g3.mono G2.out.size))
          clear g3 G2
          go_wp2_with fail
          go_roundw
          case rel => exact ⟨j + 1, by omega, by go_num, 0, false, false, rfl, rfl, rfl, by decide, .inl ⟨rfl, rfl, rfl⟩, G3.out⟩
          case measure => simp [intOf]; omega
        · rw [h1]
          clear h1
          go_wp2_with fail
          refine (may_is (s := 0) (k := 2) (x := 7) rfl _).mono ?_; rintro e w3 ⟨rfl, g3⟩
          have G3 := Lib.hid (G2.out.trans (g3.mono G2.out.size))
          clear g3 G2
          go_wp2_with fail
          go_roundw
          case rel => exact ⟨j + 1, by omega, by go_num, 0, false, false, rfl, rfl, rfl, by decide, .inl ⟨rfl, rfl, rfl⟩, G3.out⟩
          case measure => simp [intOf]; omega
      · have hx : decide (nxtE s ev = 0) = false := decide_eq_false hz
        generalize nxtE s ev = x at *
        generalize nxtS s ev = a at *
        go_wp2_with fail
        go_roundw
        case rel => exact ⟨j + 1, by omega, by go_num, s, cl, fi, rfl, rfl, rfl, HS.out, HO.out, G2.out⟩
        case measure => simp [intOf]; omega
    · obtain rfl : j = m := by omega
      go_wp2_with fail
      refine (fs_awake _).mono ?_; rintro e w2 ⟨rfl, g2⟩
      have G2 := Lib.hid (HB.out.trans (g2.mono HB.out.size))
      clear g2
      go_wp2_with fail
      go_ret
      exact ⟨rfl, G2.out⟩
theorem fs_ends_walk (A : Option Addr) (m c : Nat) (l : List Nat) (w : World) (hl : Bs w A m l) :
    Calls Try.prog 4 #[.slice A m c] w fun e w' => e = .returned (.bool true) ∧ Below w.heap.size w w' := by
  by_cases hm : (m : Int) ≤ 100
  · exact fs_ends_main A m c l w hm hl
  · have h' : (100 : Int) < (m : Int) := by omega
    clear hl hm
    go_enter Try.func4, Try.ntmps4
    go_wp2_with fail
    refine (fs_awake _).mono ?_; rintro e w2 ⟨rfl, g2⟩
    have G2 := Lib.hid g2
    clear g2
    go_wp2_with fail
    go_ret
    exact ⟨rfl, G2.out⟩
end Go.Proofs.Ytlfpfgkmghdpaaa

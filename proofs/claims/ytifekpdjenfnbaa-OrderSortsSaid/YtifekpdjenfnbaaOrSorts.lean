/- Proved: the walk of the law on the order of bodies. Conditions: those that the theorems name. -/
import Derived.Test.YtifekpdjenfnbaaOrAwake
import Derived.Test.YtifekpdjenfnbaaVecLits
import Derived.Test.YtifekpdjenfnbaaStrAt
namespace Go.Proofs.Ytifekpdjenfnbaa
open Go.ChangeShapes Go.WideShapes Go.ChangeAt Go.RowKit

/-! ### bodies that bear their numbers -/
abbrev bx (n : Nat) : ByteArray := tx [n, 120]
theorem bx_bts {n : Nat} (h : n < 64) : bts (bx n) = [n, 120] := bts_tx (getD_lt fun x hx => by
  simp only [List.mem_cons, List.not_mem_nil, or_false] at hx
  rcases hx with rfl | rfl <;> omega)
theorem bx_size (n : Nat) : (bx n).size = 2 := tx_size _
theorem bx_em (n : Nat) : emB (bx n) = false := by
  cases h : emB (bx n)
  · rfl
  · have := bx_size n
    rw [em_is.1 h] at this
    cases this
/-- what waits bears its number, from q on. -/
def Srt (q : Nat) (L : List ByteArray) : Prop := ∀ i, emB (st_ L i) = false → st_ L i = bx (q + i) ∧ q + i < 64
theorem Srt.nil (q : Nat) : Srt q [] := fun i h => by rw [st_none (Nat.zero_le _), em_S0] at h; cases h
theorem Srt.put {base : Int} {q n : Nat} {L : List ByteArray} (h : Srt q L) (hq : q ≤ 64) (hn : n < 64) : Srt q (putO (wpl base q) 32 L (wpl base n) (bx n)) := by
  unfold putO
  split
  · rename_i e
    obtain ⟨p, hp, _⟩ := in_place (pt_3 e).2.1
    have hp2 := hp
    rw [ah_wpl (by omega) (by omega)] at hp2
    rw [hp]
    intro i hi
    rw [show (p : Int).toNat = p from rfl, put_st] at hi ⊢
    split
    · rename_i ei
      subst ei
      have : q + p = n := by omega
      rw [this]
      exact ⟨rfl, hn⟩
    · rename_i ei
      rw [if_neg ei] at hi
      exact h i hi
  · exact h
theorem Srt.next {base : Int} {q : Nat} {L : List ByteArray} (h : Srt q L) :
    (nxO L 2 = true ∧ nxS L 2 = bx q ∧ q < 64 ∧ Srt (q + 1) (nxL L 2) ∧ nxBs (wpl base q) L 2 = wpl base (q + 1)) ∨ (nxO L 2 = false ∧ Srt q (nxL L 2) ∧ nxBs (wpl base q) L 2 = wpl base q) := by
  cases e : emB (st_ L 0)
  · obtain ⟨h1, h2⟩ := h 0 e
    have hs : (st_ L 0).size = 2 := by rw [h1]; exact bx_size _
    obtain ⟨e1, e2, e3, e4⟩ := nx_yes (B := wpl base q) (L := L) (room := 2) e (by rw [hs]; decide)
    refine .inl ⟨e1, by rw [e2, h1]; rfl, h2, ?_, by rw [e4, wpl_wpl]⟩
    rw [e3]
    intro i hi
    rw [st_drop] at hi ⊢
    have := h (1 + i) hi
    rw [show q + 1 + i = q + (1 + i) by omega]
    exact this
  · obtain ⟨e1, e2, e3, e4⟩ := nx_no (B := wpl base q) (L := L) (room := 2) (.inl e)
    exact .inr ⟨e1, by rw [e3]; exact h, e4⟩
theorem bx_convert (w : World) (n : Nat) (hn : n < 64) : (convert 46 9 (.slice (some ⟨w.heap.size, 0, none⟩) 2 2)).run Try.prog (w.alloc (.cells #[.int .u8 (n : Nat), .int .u8 120] 5)) = .ok (.string (bx n)) (w.alloc (.cells #[.int .u8 (n : Nat), .int .u8 120] 5)) :=
  convert_back _ _ _ _ _ (bs_two w n 120 (by omega) (by decide)) (by decide)
set_option maxRecDepth 100000 in
set_option maxHeartbeats 6400000 in
theorem or_sorts_main (base : Int) (A : Option Addr) (m c : Nat) (l : List Nat) (w : World) (hb : U32 base) (hm : (m : Int) ≤ 200) (hl : Bs w A m l) :
    Calls Try.prog 4 #[.int .u32 base, .slice A m c] w fun e w' => e = .returned (.bool true) ∧ Below w.heap.size w w' := by
  have HL := Lib.hid hl
  have HN := Lib.hid (ob_new w w base 32 (Below.refl _ _) hb (by decide) (by decide))
  have HW0 : Hid (wpl base 0 = base) := Lib.hid (wpl_zero hb)
  have hbb : 0 ≤ base ∧ base ≤ 4294967295 := hb
  obtain ⟨hb0, hb1⟩ := hbb
  clear hl hb
  go_enter Try.func4, Try.ntmps4
  go_wp2_with fail
  refine HN.out.mono ?_; rintro e w1 ⟨b, rfl, r0⟩
  have R0 := Lib.hid r0
  clear r0 HN
  go_wp2_with fail
  go_loopw [7, 8] (fun a i wr => ∃ j : Nat, j ≤ m ∧ i = .int .i64 j ∧ ∃ q L, a = .int .i64 (q : Nat) ∧ q ≤ 64 ∧ OB w wr b (wpl base q) 32 L ∧ Srt q L) (fun _ i _ => m - (intOf i).toNat)
  case atStart => exact ⟨0, by omega, rfl, 0, [], rfl, by omega, by rw [HW0.out]; exact R0.out, Srt.nil _⟩
  case round =>
    obtain ⟨j, hj, rfl, q, L, rfl, hq, hrb, hs⟩ := hrel
    have HR := Lib.hid hrb
    have HS := Lib.hid hs
    clear R0 hrb hs
    have hj0 : (0 : Int) ≤ (j : Int) := Int.natCast_nonneg _
    have hq0 : (0 : Int) ≤ (q : Int) := Int.natCast_nonneg _
    have hq1 : (q : Int) ≤ 64 := by omega
    by_cases hlt : j < m
    · obtain ⟨ad, rfl, had, c0⟩ := HL.out.at_ hlt
      have hlt' : (j : Int) < (m : Int) := by omega
      have d0 := (HR.out.bel.cell (p := ad.add j) (by rw [add_block]; exact had)).trans c0
      have hy := HL.out.lt j
      generalize l.getD j 0 = y at *
      obtain ⟨n, hn⟩ : ∃ n, n = y % 64 := ⟨_, rfl⟩
      have hyn : (y : Int) % 64 = (n : Int) := by omega
      have hn64 : n < 64 := by omega
      have hn0 : (0 : Int) ≤ (n : Int) := Int.natCast_nonneg _
      have hn1 : (n : Int) < 64 := by omega
      have hy0 : (0 : Int) ≤ (y : Int) := Int.natCast_nonneg _
      have hy1 : (y : Int) < 256 := by omega
      have HNN := Lib.hid hn64
      have hcv := bx_convert wr n hn64
      have HR2 := Lib.hid (HR.out.below ((Below.refl _ _).alloc (Nat.le_refl _) (.cells #[.int .u8 (n : Nat), .int .u8 120] 5)))
      have HP := Lib.hid (ob_put HR2.out (wpl base n) (bx n) (wpl_u32 _ _))
      have hwx : (base + (n : Int)) % 4294967296 = wpl base n := rfl
      clear c0 had hn hy hn64
      go_wp2_with fail
      refine HP.out.mono ?_; rintro e w3 ⟨rfl, r3, _⟩
      have HQ : Hid (q ≤ 64) := Lib.hid hq
      have HS3 := Lib.hid (HS.out.put (base := base) hq HNN.out)
      have R3 := Lib.hid r3
      clear r3 HP HR HR2 hcv d0 HS hwx
      generalize putO (wpl base q) 32 L (wpl base n) (bx n) = L3 at *
      have HX := Lib.hid (HS3.out.next (base := base))
      go_wp2_with fail
      refine (ob_next R3.out 2).mono ?_; rintro e w4 ⟨rfl, r4, _⟩
      have R4 := Lib.hid r4
      clear r4
      generalize nxO L3 2 = is at *
      generalize nxS L3 2 = s at *
      generalize nxL L3 2 = L4 at *
      generalize nxBs (wpl base q) L3 2 = B4 at *
      go_wp2_with fail
      go_loopw [7, 10, 11] (fun a u v wr => ∃ q L s is, a = .int .i64 (q : Nat) ∧ q ≤ 64 ∧ u = .string s ∧ v = .bool is ∧ ((is = true ∧ s = bx q ∧ q < 64 ∧ OB w wr b (wpl base (q + 1)) 32 L ∧ Srt (q + 1) L) ∨ (is = false ∧ OB w wr b (wpl base q) 32 L ∧ Srt q L))) (fun a _ _ _ => 65 - (intOf a).toNat)
      case atStart =>
        refine ⟨q, L4, s, is, rfl, HQ.out, rfl, rfl, ?_⟩
        rcases HX.out with ⟨h1, h2, h3, h4, h5⟩ | ⟨h1, h2, h3⟩
        · exact .inl ⟨h1, h2, h3, by rw [← h5]; exact R4.out, h4⟩
        · exact .inr ⟨h1, by rw [← h3]; exact R4.out, h2⟩
      case round =>
        obtain ⟨q, L, s, is, rfl, hq, rfl, rfl, hcase⟩ := hrel
        clear R4 HX R3 HS3 HQ
        rcases hcase with ⟨rfl, rfl, hq64, hr, hs⟩ | ⟨rfl, hr, hs⟩
        · have R5 := Lib.hid hr
          have HS5 := Lib.hid hs
          have hsz : ((bx q).size : Int) = 2 := by rw [bx_size]; rfl
          have hix : ∀ W, (Instr.index 9 (Value.string (bx q)) (Value.int .i64 0)).run Try.prog W = .ok (Value.int .u8 (q : Nat)) W := fun W => by
            have := at_index (bx q) 0 (by rw [bx_size]; decide) W
            rw [bx_bts hq64] at this
            exact this
          have hq0 : (0 : Int) ≤ (q : Int) := Int.natCast_nonneg _
          have hq1 : (q : Int) < 64 := by omega
          have HQ6 := Lib.hid hq64
          have HX6 := Lib.hid (hs.next (base := base))
          clear hr hs hq hq64
          generalize bx q = t at *
          go_wp2_with fail
          refine (ob_next R5.out 2).mono ?_; rintro e w6 ⟨rfl, r6, _⟩
          have R6 := Lib.hid r6
          clear r6
          generalize nxO L 2 = is at *
          generalize nxS L 2 = s at *
          generalize nxL L 2 = L6 at *
          generalize nxBs (wpl base (q + 1)) L 2 = B6 at *
          go_wp2_with fail
          go_roundw
          case rel =>
            refine ⟨q + 1, L6, s, is, by go_num, HQ6.out, rfl, rfl, ?_⟩
            rcases HX6.out with ⟨h1, h2, h3, h4, h5⟩ | ⟨h1, h2, h3⟩
            · exact .inl ⟨h1, h2, h3, by rw [← h5]; exact R6.out, h4⟩
            · exact .inr ⟨h1, by rw [← h3]; exact R6.out, h2⟩
          case measure => simp [intOf]; have := HQ6.out; omega
        · have R5 := Lib.hid hr
          have HS5 := Lib.hid hs
          have HQ5 := Lib.hid hq
          clear hr hs hq
          go_wp2_with fail
          go_roundw
          case rel => exact ⟨j + 1, by omega, by go_num, q, L, rfl, HQ5.out, R5.out, HS5.out⟩
          case measure => simp [intOf]; omega
    · obtain rfl : j = m := by omega
      have hcn : (cntO L : Int) ≤ 32 := by have := cnt_le L; have := HR.out.few.1; omega
      have hcn0 : (0 : Int) ≤ (cntO L : Int) := Int.natCast_nonneg _
      have hwx : (base + (q : Int)) % 4294967296 = wpl base q := rfl
      have HB := Lib.hid (ob_base HR.out)
      generalize wpl base q = z at *
      go_wp2_with fail
      refine HB.out.mono ?_; rintro e w2 ⟨rfl, rfl⟩
      go_wp2_with fail
      refine (ob_len HR.out).mono ?_; rintro e w3 ⟨rfl, rfl⟩
      go_wp2_with fail
      refine (or_awake_any _).mono ?_; rintro e w4 ⟨rfl, g4⟩
      have R4 := Lib.hid (HR.out.below g4)
      clear g4
      go_wp2_with fail
      go_ret
      exact ⟨rfl, R4.out.bel⟩
theorem or_sorts_walk (base : Int) (A : Option Addr) (m c : Nat) (l : List Nat) (w : World) (hb : (Lit.int .u32 base).wf = true) (hl : Bs w A m l) :
    Calls Try.prog 4 #[.int .u32 base, .slice A m c] w fun e w' => e = .returned (.bool true) ∧ Below w.heap.size w w' := by
  by_cases hm : (m : Int) ≤ 200
  · exact or_sorts_main base A m c l w (u32_of hb) hm hl
  · have h' : (200 : Int) < (m : Int) := by omega
    clear hl hm hb
    go_enter Try.func4, Try.ntmps4
    go_wp2_with fail
    refine (or_awake_any _).mono ?_; rintro e w2 ⟨rfl, g2⟩
    have G2 := Lib.hid g2
    clear g2
    go_wp2_with fail
    go_ret
    exact ⟨rfl, G2.out⟩
end Go.Proofs.Ytifekpdjenfnbaa

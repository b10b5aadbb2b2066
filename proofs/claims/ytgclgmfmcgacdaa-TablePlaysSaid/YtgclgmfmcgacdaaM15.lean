/- Proved: lemmas of one statement's proof, merged by program: what each part proves stands ahead of it. Conditions: those that the lemmas name. -/
import Derived.Test.YtgclgmfmcgacdaaM8
import Derived.Test.YtgclgmfmcgacdaaM12
import Derived.Test.YtgclgmfmcgacdaaM13
import Derived.Test.YtgclgmfmcgacdaaM14
import Derived.StillTailTactics
import Derived.IntWalk

/- Proved: what Empty, with, Set and Of of package bits, and their twins of the document, answer for every string, int and slice of ints. Conditions: those that the theorems name. -/
namespace Go.Proofs.Ytgclgmfmcgacdaa
open Go.ChangeShapes Go.WideShapes Go.ChangeAt Go.RowKit

/-- a text comes back. -/
def GivesS (W : World) (s : ByteArray) (e : Ending) (w' : World) : Prop := e = .returned (.string s) ∧ Below W.heap.size W w'
set_option maxHeartbeats 400000 in
theorem empty_any (w : World) : Calls Try.prog 59 #[] w (GivesS w (tx noB)) := by
  have ho := own_new w 32
  have hcv := convert_back (w.alloc (.cells (madeCells #[.int .u8 0] 32) 5)) (some ⟨w.heap.size, 0, none⟩) 32 32 _ ho.bs (by decide)
  have hmk : (Instr.makeSlice 128 (.int .i64 32) (.int .i64 32)).run Try.prog w = .ok (.slice (some ⟨w.heap.size, 0, none⟩) 32 32) (w.alloc (.cells (madeCells #[.int .u8 0] 32) 5)) := by kernel_rfl
  have HB := Lib.hid ((Below.refl w.heap.size w).alloc (Nat.le_refl _) (.cells (madeCells #[.int .u8 0] 32) 5))
  clear ho
  generalize w.alloc (.cells (madeCells #[.int .u8 0] 32) 5) = w1 at *
  go_enter Try.func59, Try.ntmps59
  go_wp2_with fail
  go_ret
  exact ⟨rfl, HB.out⟩
set_option maxRecDepth 100000 in
set_option maxHeartbeats 1600000 in
theorem bwith_any (s : ByteArray) (A : Option Addr) (n c : Nat) (l : List Int) (w : World) (hl : Is w A n l) (hs : s.size = 32) (hn : n ≤ 140737488355328) :
    Calls Try.prog 58 #[.string s, .slice A n c] w (GivesS w (tx (withK (bts s) l n))) := by
  obtain ⟨cap, w1, hcap, hcv, hown, hbel⟩ := convert_own w s
  rw [hs] at hcv hown
  have HL := Lib.hid hl
  have HO := Lib.hid hown
  have HB := Lib.hid hbel
  have HS := Lib.hid (show (bts s).length = 32 by rw [bts_len, hs])
  have HG := HO.out.lt
  clear hl hown hbel hs hcap
  generalize hbs : bts s = b at *
  have HBS := Lib.hid (show ∀ j, b.getD j 0 < 256 by rw [← hbs]; exact bts_lt s)
  clear hbs
  obtain ⟨g, hg⟩ : ∃ g, g = w.heap.size := ⟨_, rfl⟩
  rw [← hg] at hcv HO HG
  have HGE := Lib.hid hg
  clear hg
  go_enter Try.func58, Try.ntmps58
  go_wp2_with fail
  go_loopw [12] (fun i wr => ∃ k : Nat, k ≤ n ∧ i = .int .i64 k ∧ OwnC wr g 32 (withK b l k) ∧ Below w.heap.size w wr) (fun i _ => n - (intOf i).toNat)
  case atStart => exact ⟨0, by omega, rfl, HO.out, HB.out⟩
  case round =>
    clear HO HB HG
    obtain ⟨k, hk, rfl, ho, hb⟩ := hrel
    have HO := Lib.hid ho
    have HB := Lib.hid hb
    clear ho hb
    by_cases hlt : k < n
    · obtain ⟨ad, rfl, had, hac⟩ := HL.out.at_ hlt
      have hac1 : wr.cell? (ad.add k) = some (.int .i64 (l.getD k 0)) := (HB.out.cell (by rw [add_block]; exact had)).trans hac
      clear hac
      have hlt' : (k : Int) < (n : Int) := by omega
      have hk0 : (0 : Int) ≤ (k : Int) := Int.natCast_nonneg _
      have HX := Lib.hid (withK_succ b l k)
      generalize l.getD k 0 = x at *
      cases hi : inB x with
      | false =>
        have HP := Lib.hid (fun w => placed_any x w)
        rw [hi] at HP
        have HE : Hid (withK b l (k + 1) = withK b l k) := Lib.hid (by rw [HX.out, withB_out hi])
        clear hi
        go_wp2_with fail
        refine (HP.out _).mono ?_; rintro e wp ⟨rfl, rfl⟩
        go_wp2_with fail
        go_roundw
        case rel => exact ⟨k + 1, by omega, by go_num, by rw [HE.out]; exact HO.out, HB.out⟩
        case measure => simp [intOf]; omega
      | true =>
        have HP := Lib.hid (fun w => placed_any x w)
        rw [hi] at HP
        obtain ⟨hx0, hx1⟩ := inB_yes hi
        obtain ⟨m, rfl⟩ := Int.eq_ofNat_of_zero_le hx0
        have HQ := Lib.hid (fun w => bit_any m (m % 8) (by omega) rfl w)
        have HE : Hid (withK b l (k + 1) = (withK b l k).set (m / 8) ((withK b l k).getD (m / 8) 0 ||| 2 ^ (m % 8))) := Lib.hid (by rw [HX.out, withB_at _ (by omega)])
        have hj : m / 8 < 32 := by omega
        have hyl := HO.out.2.1 (m / 8)
        have hor := u8_or_nat ((withK b l k).getD (m / 8) 0) (2 ^ (m % 8)) hyl (pow_byte (by omega))
        have hzl := or_bit_lt (x := (withK b l k).getD (m / 8) 0) (r := m % 8) hyl (by omega)
        have e1 : (m : Int) / 8 = ((m / 8 : Nat) : Int) := by omega
        have hm1 : (m : Int) ≤ 255 := by omega
        have hm0 : (0 : Int) ≤ (m : Int) := Int.natCast_nonneg _
        have hoc := HO.out.cell hj
        have hfz := HO.out.frozen hj
        have hgl := HO.out.lt
        have HN := Lib.hid (And.intro hj hzl)
        generalize hz : (withK b l k).getD (m / 8) 0 ||| 2 ^ (m % 8) = z at *
        generalize (withK b l k).getD (m / 8) 0 = y at *
        generalize (2 ^ (m % 8) : Nat) = p at *
        have hj0 : (0 : Int) ≤ ((m / 8 : Nat) : Int) := Int.natCast_nonneg _
        have hj1 : ((m / 8 : Nat) : Int) < 32 := by omega
        generalize m / 8 = j at *
        have hw : IntKind.i64.wrap (j : Int) = (j : Int) := IntWalk.i64_in _ (by omega)
        clear hz hi hx0 hx1 hj hyl hzl
        go_wp2_with fail
        refine (HP.out _).mono ?_; rintro e wp ⟨rfl, rfl⟩
        go_wp2_with fail
        refine wp_region_still_tail 9 (by kernel_rfl) (by kernel_rfl) ?_
        simp only [List.take_succ_cons, List.take_zero, List.drop_succ_cons, List.drop_zero]
        repeat still_step
        still_call ((HQ.out _).mono fun _ _ h => ⟨h.1, h.2.symm⟩)
        repeat still_step
        refine wpStill_nil ?_
        change wpList _ _ _ _ _ wr.drew
        have HO2 : Hid (OwnC wr.drew g 32 (withK b l k)) := Lib.hid HO.out
        have HB2 : Hid (Below w.heap.size w wr.drew) := Lib.hid HB.out.drew
        clear hoc hfz hgl HO HB hac1
        generalize wr.drew = w2 at *
        have hoc := HO2.out.cell HN.out.1
        have hfz := HO2.out.frozen HN.out.1
        go_wp2_with fail
        go_roundw
        case rel =>
          refine ⟨k + 1, by omega, by go_num, ?_, HB2.out.setCell (p := ⟨g, j, none⟩) (by rw [HGE.out]; exact Nat.le_refl _) _⟩
          rw [HE.out]
          exact HO2.out.set_ HN.out.1 HN.out.2
        case measure => simp [intOf]; omega
    · obtain rfl : k = n := by omega
      have hcb := convert_back wr (some ⟨g, 0, none⟩) 32 cap _ HO.out.bs (by decide)
      go_wp2_with fail
      go_ret
      exact ⟨rfl, HB.out⟩
end Go.Proofs.Ytgclgmfmcgacdaa

/- Proved: what Set, Of and Count of package bits, and their twins of the document, answer for every string, int and slice of ints. Conditions: those that the theorems name. -/
namespace Go.Proofs.Ytgclgmfmcgacdaa
open Go.ChangeShapes Go.WideShapes Go.ChangeAt Go.RowKit

/-- a text and an error come back. -/
def GivesSE (W : World) (s : ByteArray) (z : Int) (e : Ending) (w' : World) : Prop := e = .returned (.tuple #[.string s, .int .i64 z]) ∧ Below W.heap.size W w'
theorem setE_size {s : ByteArray} (h : s.size ≠ 32) (i : Int) : setE s i = 5 ∧ setS s i = S0 := by unfold setE setS; rw [if_neg h, if_neg h]; exact ⟨rfl, rfl⟩
theorem setE_out {s : ByteArray} {i : Int} (h : s.size = 32) (hi : inB i = false) : setE s i = 2 ∧ setS s i = S0 := by
  unfold setE setS
  rw [if_pos h, if_pos h, if_neg (by simp [hi]), if_neg (by simp [hi])]; exact ⟨rfl, rfl⟩
theorem setE_in {s : ByteArray} {i : Int} (h : s.size = 32) (hi : inB i = true) : setE s i = 0 ∧ setS s i = tx (withB (bts s) i) := by
  unfold setE setS
  rw [if_pos h, if_pos h, if_pos hi, if_pos hi]; exact ⟨rfl, rfl⟩
set_option maxHeartbeats 800000 in
theorem set11_any (s : ByteArray) (i : Int) (w : World) :
    Calls Try.prog 60 #[.string s, .int .i64 i] w (GivesSE w (setS s i) (setE s i)) := by
  have HS := Lib.hid (fun w => sized11_any s w)
  have HP := Lib.hid (fun w => placed_any i w)
  by_cases h : s.size = 32
  · rw [decide_eq_true h] at HS
    cases hi : inB i with
    | false =>
      rw [hi] at HP
      obtain ⟨h1, h2⟩ := setE_out h hi
      rw [h1, h2]
      clear h hi h1 h2
      go_enter Try.func60, Try.ntmps60
      go_wp2_with fail
      refine (HS.out _).mono ?_; rintro e wp ⟨rfl, rfl⟩
      go_wp2_with fail
      refine (HP.out _).mono ?_; rintro e wp ⟨rfl, rfl⟩
      go_wp2_with fail
      go_ret2
      exact ⟨rfl, Below.refl _ _⟩
    | true =>
      rw [hi] at HP
      obtain ⟨h1, h2⟩ := setE_in h hi
      rw [h1, h2]
      have HW := Lib.hid (bwith_any s (some ⟨w.heap.size, 0, none⟩) 1 1 [i] _ (is_zone w i) h (by omega))
      rw [show withK (bts s) [i] 1 = withB (bts s) i from rfl] at HW
      clear h hi h1 h2
      go_enter Try.func60, Try.ntmps60
      go_wp2_with fail
      refine (HS.out _).mono ?_; rintro e wp ⟨rfl, rfl⟩
      go_wp2_with fail
      refine (HP.out _).mono ?_; rintro e wp ⟨rfl, rfl⟩
      go_wp2_with fail
      refine (HW.out).mono ?_; rintro e wp ⟨rfl, g⟩
      have HB := Lib.hid (((Below.refl w.heap.size w).alloc (Nat.le_refl _) (.cells #[.int .i64 i] 3)).trans (g.mono (by simp)))
      clear g
      go_wp2_with fail
      go_ret2
      exact ⟨rfl, HB.out⟩
  · rw [decide_eq_false h] at HS
    obtain ⟨h1, h2⟩ := setE_size h i
    rw [h1, h2]
    clear h h1 h2
    go_enter Try.func60, Try.ntmps60
    go_wp2_with fail
    refine (HS.out _).mono ?_; rintro e wp ⟨rfl, rfl⟩
    go_wp2_with fail
    go_ret2
    exact ⟨rfl, Below.refl _ _⟩
theorem noB_bts : bts (tx noB) = noB := bts_tx noB_lt
theorem noB_size : (tx noB).size = 32 := by rw [tx_size, noB_len]
set_option maxHeartbeats 800000 in
theorem of_any (A : Option Addr) (n c : Nat) (l : List Int) (w : World) (hl : Is w A n l) (hn : n ≤ 140737488355328) :
    Calls Try.prog 43 #[.slice A n c] w (GivesS w (ofS l)) := by
  have HW := fun w h => bwith_any (tx noB) A n c l w h noB_size hn
  obtain rfl : l.length = n := hl.len
  have HL := Lib.hid hl
  rw [noB_bts] at HW
  have HW' := Lib.hid HW
  unfold ofS
  generalize tx (withK noB l l.length) = t at *
  clear hl hn HW
  have HE := Lib.hid (fun w => empty_any w)
  generalize tx noB = s at *
  go_enter Try.func43, Try.ntmps43
  go_wp2_with fail
  refine (HE.out _).mono ?_; rintro e w1 ⟨rfl, g1⟩
  have HL1 := Lib.hid (HL.out.below g1)
  have B1 := Lib.hid g1
  clear g1
  go_wp2_with fail
  refine (HW'.out _ HL1.out).mono ?_; rintro e w2 ⟨rfl, g2⟩
  have B2 := Lib.hid (B1.out.trans (g2.mono B1.out.size))
  clear g2
  go_wp2_with fail
  go_ret
  exact ⟨rfl, B2.out⟩
theorem withK_size (l : List Int) (k : Nat) : (tx (withK noB l k)).size = 32 := by rw [tx_size, withK_len, noB_len]
end Go.Proofs.Ytgclgmfmcgacdaa

/- Proved: the walks of the laws of package timers. Conditions: those that the theorems name. -/
import Derived.Test.YtmjnlmcbcclbkaaTmDo
namespace Go.Proofs.Ytmjnlmcbcclbkaa
open Go.ChangeShapes Go.WideShapes Go.ChangeAt Go.RowKit

/-! ### timers that are none -/
set_option maxRecDepth 100000 in
set_option maxHeartbeats 1600000 in
theorem tm_none_walk (d : Dt) (w : World) :
    Calls Try.prog 4 #[d.val] w fun e w' => e = .returned (.bool true) ∧ Below w.heap.size w w' := by
  obtain ⟨kd, ⟨k0, k1⟩, z⟩ := d
  show Calls Try.prog 4 #[.agg #[.int .i64 kd, .int .i64 k0, .int .u32 k1, .int .i64 z]] w _
  have HD := Lib.hid (At.new w 34 [.int .i64 kd, .int .i64 k0, .int .u32 k1, .int .i64 z])
  have B1 := Lib.hid ((Below.refl w.heap.size w).alloc (Nat.le_refl _) (.cells [.int .i64 kd, .int .i64 k0, .int .u32 k1, .int .i64 z].toArray 34))
  have x1 := HD.out.cell 1 rfl
  have x2 := HD.out.cell 2 rfl
  have x3 := HD.out.cell 3 rfl
  go_enter Try.func4, Try.ntmps4
  go_wp2_with fail
  generalize w.alloc (.cells #[.int .i64 kd, .int .i64 k0, .int .u32 k1, .int .i64 z] 34) = w1 at *
  refine (tm_next_nil _).mono ?_; rintro e w2 ⟨rfl, rfl⟩
  go_wp2_with fail
  refine (tm_at_nil (k0, k1) _).mono ?_; rintro e w2 ⟨rfl, g2⟩
  have HD2 := Lib.hid (HD.out.below g2 HD.out.lt)
  have B2 := Lib.hid (B1.out.trans (g2.mono B1.out.size))
  have y1 := HD2.out.cell 1 rfl
  have y2 := HD2.out.cell 2 rfl
  have y3 := HD2.out.cell 3 rfl
  clear x1 x2 x3 HD B1 g2
  go_wp2_with fail
  refine (tm_set_nil (k0, k1) z _).mono ?_; rintro e w3 ⟨rfl, g3⟩
  have HD3 := Lib.hid (HD2.out.below g3 HD2.out.lt)
  have B3 := Lib.hid (B2.out.trans (g3.mono B2.out.size))
  have x1 := HD3.out.cell 1 rfl
  have x2 := HD3.out.cell 2 rfl
  have x3 := HD3.out.cell 3 rfl
  clear y1 y2 y3 HD2 B2 g3
  go_wp2_with fail
  refine (tm_drop_nil (k0, k1) _).mono ?_; rintro e w4 ⟨rfl, g4⟩
  have HD4 := Lib.hid (HD3.out.below g4 HD3.out.lt)
  have B4 := Lib.hid (B3.out.trans (g4.mono B3.out.size))
  have y1 := HD4.out.cell 1 rfl
  have y2 := HD4.out.cell 2 rfl
  have y3 := HD4.out.cell 3 rfl
  clear x1 x2 x3 HD3 B3 g4
  go_wp2_with fail
  refine (tm_due_nil z _).mono ?_; rintro e w5 ⟨rfl, rfl⟩
  go_wp2_with fail
  refine (tm_len_nil _).mono ?_; rintro e w5 ⟨rfl, rfl⟩
  go_wp2_with fail
  refine (tm_awake_any _).mono ?_; rintro e w6 ⟨rfl, g6⟩
  have B6 := Lib.hid (B4.out.trans (g6.mono B4.out.size))
  clear g6
  go_wp2_with fail
  go_ret
  exact ⟨rfl, B6.out⟩

/-! ### whatever deeds -/
def dt_ (l : List Dt) (j : Nat) : Dt := l.getD j ⟨0, (0, 0), 0⟩
/-- The slice value with address A and length n holds the deeds l, in memory that is there. -/
def Dts (w : World) (A : Option Addr) (n : Nat) (l : List Dt) : Prop :=
  l.length = n ∧ (∀ j, j < n → KyOk (dt_ l j).key) ∧ (0 < n → ∃ ad, A = some ad ∧ ad.block < w.heap.size ∧ ∀ j, j < n → w.cell? (ad.add (j * 4)) = some (.int .i64 (dt_ l j).kind) ∧ w.cell? ⟨(ad.add (j * 4)).block, (ad.add (j * 4)).off + 1, none⟩ = some (.int .i64 (dt_ l j).key.1) ∧ w.cell? ⟨(ad.add (j * 4)).block, (ad.add (j * 4)).off + 2, none⟩ = some (.int .u32 (dt_ l j).key.2) ∧ w.cell? ⟨(ad.add (j * 4)).block, (ad.add (j * 4)).off + 3, none⟩ = some (.int .i64 (dt_ l j).z))
theorem Dts.nil (w : World) (A : Option Addr) : Dts w A 0 [] := ⟨rfl, fun _ h => absurd h (by omega), fun h => absurd h (by omega)⟩
theorem Dts.at_ {w w' : World} {B : Nat} {A : Option Addr} {n : Nat} {l : List Dt} (h : Dts w A n l) (hb : Below B w w') (hB : w.heap.size ≤ B) {k : Nat} (hk : k < n) :
    ∃ ad, A = some ad ∧ KyOk (dt_ l k).key ∧ w'.cell? (ad.add (k * 4)) = some (.int .i64 (dt_ l k).kind) ∧ w'.cell? ⟨(ad.add (k * 4)).block, (ad.add (k * 4)).off + 1, none⟩ = some (.int .i64 (dt_ l k).key.1) ∧ w'.cell? ⟨(ad.add (k * 4)).block, (ad.add (k * 4)).off + 2, none⟩ = some (.int .u32 (dt_ l k).key.2) ∧ w'.cell? ⟨(ad.add (k * 4)).block, (ad.add (k * 4)).off + 3, none⟩ = some (.int .i64 (dt_ l k).z) := by
  obtain ⟨ad, e, hlt, hc⟩ := h.2.2 (by omega)
  obtain ⟨c0, c1, c2, c3⟩ := hc k hk
  have hl : (ad.add (k * 4)).block < B := by rw [add_block]; omega
  exact ⟨ad, e, h.2.1 k hk, (hb.cell hl).trans c0, (hb.cell (p := ⟨(ad.add (k * 4)).block, (ad.add (k * 4)).off + 1, none⟩) hl).trans c1, (hb.cell (p := ⟨(ad.add (k * 4)).block, (ad.add (k * 4)).off + 2, none⟩) hl).trans c2, (hb.cell (p := ⟨(ad.add (k * 4)).block, (ad.add (k * 4)).off + 3, none⟩) hl).trans c3⟩
/-- What TimersPlay's loop holds. -/
def PlayAt (w : World) (b k : Nat) (v : Value) (wr : World) : Prop := ∃ l A n c, v = .slice A n c ∧ n ≤ c ∧ Ts wr A n l ∧ TB w wr b l ∧ n ≤ k
set_option maxRecDepth 100000 in
set_option maxHeartbeats 3200000 in
theorem tm_play_main (A : Option Addr) (m c : Nat) (ds : List Dt) (w : World) (hm : (m : Int) ≤ 60) (hd : Dts w A m ds) :
    Calls Try.prog 3 #[.slice A m c] w fun e w' => e = .returned (.bool true) ∧ Below w.heap.size w w' := by
  have HN := Lib.hid (tb_new w w (Below.refl _ _))
  have HL := Lib.hid hd
  clear hd
  go_enter Try.func3, Try.ntmps3
  go_wp2_with fail
  refine HN.out.mono ?_; rintro e w1 ⟨rfl, r1⟩
  have R0 : Hid (PlayAt w (w.heap.size + 1) 0 (.slice none 0 0) w1) := Lib.hid ⟨[], _, _, _, rfl, Nat.le_refl _, Ts.nil _ _, r1, Nat.le_refl _⟩
  clear r1 HN
  generalize w.heap.size + 1 = b at *
  go_wp2_with fail
  go_loopw [4, 5] (fun v i wr => ∃ k : Nat, k ≤ m ∧ i = .int .i64 k ∧ PlayAt w b k v wr) (fun _ i _ => m - (intOf i).toNat)
  case atStart => exact ⟨0, by omega, rfl, R0.out⟩
  case round =>
    obtain ⟨k, hk, rfl, l, X, n, cx, rfl, hnc, htx, hrb, hnk⟩ := hrel
    have HX := Lib.hid htx
    have HR := Lib.hid hrb
    have HB := Lib.hid hrb.bel
    clear R0 htx hrb
    by_cases hlt : k < m
    · obtain ⟨ad, rfl, hky, c0, c1, c2, c3⟩ := HL.out.at_ HB.out (Nat.le_refl _) hlt
      have hlt' : (k : Int) < (m : Int) := by omega
      have hk0 : (0 : Int) ≤ (k : Int) := Int.natCast_nonneg _
      have HGo := Lib.hid (tdo_any HR.out X n cx HX.out hnc (by omega) (dt_ ds k) hky)
      have HGd := Lib.hid ((dt_ ds k).good HR.out.good hky)
      have HLn : Hid (((dt_ ds k).does l).length ≤ n + 1) := Lib.hid (by have := (dt_ ds k).len l; have := HX.out.len; omega)
      have HLA : Hid (∀ wr, Below w.heap.size w wr → _) := Lib.hid fun wr hb => HL.out.at_ (w' := wr) hb (Nat.le_refl _) hlt
      generalize dt_ ds k = d at *
      generalize d.does l = l' at *
      have HKY := Lib.hid hky
      obtain ⟨kd, ⟨k0, k1⟩, z⟩ := d
      dsimp only at c0 c1 c2 c3
      clear hky
      change Hid (Calls _ _ #[.pointer (some ⟨b, 0, none⟩), .slice X n cx, .agg #[.int .i64 kd, .int .i64 k0, .int .u32 k1, .int .i64 z]] wr _) at HGo
      go_wp2_with fail
      refine HGo.out.mono ?_; rintro e w2 ⟨X2, n2, cx2, rfl, t2, hc2, r2⟩
      have hn2 := t2.len
      have hn2' : n2 ≤ k + 1 := by have := HLn.out; omega
      obtain ⟨_, e', _, d0, d1, d2, d3⟩ := HLA.out w2 r2.bel
      injection e' with e'
      subst e'
      have T2 := Lib.hid t2
      have R2 := Lib.hid r2
      clear c0 c1 c2 c3 t2 r2 HGo HR HB HX
      go_wp2_with fail
      refine (tb_at R2.out HKY.out).mono ?_; rintro e w3 ⟨rfl, r3, k3⟩
      obtain ⟨_, e', _, c0, c1, c2, c3⟩ := HLA.out w3 r3.bel
      injection e' with e'
      subst e'
      have T3 := Lib.hid (k3 _ _ _ T2.out)
      have R3 := Lib.hid r3
      have HRA := Lib.hid (rat_any X2 n2 cx2 l' (k0, k1) w3 T3.out HGd.out (by omega))
      generalize atT l' (k0, k1) = z1 at *
      generalize wasT l' (k0, k1) = s1 at *
      clear d0 d1 d2 d3 k3 r3 T2 R2
      go_wp2_with fail
      refine HRA.out.mono ?_; rintro e w4 ⟨rfl, g4⟩
      have T4 := Lib.hid (T3.out.below g4)
      have R4 := Lib.hid (R3.out.below g4)
      clear g4 T3 R3 HRA c0 c1 c2 c3
      go_wp2_with fail
      have HNx := Lib.hid (tb_next R4.out (by omega))
      rw [hn2] at HNx
      rcases Nat.eq_zero_or_pos n2 with h0 | h0
      · subst h0
        obtain rfl : l' = [] := List.eq_nil_of_length_eq_zero hn2
        refine HNx.out.mono ?_; rintro e w5 ⟨rfl, r5, k5⟩
        have T5 := Lib.hid (k5 _ _ _ T4.out)
        have R5 := Lib.hid r5
        clear k5 r5 T4 R4 HNx
        have e0 : (tm_ [] 0).2 = 0 := rfl
        rw [e0]
        clear e0
        go_wp2_with fail
        refine (tb_len R5.out).mono ?_; rintro e w6 ⟨rfl, r6, k6⟩
        have T6 := Lib.hid (k6 _ _ _ T5.out)
        have R6 := Lib.hid r6
        clear k6 r6 T5 R5
        go_wp2_with fail
        go_roundw
        case rel => exact ⟨k + 1, by omega, by go_num, _, _, _, _, rfl, hc2, T6.out, R6.out, hn2'⟩
        case measure => simp [intOf]; omega
      · have hd : decide (0 < n2) = true := decide_eq_true h0
        rw [hd] at HNx
        have hp : ¬ (n2 : Int) ≤ 0 := by omega
        have hp2 : (0 : Int) < (n2 : Int) := by omega
        refine HNx.out.mono ?_; rintro e w5 ⟨rfl, r5, k5⟩
        have T5 := Lib.hid (k5 _ _ _ T4.out)
        have R5 := Lib.hid r5
        clear k5 r5 T4 R4 HNx
        have HLe := Lib.hid (tb_len R5.out)
        rw [hn2] at HLe
        have HX0 : Hid (∀ W, Ts W X2 n2 l' → ∃ ad2, X2 = some ad2 ∧ W.cell? ⟨ad2.block, ad2.off + 2, none⟩ = some (.int .i64 (tm_ l' 0).2)) := Lib.hid fun W h => by
          obtain ⟨ad2, e, _, _, _, q⟩ := h.at_ h0
          rw [Nat.zero_mul, Addr.add_zero' ad2] at q
          exact ⟨ad2, e, q⟩
        generalize (tm_ l' 0).2 = f1 at *
        clear R5
        go_wp2_with fail
        refine HLe.out.mono ?_; rintro e w6 ⟨rfl, r6, k6⟩
        have T6 := Lib.hid (k6 _ _ _ T5.out)
        have R6 := Lib.hid r6
        obtain ⟨ad2, rfl, q2⟩ := HX0.out _ T6.out
        clear k6 r6 T5 HLe HX0
        go_wp2_with fail
        go_roundw
        case rel => exact ⟨k + 1, by omega, by go_num, _, _, _, _, rfl, hc2, T6.out, R6.out, hn2'⟩
        case measure => simp [intOf]; omega
    · obtain rfl : k = m := by omega
      go_wp2_with fail
      refine (tm_awake_any _).mono ?_; rintro e w2 ⟨rfl, g2⟩
      have R4 := Lib.hid (HR.out.below g2)
      clear g2
      go_wp2_with fail
      go_ret
      exact ⟨rfl, R4.out.bel⟩
set_option maxRecDepth 100000 in
set_option maxHeartbeats 1600000 in
theorem tm_play_walk (A : Option Addr) (m c : Nat) (ds : List Dt) (w : World) (hd : Dts w A m ds) :
    Calls Try.prog 3 #[.slice A m c] w fun e w' => e = .returned (.bool true) ∧ Below w.heap.size w w' := by
  by_cases hm : (m : Int) ≤ 60
  · exact tm_play_main A m c ds w hm hd
  · have h' : (60 : Int) < (m : Int) := by omega
    clear hd hm
    go_enter Try.func3, Try.ntmps3
    go_wp2_with fail
    refine (tm_awake_any _).mono ?_; rintro e w2 ⟨rfl, g2⟩
    have G2 := Lib.hid g2
    clear g2
    go_wp2_with fail
    go_ret
    exact ⟨rfl, G2.out⟩
end Go.Proofs.Ytmjnlmcbcclbkaa

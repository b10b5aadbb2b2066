/- Proved: what New, Len, Get, Ask and Take of package calls answer, and what calls that are none answer. Conditions: those that the theorems name. -/
import Derived.Test.YtamcpdhehipcfaaCaMem
import Derived.Deep.QuietTactic
import Derived.BigQuiet
import Derived.WalkSpells
import Derived.Carry
import Derived.StillTailTactics
import Derived.Deep.Cut
import Derived.Laws.ResultCell
namespace Go.Proofs.Ytamcpdhehipcfaa
open Go.ChangeShapes Go.WideShapes Go.ChangeAt Go.RowKit

/-- Block b is calls that wait, which stand in the map in block m. -/
def Cb (w : World) (b m : Nat) (l : List Wt) : Prop := At w b 50 [.map (some m)] ∧ Mw w m l
theorem Cb.ne {w : World} {b m : Nat} {l : List Wt} (h : Cb w b m l) : b ≠ m := by
  intro e
  have h1 := h.1.cell 0 rfl
  rw [h.2.cell (by exact e)] at h1
  cases h1
theorem Cb.good {w : World} {b m : Nat} {l : List Wt} (h : Cb w b m l) : GoodW l := h.2.good
theorem Cb.below {w w' : World} {b m : Nat} {l : List Wt} (h : Cb w b m l) (k : Below w.heap.size w w') : Cb w' b m l := ⟨h.1.below k h.1.lt, h.2.below k h.2.lt⟩
theorem Cb.turned {w w' : World} {b m : Nat} {l l' : List Wt} (h : Cb w b m l) (k : w.grownBy w' (some m)) (g : Mw w' m l') : Cb w' b m l' := ⟨h.1.kept k (fun e => h.ne (by injection e with e; exact e.symm)), g⟩
theorem Cb.kept {w w' : World} {b m : Nat} {l : List Wt} {row : Option Nat} (h : Cb w b m l) (k : w.grownBy w' row) (hb : row ≠ some b) (hm : row ≠ some m) : Cb w' b m l := ⟨h.1.kept k hb, h.2.kept k hm⟩

/-! ### New -/
theorem ca_new (w : World) :
    Calls Try.prog 6 #[] w fun e w' => e = .returned (.pointer (some ⟨w.heap.size + 1, 0, none⟩)) ∧ w' = (w.alloc (.map #[] 0)).alloc (.cells [.map (some w.heap.size)].toArray 50) := by
  have hmm := @run_makeMap Try.prog
  go_enter Try.func6, Try.ntmps6
  go_wp2_with fail
  go_ret
  exact ⟨rfl, rfl⟩
theorem cb_new (w : World) : Cb ((w.alloc (.map #[] 0)).alloc (.cells [.map (some w.heap.size)].toArray 50)) (w.heap.size + 1) w.heap.size [] := by
  refine ⟨?_, (Mw.new w).below ((Below.refl _ _).alloc (Nat.le_refl _) _) (by simp)⟩
  have := At.new (w.alloc (.map #[] 0)) 50 [.map (some w.heap.size)]
  rwa [show (w.alloc (.map #[] 0)).heap.size = w.heap.size + 1 by simp] at this

/-! ### Len -/
theorem ca_len {b m : Nat} {l : List Wt} {w : World} (h : Cb w b m l) :
    Calls Try.prog 16 #[.pointer (some ⟨b, 0, none⟩)] w fun e w' => e = .returned (.int .i64 (l.length : Nat)) ∧ w = w' := by
  have hc := h.1.cell 0 rfl
  have hl := fun ty => mw_len h.2 ty
  clear h
  go_enter Try.func16, Try.ntmps16
  go_wp2_with fail
  go_ret
  exact ⟨rfl, rfl⟩
theorem ca_len_nil (w : World) :
    Calls Try.prog 16 #[.pointer none] w fun e w' => e = .returned (.int .i64 0) ∧ w = w' := by
  go_enter Try.func16, Try.ntmps16
  go_wp2_with fail
  go_ret
  exact ⟨rfl, rfl⟩

/-! ### Get -/
/-- A box that is made, and one more. -/
theorem wbox (x : Wt) (w : World) : ∃ W, W = w.alloc (.cells (wtC x).toArray tW) ∧ At W w.heap.size tW (wtC x) ∧ Below w.heap.size w W ∧ W.heap.size = w.heap.size + 1 :=
  ⟨_, rfl, At.new w tW (wtC x), (Below.refl _ _).alloc (Nat.le_refl _) _, by simp⟩
theorem res_cget {T : Array Value} {W : World} {b : Nat} {x : Wt} {z : Bool} (h6 : T.getD 6 undef = .pointer (some ⟨b, 0, none⟩)) (h7 : T.getD 7 undef = .bool z) (h : At W b tW (wtC x)) : (results Try.f7 T).run Try.prog W = .ok (.tuple #[wtV x, .bool z]) W := by
  have hl := wt_out h
  rw [results_cell_tmp rfl, h6, h7]
  simp only [asAddr, Sem.run_pure, Result.andThen_ok, hl]
set_option maxRecDepth 100000 in
set_option maxHeartbeats 800000 in
theorem ca_get_nil (k : Pk) (w : World) :
    Calls Try.prog 7 #[.pointer none, .int .i64 k.1, .int .i64 k.2] w fun e w' => e = .returned (.tuple #[wtV wt0, .bool false]) ∧ Below w.heap.size w w' := by
  obtain ⟨W1, HW, A1, B1, _⟩ := wbox wt0 w
  have HA1 := Lib.hid A1
  have HB1 := Lib.hid B1
  clear A1 B1
  go_enter Try.func7, Try.ntmps7
  go_upto_region 1 with fail
  change Code.wp _ _ _ _ (w.alloc (.cells (wtC wt0).toArray tW))
  rw [← HW]; clear HW
  go_wp2_with (refine wpw_store rfl _ _ rfl rfl wt0 rfl HA1.out rfl ?_; intro W2 ha2 hg2 _; have HA2 := Lib.hid ha2; have HB2 := Lib.hid (HB1.out.grown hg2 HB1.out.size (fun q e => by injection e with e; omega)); clear ha2 hg2)
  exact bodyPost_ret (v := .tuple #[wtV wt0, .bool false]) (res_cget rfl rfl HA2.out) rfl ⟨rfl, HB2.out⟩
set_option maxRecDepth 100000 in
set_option maxHeartbeats 800000 in
theorem ca_get {b m : Nat} {l : List Wt} {w : World} (h : Cb w b m l) {k : Pk} (hk : PkOk k) :
    Calls Try.prog 7 #[.pointer (some ⟨b, 0, none⟩), .int .i64 k.1, .int .i64 k.2] w fun e w' => e = .returned (.tuple #[wtV (atW l k), .bool (wasW l k)]) ∧ Below w.heap.size w w' := by
  obtain ⟨W1, HW, A1, B1, hz⟩ := wbox wt0 w
  have hc := (h.below B1).1.cell 0 rfl
  have hl := mw_look (h.below B1).2 hk
  have HA1 := Lib.hid (A1.alloc (.cells (wtC wt0).toArray tW))
  have HB1 := Lib.hid (B1.alloc B1.size (.cells (wtC wt0).toArray tW))
  have HX := Lib.hid (At.new W1 tW (wtC wt0))
  have HZ := Lib.hid hz
  clear A1 B1 hz h hk
  generalize atW l k = y at *
  generalize wasW l k = s at *
  go_enter Try.func7, Try.ntmps7
  go_upto_region 1 with fail
  change Code.wp _ _ _ _ (w.alloc (.cells (wtC wt0).toArray tW))
  rw [← HW]; clear HW
  go_wp2_with (first
    | (refine wpw_store rfl _ _ rfl rfl y rfl HX.out rfl ?_; intro W3 ha3 hg3 _; have HA3 := Lib.hid ha3; have HR3 := Lib.hid (HA1.out.kept hg3 (fun e => by injection e with e; have := HZ.out; omega)); have HB3 := Lib.hid (HB1.out.grown hg3 HB1.out.size (fun q e => by injection e with e; have := HZ.out; omega)); clear ha3 hg3)
    | (refine wpw_load rfl _ rfl rfl (wtc_at HA3.out) ?_)
    | (refine wpw_store rfl _ _ rfl rfl y rfl HR3.out rfl ?_; intro W4 ha4 hg4 _; have HA4 := Lib.hid ha4; have HB4 := Lib.hid (HB3.out.grown hg4 HB3.out.size (fun q e => by injection e with e; omega)); clear ha4 hg4))
  exact bodyPost_ret (v := .tuple #[wtV y, .bool s]) (res_cget rfl rfl HA4.out) rfl ⟨rfl, HB4.out⟩

/-! ### may it wait? -/
set_option maxRecDepth 100000 in
set_option maxHeartbeats 800000 in
theorem ca_may (x : Wt) (w : World) :
    Calls Try.prog 18 #[.agg #[.int .i64 x.kind, .int .i64 x.str, .int .i64 x.num, .string x.body]] w fun e w' => e = .returned (.bool (decide x.May)) ∧ Below w.heap.size w w' := by
  obtain ⟨x0, x1, x2, x3, x4⟩ := x
  unfold Wt.May
  dsimp only
  have A1 := At.new w 28 [.int .i64 x1, .int .i64 x2, .int .i64 x3, .string x4]
  have HB := Lib.hid ((Below.refl w.heap.size w).alloc (Nat.le_refl _) (.cells [Value.int .i64 x1, .int .i64 x2, .int .i64 x3, .string x4].toArray 28))
  have c0 := A1.cell 0 rfl
  have c1 := A1.cell 1 rfl
  clear A1
  by_cases h1 : 2 ≤ x1
  · by_cases h2 : x1 ≤ 4
    · by_cases h3 : 0 ≤ x2
      · by_cases h4 : x2 < 256
        · rw [decide_eq_true (show 2 ≤ x1 ∧ x1 ≤ 4 ∧ 0 ≤ x2 ∧ x2 < 256 from ⟨h1, h2, h3, h4⟩)]
          go_enter Try.func18, Try.ntmps18
          go_wp2_with fail
          go_ret
          exact ⟨rfl, HB.out⟩
        · rw [decide_eq_false (show ¬ (2 ≤ x1 ∧ x1 ≤ 4 ∧ 0 ≤ x2 ∧ x2 < 256) from fun h => h4 h.2.2.2)]
          have h5 : decide (x2 < 256) = false := decide_eq_false h4
          clear h4
          go_enter Try.func18, Try.ntmps18
          go_wp2_with fail
          go_ret
          exact ⟨rfl, HB.out⟩
      · rw [decide_eq_false (show ¬ (2 ≤ x1 ∧ x1 ≤ 4 ∧ 0 ≤ x2 ∧ x2 < 256) from fun h => h3 h.2.2.1)]
        have h5 : decide (0 ≤ x2) = false := decide_eq_false h3
        clear h3
        go_enter Try.func18, Try.ntmps18
        go_wp2_with fail
        go_ret
        exact ⟨rfl, HB.out⟩
    · rw [decide_eq_false (show ¬ (2 ≤ x1 ∧ x1 ≤ 4 ∧ 0 ≤ x2 ∧ x2 < 256) from fun h => h2 h.2.1)]
      have h5 : decide (x1 ≤ 4) = false := decide_eq_false h2
      clear h2
      go_enter Try.func18, Try.ntmps18
      go_wp2_with fail
      go_ret
      exact ⟨rfl, HB.out⟩
  · rw [decide_eq_false (show ¬ (2 ≤ x1 ∧ x1 ≤ 4 ∧ 0 ≤ x2 ∧ x2 < 256) from fun h => h1 h.1)]
    have h5 : decide (2 ≤ x1) = false := decide_eq_false h1
    clear h1
    go_enter Try.func18, Try.ntmps18
    go_wp2_with fail
    go_ret
    exact ⟨rfl, HB.out⟩
end Go.Proofs.Ytamcpdhehipcfaa

/- Proved: what New, Write, Next, Len, Room and Clear of package blocks answer, and what blocks that are none answer. Conditions: those that the theorems name. -/
import Derived.Test.YtkmnlpohbemlgaaRgLaw
namespace Go.Proofs.Ytkmnlpohbemlgaa
open Go.ChangeShapes Go.WideShapes Go.ChangeAt Go.RowKit

/-! ### blocks in memory -/
def blCells (q n : Nat) : List Value := [.pointer (some ⟨q, 0, none⟩), .int .i64 (n : Nat)]
/-- Block b is blocks of n bytes over the ring in block q, in which s waits. -/
def Bk (w : World) (b q n r : Nat) (g : Option Nat) (s : ByteArray) : Prop :=
  At w b 46 (blCells q n) ∧ Rg w q r g s ∧ b ≠ q ∧ g ≠ some b ∧ 1 ≤ n ∧ n ≤ 32768 ∧ n ≤ r
theorem Bk.lt {w : World} {b q n r : Nat} {g : Option Nat} {s : ByteArray} (h : Bk w b q n r g s) : b < w.heap.size := h.1.lt
theorem Bk.size {w : World} {b q n r : Nat} {g : Option Nat} {s : ByteArray} (h : Bk w b q n r g s) : s.size ≤ r ∧ r ≤ 1048576 := ⟨h.2.1.size, h.2.1.room⟩
theorem Bk.below {w w' : World} {b q n r : Nat} {g : Option Nat} {s : ByteArray} (h : Bk w b q n r g s) (k : Below w.heap.size w w') : Bk w' b q n r g s :=
  ⟨h.1.below k h.1.lt, h.2.1.below k, h.2.2⟩
theorem Bk.ring {w w' : World} {b q n r : Nat} {g g' : Option Nat} {s s' : ByteArray} (h : Bk w b q n r g s) (hr : Rg w' q r g' s') (ht : Turns w w' q g) (hg : Grows w g g') : Bk w' b q n r g' s' :=
  ⟨h.1.turns ht h.2.2.1 h.2.2.2.1, hr, h.2.2.1, fun e => by
    rcases hg b e with x | x
    · exact h.2.2.2.1 x
    · have := h.lt; omega, h.2.2.2.2⟩
/-- A value comes back; block b is blocks in which s' waits then; of what was there nothing but the ring has turned. -/
def GivesBk (W : World) (b q n r : Nat) (g : Option Nat) (v : Value) (s' : ByteArray) (e : Ending) (w' : World) : Prop :=
  e = .returned v ∧ ∃ g', Bk w' b q n r g' s' ∧ Turns W w' q g ∧ Grows W g g'

/-! ### what waits -/
theorem res_what {T : Array Value} {W : World} {x : Nat} {u v : Value} (h2 : T.getD 2 undef = .pointer (some ⟨x, 0, none⟩)) (A : At W x 44 [u, v]) : (results Try.f15 T).run Try.prog W = .ok (.agg #[u, v]) W := by
  have h2' : T[2]?.getD undef = .pointer (some ⟨x, 0, none⟩) := by simpa using h2
  have c0 := A.cell 0 rfl
  have c1 := A.cell 1 rfl
  simp [results, Try.results15, h2', c0, c1, go_sem]
theorem bl_box (w : World) (u v : Value) : At (w.alloc (.cells #[u, v] 44)) w.heap.size 44 [u, v] ∧ Below w.heap.size w (w.alloc (.cells #[u, v] 44)) :=
  ⟨At.new w 44 [u, v], (Below.refl _ _).alloc (Nat.le_refl _) _⟩
set_option maxRecDepth 100000 in
set_option maxHeartbeats 1600000 in
theorem bl_what (b q n r : Nat) (g : Option Nat) (s : ByteArray) (w : World) (h : Bk w b q n r g s) :
    Calls Try.prog 15 #[.pointer (some ⟨b, 0, none⟩)] w fun e w' => e = .returned (.agg #[.pointer (some ⟨q, 0, none⟩), .int .i64 (n : Nat)]) ∧ Below w.heap.size w w' := by
  obtain ⟨A, B⟩ := bl_box w (.pointer none) (.int .i64 0)
  have A1 := h.1.below B h.lt
  have c0 := A1.cell 0 rfl
  have c1 := A1.cell 1 rfl
  have x0 := A.cell 0 rfl
  have x1 := A.cell 1 rfl
  have y0 := A.free 0
  have y1 := A.free 1
  have HS := Lib.hid (bl_box w (.pointer (some ⟨q, 0, none⟩)) (.int .i64 (n : Nat)))
  clear A B A1 h
  go_enter Try.func15, Try.ntmps15
  go_wp2_with fail
  refine bodyPost_ret (v := .agg #[.pointer (some ⟨q, 0, none⟩), .int .i64 (n : Nat)]) (res_what rfl HS.out.1) rfl ⟨rfl, HS.out.2⟩
set_option maxRecDepth 100000 in
set_option maxHeartbeats 1600000 in
theorem bl_what_nil (w : World) :
    Calls Try.prog 15 #[.pointer none] w fun e w' => e = .returned (.agg #[.pointer none, .int .i64 0]) ∧ Below w.heap.size w w' := by
  obtain ⟨A, B⟩ := bl_box w (.pointer none) (.int .i64 0)
  have x0 := A.cell 0 rfl
  have x1 := A.cell 1 rfl
  have y0 := A.free 0
  have y1 := A.free 1
  have HA := Lib.hid A
  have HB := Lib.hid B
  clear A B
  go_enter Try.func15, Try.ntmps15
  go_wp2_with fail
  refine bodyPost_ret (v := .agg #[.pointer none, .int .i64 0]) (res_what rfl HA.out) rfl ⟨rfl, HB.out⟩

/-- the ring, out of what waits. -/
theorem bl_field (u v : Value) (w : World) : (Instr.field 44 (.agg #[u, v]) 0).run Try.prog w = (part 40 #[u, v] 0).run Try.prog w := by kernel_rfl
theorem bl_ring (u : Option Addr) (z : Int) (w : World) : (Instr.field 44 (.agg #[.pointer u, .int .i64 z]) 0).run Try.prog w = .ok (.pointer u) w := by kernel_rfl

/-! ### New -/
theorem bl_new_any (n r : Nat) (w : World) (h0 : 1 ≤ n) (h1 : n ≤ 32768) (h2 : n ≤ r) (h3 : r ≤ 1048576) :
    Calls Try.prog 7 #[.int .i64 (n : Nat), .int .i64 (r : Nat)] w fun e w' => e = .returned (.tuple #[.pointer (some ⟨w.heap.size + 1, 0, none⟩), .int .i64 0]) ∧ Bk w' (w.heap.size + 1) w.heap.size n r none S0 ∧ Below w.heap.size w w' := by
  have HR := Lib.hid (rg_of_new r w h3)
  have HB := Lib.hid ((Below.refl w.heap.size w).alloc (Nat.le_refl _) (.cells (rgCells r 0 0 none 0).toArray 50))
  have HN := Lib.hid (rg_new_any r w (Nat.le_trans h0 h2) h3)
  have hs : (w.alloc (.cells (rgCells r 0 0 none 0).toArray 50)).heap.size = w.heap.size + 1 := by simp
  have HH := Lib.hid (And.intro h0 (And.intro h1 h2))
  have h0' : ¬ (n : Int) < 1 := by omega
  have h1' : ¬ 32768 < (n : Int) := by omega
  have h2' : ¬ (r : Int) < (n : Int) := by omega
  clear h0 h1 h2 h3
  go_enter Try.func7, Try.ntmps7
  go_wp2_with fail
  refine HN.out.mono ?_; rintro e w1 ⟨rfl, hw1⟩
  rw [← hw1] at HR HB hs
  clear hw1 HN
  go_wp2_with fail
  go_ret2
  refine ⟨by rw [← hs]; rfl, ⟨by rw [← hs]; exact At.new w1 _ (blCells w.heap.size n), HR.out.below ((Below.refl _ _).alloc (Nat.le_refl _) _), by omega, fun e => (nomatch e), HH.out.1, HH.out.2.1, HH.out.2.2⟩, HB.out.alloc (by omega) _⟩
theorem bl_new_bad (z y : Int) (w : World) (h : z < 1 ∨ 32768 < z ∨ y < z ∨ 1048576 < y) :
    Calls Try.prog 7 #[.int .i64 z, .int .i64 y] w fun e w' => e = .returned (.tuple #[.pointer none, .int .i64 1]) ∧ w = w' := by
  by_cases a : z < 1
  · go_enter Try.func7, Try.ntmps7
    go_wp2_with fail
    go_ret2
    exact ⟨rfl, rfl⟩
  by_cases b : 32768 < z
  · go_enter Try.func7, Try.ntmps7
    go_wp2_with fail
    go_ret2
    exact ⟨rfl, rfl⟩
  by_cases c : y < z
  · go_enter Try.func7, Try.ntmps7
    go_wp2_with fail
    go_ret2
    exact ⟨rfl, rfl⟩
  have d : 1048576 < y := by omega
  have HN := Lib.hid (rg_new_bad y w (Or.inr d))
  clear h
  go_enter Try.func7, Try.ntmps7
  go_wp2_with fail
  refine HN.out.mono ?_; rintro e w1 ⟨rfl, rfl⟩
  go_wp2_with fail
  go_ret2
  exact ⟨rfl, rfl⟩

/-! ### Write, Len, Room, Clear -/
theorem bl_len (b q n r : Nat) (g : Option Nat) (s : ByteArray) (w : World) (h : Bk w b q n r g s) :
    Calls Try.prog 12 #[.pointer (some ⟨b, 0, none⟩)] w fun e w' => e = .returned (.int .i64 (s.size : Nat)) ∧ Below w.heap.size w w' := by
  have HK := Lib.hid h
  clear h
  have hfd := bl_ring (some ⟨q, 0, none⟩) (n : Nat)
  go_enter Try.func12, Try.ntmps12
  go_wp2_with fail
  refine (bl_what b q n r g s w HK.out).mono ?_; rintro e w1 ⟨rfl, g1⟩
  have G1 := Lib.hid g1
  clear g1
  go_wp2_with fail
  refine (rg_len_any q r g s w1 (HK.out.2.1.below G1.out)).mono ?_; rintro e w2 ⟨rfl, rfl⟩
  go_wp2_with fail
  go_ret
  exact ⟨rfl, G1.out⟩
theorem bl_room (b q n r : Nat) (g : Option Nat) (s : ByteArray) (w : World) (h : Bk w b q n r g s) :
    Calls Try.prog 13 #[.pointer (some ⟨b, 0, none⟩)] w fun e w' => e = .returned (.int .i64 ((r : Int) - (s.size : Int))) ∧ Below w.heap.size w w' := by
  have HK := Lib.hid h
  clear h
  have hfd := bl_ring (some ⟨q, 0, none⟩) (n : Nat)
  go_enter Try.func13, Try.ntmps13
  go_wp2_with fail
  refine (bl_what b q n r g s w HK.out).mono ?_; rintro e w1 ⟨rfl, g1⟩
  have G1 := Lib.hid g1
  clear g1
  go_wp2_with fail
  refine (rg_room_any q r g s w1 (HK.out.2.1.below G1.out)).mono ?_; rintro e w2 ⟨rfl, g2⟩
  have G2 := Lib.hid (G1.out.trans (two_drawn (B := w.heap.size) g2))
  clear g2
  go_wp2_with fail
  go_ret
  exact ⟨rfl, G2.out⟩
theorem bl_write (b q n r : Nat) (g : Option Nat) (s t : ByteArray) (w : World) (h : Bk w b q n r g s) :
    Calls Try.prog 8 #[.pointer (some ⟨b, 0, none⟩), .string t] w (GivesBk w b q n r g (.int .i64 (min t.size (r - s.size) : Nat)) (s ++ t.extract 0 (min t.size (r - s.size)))) := by
  have HK := Lib.hid h
  clear h
  generalize hk : min t.size (r - s.size) = k
  have HP := Lib.hid (fun W (x : Rg W q r g s) => rg_put_any q r g s t W x)
  rw [hk] at HP
  clear hk
  have hfd := bl_ring (some ⟨q, 0, none⟩) (n : Nat)
  go_enter Try.func8, Try.ntmps8
  go_wp2_with fail
  refine (bl_what b q n r g s w HK.out).mono ?_; rintro e w1 ⟨rfl, g1⟩
  have G1 := Lib.hid g1
  clear g1
  go_wp2_with fail
  refine (HP.out w1 (HK.out.2.1.below G1.out)).mono ?_; rintro e w2 ⟨rfl, g', hr, ht, hg⟩
  have R2 := Lib.hid (And.intro hr (And.intro ht hg))
  clear hr ht hg
  go_wp2_with fail
  go_ret
  exact ⟨rfl, g', (HK.out.below G1.out).ring R2.out.1 R2.out.2.1 R2.out.2.2, (turns_below G1.out q g).trans (Grows.refl _ _) R2.out.2.1, (Grows.refl w g).trans G1.out.size R2.out.2.2⟩
theorem bl_clear (b q n r : Nat) (g : Option Nat) (s : ByteArray) (w : World) (h : Bk w b q n r g s) :
    Calls Try.prog 11 #[.pointer (some ⟨b, 0, none⟩)] w (GivesBk w b q n r g (.tuple #[]) S0) := by
  have HK := Lib.hid h
  clear h
  have hfd := bl_ring (some ⟨q, 0, none⟩) (n : Nat)
  go_enter Try.func11, Try.ntmps11
  go_wp2_with fail
  refine (bl_what b q n r g s w HK.out).mono ?_; rintro e w1 ⟨rfl, g1⟩
  have G1 := Lib.hid g1
  clear g1
  go_wp2_with fail
  refine (rg_clear_any q r g s w1 (HK.out.2.1.below G1.out)).mono ?_; rintro e w2 ⟨rfl, g', hr, ht, hg⟩
  have R2 := Lib.hid (And.intro hr (And.intro ht hg))
  clear hr ht hg
  go_wp2_with fail
  go_end0
  exact ⟨rfl, g', (HK.out.below G1.out).ring R2.out.1 R2.out.2.1 R2.out.2.2, (turns_below G1.out q g).trans (Grows.refl _ _) R2.out.2.1, (Grows.refl w g).trans G1.out.size R2.out.2.2⟩

/-! ### on nil -/
theorem bl_len_nil (w : World) :
    Calls Try.prog 12 #[.pointer none] w fun e w' => e = .returned (.int .i64 0) ∧ Below w.heap.size w w' := by
  have hfd := bl_ring none 0
  go_enter Try.func12, Try.ntmps12
  go_wp2_with fail
  refine (bl_what_nil w).mono ?_; rintro e w1 ⟨rfl, g1⟩
  have G1 := Lib.hid g1
  clear g1
  go_wp2_with fail
  refine (rg_len_nil w1).mono ?_; rintro e w2 ⟨rfl, rfl⟩
  go_wp2_with fail
  go_ret
  exact ⟨rfl, G1.out⟩
theorem bl_room_nil (w : World) :
    Calls Try.prog 13 #[.pointer none] w fun e w' => e = .returned (.int .i64 0) ∧ Below w.heap.size w w' := by
  have hfd := bl_ring none 0
  go_enter Try.func13, Try.ntmps13
  go_wp2_with fail
  refine (bl_what_nil w).mono ?_; rintro e w1 ⟨rfl, g1⟩
  have G1 := Lib.hid g1
  clear g1
  go_wp2_with fail
  refine (rg_room_nil w1).mono ?_; rintro e w2 ⟨rfl, rfl⟩
  go_wp2_with fail
  go_ret
  exact ⟨rfl, G1.out⟩
theorem bl_write_nil (t : ByteArray) (w : World) :
    Calls Try.prog 8 #[.pointer none, .string t] w fun e w' => e = .returned (.int .i64 0) ∧ Below w.heap.size w w' := by
  have hfd := bl_ring none 0
  go_enter Try.func8, Try.ntmps8
  go_wp2_with fail
  refine (bl_what_nil w).mono ?_; rintro e w1 ⟨rfl, g1⟩
  have G1 := Lib.hid g1
  clear g1
  go_wp2_with fail
  refine (rg_put_nil t w1).mono ?_; rintro e w2 ⟨rfl, rfl⟩
  go_wp2_with fail
  go_ret
  exact ⟨rfl, G1.out⟩
theorem bl_clear_nil (w : World) :
    Calls Try.prog 11 #[.pointer none] w fun e w' => e = .returned (.tuple #[]) ∧ Below w.heap.size w w' := by
  have hfd := bl_ring none 0
  go_enter Try.func11, Try.ntmps11
  go_wp2_with fail
  refine (bl_what_nil w).mono ?_; rintro e w1 ⟨rfl, g1⟩
  have G1 := Lib.hid g1
  clear g1
  go_wp2_with fail
  refine (rg_clear_nil w1).mono ?_; rintro e w2 ⟨rfl, rfl⟩
  go_wp2_with fail
  go_end0
  exact ⟨rfl, G1.out⟩
end Go.Proofs.Ytkmnlpohbemlgaa

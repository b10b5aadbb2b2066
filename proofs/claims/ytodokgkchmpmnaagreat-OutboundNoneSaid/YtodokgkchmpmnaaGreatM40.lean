/- Proved: lemmas of one statement's proof, merged by program: what each part proves stands ahead of it. Conditions: those that the lemmas name. -/
import Derived.Test.YtodokgkchmpmnaaGreatM39
import Derived.Deep.RegionHeld3

/- Proved: what New, Write, Next, Len, Room and Clear of package blocks answer, and what blocks that are none answer. Conditions: those that the theorems name. -/
namespace Go.Proofs.YtodokgkchmpmnaaGreat
open Go.ChangeShapes Go.WideShapes Go.ChangeAt Go.RowKit

/-! ### blocks in memory -/
def blCells (q n : Nat) : List Value := [.pointer (some ⟨q, 0, none⟩), .int .i64 (n : Nat)]
/-- Block b is blocks of n bytes over the ring in block q, in which s waits. -/
def Bk (w : World) (b q n r : Nat) (g : Option Nat) (s : ByteArray) : Prop :=
  At w b 127 (blCells q n) ∧ Rg w q r g s ∧ b ≠ q ∧ g ≠ some b ∧ 1 ≤ n ∧ n ≤ 32768 ∧ n ≤ r
theorem Bk.lt {w : World} {b q n r : Nat} {g : Option Nat} {s : ByteArray} (h : Bk w b q n r g s) : b < w.heap.size := h.1.lt
theorem Bk.size {w : World} {b q n r : Nat} {g : Option Nat} {s : ByteArray} (h : Bk w b q n r g s) : s.size ≤ r ∧ r ≤ 1048576 := ⟨h.2.1.size, h.2.1.room⟩
theorem Bk.below {w w' : World} {b q n r : Nat} {g : Option Nat} {s : ByteArray} (h : Bk w b q n r g s) (k : Below w.heap.size w w') : Bk w' b q n r g s :=
  ⟨h.1.below k h.1.lt, h.2.1.below k, h.2.2⟩
theorem Bk.ring {w w' : World} {b q n r : Nat} {g g' : Option Nat} {s s' : ByteArray} (h : Bk w b q n r g s) (hr : Rg w' q r g' s') (ht : Turns w w' q g) (hg : Grows w g g') : Bk w' b q n r g' s' :=
  ⟨h.1.turns ht h.2.2.1 h.2.2.2.1, hr, h.2.2.1, fun e => by
    rcases hg b e with x | x
    · exact h.2.2.2.1 x
    · have := h.lt; omega, h.2.2.2.2⟩
/-- A value comes back; block b is blocks in which s' waits then; of what was there nothing but the ring has turned. -/
def GivesBk (W : World) (b q n r : Nat) (g : Option Nat) (v : Value) (s' : ByteArray) (e : Ending) (w' : World) : Prop :=
  e = .returned v ∧ ∃ g', Bk w' b q n r g' s' ∧ Turns W w' q g ∧ Grows W g g'

/-! ### what waits -/
theorem res_what {T : Array Value} {W : World} {x : Nat} {u v : Value} (h2 : T.getD 2 undef = .pointer (some ⟨x, 0, none⟩)) (A : At W x 90 [u, v]) : (results Tryz.f42 T).run Tryz.prog W = .ok (.agg #[u, v]) W := by
  have h2' : T[2]?.getD undef = .pointer (some ⟨x, 0, none⟩) := by simpa using h2
  have c0 := A.cell 0 rfl
  have c1 := A.cell 1 rfl
  simp [results, Tryz.results42, h2', c0, c1, go_sem]
theorem bl_box (w : World) (u v : Value) : At (w.alloc (.cells #[u, v] 90)) w.heap.size 90 [u, v] ∧ Below w.heap.size w (w.alloc (.cells #[u, v] 90)) :=
  ⟨At.new w 90 [u, v], (Below.refl _ _).alloc (Nat.le_refl _) _⟩
set_option maxRecDepth 100000 in
set_option maxHeartbeats 1600000 in
theorem bl_what (b q n r : Nat) (g : Option Nat) (s : ByteArray) (w : World) (h : Bk w b q n r g s) :
    Calls Tryz.prog 42 #[.pointer (some ⟨b, 0, none⟩)] w fun e w' => e = .returned (.agg #[.pointer (some ⟨q, 0, none⟩), .int .i64 (n : Nat)]) ∧ Below w.heap.size w w' := by
  obtain ⟨A, B⟩ := bl_box w (.pointer none) (.int .i64 0)
  have A1 := h.1.below B h.lt
  have c0 := A1.cell 0 rfl
  have c1 := A1.cell 1 rfl
  have x0 := A.cell 0 rfl
  have x1 := A.cell 1 rfl
  have y0 := A.free 0
  have y1 := A.free 1
  have HS := Lib.hid (bl_box w (.pointer (some ⟨q, 0, none⟩)) (.int .i64 (n : Nat)))
  clear A B A1 h
  go_enter Tryz.func42, Tryz.ntmps42
  go_wp2_with fail
  refine bodyPost_ret (v := .agg #[.pointer (some ⟨q, 0, none⟩), .int .i64 (n : Nat)]) (res_what rfl HS.out.1) rfl ⟨rfl, HS.out.2⟩
theorem bl_ring (u : Option Addr) (z : Int) (w : World) : (Instr.field 90 (.agg #[.pointer u, .int .i64 z]) 0).run Tryz.prog w = .ok (.pointer u) w := by kernel_rfl

/-! ### New -/
theorem bl_new_any (n r : Nat) (w : World) (h0 : 1 ≤ n) (h1 : n ≤ 32768) (h2 : n ≤ r) (h3 : r ≤ 1048576) :
    Calls Tryz.prog 61 #[.int .i64 (n : Nat), .int .i64 (r : Nat)] w fun e w' => e = .returned (.tuple #[.pointer (some ⟨w.heap.size + 1, 0, none⟩), .int .i64 0]) ∧ Bk w' (w.heap.size + 1) w.heap.size n r none S0 ∧ Below w.heap.size w w' := by
  have HR := Lib.hid (rg_of_new r w h3)
  have HB := Lib.hid ((Below.refl w.heap.size w).alloc (Nat.le_refl _) (.cells (rgCells r 0 0 none 0).toArray 130))
  have HN := Lib.hid (rg_new_any r w (Nat.le_trans h0 h2) h3)
  have hs : (w.alloc (.cells (rgCells r 0 0 none 0).toArray 130)).heap.size = w.heap.size + 1 := by simp
  have HH := Lib.hid (And.intro h0 (And.intro h1 h2))
  have h0' : ¬ (n : Int) < 1 := by omega
  have h1' : ¬ 32768 < (n : Int) := by omega
  have h2' : ¬ (r : Int) < (n : Int) := by omega
  clear h0 h1 h2 h3
  go_enter Tryz.func61, Tryz.ntmps61
  go_wp2_with fail
  refine HN.out.mono ?_; rintro e w1 ⟨rfl, hw1⟩
  rw [← hw1] at HR HB hs
  clear hw1 HN
  go_wp2_with fail
  go_ret2
  refine ⟨by rw [← hs]; rfl, ⟨by rw [← hs]; exact At.new w1 _ (blCells w.heap.size n), HR.out.below ((Below.refl _ _).alloc (Nat.le_refl _) _), by omega, fun e => (nomatch e), HH.out.1, HH.out.2.1, HH.out.2.2⟩, HB.out.alloc (by omega) _⟩
/-! ### Write, Len, Room, Clear -/
theorem bl_len (b q n r : Nat) (g : Option Nat) (s : ByteArray) (w : World) (h : Bk w b q n r g s) :
    Calls Tryz.prog 19 #[.pointer (some ⟨b, 0, none⟩)] w fun e w' => e = .returned (.int .i64 (s.size : Nat)) ∧ Below w.heap.size w w' := by
  have HK := Lib.hid h
  clear h
  have hfd := bl_ring (some ⟨q, 0, none⟩) (n : Nat)
  go_enter Tryz.func19, Tryz.ntmps19
  go_wp2_with fail
  refine (bl_what b q n r g s w HK.out).mono ?_; rintro e w1 ⟨rfl, g1⟩
  have G1 := Lib.hid g1
  clear g1
  go_wp2_with fail
  refine (rg_len_any q r g s w1 (HK.out.2.1.below G1.out)).mono ?_; rintro e w2 ⟨rfl, rfl⟩
  go_wp2_with fail
  go_ret
  exact ⟨rfl, G1.out⟩
theorem bl_write (b q n r : Nat) (g : Option Nat) (s t : ByteArray) (w : World) (h : Bk w b q n r g s) :
    Calls Tryz.prog 20 #[.pointer (some ⟨b, 0, none⟩), .string t] w (GivesBk w b q n r g (.int .i64 (min t.size (r - s.size) : Nat)) (s ++ t.extract 0 (min t.size (r - s.size)))) := by
  have HK := Lib.hid h
  clear h
  generalize hk : min t.size (r - s.size) = k
  have HP := Lib.hid (fun W (x : Rg W q r g s) => rg_put_any q r g s t W x)
  rw [hk] at HP
  clear hk
  have hfd := bl_ring (some ⟨q, 0, none⟩) (n : Nat)
  go_enter Tryz.func20, Tryz.ntmps20
  go_wp2_with fail
  refine (bl_what b q n r g s w HK.out).mono ?_; rintro e w1 ⟨rfl, g1⟩
  have G1 := Lib.hid g1
  clear g1
  go_wp2_with fail
  refine (HP.out w1 (HK.out.2.1.below G1.out)).mono ?_; rintro e w2 ⟨rfl, g', hr, ht, hg⟩
  have R2 := Lib.hid (And.intro hr (And.intro ht hg))
  clear hr ht hg
  go_wp2_with fail
  go_ret
  exact ⟨rfl, g', (HK.out.below G1.out).ring R2.out.1 R2.out.2.1 R2.out.2.2, (turns_below G1.out q g).trans (Grows.refl _ _) R2.out.2.1, (Grows.refl w g).trans G1.out.size R2.out.2.2⟩
/-! ### on nil -/
end Go.Proofs.YtodokgkchmpmnaaGreat

/- Proved: what Next of package blocks answers. Conditions: those that the theorems name. -/
namespace Go.Proofs.YtodokgkchmpmnaaGreat
open Go.ChangeShapes Go.WideShapes Go.ChangeAt Go.RowKit

/-- is there a block; how many bytes it has. -/
def nxB (n : Nat) (f : Bool) (s : ByteArray) : Bool := decide (n ≤ s.size) || (f && decide (0 < s.size))
def nxK (n : Nat) (f : Bool) (s : ByteArray) : Nat := if nxB n f s = true then min n s.size else 0
theorem nx_zero (s : ByteArray) : s.extract 0 0 = S0 := size_zero (by rw [rg_cut_size]; omega)
set_option maxRecDepth 100000 in
set_option maxHeartbeats 1600000 in
/-- There is none. -/
theorem bl_cut_none (q n r : Nat) (g : Option Nat) (s : ByteArray) (w : World) (h : Rg w q r g s) (h1 : s.size < n) :
    Calls Tryz.prog 46 #[.agg #[.pointer (some ⟨q, 0, none⟩), .int .i64 (n : Nat)], .bool false] w fun e w' => e = .returned (.tuple #[.string S0, .bool false]) ∧ Below w.heap.size w w' := by
  obtain ⟨A, B⟩ := bl_box w (.pointer (some ⟨q, 0, none⟩)) (.int .i64 (n : Nat))
  have hR := h.below B
  have HB := Lib.hid B
  have hm : (s.size : Int) < (n : Int) := by omega
  have x0 : ∀ k, ((w.alloc (.cells #[.pointer (some ⟨q, 0, none⟩), .int .i64 (n : Nat)] 90)).drewN k).cell? ⟨w.heap.size, 0, none⟩ = some (.pointer (some ⟨q, 0, none⟩)) := fun k => A.cell 0 rfl
  have x1 : ∀ k, ((w.alloc (.cells #[.pointer (some ⟨q, 0, none⟩), .int .i64 (n : Nat)] 90)).drewN k).cell? ⟨w.heap.size, 1, none⟩ = some (.int .i64 (n : Nat)) := fun k => A.cell 1 rfl
  have HL := Lib.hid (fun k => rg_len_any q r g s _ (hR.below (two_drawn ⟨k, rfl⟩)))
  clear A B hR h h1
  go_enter Tryz.func46, Tryz.ntmps46
  go_wp2_with fail
  generalize w.alloc (.cells #[.pointer (some ⟨q, 0, none⟩), .int .i64 (n : Nat)] 90) = w1 at *
  go_quiet ((go_at_call 43; exact Calls.quiet_of_same ((HL.out _).mono fun _ _ h => ⟨h.1, h.2.symm⟩)))
  go_wp2_with fail
  go_ret2
  exact ⟨rfl, HB.out.trans (two_drawn ⟨_, rfl⟩)⟩

theorem text_ne {s : ByteArray} (h : 0 < s.size) : s.toList.isEmpty = false := by
  rw [ByteArray.toList_eq]
  cases q : s.data.toList with
  | nil => exact absurd h (by show ¬ 1 ≤ s.data.size; rw [← Array.length_toList, q]; decide)
  | cons a r => rfl
set_option maxRecDepth 100000 in
set_option maxHeartbeats 3200000 in
/-- Bytes are taken: so many as a block has, or all. -/
theorem bl_cut_take (q n r k : Nat) (f : Bool) (g : Option Nat) (s : ByteArray) (w : World) (h : Rg w q r g s) (h1 : n ≤ s.size ∨ f = true) (hk : min n s.size = k) :
    Calls Tryz.prog 46 #[.agg #[.pointer (some ⟨q, 0, none⟩), .int .i64 (n : Nat)], .bool f] w (GivesRg w q r g (.tuple #[.string (s.extract 0 k), .bool (decide (0 < k))]) (s.extract k s.size)) := by
  obtain ⟨A, B⟩ := bl_box w (.pointer (some ⟨q, 0, none⟩)) (.int .i64 (n : Nat))
  have hR := h.below B
  have HB := Lib.hid B
  have hlt := h.lt
  have hrow := h.row_lt
  have HX : Hid (w.heap.size ≠ q ∧ g ≠ some w.heap.size) := Lib.hid ⟨by omega, fun e => by have := hrow _ e; omega⟩
  have HS := Lib.hid h.size
  have x0 : ∀ k, ((w.alloc (.cells #[.pointer (some ⟨q, 0, none⟩), .int .i64 (n : Nat)] 90)).drewN k).cell? ⟨w.heap.size, 0, none⟩ = some (.pointer (some ⟨q, 0, none⟩)) := fun k => A.cell 0 rfl
  have x1 : ∀ k, ((w.alloc (.cells #[.pointer (some ⟨q, 0, none⟩), .int .i64 (n : Nat)] 90)).drewN k).cell? ⟨w.heap.size, 1, none⟩ = some (.int .i64 (n : Nat)) := fun k => A.cell 1 rfl
  have HL := Lib.hid (fun k => rg_len_any q r g s _ (hR.below (two_drawn ⟨k, rfl⟩)))
  have HT := Lib.hid (fun k' => rg_take_many q r k (n : Nat) g s _ (hR.below (two_drawn ⟨k', rfl⟩)) (by omega))
  have hz : (s.extract 0 k).size = k := by rw [rg_cut_size]; omega
  obtain ⟨K, hK⟩ : ∃ K, K = s.extract 0 k := ⟨_, rfl⟩
  obtain ⟨V, hV⟩ : ∃ V, V = s.extract k s.size := ⟨_, rfl⟩
  rw [← hK, ← hV] at HT
  rw [← hK] at hz
  rw [← hK, ← hV]
  clear hK hV
  by_cases hm : (s.size : Int) < (n : Int)
  · obtain rfl : f = true := by rcases h1 with a | a; exact absurd a (by omega); exact a
    clear A B hR h h1 hlt hrow hk
    by_cases h0 : 0 < k
    · have e1 := text_ne (s := K) (by omega)
      have e2 := list_ne (size_ne (s := K) (by omega))
      have e3 : K ≠ S0 := size_ne (by omega)
      have e0 : decide (0 < k) = true := decide_eq_true h0
      rw [e0]
      clear hz h0 e0
      go_enter Tryz.func46, Tryz.ntmps46
      go_wp2_with fail
      generalize w.alloc (.cells #[.pointer (some ⟨q, 0, none⟩), .int .i64 (n : Nat)] 90) = w1 at *
      go_quiet ((go_at_call 43; exact Calls.quiet_of_same ((HL.out _).mono fun _ _ h => ⟨h.1, h.2.symm⟩)))
      go_wp2_with fail
      refine (HT.out _).mono ?_; rintro e w2 ⟨rfl, g', hr, ht, hg⟩
      have R2 := Lib.hid (And.intro hr (And.intro ht hg))
      clear hr ht hg
      go_wp2_with fail
      go_ret2
      exact ⟨rfl, g', R2.out.1, (turns_below (HB.out.trans (two_drawn ⟨_, rfl⟩)) q g).trans (Grows.refl _ _) R2.out.2.1, (Grows.refl w g).trans HB.out.size R2.out.2.2⟩
    · obtain rfl : k = 0 := by omega
      obtain rfl : K = S0 := size_zero hz
      clear hz h0
      go_enter Tryz.func46, Tryz.ntmps46
      go_wp2_with fail
      generalize w.alloc (.cells #[.pointer (some ⟨q, 0, none⟩), .int .i64 (n : Nat)] 90) = w1 at *
      go_quiet ((go_at_call 43; exact Calls.quiet_of_same ((HL.out _).mono fun _ _ h => ⟨h.1, h.2.symm⟩)))
      go_wp2_with fail
      refine (HT.out _).mono ?_; rintro e w2 ⟨rfl, g', hr, ht, hg⟩
      have R2 := Lib.hid (And.intro hr (And.intro ht hg))
      clear hr ht hg
      go_wp2_with fail
      go_ret2
      exact ⟨rfl, g', R2.out.1, (turns_below (HB.out.trans (two_drawn ⟨_, rfl⟩)) q g).trans (Grows.refl _ _) R2.out.2.1, (Grows.refl w g).trans HB.out.size R2.out.2.2⟩
  · have hmn : decide (s.size < n) = false := decide_eq_false (by omega)
    clear A B hR h h1 hlt hrow
    by_cases h0 : 0 < k
    · have e1 := text_ne (s := K) (by omega)
      have e2 := list_ne (size_ne (s := K) (by omega))
      have e3 : K ≠ S0 := size_ne (by omega)
      have e0 : decide (0 < k) = true := decide_eq_true h0
      rw [e0]
      clear hz h0 e0 hk
      go_enter Tryz.func46, Tryz.ntmps46
      go_wp2_with fail
      generalize w.alloc (.cells #[.pointer (some ⟨q, 0, none⟩), .int .i64 (n : Nat)] 90) = w1 at *
      go_quiet ((go_at_call 43; exact Calls.quiet_of_same ((HL.out _).mono fun _ _ h => ⟨h.1, h.2.symm⟩)))
      go_wp2_with fail
      refine (HT.out _).mono ?_; rintro e w2 ⟨rfl, g', hr, ht, hg⟩
      have R2 := Lib.hid (And.intro hr (And.intro ht hg))
      clear hr ht hg
      go_wp2_with fail
      go_ret2
      exact ⟨rfl, g', R2.out.1, (turns_below (HB.out.trans (two_drawn ⟨_, rfl⟩)) q g).trans (Grows.refl _ _) R2.out.2.1, (Grows.refl w g).trans HB.out.size R2.out.2.2⟩
    · obtain rfl : k = 0 := by omega
      obtain rfl : K = S0 := size_zero hz
      clear hz h0 hk
      go_enter Tryz.func46, Tryz.ntmps46
      go_wp2_with fail
      generalize w.alloc (.cells #[.pointer (some ⟨q, 0, none⟩), .int .i64 (n : Nat)] 90) = w1 at *
      go_quiet ((go_at_call 43; exact Calls.quiet_of_same ((HL.out _).mono fun _ _ h => ⟨h.1, h.2.symm⟩)))
      go_wp2_with fail
      refine (HT.out _).mono ?_; rintro e w2 ⟨rfl, g', hr, ht, hg⟩
      have R2 := Lib.hid (And.intro hr (And.intro ht hg))
      clear hr ht hg
      go_wp2_with fail
      go_ret2
      exact ⟨rfl, g', R2.out.1, (turns_below (HB.out.trans (two_drawn ⟨_, rfl⟩)) q g).trans (Grows.refl _ _) R2.out.2.1, (Grows.refl w g).trans HB.out.size R2.out.2.2⟩
theorem bl_cut (q n r : Nat) (f : Bool) (g : Option Nat) (s : ByteArray) (w : World) (h : Rg w q r g s) (h1 : 1 ≤ n) :
    Calls Tryz.prog 46 #[.agg #[.pointer (some ⟨q, 0, none⟩), .int .i64 (n : Nat)], .bool f] w (GivesRg w q r g (.tuple #[.string (s.extract 0 (nxK n f s)), .bool (nxB n f s)]) (s.extract (nxK n f s) s.size)) := by
  by_cases a : n ≤ s.size ∨ f = true
  · have e1 : nxB n f s = decide (0 < min n s.size) := by
      unfold nxB
      by_cases b : n ≤ s.size
      · rw [decide_eq_true b, Bool.true_or, decide_eq_true (by omega)]
      · obtain rfl : f = true := by rcases a with a | a; exact absurd a b; exact a
        rw [decide_eq_false b, Bool.false_or, Bool.true_and]
        by_cases c : 0 < s.size
        · rw [decide_eq_true c, decide_eq_true (by omega)]
        · rw [decide_eq_false c, decide_eq_false (by omega)]
    have e2 : nxK n f s = min n s.size := by
      unfold nxK
      rw [e1]
      by_cases c : 0 < min n s.size
      · rw [if_pos (decide_eq_true c)]
      · rw [if_neg (by simpa using c)]; omega
    rw [e1, e2]
    exact bl_cut_take q n r _ f g s w h a rfl
  · have b : ¬ n ≤ s.size := fun x => a (Or.inl x)
    obtain rfl : f = false := by cases f; rfl; exact absurd (Or.inr rfl) a
    have e1 : nxB n false s = false := by unfold nxB; rw [decide_eq_false b]; rfl
    have e2 : nxK n false s = 0 := by unfold nxK; rw [e1]; rfl
    rw [e1, e2, nx_zero, rg_rest_none]
    refine (bl_cut_none q n r g s w h (by omega)).mono ?_
    rintro e w' ⟨rfl, k⟩
    exact ⟨rfl, g, h.below k, turns_below k q g, Grows.refl _ _⟩
set_option maxRecDepth 100000 in
set_option maxHeartbeats 1600000 in
theorem bl_next (b q n r : Nat) (f : Bool) (g : Option Nat) (s : ByteArray) (w : World) (h : Bk w b q n r g s) :
    Calls Tryz.prog 22 #[.pointer (some ⟨b, 0, none⟩), .bool f] w (GivesBk w b q n r g (.tuple #[.string (s.extract 0 (nxK n f s)), .bool (nxB n f s)]) (s.extract (nxK n f s) s.size)) := by
  have HK := Lib.hid h
  have HC := Lib.hid (fun W (x : Rg W q r g s) => bl_cut q n r f g s W x h.2.2.2.2.1)
  clear h
  generalize s.extract 0 (nxK n f s) = u at *
  generalize s.extract (nxK n f s) s.size = v at *
  generalize nxB n f s = t at *
  go_enter Tryz.func22, Tryz.ntmps22
  go_wp2_with fail
  refine (bl_what b q n r g s w HK.out).mono ?_; rintro e w1 ⟨rfl, g1⟩
  have G1 := Lib.hid g1
  clear g1
  go_wp2_with fail
  refine (HC.out w1 (HK.out.2.1.below G1.out)).mono ?_; rintro e w2 ⟨rfl, g', hr, ht, hg⟩
  have R2 := Lib.hid (And.intro hr (And.intro ht hg))
  clear hr ht hg
  go_wp2_with fail
  go_ret2
  exact ⟨rfl, g', (HK.out.below G1.out).ring R2.out.1 R2.out.2.1 R2.out.2.2, (turns_below G1.out q g).trans (Grows.refl _ _) R2.out.2.1, (Grows.refl w g).trans G1.out.size R2.out.2.2⟩

/-! ### on nil -/
end Go.Proofs.YtodokgkchmpmnaaGreat

/- Proved: what package window answers at a window that a call has made itself; the laws' example; a window that is none. Conditions: those that the theorems name. -/
import Derived.Test.YtenegeajkldfbaaWinSlide
import Derived.Test.YtenegeajkldfbaaWinMiss
import Derived.Test.YtenegeajkldfbaaWinRefS
import Derived.Test.YtenegeajkldfbaaWinRefG
namespace Go.Proofs.Ytenegeajkldfbaa
open Go.ChangeShapes Go.WideShapes Go.ChangeAt Go.RowKit

/-- Block b is a window that was made since w; of what was there in w nothing has turned. -/
def WB (w wi : World) (b : Nat) (B : Int) (n : Nat) (L : List Int) : Prop := ∃ m, Wn wi b m B n L ∧ w.heap.size ≤ b ∧ w.heap.size ≤ m ∧ Below w.heap.size w wi
/-- slices of numbers, and the document's windows, stay what they are. -/
def KeepsW (wi w' : World) : Prop := (∀ A n q, Uw wi A n q → Uw w' A n q) ∧ (∀ g vs, At wi g 31 vs → At w' g 31 vs) ∧ (∀ base v n xs, wi.ownsRow base 22 1 v n xs → w'.ownsRow base 22 1 v n xs)
/-- a row that a call makes lies in a block of uint32s. -/
theorem row_block {w : World} {base n q : Nat} {v : Value} {xs : List Value} (h : w.ownsRow base 22 1 v n xs) (e : v.ownBlock = some q) : ∃ cs, w.heap[q]? = some (.cells cs 22 (0, 0)) := by
  rcases h.2 with ⟨rfl, _⟩ | ⟨g, cap, cur, rfl, hg, hc, _⟩
  · cases e
  · have e : g = q := by injection e
    subst e
    exact ⟨_, hc⟩
theorem row_same {w w' : World} {base n : Nat} {v : Value} {xs : List Value} (h : w.ownsRow base 22 1 v n xs) (hb : ∀ (g : Nat) (cs : Array Value), w.heap[g]? = some (Obj.cells cs 22 (0, 0)) → w'.heap[g]? = w.heap[g]?) : w'.ownsRow base 22 1 v n xs := by
  refine ⟨h.1, ?_⟩
  rcases h.2 with q | ⟨g, cap, cur, e, hg, hc, r⟩
  · exact Or.inl q
  · exact Or.inr ⟨g, cap, cur, e, hg, (hb g _ hc).trans hc, r⟩
theorem WB.bel {w wi : World} {b n : Nat} {B : Int} {L : List Int} (h : WB w wi b B n L) : Below w.heap.size w wi := by
  obtain ⟨_, _, _, _, h⟩ := h
  exact h
theorem WB.ok {w wi : World} {b n : Nat} {B : Int} {L : List Int} (h : WB w wi b B n L) : WOk B n L := by
  obtain ⟨_, h, _, _, _⟩ := h
  exact h.ok
theorem WB.below {w wi w' : World} {b n : Nat} {B : Int} {L : List Int} (h : WB w wi b B n L) (k : Below wi.heap.size wi w') : WB w w' b B n L := by
  obtain ⟨m, h1, h2, h3, h4⟩ := h
  exact ⟨m, h1.below k, h2, h3, h4.trans (k.mono h4.size)⟩
theorem At.turned2 {w w' : World} {g b m n : Nat} {B : Int} {L : List Int} {vs : List Value} (h : At w g 31 vs) (k : Turn2 w w' b m) (hw : Wn w b m B n L) : At w' g 31 vs := by
  refine h.block (k.block g h.lt ?_ (hw.2.1.ne h))
  intro e
  subst e
  have h1 := hw.1
  unfold At at h h1
  rw [h] at h1
  injection h1 with h1
  injection h1 with _ h1
  exact absurd h1 (by decide)
theorem keepsw_below {wi w' : World} (k : Below wi.heap.size wi w') : KeepsW wi w' := ⟨fun _ _ _ h => h.below k, fun _ _ h => h.below k h.lt, fun _ _ _ _ h => row_same h fun g _ hc => k.block g (Array.getElem?_eq_some_iff.1 hc).1⟩
theorem u32_ne_win : 22 ≠ (50 : TypeId) := by decide
theorem keepsw_turn {wi w' : World} {b m n : Nat} {B : Int} {L : List Int} (k : Turn2 wi w' b m) (h : Wn wi b m B n L) : KeepsW wi w' :=
  ⟨fun _ _ _ g => g.turned k (fun _ _ => h.1.no_u32 u32_ne_win) (fun _ _ => h.2.1.no_row), fun _ _ g => g.turned2 k h, fun _ _ _ _ g => row_same g fun q _ hc => k.block q (Array.getElem?_eq_some_iff.1 hc).1 (fun e => h.1.no_u32 u32_ne_win (e ▸ hc)) (fun e => h.2.1.no_row (e ▸ hc))⟩
theorem WB.turned {w wi w' : World} {b m n' : Nat} {B' : Int} {L' : List Int} (h2 : w.heap.size ≤ b) (h3 : w.heap.size ≤ m) (h4 : Below w.heap.size w wi) (ht : Turn2 wi w' b m) (hn : Wn w' b m B' n' L') : WB w w' b B' n' L' :=
  ⟨m, hn, h2, h3, ht.below h4 h4.size h2 h3⟩
theorem wb_new (w wi : World) (h : Below w.heap.size w wi) (B : Int) (n : Nat) (hB : U32 B) (h1 : 1 ≤ n) (h2 : n ≤ 64) :
    Calls Try.prog 7 #[.int .u32 B, .int .i64 (n : Nat)] wi fun e w' => e = .returned (.tuple #[.pointer (some ⟨wi.heap.size + 1, 0, none⟩), .int .i64 0]) ∧ WB w w' (wi.heap.size + 1) B n [] := by
  refine (wn_new B n wi h1 h2).mono ?_
  rintro e w' ⟨rfl, rfl⟩
  have hs := h.size
  exact ⟨rfl, wi.heap.size, wn_made B n wi hB h1 h2, by omega, hs, (h.alloc hs _).alloc (by simp; omega) _⟩
theorem wb_base {w wi : World} {b n : Nat} {B : Int} {L : List Int} (h : WB w wi b B n L) :
    Calls Try.prog 12 #[.pointer (some ⟨b, 0, none⟩)] wi fun e w' => e = .returned (.int .u32 B) ∧ wi = w' := by
  obtain ⟨m, h1, h2, h3, h4⟩ := h
  exact wn_base h1
theorem wb_has {w wi : World} {b n : Nat} {B : Int} {L : List Int} (h : WB w wi b B n L) {x : Int} (hx : U32 x) :
    Calls Try.prog 13 #[.pointer (some ⟨b, 0, none⟩), .int .u32 x] wi fun e w' => e = .returned (.bool (decide (x ∈ L))) ∧ Below wi.heap.size wi w' := by
  obtain ⟨m, h1, h2, h3, h4⟩ := h
  exact wn_has h1 hx
theorem wb_missing {w wi : World} {b n : Nat} {B : Int} {L : List Int} (h : WB w wi b B n L) :
    Calls Try.prog 16 #[.pointer (some ⟨b, 0, none⟩)] wi (GivesU wi (misL B L (topN B L n))) := by
  obtain ⟨m, h1, h2, h3, h4⟩ := h
  exact wn_missing_any h1
theorem wb_mark {w wi : World} {b n : Nat} {B : Int} {L : List Int} (h : WB w wi b B n L) (hn : L.length < 1000) {x : Int} (hx : U32 x) :
    Calls Try.prog 9 #[.pointer (some ⟨b, 0, none⟩), .int .u32 x] wi fun e w' => e = .returned (.int .i64 (mkE B n L x)) ∧ WB w w' b B n (mkL B n L x) ∧ KeepsW wi w' := by
  obtain ⟨m, h1, h2, h3, h4⟩ := h
  refine (wn_mark_any h1 hn hx).mono ?_
  rintro e w' ⟨rfl, hm, hg⟩
  exact ⟨rfl, WB.turned h2 h3 h4 (turn2_grown hg) ⟨h1.1.kept hg (fun e => h1.ne (by injection e with e; exact e.symm)), hm, h1.ok.mark hx⟩, keepsw_turn (turn2_grown hg) h1⟩
theorem wb_slide {w wi : World} {b n : Nat} {B : Int} {L : List Int} (h : WB w wi b B n L) (most : Int) :
    Calls Try.prog 11 #[.pointer (some ⟨b, 0, none⟩), .int .i64 most] wi fun e w' => e = .returned (.int .i64 (slK B L most : Nat)) ∧ WB w w' b (wpl B (slK B L most)) n (keepL B L (slK B L most)) ∧ KeepsW wi w' := by
  obtain ⟨m, h1, h2, h3, h4⟩ := h
  refine (wn_slide_any h1 most).mono ?_
  rintro e w' ⟨rfl, hn, ht⟩
  exact ⟨rfl, WB.turned h2 h3 h4 ht hn, keepsw_turn ht h1⟩
/-- what is gathered grows: the window stays. -/
theorem WB.row {w wi w' : World} {b n k : Nat} {B : Int} {L : List Int} {v : Value} {xs : List Value} (h : WB w wi b B n L) (ho : wi.ownsRow w.heap.size 22 1 v k xs) (hg : wi.grownBy w' v.ownBlock) : WB w w' b B n L := by
  obtain ⟨m, h1, h2, h3, h4⟩ := h
  refine ⟨m, h1.kept hg (fun e => ?_) (fun e => ?_), h2, h3, h4.grown hg h4.size fun q e => (ho.lt q e).1⟩
  · obtain ⟨cs, hc⟩ := row_block ho e
    exact h1.1.no_u32 u32_ne_win hc
  · obtain ⟨cs, hc⟩ := row_block ho e
    exact h1.2.1.no_row hc

/-! ### the example -/
abbrev wB0 : Int := 4294967295
theorem wu (x : Int) (h0 : 0 ≤ x := by decide) (h1 : x ≤ 4294967295 := by decide) : U32 x := ⟨h0, h1⟩
theorem wb_mark_as {w wi : World} {b n : Nat} {B : Int} {L L' : List Int} (h : WB w wi b B n L) (hn : L.length < 1000) {x z : Int} (hx : U32 x) (e1 : mkE B n L x = z) (e2 : mkL B n L x = L') :
    Calls Try.prog 9 #[.pointer (some ⟨b, 0, none⟩), .int .u32 x] wi fun e w' => e = .returned (.int .i64 z) ∧ WB w w' b B n L' ∧ KeepsW wi w' := by
  subst e1; subst e2; exact wb_mark h hn hx
theorem wb_has_as {w wi : World} {b n : Nat} {B : Int} {L : List Int} (h : WB w wi b B n L) {x : Int} (hx : U32 x) {s : Bool} (e1 : decide (x ∈ L) = s) :
    Calls Try.prog 13 #[.pointer (some ⟨b, 0, none⟩), .int .u32 x] wi fun e w' => e = .returned (.bool s) ∧ Below wi.heap.size wi w' := by
  subst e1; exact wb_has h hx
set_option maxRecDepth 100000 in
set_option maxHeartbeats 3200000 in
theorem wn_awake_any (w : World) :
    Calls Try.prog 6 #[] w fun e w' => e = .returned (.bool true) ∧ Below w.heap.size w w' := by
  have HN := Lib.hid (wb_new w w (Below.refl _ _) wB0 3 (wu _) (by decide) (by decide))
  have HO := Lib.hid (fun W => wn_new_bad 0 65 W (Or.inr (by decide)))
  go_enter Try.func6, Try.ntmps6
  go_wp2_with fail
  refine HN.out.mono ?_; rintro e w1 ⟨rfl, r1⟩
  have R1 := Lib.hid r1
  clear r1 HN
  generalize w.heap.size + 1 = b at *
  go_wp2_with fail
  refine (HO.out _).mono ?_; rintro e w2 ⟨rfl, rfl⟩
  clear HO
  go_wp2_with fail
  refine (wb_mark_as R1.out (by decide) (x := 1) (wu _) (z := 3) (L' := [1]) (by decide +kernel) (by decide +kernel)).mono ?_; rintro e w2 ⟨rfl, r2, _⟩
  have R2 := Lib.hid r2
  clear r2 R1
  go_wp2_with fail
  refine (wb_mark_as R2.out (by decide) (x := 1) (wu _) (z := 2) (L' := [1]) (by decide +kernel) (by decide +kernel)).mono ?_; rintro e w3 ⟨rfl, r3, _⟩
  have R3 := Lib.hid r3
  clear r3 R2
  go_wp2_with fail
  refine (wb_mark_as R3.out (by decide) (x := 2) (wu _) (z := 1) (L' := [1]) (by decide +kernel) (by decide +kernel)).mono ?_; rintro e w4 ⟨rfl, r4, _⟩
  have R4 := Lib.hid r4
  clear r4 R3
  go_wp2_with fail
  refine (wb_mark_as R4.out (by decide) (x := 4294967294) (wu _) (z := 0) (L' := [1]) (by decide +kernel) (by decide +kernel)).mono ?_; rintro e w5 ⟨rfl, r5, _⟩
  have R5 := Lib.hid r5
  clear r5 R4
  go_wp2_with fail
  have h6 := wb_missing R5.out
  rw [show misL wB0 [1] (topN wB0 [1] 3) = [4294967295, 0] by decide +kernel] at h6
  refine h6.mono ?_; rintro e w6 ⟨A6, c6, rfl, _, _, u6, g6⟩
  have R6 := Lib.hid (R5.out.below g6)
  have U6 := Lib.hid u6
  clear h6 u6 g6 R5
  go_wp2_with fail
  refine (wb_mark_as R6.out (by decide) (x := 4294967295) (wu _) (z := 3) (L' := [1, 4294967295]) (by decide +kernel) (by decide +kernel)).mono ?_; rintro e w7 ⟨rfl, r7, k7⟩
  have R7 := Lib.hid r7
  have U7 := Lib.hid (k7.1 _ _ _ U6.out)
  clear r7 k7 R6 U6
  go_wp2_with fail
  have h8 := wb_slide R7.out 9
  rw [show slK wB0 [1, 4294967295] 9 = 1 by decide +kernel, show wpl wB0 1 = 0 by decide +kernel, show keepL wB0 [1, 4294967295] 1 = [1] by decide +kernel] at h8
  refine h8.mono ?_; rintro e w8 ⟨rfl, r8, k8⟩
  have R8 := Lib.hid r8
  have U8 := Lib.hid (k8.1 _ _ _ U7.out)
  clear r8 k8 R7 U7 h8
  go_wp2_with fail
  have hb9 := (Below.refl w8.heap.size w8).alloc (Nat.le_refl _) (.cells #[.int .u32 4294967295, .int .u32 0] 22)
  have R9 := Lib.hid (R8.out.below hb9)
  have U9 := Lib.hid (U8.out.below hb9)
  have V9 := Lib.hid (uw_two w8 4294967295 0)
  clear hb9 R8 U8
  refine (rsame15 _ _ _ _ _ _ _ U9.out V9.out (by decide)).mono ?_; rintro e wa ⟨rfl, ga⟩
  have Ra := Lib.hid (R9.out.below ga)
  clear ga R9 U9 V9
  go_wp2_with fail
  refine (wb_base Ra.out).mono ?_; rintro e wb ⟨rfl, rfl⟩
  go_wp2_with fail
  refine (wb_has_as Ra.out (x := 1) (wu _) (s := true) (by decide)).mono ?_; rintro e wc ⟨rfl, gc⟩
  have Rc := Lib.hid (Ra.out.below gc)
  clear gc Ra
  go_wp2_with fail
  refine (wb_has_as Rc.out (x := 0) (wu _) (s := false) (by decide)).mono ?_; rintro e wd ⟨rfl, gd⟩
  have Rd := Lib.hid (Rc.out.below gd)
  clear gd Rc
  go_wp2_with fail
  go_ret
  exact ⟨rfl, Rd.out.bel⟩

/-! ### a window that is none -/
set_option maxRecDepth 100000 in
set_option maxHeartbeats 1600000 in
theorem wn_none_walk (x : Int) (w : World) :
    Calls Try.prog 5 #[.int .u32 x] w fun e w' => e = .returned (.bool true) ∧ Below w.heap.size w w' := by
  go_enter Try.func5, Try.ntmps5
  go_wp2_with fail
  refine (wn_mark_nil x _).mono ?_; rintro e w2 ⟨rfl, rfl⟩
  go_wp2_with fail
  refine (wn_slide_nil 1 _).mono ?_; rintro e w2 ⟨rfl, rfl⟩
  go_wp2_with fail
  refine (wn_base_nil _).mono ?_; rintro e w2 ⟨rfl, rfl⟩
  go_wp2_with fail
  refine (wn_has_nil x _).mono ?_; rintro e w2 ⟨rfl, rfl⟩
  go_wp2_with fail
  refine (wn_missing_nil _).mono ?_; rintro e w2 ⟨rfl, rfl⟩
  go_wp2_with fail
  refine (wn_awake_any _).mono ?_; rintro e w6 ⟨rfl, g6⟩
  have B6 := Lib.hid g6
  clear g6
  go_wp2_with fail
  go_ret
  exact ⟨rfl, B6.out⟩
end Go.Proofs.Ytenegeajkldfbaa

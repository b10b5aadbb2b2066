/- Proved: lemmas of one statement's proof, merged by program: what each part proves stands ahead of it. Conditions: those that the lemmas name. -/
import Derived.Test.YtodokgkchmpmnaaGreatM28
import Derived.Deep.QuietTactic
import Derived.Lib.AppendZeros

/- Proved: what New, Len, Next and Base of package flight answer, and what makes the iterator. Conditions: those that the theorems name. -/
namespace Go.Proofs.YtodokgkchmpmnaaGreat
open Go.ChangeShapes Go.WideShapes Go.ChangeAt Go.RowKit

/-! ### New -/
theorem fl_new_any (base : Int) (wd : Nat) (w : World) (hb : U32 base) (h0 : 1 ≤ wd) (h1 : wd ≤ 64) :
    Calls Tryz.prog 63 #[.int .u32 base, .int .i64 (wd : Nat)] w fun e w' => e = .returned (.tuple #[.pointer (some ⟨w.heap.size, 0, none⟩), .int .i64 0]) ∧ Fl w' w.heap.size (wd : Nat) base none (.slice none 0 0) [] ∧ Below w.heap.size w w' := by
  have HU := Lib.hid hb
  have HH := Lib.hid (And.intro h0 h1)
  have h0' : ¬ (wd : Int) < 1 := by omega
  have h1' : ¬ 64 < (wd : Int) := by omega
  clear h0 h1 hb
  go_enter Tryz.func63, Tryz.ntmps63
  go_wp2_with fail
  go_ret2
  exact ⟨rfl, ⟨At.new w _ [.int .i64 (wd : Nat), .int .u32 base, .slice none 0 0], Qu.nil _ _ _, fun _ e => (nomatch e), HU.out, by simp, by have := HH.out; omega⟩, (Below.refl _ _).alloc (Nat.le_refl _) _⟩
/-! ### Len, Next, Base -/
theorem flc_len (p : Option Addr) (nx : Int) (v : Value) (n : Nat) (w : World) (h : FlC w p nx v n) :
    Calls Tryz.prog 23 #[.pointer p] w fun e w' => e = .returned (.int .i64 (n : Nat)) ∧ w = w' := by
  rcases h with ⟨rfl, rfl, rfl⟩ | ⟨f, A, cap, rfl, rfl, _, c2⟩
  · go_enter Tryz.func23, Tryz.ntmps23
    go_wp2_with fail
    go_ret
    exact ⟨rfl, rfl⟩
  · go_enter Tryz.func23, Tryz.ntmps23
    go_wp2_with fail
    go_ret
    exact ⟨rfl, rfl⟩
theorem flc_next (p : Option Addr) (nx : Int) (v : Value) (n : Nat) (w : World) (h : FlC w p nx v n) :
    Calls Tryz.prog 18 #[.pointer p] w fun e w' => e = .returned (.int .u32 nx) ∧ w = w' := by
  rcases h with ⟨rfl, rfl, rfl⟩ | ⟨f, A, cap, rfl, rfl, c1, _⟩
  · go_enter Tryz.func18, Tryz.ntmps18
    go_wp2_with fail
    go_ret
    exact ⟨rfl, rfl⟩
  · go_enter Tryz.func18, Tryz.ntmps18
    go_wp2_with fail
    go_ret
    exact ⟨rfl, rfl⟩
theorem flc_base (p : Option Addr) (nx : Int) (v : Value) (n : Nat) (w : World) (h : FlC w p nx v n) (hn : n ≤ 64) :
    Calls Tryz.prog 39 #[.pointer p] w fun e w' => e = .returned (.int .u32 (fb nx n)) ∧ w = w' := by
  have HN := Lib.hid (flc_next p nx v n w h)
  have HL := Lib.hid (flc_len p nx v n w h)
  clear h
  go_enter Tryz.func39, Tryz.ntmps39
  go_wp2_with fail
  refine HN.out.mono ?_; rintro e w1 ⟨rfl, rfl⟩
  go_wp2_with fail
  refine HL.out.mono ?_; rintro e w1 ⟨rfl, rfl⟩
  go_wp2_with fail
  go_ret
  exact ⟨rfl, rfl⟩

/-! ### may that be a time? -/
def timeB (z : Int) : Bool := decide (0 ≤ z) && decide (z ≤ 1099511627776)
theorem timed_any (z : Int) (w : World) :
    Calls Tryz.prog 53 #[.int .i64 z] w fun e w' => e = .returned (.bool (timeB z)) ∧ w = w' := by
  unfold timeB
  by_cases h : 0 ≤ z
  · rw [decide_eq_true h, Bool.true_and]
    go_enter Tryz.func53, Tryz.ntmps53
    go_wp2_with fail
    go_ret
    exact ⟨rfl, rfl⟩
  · rw [decide_eq_false h, Bool.false_and]
    go_enter Tryz.func53, Tryz.ntmps53
    go_wp2_with fail
    go_ret
    exact ⟨rfl, rfl⟩

/-! ### what makes the iterator -/
theorem flying_any (p : Option Addr) (w : World) :
    Calls Tryz.prog 54 #[.pointer p] w fun e w' => e = .returned (.func (.func 76) #[] #[.pointer (some ⟨w.heap.size, 0, none⟩)]) ∧ w' = w.alloc (.cells #[.pointer p] 45) := by
  have hmf : ∀ (fn : Fn) (first cap : Array Value) (w : World), (Instr.makeFunc fn first cap).run Tryz.prog w = .ok (.func fn first cap) w := fun _ _ _ _ => rfl
  go_enter Tryz.func54, Tryz.ntmps54
  go_wp2
  go_ret
  exact ⟨rfl, rfl⟩
end Go.Proofs.YtodokgkchmpmnaaGreat

/- Proved: what Add of package flight answers, of a flight and of none. Conditions: those that the theorems name. -/
namespace Go.Proofs.YtodokgkchmpmnaaGreat
open Go.ChangeShapes Go.WideShapes Go.ChangeAt Go.RowKit

set_option maxRecDepth 100000 in
set_option maxHeartbeats 1600000 in
theorem add_full (f : Nat) (wd nx : Int) (r : Option Nat) (v : Value) (L : List Bl) (s : ByteArray) (n at_ : Int) (w : World) (h : Fl w f wd nx r v L) (hs : s.toList.isEmpty = false) (h1 : 1 ≤ n) (h2 : n ≤ 255) (ht : timeB at_ = true) (hl : (L.length : Int) = wd) :
    Calls Tryz.prog 48 #[.pointer (some ⟨f, 0, none⟩), .string s, .int .i64 n, .int .i64 at_] w fun e w' => e = .returned (.tuple #[.int .u32 0, .int .i64 9]) ∧ Below w.heap.size w w' := by
  have HT := Lib.hid (fun w => timed_any at_ w)
  rw [ht] at HT
  have HL := Lib.hid (fun q => flc_len (some ⟨f, 0, none⟩) nx v L.length (w.drewN q) (h.c.drewN q))
  rw [hl] at HL
  have c0 := h.own.cell 0 rfl
  have e2 : ¬ n < 1 := by omega
  have e3 : ¬ 255 < n := by omega
  clear h1 h2 ht hl h
  go_enter Tryz.func48, Tryz.ntmps48
  go_wp2_with fail
  refine (HT.out _).mono ?_; rintro e w1 ⟨rfl, rfl⟩
  go_wp2_with fail
  go_quiet ((go_at_call 23; exact Calls.quiet_of_same ((HL.out _).mono fun _ _ h => ⟨h.1, h.2.symm⟩)))
  go_wp2_with fail
  go_ret2
  exact ⟨rfl, bel_drewN (Below.refl _ _) (Nat.le_refl _) _⟩
set_option maxRecDepth 100000 in
set_option maxHeartbeats 1600000 in
theorem add_good (f : Nat) (wd nx : Int) (r : Option Nat) (v : Value) (L : List Bl) (s : ByteArray) (n at_ : Int) (w : World) (h : Fl w f wd nx r v L) (hs : s.toList.isEmpty = false) (h1 : 1 ≤ n) (h2 : n ≤ 255) (ht : timeB at_ = true) (hl : (L.length : Int) < wd) :
    Calls Tryz.prog 48 #[.pointer (some ⟨f, 0, none⟩), .string s, .int .i64 n, .int .i64 at_] w fun e w' => ∃ r' v', e = .returned (.tuple #[.int .u32 nx, .int .i64 0]) ∧ Fl w' f wd ((nx + 1) % 4294967296) r' v' (L ++ [⟨s, n, at_⟩]) ∧ (r' = r ∨ ∃ g, r' = some g ∧ w.heap.size ≤ g) ∧ Tn (FlOwn f r) w w' := by
  have HT := Lib.hid (fun w => timed_any at_ w)
  rw [ht] at HT
  have HL := Lib.hid (fun q => flc_len (some ⟨f, 0, none⟩) nx v L.length (w.drewN q) (h.c.drewN q))
  have c0 := h.own.cell 0 rfl
  have e2 : ¬ n < 1 := by omega
  have e3 : ¬ 255 < n := by omega
  have e4 : ((L.length : Int) == wd) = false := by simp; omega
  have HF := Lib.hid h
  clear h1 h2 ht h
  go_enter Tryz.func48, Tryz.ntmps48
  go_wp2_with fail
  refine (HT.out _).mono ?_; rintro e w1 ⟨rfl, rfl⟩
  go_wp2_with fail
  go_quiet ((go_at_call 23; exact Calls.quiet_of_same ((HL.out _).mono fun _ _ h => ⟨h.1, h.2.symm⟩)))
  have h1 := HF.out.kept (grown_drewN w nq none) (fun _ e => (nomatch e))
  have tw : Tn (FlOwn f r) w (w.drewN nq) := (Tn.refl _ w).drewN nq
  clear HL HT c0 e4
  generalize w.drewN nq = w1 at *
  obtain ⟨A, cap, rfl⟩ := h1.form
  have a1 := h1.own
  have c1 := a1.cell 1 rfl
  have f1 := a1.free 1
  have a2 := a1.set_ 1 (.int .u32 ((nx + 1) % 4294967296))
  have t2 : Tn (fun i => i = f) w1 (w1.setCell ⟨f, 1, none⟩ (.int .u32 ((nx + 1) % 4294967296))) := (Tn.refl (fun i => i = f) w1).set _ _ (fun _ => rfl)
  have q2 := h1.row.tn t2 (fun g e => h1.ne g e)
  have hz2 : (w1.setCell ⟨f, 1, none⟩ (.int .u32 ((nx + 1) % 4294967296))).heap.size = w1.heap.size := by simp [World.setCell]
  have c2 := a2.cell 2 rfl
  have t3 : Tn Nil (w1.setCell ⟨f, 1, none⟩ (.int .u32 ((nx + 1) % 4294967296))) ((w1.setCell ⟨f, 1, none⟩ (.int .u32 ((nx + 1) % 4294967296))).alloc (.cells #[.string s, .int .i64 n, .int .i64 at_] 108)) := (Tn.refl Nil _).alloc _
  have hN := At.new (w1.setCell ⟨f, 1, none⟩ (.int .u32 ((nx + 1) % 4294967296))) 108 [.string s, .int .i64 n, .int .i64 at_]
  have hn64 := h1.n64
  obtain ⟨v7, w4, r', hrun, hq7, hr7, t7⟩ := (q2.tn t3 (fun _ _ e => e)).append (t := 85) (ty := 85) Tryz.underlying85 infoBlock rfl (by decide) (by decide) (by omega) (a := ⟨w1.heap.size, 0, none⟩) (cp := 1) (news := Bl.cells ⟨s, n, at_⟩) rfl (fun j u hj => by
    rw [Addr.add_lit, Nat.zero_add]
    rw [hz2] at hN
    exact hN.cell j hj) (bl_one _) (blcells_one _)
  obtain ⟨A7, c7, rfl⟩ := hq7.form
  have a3 := a2.tn t3 (fun e => e)
  have a4 := a3.tn t7 (fun e => h1.ne f e rfl)
  have k4 := a4.cell 2 rfl
  have f4 := a4.free 2
  have HE : Hid (Fl (w4.setCell ⟨f, 2, none⟩ (.slice A7 (L.length + 1) c7)) f wd ((nx + 1) % 4294967296) r' (.slice A7 (L.length + 1) c7) (L ++ [⟨s, n, at_⟩]) ∧ (r' = r ∨ ∃ g, r' = some g ∧ w.heap.size ≤ g) ∧ Tn (FlOwn f r) w (w4.setCell ⟨f, 2, none⟩ (.slice A7 (L.length + 1) c7))) := by
    have hge : w.heap.size ≤ w1.heap.size := tw.size
    have hrr : r' = r ∨ ∃ g, r' = some g ∧ w1.heap.size < g := by
      rcases hr7 with e | ⟨g, e, hg⟩
      · exact .inl e
      · refine .inr ⟨g, e, ?_⟩
        simp [hz2] at hg
        exact hg
    have hfl := h1.lt
    have hne : ∀ g, r' = some g → g ≠ f := fun g e => by
      rcases hrr with e' | ⟨g', e', hg⟩
      · exact h1.ne g (e' ▸ e)
      · rw [e] at e'; injection e' with e'; omega
    have t8 : Tn (fun i => i = f) w4 (w4.setCell ⟨f, 2, none⟩ (.slice A7 (L.length + 1) c7)) := (Tn.refl (fun i => i = f) w4).set _ _ (fun _ => rfl)
    refine Lib.hid ⟨⟨a4.set_ 2 _, ?_, hne, ⟨by omega, by omega⟩, by rw [List.length_append]; simp; omega, h1.high⟩, ?_, ?_⟩
    · rw [List.length_append, blcells_app]
      exact hq7.tn t8 hne
    · rcases hrr with e | ⟨g, e, hg⟩
      · exact .inl e
      · exact .inr ⟨g, e, by omega⟩
    · exact (((tw.trans (t2.mono fun i _ e => .inl e)).trans (t3.mono fun i _ e => e.elim)).trans (t7.mono fun i _ e => .inr e)).trans (t8.mono fun i _ e => .inl e)
  clear HF tw a1 a2 t2 q2 t3 hN hq7 hr7 t7 a3 a4 h1 hl hs
  go_wp2_with (at_builtin; refine Lib.wpList_append_run _ rfl _ _ _ _ rfl _ _ rfl rfl _ _ hrun ?_)
  go_ret2
  exact ⟨_, _, rfl, HE.out⟩
end Go.Proofs.YtodokgkchmpmnaaGreat

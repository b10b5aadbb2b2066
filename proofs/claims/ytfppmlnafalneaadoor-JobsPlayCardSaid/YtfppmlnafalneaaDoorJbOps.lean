/- Proved: what New, Close, Closed and Len of package jobs leave. Conditions: those that the theorems name. -/
import Derived.Test.YtfppmlnafalneaaDoorJbPop
namespace Go.Proofs.YtfppmlnafalneaaDoor
open Go.ChangeShapes Go.WideShapes Go.ChangeAt Go.RowKit Go.MuLone

section
variable {w : World} {b : Nat} {r : Option Nat} {room : Int} {S : List Jb} {cl : Bool} {ls : Int} {v : Value} {B : Nat} {a0 a1 : Addr}
theorem jb_len_none (w : World) : Calls Tryd.prog 10 #[.pointer none] w fun e w' => e = .returned (.int .i64 0) ∧ w = w' := by
  go_enter Tryd.func10, Tryd.ntmps10
  go_wp2_with fail
  go_ret
  exact ⟨rfl, rfl⟩
theorem jb_closed_none (w : World) : Calls Tryd.prog 11 #[.pointer none] w fun e w' => e = .returned (.bool false) ∧ w = w' := by
  go_enter Tryd.func11, Tryd.ntmps11
  go_wp2_with fail
  go_ret
  exact ⟨rfl, rfl⟩
theorem jb_close_none (w : World) : Calls Tryd.prog 9 #[.pointer none] w fun e w' => e = .returned (.int .i64 17) ∧ w = w' := by
  go_enter Tryd.func9, Tryd.ntmps9
  go_wp2_with fail
  go_ret
  exact ⟨rfl, rfl⟩
theorem jb_new_bad (room : Int) (w : World) (h : room < 1 ∨ 4096 < room) : Calls Tryd.prog 6 #[.int .i64 room] w fun e w' => e = .returned (.tuple #[.pointer none, .int .i64 1]) ∧ w = w' := by
  have hc : room < 1 ∨ (¬ room < 1 ∧ 4096 < room) := by omega
  clear h
  rcases hc with h | ⟨h, h'⟩
  all_goals
    go_enter Tryd.func6, Tryd.ntmps6
    go_wp2_with fail
    refine bodyPost_ret (results_tmp2 rfl _ _ _) rfl ?_
    exact ⟨rfl, rfl⟩
theorem jb_new (room : Int) (w : World) (h : 1 ≤ room ∧ room ≤ 4096) : Calls Tryd.prog 6 #[.int .i64 room] w fun e w' => e = .returned (.tuple #[ptv w.heap.size, .int .i64 0]) ∧ Qe w' w.heap.size none room [] false 0 (.slice none 0 0) ∧ Tn Nil w w' := by
  have h1 := h.1
  have h2 := h.2
  have hA := At.new w 52 [.int .i32 0, .int .u32 0, .int .i64 room, .slice none 0 0, .bool false]
  have HQ : Hid (Qe (w.alloc (.cells #[.int .i32 0, .int .u32 0, .int .i64 room, .slice none 0 0, .bool false] 52)) w.heap.size none room [] false 0 (.slice none 0 0)) := Lib.hid ⟨hA, Qu.nil _ _ _, fun g e => nomatch e⟩
  have HT := Lib.hid ((Tn.refl Nil w).alloc (.cells #[.int .i32 0, .int .u32 0, .int .i64 room, .slice none 0 0, .bool false] 52))
  clear hA h
  go_enter Tryd.func6, Tryd.ntmps6
  go_wp2_with fail
  refine bodyPost_ret (results_tmp2 rfl _ _ _) rfl ?_
  exact ⟨rfl, HQ.out, HT.out⟩
set_option maxRecDepth 100000 in
set_option maxHeartbeats 800000 in
theorem jb_len (h : Qe w b r room S cl 0 v) :
    Calls Tryd.prog 10 #[ptv b] w fun e w' => e = .returned (.int .i64 S.length) ∧ Qe w' b r room S cl 0 v ∧ Tn (Mine b r) w w' := by
  have H0 := Lib.hid h
  obtain ⟨A, cap, rfl⟩ := h.row.form
  clear h
  go_enter_defers Tryd.func10, Tryd.ntmps10
  go_wp2_with fail
  refine (jb_lock H0.out).mono ?_; rintro e w1 ⟨rfl, h1, t1⟩
  have H1 := Lib.hid h1
  have T1 := Lib.hid t1
  have c3 := h1.at_.cell 3 rfl
  clear h1 t1
  go_wp2_with fail
  refine leaves_cons (f := 13) (args := #[.pointer (some ⟨b, 0, none⟩)]) (by simp) (by simp [go_sem]) ?_
  refine (jb_unlock H1.out .returning).mono ?_
  rintro e u' w2 ⟨rfl, rfl, h2, t2⟩
  exact ⟨_, results_tmp rfl _ _ _, rfl, h2, (T1.out.trans t2).mono fun _ _ e => .inl e⟩
set_option maxRecDepth 100000 in
set_option maxHeartbeats 800000 in
theorem jb_closed (h : Qe w b r room S cl 0 v) :
    Calls Tryd.prog 11 #[ptv b] w fun e w' => e = .returned (.bool cl) ∧ Qe w' b r room S cl 0 v ∧ Tn (Mine b r) w w' := by
  have H0 := Lib.hid h
  clear h
  go_enter_defers Tryd.func11, Tryd.ntmps11
  go_wp2_with fail
  refine (jb_lock H0.out).mono ?_; rintro e w1 ⟨rfl, h1, t1⟩
  have H1 := Lib.hid h1
  have T1 := Lib.hid t1
  have c4 := h1.at_.cell 4 rfl
  clear h1 t1
  go_wp2_with fail
  refine leaves_cons (f := 13) (args := #[.pointer (some ⟨b, 0, none⟩)]) (by simp) (by simp [go_sem]) ?_
  refine (jb_unlock H1.out .returning).mono ?_
  rintro e u' w2 ⟨rfl, rfl, h2, t2⟩
  exact ⟨_, results_tmp rfl _ _ _, rfl, h2, (T1.out.trans t2).mono fun _ _ e => .inl e⟩
set_option maxRecDepth 100000 in
set_option maxHeartbeats 800000 in
theorem jb_close (h : Qe w b r room S cl 0 v) :
    Calls Tryd.prog 9 #[ptv b] w fun e w' => e = .returned (.int .i64 (if cl = true then 11 else 0)) ∧ Qe w' b r room S true 0 v ∧ Tn (Mine b r) w w' := by
  have H0 := Lib.hid h
  clear h
  cases cl with
  | true =>
    go_enter_defers Tryd.func9, Tryd.ntmps9
    go_wp2_with fail
    refine (jb_lock H0.out).mono ?_; rintro e w1 ⟨rfl, h1, t1⟩
    have H1 := Lib.hid h1
    have T1 := Lib.hid t1
    have c4 := h1.at_.cell 4 rfl
    clear h1 t1
    go_wp2_with fail
    refine leaves_cons (f := 13) (args := #[.pointer (some ⟨b, 0, none⟩)]) (by simp) (by simp [go_sem]) ?_
    refine (jb_unlock H1.out .returning).mono ?_
    rintro e u' w2 ⟨rfl, rfl, h2, t2⟩
    exact ⟨_, results_tmp rfl _ _ _, rfl, h2, (T1.out.trans t2).mono fun _ _ e => .inl e⟩
  | false =>
    go_enter_defers Tryd.func9, Tryd.ntmps9
    go_wp2_with fail
    refine (jb_lock H0.out).mono ?_; rintro e w1 ⟨rfl, h1, t1⟩
    have H1 := Lib.hid (h1.shut true)
    have T1 := Lib.hid (t1.trans (tn_set w1 b 4 (.bool true)))
    have c4 := h1.at_.cell 4 rfl
    have f4 := h1.at_.free 4
    clear h1 t1
    go_wp2_with fail
    refine leaves_cons (f := 13) (args := #[.pointer (some ⟨b, 0, none⟩)]) (by simp) (by simp [go_sem]) ?_
    refine (jb_unlock H1.out .returning).mono ?_
    rintro e u' w2 ⟨rfl, rfl, h2, t2⟩
    exact ⟨_, results_tmp rfl _ _ _, rfl, h2, (T1.out.trans t2).mono fun _ _ e => .inl e⟩
end
end Go.Proofs.YtfppmlnafalneaaDoor

/- Proved: what layoutOf answers, and what the functions of each layout that check, and leave out, answer. Conditions: those that the theorems name. -/
import Derived.Test.YtekolkbahhbcjaaDgRead
namespace Go.Proofs.Ytekolkbahhbcjaa
open Go.ChangeShapes Go.WideShapes Go.ChangeAt Go.RowKit

/-! ### the functions of a layout -/
def fChk (g : Grp) : Nat := match g with
  | .shard => 43
  | .hav => 47
  | .cred => 51
  | .bare => 55
def fOut (g : Grp) : Nat := match g with
  | .shard => 44
  | .hav => 48
  | .cred => 52
  | .bare => 56
def fPut (g : Grp) : Nat := match g with
  | .shard => 45
  | .hav => 49
  | .cred => 53
  | .bare => 57
def fRead (g : Grp) : Nat := match g with
  | .shard => 46
  | .hav => 50
  | .cred => 54
  | .bare => 58
theorem call_enter {f : FuncId} {fn : Func} {c : Code} (hf : Try.prog.funcs[f]? = some fn) (hname : (fn.name == "runtime.NumGoroutine") = false) (hb : fn.body = some c) (args : Array Value) (W : World) : (callFunc f args).run Try.prog W = .ok (.enter f args) W := by
  have h1 : fn.name ≠ "runtime.NumGoroutine" := by simpa using hname
  simp [callFunc, hf, h1, hb]
theorem call_chk (g : Grp) (args : Array Value) (W : World) : (callFunc (fChk g) args).run Try.prog W = .ok (.enter (fChk g) args) W := by
  cases g with
  | shard => exact call_enter Try.func43 (by kernel_rfl) rfl args W
  | hav => exact call_enter Try.func47 (by kernel_rfl) rfl args W
  | cred => exact call_enter Try.func51 (by kernel_rfl) rfl args W
  | bare => exact call_enter Try.func55 (by kernel_rfl) rfl args W
theorem call_out (g : Grp) (args : Array Value) (W : World) : (callFunc (fOut g) args).run Try.prog W = .ok (.enter (fOut g) args) W := by
  cases g with
  | shard => exact call_enter Try.func44 (by kernel_rfl) rfl args W
  | hav => exact call_enter Try.func48 (by kernel_rfl) rfl args W
  | cred => exact call_enter Try.func52 (by kernel_rfl) rfl args W
  | bare => exact call_enter Try.func56 (by kernel_rfl) rfl args W
theorem call_put (g : Grp) (args : Array Value) (W : World) : (callFunc (fPut g) args).run Try.prog W = .ok (.enter (fPut g) args) W := by
  cases g with
  | shard => exact call_enter Try.func45 (by kernel_rfl) rfl args W
  | hav => exact call_enter Try.func49 (by kernel_rfl) rfl args W
  | cred => exact call_enter Try.func53 (by kernel_rfl) rfl args W
  | bare => exact call_enter Try.func57 (by kernel_rfl) rfl args W
theorem call_read (g : Grp) (args : Array Value) (W : World) : (callFunc (fRead g) args).run Try.prog W = .ok (.enter (fRead g) args) W := by
  cases g with
  | shard => exact call_enter Try.func46 (by kernel_rfl) rfl args W
  | hav => exact call_enter Try.func50 (by kernel_rfl) rfl args W
  | cred => exact call_enter Try.func54 (by kernel_rfl) rfl args W
  | bare => exact call_enter Try.func58 (by kernel_rfl) rfl args W
/-- a kind's layout, as a value. -/
def layV (g : Grp) : Value := .agg #[.func (.func (fChk g)) #[] #[], .func (.func (fOut g)) #[] #[], .func (.func (fPut g)) #[] #[], .func (.func (fRead g)) #[] #[], .int .i64 (grpSz g : Nat)]
/-- no layout, as a value. -/
def layNone : Value := .agg #[.nilFunc, .nilFunc, .nilFunc, .nilFunc, .int .i64 0]
/-- A layout and a bool come back; nothing that was there has turned. -/
def GivesL (W : World) (v : Value) (b : Bool) (e : Ending) (w' : World) : Prop := e = .returned (.tuple #[v, .bool b]) ∧ Below W.heap.size W w'

theorem layout_yes (x : Int) (w : World) (h : 1 ≤ x ∧ x ≤ 6) : Calls Try.prog 29 #[.int .i64 x] w (GivesL w (layV (grpOf x)) true) := by
  rcases (show x = 1 ∨ x = 2 ∨ x = 3 ∨ x = 4 ∨ x = 5 ∨ x = 6 by omega) with rfl | rfl | rfl | rfl | rfl | rfl
  · go_enter Try.func29, Try.ntmps29
    go_wp2_with fail
    exact bodyPost_ret (v := .tuple #[layV .shard, .bool true]) (by simp [results, Try.results29, layV, fChk, fOut, fPut, fRead, grpSz, go_sem]) rfl ⟨rfl, (Below.refl _ _).alloc (Nat.le_refl _) _⟩
  · go_enter Try.func29, Try.ntmps29
    go_wp2_with fail
    exact bodyPost_ret (v := .tuple #[layV .shard, .bool true]) (by simp [results, Try.results29, layV, fChk, fOut, fPut, fRead, grpSz, go_sem]) rfl ⟨rfl, (Below.refl _ _).alloc (Nat.le_refl _) _⟩
  · go_enter Try.func29, Try.ntmps29
    go_wp2_with fail
    exact bodyPost_ret (v := .tuple #[layV .hav, .bool true]) (by simp [results, Try.results29, layV, fChk, fOut, fPut, fRead, grpSz, go_sem]) rfl ⟨rfl, (Below.refl _ _).alloc (Nat.le_refl _) _⟩
  · go_enter Try.func29, Try.ntmps29
    go_wp2_with fail
    exact bodyPost_ret (v := .tuple #[layV .cred, .bool true]) (by simp [results, Try.results29, layV, fChk, fOut, fPut, fRead, grpSz, go_sem]) rfl ⟨rfl, (Below.refl _ _).alloc (Nat.le_refl _) _⟩
  · go_enter Try.func29, Try.ntmps29
    go_wp2_with fail
    exact bodyPost_ret (v := .tuple #[layV .bare, .bool true]) (by simp [results, Try.results29, layV, fChk, fOut, fPut, fRead, grpSz, go_sem]) rfl ⟨rfl, (Below.refl _ _).alloc (Nat.le_refl _) _⟩
  · go_enter Try.func29, Try.ntmps29
    go_wp2_with fail
    exact bodyPost_ret (v := .tuple #[layV .bare, .bool true]) (by simp [results, Try.results29, layV, fChk, fOut, fPut, fRead, grpSz, go_sem]) rfl ⟨rfl, (Below.refl _ _).alloc (Nat.le_refl _) _⟩
theorem layout_no (x : Int) (w : World) (h : ¬ (1 ≤ x ∧ x ≤ 6)) : Calls Try.prog 29 #[.int .i64 x] w (GivesL w layNone false) := by
  have e1 : (x == 1) = false := by rw [beq_eq_false_iff_ne]; omega
  have e2 : (x == 2) = false := by rw [beq_eq_false_iff_ne]; omega
  have e3 : (x == 3) = false := by rw [beq_eq_false_iff_ne]; omega
  have e4 : (x == 4) = false := by rw [beq_eq_false_iff_ne]; omega
  have e5 : (x == 5) = false := by rw [beq_eq_false_iff_ne]; omega
  have e6 : (x == 6) = false := by rw [beq_eq_false_iff_ne]; omega
  clear h
  go_enter Try.func29, Try.ntmps29
  go_wp2_with fail
  exact bodyPost_ret (v := .tuple #[layNone, .bool false]) (by simp [results, Try.results29, layNone, go_sem]) rfl ⟨rfl, (Below.refl _ _).alloc (Nat.le_refl _) _⟩

/-! ### fields left out -/
/-- A datagram comes back; nothing that was there has turned. -/
def GivesD (W : World) (d : Dg) (e : Ending) (w' : World) : Prop := e = .returned d.val ∧ Below W.heap.size W w'
theorem out_any (g : Grp) (d : Dg) (w : World) : Calls Try.prog (fOut g) #[d.val] w (GivesD w (d.without g)) := by
  obtain ⟨a0, a1, a2, a3, a4, a5, a6, a7, a8, a9⟩ := d
  cases g with
  | shard =>
    unfold fOut Dg.val
    simp only
    go_enter Try.func44, Try.ntmps44
    go_wp2_with fail
    exact bodyPost_ret (v := Dg.val (Dg.without .shard ⟨a0, a1, a2, a3, a4, a5, a6, a7, a8, a9⟩)) (by simp [results, Try.results44, Dg.val, Dg.without, go_sem]; rfl) rfl ⟨rfl, ((Below.refl _ _).alloc (Nat.le_refl _) _).alloc (by simp) _⟩
  | hav =>
    unfold fOut Dg.val
    simp only
    go_enter Try.func48, Try.ntmps48
    go_wp2_with fail
    exact bodyPost_ret (v := Dg.val (Dg.without .hav ⟨a0, a1, a2, a3, a4, a5, a6, a7, a8, a9⟩)) (by simp [results, Try.results48, Dg.val, Dg.without, go_sem]; rfl) rfl ⟨rfl, ((Below.refl _ _).alloc (Nat.le_refl _) _).alloc (by simp) _⟩
  | cred =>
    unfold fOut Dg.val
    simp only
    go_enter Try.func52, Try.ntmps52
    go_wp2_with fail
    exact bodyPost_ret (v := Dg.val (Dg.without .cred ⟨a0, a1, a2, a3, a4, a5, a6, a7, a8, a9⟩)) (by simp [results, Try.results52, Dg.val, Dg.without, go_sem]) rfl ⟨rfl, ((Below.refl _ _).alloc (Nat.le_refl _) _).alloc (by simp) _⟩
  | bare =>
    unfold fOut Dg.val
    simp only
    go_enter Try.func56, Try.ntmps56
    go_wp2_with fail
    exact bodyPost_ret (v := Dg.val (Dg.without .bare ⟨a0, a1, a2, a3, a4, a5, a6, a7, a8, a9⟩)) (by simp [results, Try.results56, Dg.val, Dg.without, go_sem]) rfl ⟨rfl, ((Below.refl _ _).alloc (Nat.le_refl _) _).alloc (by simp) _⟩
end Go.Proofs.Ytekolkbahhbcjaa

/- Proved: lemmas of one statement's proof, merged by program: what each part proves stands ahead of it. Conditions: those that the lemmas name. -/
import Derived.Test.YtodokgkchmpmnaaGreatM24

/- Plain lemmas on datagrams that are read of bytes: what is read, that it comes back, and that one byte that is another one is found out. No condition beyond those that each lemma names. -/
namespace Go.Proofs.YtodokgkchmpmnaaGreat

/-! ### what is read -/
theorem sub_body {g : Grp} {d : Dg} (ho : d.own g = d) (hg : g ≠ .shard) : d.body = S0 := by
  rw [← ho]
  cases g with
  | shard => exact absurd rfl hg
  | _ => rfl
end Go.Proofs.YtodokgkchmpmnaaGreat

/- Proved: what layoutOf answers, and what the functions of each layout that check, and leave out, answer. Conditions: those that the theorems name. -/
namespace Go.Proofs.YtodokgkchmpmnaaGreat
open Go.ChangeShapes Go.WideShapes Go.ChangeAt Go.RowKit

/-! ### the functions of a layout -/
def fChk (g : Grp) : Nat := match g with
  | .shard => 102
  | .hav => 106
  | .cred => 110
  | .bare => 114
def fOut (g : Grp) : Nat := match g with
  | .shard => 103
  | .hav => 107
  | .cred => 111
  | .bare => 115
def fPut (g : Grp) : Nat := match g with
  | .shard => 104
  | .hav => 108
  | .cred => 112
  | .bare => 116
def fRead (g : Grp) : Nat := match g with
  | .shard => 105
  | .hav => 109
  | .cred => 113
  | .bare => 117
theorem call_enter {f : FuncId} {fn : Func} {c : Code} (hf : Tryz.prog.funcs[f]? = some fn) (hname : (fn.name == "runtime.NumGoroutine") = false) (hb : fn.body = some c) (args : Array Value) (W : World) : (callFunc f args).run Tryz.prog W = .ok (.enter f args) W := by
  have h1 : fn.name ≠ "runtime.NumGoroutine" := by simpa using hname
  simp [callFunc, hf, h1, hb]
theorem call_chk (g : Grp) (args : Array Value) (W : World) : (callFunc (fChk g) args).run Tryz.prog W = .ok (.enter (fChk g) args) W := by
  cases g with
  | shard => exact call_enter Tryz.func102 (by kernel_rfl) rfl args W
  | hav => exact call_enter Tryz.func106 (by kernel_rfl) rfl args W
  | cred => exact call_enter Tryz.func110 (by kernel_rfl) rfl args W
  | bare => exact call_enter Tryz.func114 (by kernel_rfl) rfl args W
theorem call_out (g : Grp) (args : Array Value) (W : World) : (callFunc (fOut g) args).run Tryz.prog W = .ok (.enter (fOut g) args) W := by
  cases g with
  | shard => exact call_enter Tryz.func103 (by kernel_rfl) rfl args W
  | hav => exact call_enter Tryz.func107 (by kernel_rfl) rfl args W
  | cred => exact call_enter Tryz.func111 (by kernel_rfl) rfl args W
  | bare => exact call_enter Tryz.func115 (by kernel_rfl) rfl args W
/-- a kind's layout, as a value. -/
def layV (g : Grp) : Value := .agg #[.func (.func (fChk g)) #[] #[], .func (.func (fOut g)) #[] #[], .func (.func (fPut g)) #[] #[], .func (.func (fRead g)) #[] #[], .int .i64 (grpSz g : Nat)]
/-- no layout, as a value. -/
def layNone : Value := .agg #[.nilFunc, .nilFunc, .nilFunc, .nilFunc, .int .i64 0]
/-- A layout and a bool come back; nothing that was there has turned. -/
def GivesDL (W : World) (v : Value) (b : Bool) (e : Ending) (w' : World) : Prop := e = .returned (.tuple #[v, .bool b]) ∧ Below W.heap.size W w'

theorem layout_yes (x : Int) (w : World) (h : 1 ≤ x ∧ x ≤ 6) : Calls Tryz.prog 95 #[.int .i64 x] w (GivesDL w (layV (grpOf x)) true) := by
  rcases (show x = 1 ∨ x = 2 ∨ x = 3 ∨ x = 4 ∨ x = 5 ∨ x = 6 by omega) with rfl | rfl | rfl | rfl | rfl | rfl
  · go_enter Tryz.func95, Tryz.ntmps95
    go_wp2_with fail
    exact bodyPost_ret (v := .tuple #[layV .shard, .bool true]) (by simp [results, Tryz.results95, layV, fChk, fOut, fPut, fRead, grpSz, go_sem]) rfl ⟨rfl, (Below.refl _ _).alloc (Nat.le_refl _) _⟩
  · go_enter Tryz.func95, Tryz.ntmps95
    go_wp2_with fail
    exact bodyPost_ret (v := .tuple #[layV .shard, .bool true]) (by simp [results, Tryz.results95, layV, fChk, fOut, fPut, fRead, grpSz, go_sem]) rfl ⟨rfl, (Below.refl _ _).alloc (Nat.le_refl _) _⟩
  · go_enter Tryz.func95, Tryz.ntmps95
    go_wp2_with fail
    exact bodyPost_ret (v := .tuple #[layV .hav, .bool true]) (by simp [results, Tryz.results95, layV, fChk, fOut, fPut, fRead, grpSz, go_sem]) rfl ⟨rfl, (Below.refl _ _).alloc (Nat.le_refl _) _⟩
  · go_enter Tryz.func95, Tryz.ntmps95
    go_wp2_with fail
    exact bodyPost_ret (v := .tuple #[layV .cred, .bool true]) (by simp [results, Tryz.results95, layV, fChk, fOut, fPut, fRead, grpSz, go_sem]) rfl ⟨rfl, (Below.refl _ _).alloc (Nat.le_refl _) _⟩
  · go_enter Tryz.func95, Tryz.ntmps95
    go_wp2_with fail
    exact bodyPost_ret (v := .tuple #[layV .bare, .bool true]) (by simp [results, Tryz.results95, layV, fChk, fOut, fPut, fRead, grpSz, go_sem]) rfl ⟨rfl, (Below.refl _ _).alloc (Nat.le_refl _) _⟩
  · go_enter Tryz.func95, Tryz.ntmps95
    go_wp2_with fail
    exact bodyPost_ret (v := .tuple #[layV .bare, .bool true]) (by simp [results, Tryz.results95, layV, fChk, fOut, fPut, fRead, grpSz, go_sem]) rfl ⟨rfl, (Below.refl _ _).alloc (Nat.le_refl _) _⟩
theorem layout_no (x : Int) (w : World) (h : ¬ (1 ≤ x ∧ x ≤ 6)) : Calls Tryz.prog 95 #[.int .i64 x] w (GivesDL w layNone false) := by
  have e1 : (x == 1) = false := by rw [beq_eq_false_iff_ne]; omega
  have e2 : (x == 2) = false := by rw [beq_eq_false_iff_ne]; omega
  have e3 : (x == 3) = false := by rw [beq_eq_false_iff_ne]; omega
  have e4 : (x == 4) = false := by rw [beq_eq_false_iff_ne]; omega
  have e5 : (x == 5) = false := by rw [beq_eq_false_iff_ne]; omega
  have e6 : (x == 6) = false := by rw [beq_eq_false_iff_ne]; omega
  clear h
  go_enter Tryz.func95, Tryz.ntmps95
  go_wp2_with fail
  exact bodyPost_ret (v := .tuple #[layNone, .bool false]) (by simp [results, Tryz.results95, layNone, go_sem]) rfl ⟨rfl, (Below.refl _ _).alloc (Nat.le_refl _) _⟩

/-! ### fields left out -/
/-- A datagram comes back; nothing that was there has turned. -/
def GivesD (W : World) (d : Dg) (e : Ending) (w' : World) : Prop := e = .returned d.val ∧ Below W.heap.size W w'
theorem out_any (g : Grp) (d : Dg) (w : World) : Calls Tryz.prog (fOut g) #[d.val] w (GivesD w (d.without g)) := by
  obtain ⟨a0, a1, a2, a3, a4, a5, a6, a7, a8, a9⟩ := d
  cases g with
  | shard =>
    unfold fOut Dg.val
    simp only
    go_enter Tryz.func103, Tryz.ntmps103
    go_wp2_with fail
    exact bodyPost_ret (v := Dg.val (Dg.without .shard ⟨a0, a1, a2, a3, a4, a5, a6, a7, a8, a9⟩)) (by simp [results, Tryz.results103, Dg.val, Dg.without, go_sem]; rfl) rfl ⟨rfl, ((Below.refl _ _).alloc (Nat.le_refl _) _).alloc (by simp) _⟩
  | hav =>
    unfold fOut Dg.val
    simp only
    go_enter Tryz.func107, Tryz.ntmps107
    go_wp2_with fail
    exact bodyPost_ret (v := Dg.val (Dg.without .hav ⟨a0, a1, a2, a3, a4, a5, a6, a7, a8, a9⟩)) (by simp [results, Tryz.results107, Dg.val, Dg.without, go_sem]; rfl) rfl ⟨rfl, ((Below.refl _ _).alloc (Nat.le_refl _) _).alloc (by simp) _⟩
  | cred =>
    unfold fOut Dg.val
    simp only
    go_enter Tryz.func111, Tryz.ntmps111
    go_wp2_with fail
    exact bodyPost_ret (v := Dg.val (Dg.without .cred ⟨a0, a1, a2, a3, a4, a5, a6, a7, a8, a9⟩)) (by simp [results, Tryz.results111, Dg.val, Dg.without, go_sem]) rfl ⟨rfl, ((Below.refl _ _).alloc (Nat.le_refl _) _).alloc (by simp) _⟩
  | bare =>
    unfold fOut Dg.val
    simp only
    go_enter Tryz.func115, Tryz.ntmps115
    go_wp2_with fail
    exact bodyPost_ret (v := Dg.val (Dg.without .bare ⟨a0, a1, a2, a3, a4, a5, a6, a7, a8, a9⟩)) (by simp [results, Tryz.results115, Dg.val, Dg.without, go_sem]) rfl ⟨rfl, ((Below.refl _ _).alloc (Nat.le_refl _) _).alloc (by simp) _⟩
end Go.Proofs.YtodokgkchmpmnaaGreat

/- Proved: lemmas of one statement's proof, merged by program: what each part proves stands ahead of it. Conditions: those that the lemmas name. -/
import Derived.Shelf.Strconv.Clone
import Derived.Test.YtmnbkghihdbepaaProg
import Derived.Test.YtmnbkghihdbepaaM5

/- Proved: what some functions of Go's library do in this program, each by the kit's contract of it, laid by the kit's command in plain words. Conditions: those that each one names. -/
namespace Go.Proofs
open Go.Shelf
def Try.laysM316_ren : Go.Shelf.Ren := ⟨fun | 316 => 64 | n => n, fun | 9 => 9 | 3 => 3 | 4 => 4 | 37 => 60 | 0 => 0 | 127 => 90 | 5 => 5 | n => n, fun | n => n⟩
theorem Try.laysM316 : Go.Proofs.LaysM.n316 Try.prog Try.laysM316_ren := {
  mixed := by kernel_rfl
  f316 := Try.func64.trans (congrArg some (by kernel_rfl))
  t0 := Try.underlying0
  a0 := Try.isAgg0
  z0 := Try.sizeOf0
  v0 := Try.zeroValue0
  t3 := Try.underlying3
  a3 := Try.isAgg3
  z3 := Try.sizeOf3
  v3 := Try.zeroValue3
  t4 := Try.underlying4
  a4 := Try.isAgg4
  z4 := Try.sizeOf4
  v4 := Try.zeroValue4
  t9 := Try.underlying9
  a9 := Try.isAgg9
  z9 := Try.sizeOf9
  v9 := Try.zeroValue9
  t37 := Try.underlying60
  a37 := Try.isAgg60
  z37 := Try.sizeOf60
  v37 := Try.zeroValue60
  t127 := Try.underlying90
  a127 := Try.isAgg90
  z127 := Try.sizeOf90
  v127 := Try.zeroValue90
  t5 := Try.underlying5
  a5 := Try.isAgg5
  z5 := Try.sizeOf5
  v5 := Try.zeroValue5
  i0 := by kernel_rfl
  i3 := by kernel_rfl
  i4 := by kernel_rfl
  i5 := by kernel_rfl
  i9 := by kernel_rfl
  i37 := by kernel_rfl
  i127 := by kernel_rfl }
open Go.RowKit in
theorem Try.stringslite_Clone (s : ByteArray) (w : World) (hlim : s.size ≤ 281474976710656) :
    Calls Try.prog 64 #[.string s] w fun e w' => e = .returned (.string s) ∧ Below w.heap.size w w' := Any.stringslite_Clone Try.laysM316 s w hlim
end Go.Proofs

/- Proved: what each method of a reader of package wire answers, and what is behind it, for every text, every number, and a reader that is none. Conditions: those that the theorems name. -/
namespace Go.Proofs.Ytmnbkghihdbepaa
open Go.ChangeShapes Go.WideShapes Go.ChangeAt Go.RowKit

/-- the error behind a taking of z bytes of s, behind the error e; may: may so many be asked for? -/
def tkE (s : ByteArray) (e z : Int) (may : Bool) : Int := if e ≠ 0 then e else if may = false then 1 else if (s.size : Int) < z then 4 else 0
/-- what is left then. -/
def tkR (s : ByteArray) (e z : Int) (may : Bool) : ByteArray := if e = 0 ∧ tkE s e z may = 0 then s.extract z.toNat s.size else s
/-- what was taken. -/
def tkT (s : ByteArray) (e z : Int) (may : Bool) : ByteArray := if e = 0 ∧ tkE s e z may = 0 then s.extract 0 z.toNat else S0
theorem tk_err {s : ByteArray} {e z : Int} {may : Bool} (h : e ≠ 0) : tkE s e z may = e ∧ tkR s e z may = s ∧ tkT s e z may = S0 := by
  unfold tkR tkT tkE
  rw [if_pos h, if_neg (fun q => h q.1), if_neg (fun q => h q.1)]
  exact ⟨rfl, rfl, rfl⟩
theorem tk_not {s : ByteArray} {z : Int} : tkE s 0 z false = 1 ∧ tkR s 0 z false = s ∧ tkT s 0 z false = S0 := by
  have h : tkE s 0 z false = 1 := rfl
  unfold tkR tkT
  rw [h]
  exact ⟨rfl, rfl, rfl⟩
theorem tk_cut {s : ByteArray} {z : Int} (h : (s.size : Int) < z) : tkE s 0 z true = 4 ∧ tkR s 0 z true = s ∧ tkT s 0 z true = S0 := by
  have h : tkE s 0 z true = 4 := by unfold tkE; rw [if_neg (by simp), if_neg (by simp), if_pos h]
  unfold tkR tkT
  rw [h]
  exact ⟨rfl, rfl, rfl⟩
theorem tk_ok {s : ByteArray} {z : Int} (h : ¬ (s.size : Int) < z) : tkE s 0 z true = 0 ∧ tkR s 0 z true = s.extract z.toNat s.size ∧ tkT s 0 z true = s.extract 0 z.toNat := by
  have h : tkE s 0 z true = 0 := by unfold tkE; rw [if_neg (by simp), if_neg (by simp), if_neg h]
  unfold tkR tkT
  rw [h]
  exact ⟨rfl, rfl, rfl⟩
theorem extract_size (s : ByteArray) (a b : Nat) : (s.extract a b).size = min b s.size - a := by
  rw [ByteArray.size_extract]
theorem tkT_size (s : ByteArray) (e z : Int) (may : Bool) : (tkT s e z may).size ≤ s.size ∧ (0 ≤ z → ((tkT s e z may).size : Int) ≤ z) := by
  unfold tkT
  split
  · rw [extract_size]; omega
  · exact ⟨Nat.zero_le _, fun h => h⟩
theorem tkR_size (s : ByteArray) (e z : Int) (may : Bool) : (tkR s e z may).size ≤ s.size := by
  unfold tkR
  split
  · rw [extract_size]; omega
  · exact Nat.le_refl _

/-- Block b is a reader: what is left, and the first error. -/
def Rd (w : World) (b : Nat) (s : ByteArray) (e : Int) : Prop := At w b 88 [.string s, .int .i64 e]
/-- A value comes back; block b is a reader of s' and e'; nothing else that was there has turned. -/
def GivesRd (W : World) (b : Nat) (v : Value) (s' : ByteArray) (e' : Int) (e : Ending) (w' : World) : Prop := e = .returned v ∧ Rd w' b s' e' ∧ W.grownBy w' (some b)

set_option maxHeartbeats 800000 in
theorem take_any (b : Nat) (s : ByteArray) (e z : Int) (may : Bool) (w : World) (hr : Rd w b s e) (hz : may = true → 0 ≤ z) :
    Calls Try.prog 61 #[.pointer (some ⟨b, 0, none⟩), .int .i64 z, .bool may] w (GivesRd w b (.string (tkT s e z may)) (tkR s e z may) (tkE s e z may)) := by
  have hc0 := hr.cell 0 rfl
  have hc1 := hr.cell 1 rfl
  have hf0 := hr.free 0
  have hf1 := hr.free 1
  have HR := Lib.hid hr
  clear hr
  by_cases h : e = 0
  · subst h
    cases may with
    | false =>
      obtain ⟨q1, q2, q3⟩ := tk_not (s := s) (z := z)
      rw [q1, q2, q3]
      clear q1 q2 q3 hz
      go_enter Try.func61, Try.ntmps61
      go_wp2_with fail
      go_ret
      exact ⟨rfl, HR.out.set_ 1 _, grown_set _ _ _⟩
    | true =>
      have h0 := hz rfl
      by_cases g : (s.size : Int) < z
      · obtain ⟨q1, q2, q3⟩ := tk_cut g
        rw [q1, q2, q3]
        clear q1 q2 q3 hz
        go_enter Try.func61, Try.ntmps61
        go_wp2_with fail
        go_ret
        exact ⟨rfl, HR.out.set_ 1 _, grown_set _ _ _⟩
      · obtain ⟨q1, q2, q3⟩ := tk_ok g
        rw [q1, q2, q3]
        clear q1 q2 q3 hz
        have hs1 : ∀ W, (Instr.slice 9 (Value.string s) none (some (Value.int .i64 z)) none).run Try.prog W = .ok (Value.string (s.extract 0 z.toNat)) W := fun W => by
          rw [run_slice_string_to_if W 9 s .i64 z Try.underlying9, if_pos ⟨by omega, by omega⟩]
        have hs2 : ∀ W, (Instr.slice 9 (Value.string s) (some (Value.int .i64 z)) none none).run Try.prog W = .ok (Value.string (s.extract z.toNat s.size)) W := fun W => by
          rw [run_slice_string_from_if W 9 s .i64 z Try.underlying9, if_pos ⟨by omega, by omega⟩]
        generalize s.extract 0 z.toNat = X at *
        generalize s.extract z.toNat s.size = Y at *
        go_enter Try.func61, Try.ntmps61
        go_wp2_with fail
        go_ret
        exact ⟨rfl, HR.out.set_ 0 _, grown_set _ _ _⟩
  · obtain ⟨q1, q2, q3⟩ := tk_err (s := s) (z := z) (may := may) h
    rw [q1, q2, q3]
    have e1 : (e != 0) = true := by simpa using h
    have e2 : (e == 0) = false := by simpa using h
    clear q1 q2 q3 hz h
    go_enter Try.func61, Try.ntmps61
    go_wp2_with fail
    go_ret
    exact ⟨rfl, HR.out, grown_refl _ _⟩
set_option maxHeartbeats 800000 in
theorem take_nil (z : Int) (may : Bool) (w : World) :
    Calls Try.prog 61 #[.pointer none, .int .i64 z, .bool may] w fun e w' => e = .returned (.string S0) ∧ w = w' := by
  go_enter Try.func61, Try.ntmps61
  go_wp2_with fail
  go_ret
  exact ⟨rfl, rfl⟩
theorem clone_any (s : ByteArray) (w : World) (hs : s.size ≤ 281474976710656) :
    Calls Try.prog 63 #[.string s] w fun e w' => e = .returned (.string s) ∧ Below w.heap.size w w' := by
  have H := Lib.hid (fun w => Try.stringslite_Clone s w hs)
  clear hs
  go_enter Try.func63, Try.ntmps63
  go_wp2_with fail
  refine (H.out _).mono ?_; rintro e w1 ⟨rfl, g1⟩
  have G1 := Lib.hid g1
  clear g1
  go_wp2_with fail
  go_ret
  exact ⟨rfl, G1.out⟩
theorem num_size (s : ByteArray) (e z : Int) : (tkT s e z (sizedB z)).size ≤ 4 := by
  unfold tkT
  split
  · rename_i h
    obtain ⟨h0, h1⟩ := h
    have : sizedB z = true := by
      unfold tkE at h1
      rw [if_neg (by simpa using h0)] at h1
      cases q : sizedB z with
      | true => rfl
      | false => rw [q] at h1; simp at h1
    rw [extract_size]
    unfold sizedB at this
    simp at this
    omega
  · exact Nat.zero_le _
set_option maxHeartbeats 800000 in
theorem num_any (b : Nat) (s : ByteArray) (e z : Int) (w : World) (hr : Rd w b s e) :
    Calls Try.prog 56 #[.pointer (some ⟨b, 0, none⟩), .int .i64 z] w (GivesRd w b (.int .u32 (numS (tkT s e z (sizedB z)) : Nat)) (tkR s e z (sizedB z)) (tkE s e z (sizedB z))) := by
  have H1 := Lib.hid (fun w => sized_any z w)
  have H2 := Lib.hid (take_any b s e z (sizedB z) w hr (fun h => by unfold sizedB at h; simp at h; omega))
  have H3 := Lib.hid (fun w => number_any (tkT s e z (sizedB z)) (num_size s e z) w)
  clear hr
  generalize tkT s e z (sizedB z) = T at *
  generalize tkR s e z (sizedB z) = R at *
  generalize tkE s e z (sizedB z) = E at *
  generalize sizedB z = m at *
  go_enter Try.func56, Try.ntmps56
  go_wp2_with fail
  refine (H1.out _).mono ?_; rintro e' w1 ⟨rfl, rfl⟩
  go_wp2_with fail
  refine H2.out.mono ?_; rintro e' w1 ⟨rfl, hr1, hg1⟩
  have HR := Lib.hid hr1; have HG := Lib.hid hg1
  clear hr1 hg1
  go_wp2_with fail
  refine (H3.out _).mono ?_; rintro e' w2 ⟨rfl, rfl⟩
  go_wp2_with fail
  go_ret
  exact ⟨rfl, HR.out, HG.out⟩
set_option maxHeartbeats 800000 in
theorem bytes_any (b : Nat) (s : ByteArray) (e z : Int) (w : World) (hr : Rd w b s e) (hs : s.size ≤ 281474976710656) :
    Calls Try.prog 57 #[.pointer (some ⟨b, 0, none⟩), .int .i64 z] w (GivesRd w b (.string (tkT s e z (decide (0 ≤ z)))) (tkR s e z (decide (0 ≤ z))) (tkE s e z (decide (0 ≤ z)))) := by
  have H2 := Lib.hid (take_any b s e z (decide (0 ≤ z)) w hr (fun h => of_decide_eq_true h))
  have H3 := Lib.hid (fun w => clone_any (tkT s e z (decide (0 ≤ z))) w (Nat.le_trans (tkT_size _ _ _ _).1 hs))
  clear hr hs
  generalize tkT s e z (decide (0 ≤ z)) = T at *
  generalize tkR s e z (decide (0 ≤ z)) = R at *
  generalize tkE s e z (decide (0 ≤ z)) = E at *
  go_enter Try.func57, Try.ntmps57
  go_wp2_with fail
  refine H2.out.mono ?_; rintro e' w1 ⟨rfl, hr1, hg1⟩
  have HR := Lib.hid hr1; have HG := Lib.hid hg1
  clear hr1 hg1
  go_wp2_with fail
  refine (H3.out _).mono ?_; rintro e' w2 ⟨rfl, g2⟩
  have HR2 : Hid (Rd w2 b R E) := Lib.hid (HR.out.below g2 HR.out.lt)
  have HG2 := Lib.hid (grown_trans2 HG.out (grown_below g2 (some b)))
  clear g2
  go_wp2_with fail
  go_ret
  exact ⟨rfl, HR2.out, HG2.out⟩
theorem left_any (b : Nat) (s : ByteArray) (e : Int) (w : World) (hr : Rd w b s e) :
    Calls Try.prog 58 #[.pointer (some ⟨b, 0, none⟩)] w fun e' w' => e' = .returned (.int .i64 (s.size : Nat)) ∧ w = w' := by
  have hc0 := hr.cell 0 rfl
  clear hr
  go_enter Try.func58, Try.ntmps58
  go_wp2_with fail
  go_ret
  exact ⟨rfl, rfl⟩
theorem num_nil (z : Int) (w : World) :
    Calls Try.prog 56 #[.pointer none, .int .i64 z] w fun e w' => e = .returned (.int .u32 0) ∧ w = w' := by
  have H1 := Lib.hid (fun w => sized_any z w)
  generalize sizedB z = m at *
  have H3 : Hid (∀ w, Calls Try.prog 60 #[.string S0] w fun e w' => e = .returned (.int .u32 0) ∧ w = w') := Lib.hid (fun w => number_any S0 (by decide) w)
  go_enter Try.func56, Try.ntmps56
  go_wp2_with fail
  refine (H1.out _).mono ?_; rintro e' w1 ⟨rfl, rfl⟩
  go_wp2_with fail
  refine (take_nil z m _).mono ?_; rintro e' w1 ⟨rfl, rfl⟩
  go_wp2_with fail
  refine (H3.out _).mono ?_; rintro e' w2 ⟨rfl, rfl⟩
  go_wp2_with fail
  go_ret
  exact ⟨rfl, rfl⟩
theorem bytes_nil (z : Int) (w : World) :
    Calls Try.prog 57 #[.pointer none, .int .i64 z] w fun e w' => e = .returned (.string S0) ∧ Below w.heap.size w w' := by
  go_enter Try.func57, Try.ntmps57
  go_wp2_with fail
  refine (take_nil z _ _).mono ?_; rintro e' w1 ⟨rfl, rfl⟩
  go_wp2_with fail
  refine (clone_any S0 _ (by decide)).mono ?_; rintro e' w2 ⟨rfl, g2⟩
  have G2 := Lib.hid g2
  clear g2
  go_wp2_with fail
  go_ret
  exact ⟨rfl, G2.out⟩
theorem left_nil (w : World) :
    Calls Try.prog 58 #[.pointer none] w fun e' w' => e' = .returned (.int .i64 0) ∧ w = w' := by
  go_enter Try.func58, Try.ntmps58
  go_wp2_with fail
  go_ret
  exact ⟨rfl, rfl⟩
end Go.Proofs.Ytmnbkghihdbepaa

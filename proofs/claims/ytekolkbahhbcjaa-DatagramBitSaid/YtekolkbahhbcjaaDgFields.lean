/- Proved: what fields of package datagram answers. Conditions: those that the theorems name. -/
import Derived.Test.YtekolkbahhbcjaaDgReadS
namespace Go.Proofs.Ytekolkbahhbcjaa
open Go.ChangeShapes Go.WideShapes Go.ChangeAt Go.RowKit

theorem grown_setNew {W w : World} {row : Option Nat} (h : W.grownBy w row) {p : Addr} (hp : W.heap.size ≤ p.block) (v : Value) : W.grownBy (w.setCell p v) row :=
  ⟨h.os, h.tape, h.output, Nat.le_trans h.size (by simp [World.setCell]), fun k hk hn => (Below.heap_setCell w p v k (by omega)).trans (h.block k hk hn)⟩
theorem grown_alloc {W w : World} {row : Option Nat} (h : W.grownBy w row) (o : Obj) : W.grownBy (w.alloc o) row :=
  ⟨h.os, h.tape, h.output, Nat.le_trans h.size (by simp), fun k hk hn => (Below.heap_alloc w o k (Nat.lt_of_lt_of_le hk h.size)).trans (h.block k hk hn)⟩
theorem grown_then {W w w' : World} {row : Option Nat} (h : W.grownBy w row) (hb : Below w.heap.size w w') : W.grownBy w' row := grown_trans2 h (grown_below hb row)
/-- A datagram and a number come back; but for block c nothing that was there has turned. -/
def GivesF (W : World) (c : Nat) (d : Dg) (z : Int) (e : Ending) (w' : World) : Prop := e = .returned (.tuple #[d.val, .int .i64 z]) ∧ W.grownBy w' (some c)
theorem res_fd {T : Array Value} {W : World} {b : Nat} {z : Int} {d : Dg} (h2 : T.getD 2 undef = .pointer (some ⟨b, 0, none⟩)) (h3 : T.getD 3 undef = .int .i64 z) (A : At W b 24 d.cells) : (results Try.f26 T).run Try.prog W = .ok (.tuple #[d.val, .int .i64 z]) W := by
  have h2' : T[2]?.getD undef = .pointer (some ⟨b, 0, none⟩) := by simpa using h2
  have h3' : T[3]?.getD undef = .int .i64 z := by simpa using h3
  have c0 := A.cell 0 rfl
  have c1 := A.cell 1 rfl
  have c2 := A.cell 2 rfl
  have c3 := A.cell 3 rfl
  have c4 := A.cell 4 rfl
  have c5 := A.cell 5 rfl
  have c6 := A.cell 6 rfl
  have c7 := A.cell 7 rfl
  have c8 := A.cell 8 rfl
  have c9 := A.cell 9 rfl
  simp [results, Try.results26, h2', h3', c0, c1, c2, c3, c4, c5, c6, c7, c8, c9, Dg.val, go_sem]
theorem list_no {a b : ByteArray} (h : a ≠ b) : (a.toList == b.toList) = false := by
  rw [beq_eq_false_iff_ne]
  exact fun e => h ((toList_iff a b).1 e)
theorem ls_list : xLS.toList = [76, 83] := by rw [ByteArray.toList_eq]
theorem ls_no {M : ByteArray} (h : M ≠ xLS) : (M.toList == [76, 83]) = false := by
  have := list_no h
  rwa [ls_list] at this
theorem ls_yes {M : ByteArray} (h : M = xLS) : (M.toList == [76, 83]) = true := by rw [h, ls_list]; rfl
set_option maxRecDepth 100000 in
set_option maxHeartbeats 3200000 in
theorem fields_mark (a : ByteArray) (c : Nat) (w : World) (ha : a.size ≤ 281474976710656) (h8 : 8 ≤ a.size) (hr : Rd w c a 0) (hm : a.extract 0 2 ≠ xLS) : Calls Try.prog 26 #[.pointer (some ⟨c, 0, none⟩)] w (GivesF w c dg0 5) := by
  have HB : Hid (∀ w, Rd w c a 0 → Calls Try.prog 39 #[.pointer (some ⟨c, 0, none⟩), .int .i64 2] w (GivesRd w c (.string (a.extract 0 2)) (sfx a 2) 0)) := Lib.hid fun w hr => bytes_at c a 0 2 2 w (by rw [sfx_zero]; exact hr) rfl (by omega) ha
  have hne := ls_no hm
  generalize a.extract 0 2 = M at *
  have HR := Lib.hid hr
  have hlt := hr.lt
  have HC := Lib.hid hlt
  clear hr hm ha h8 hlt
  go_enter Try.func26, Try.ntmps26
  go_wp2_with fail
  refine (HB.out _ (HR.out.alloc _)).mono ?_; rintro e w1 ⟨rfl, hr1, hg1⟩
  have A1 : Hid (At w1 w.heap.size 24 [.int .i64 0, .int .i64 0, .int .u32 0, .int .i64 0, .int .i64 0, .int .i64 0, .int .i64 0, .int .i64 0, .string ⟨#[]⟩, .string ⟨#[]⟩]) := Lib.hid ((At.new w 24 [.int .i64 0, .int .i64 0, .int .u32 0, .int .i64 0, .int .i64 0, .int .i64 0, .int .i64 0, .int .i64 0, .string ⟨#[]⟩, .string ⟨#[]⟩]).kept hg1 (by intro e; injection e with e; have := HC.out; omega))
  have G1 : Hid (w.grownBy w1 (some c)) := Lib.hid (grown_trans2 (grown_below ((Below.refl _ _).alloc (Nat.le_refl _) _) (some c)) hg1)
  have x0 := A1.out.cell 0 rfl
  have y0 := A1.out.free 0
  have x1 := A1.out.cell 1 rfl
  have y1 := A1.out.free 1
  have x2 := A1.out.cell 2 rfl
  have y2 := A1.out.free 2
  have x3 := A1.out.cell 3 rfl
  have y3 := A1.out.free 3
  have x4 := A1.out.cell 4 rfl
  have y4 := A1.out.free 4
  have x5 := A1.out.cell 5 rfl
  have y5 := A1.out.free 5
  have x6 := A1.out.cell 6 rfl
  have y6 := A1.out.free 6
  have x7 := A1.out.cell 7 rfl
  have y7 := A1.out.free 7
  have x8 := A1.out.cell 8 rfl
  have y8 := A1.out.free 8
  have x9 := A1.out.cell 9 rfl
  have y9 := A1.out.free 9
  clear hr1 hg1
  go_wp2_with fail
  refine bodyPost_ret (v := .tuple #[dg0.val, .int .i64 5]) (res_fd (d := dg0) rfl rfl ((((((((((A1.out.set_ 0 _).set_ 1 _).set_ 2 _).set_ 3 _).set_ 4 _).set_ 5 _).set_ 6 _).set_ 7 _).set_ 8 _).set_ 9 _)) rfl ⟨rfl, ?_⟩
  repeat (with_reducible refine grown_setNew ?_ (Nat.le_refl _) _)
  exact G1.out
set_option maxRecDepth 100000 in
set_option maxHeartbeats 3200000 in
theorem fields_kind (a : ByteArray) (c : Nat) (w : World) (ha : a.size ≤ 281474976710656) (h8 : 8 ≤ a.size) (hr : Rd w c a 0) (hm : a.extract 0 2 = xLS) (hk : ¬ (1 ≤ cutN a 2 3 ∧ cutN a 2 3 ≤ 6)) : Calls Try.prog 26 #[.pointer (some ⟨c, 0, none⟩)] w (GivesF w c dg0 1) := by
  have HB : Hid (∀ w, Rd w c a 0 → Calls Try.prog 39 #[.pointer (some ⟨c, 0, none⟩), .int .i64 2] w (GivesRd w c (.string (a.extract 0 2)) (sfx a 2) 0)) := Lib.hid fun w hr => bytes_at c a 0 2 2 w (by rw [sfx_zero]; exact hr) rfl (by omega) ha
  have HK : Hid (∀ w, Rd w c (sfx a 2) 0 → Calls Try.prog 25 #[.pointer (some ⟨c, 0, none⟩), .int .i64 1] w (GivesRd w c (.int .u32 (cutN a 2 3 : Nat)) (sfx a 3) 0)) := Lib.hid fun w hr => num_at c a 2 1 3 w hr rfl (by omega) (by simp)
  have HS : Hid (∀ w, Rd w c (sfx a 3) 0 → Calls Try.prog 25 #[.pointer (some ⟨c, 0, none⟩), .int .i64 1] w (GivesRd w c (.int .u32 (cutN a 3 4 : Nat)) (sfx a 4) 0)) := Lib.hid fun w hr => num_at c a 3 1 4 w hr rfl (by omega) (by simp)
  have HQ : Hid (∀ w, Rd w c (sfx a 4) 0 → Calls Try.prog 25 #[.pointer (some ⟨c, 0, none⟩), .int .i64 4] w (GivesRd w c (.int .u32 (cutN a 4 8 : Nat)) (sfx a 8) 0)) := Lib.hid fun w hr => num_at c a 4 4 8 w hr rfl h8 (by simp)
  have hvk := cutN_lt (a := a) (i := 2) (j := 3) (k := 1) (by omega) rfl
  have hvs := cutN_lt (a := a) (i := 3) (j := 4) (k := 1) (by omega) rfl
  have hne := ls_yes hm
  generalize cutN a 2 3 = vk at *
  generalize cutN a 3 4 = vs at *
  generalize cutN a 4 8 = vb at *
  generalize a.extract 0 2 = M at *
  have k0 : (0 : Int) ≤ (vk : Int) := Int.natCast_nonneg _
  have k1 : (vk : Int) < 256 := by omega
  have s0 : (0 : Int) ≤ (vs : Int) := Int.natCast_nonneg _
  have s1 : (vs : Int) < 256 := by omega
  have HR := Lib.hid hr
  have hlt := hr.lt
  have HC := Lib.hid hlt
  have HL := Lib.hid (fun w => layout_no (vk : Int) w (by omega))
  unfold layNone at HL
  clear hr hm ha h8 hlt hk hvk hvs
  go_enter Try.func26, Try.ntmps26
  go_wp2_with fail
  refine (HB.out _ (HR.out.alloc _)).mono ?_; rintro e w1 ⟨rfl, hr1, hg1⟩
  have A1 : Hid (At w1 w.heap.size 24 [.int .i64 0, .int .i64 0, .int .u32 0, .int .i64 0, .int .i64 0, .int .i64 0, .int .i64 0, .int .i64 0, .string ⟨#[]⟩, .string ⟨#[]⟩]) := Lib.hid ((At.new w 24 [.int .i64 0, .int .i64 0, .int .u32 0, .int .i64 0, .int .i64 0, .int .i64 0, .int .i64 0, .int .i64 0, .string ⟨#[]⟩, .string ⟨#[]⟩]).kept hg1 (by intro e; injection e with e; have := HC.out; omega))
  have G1 : Hid (w.grownBy w1 (some c)) := Lib.hid (grown_trans2 (grown_below ((Below.refl _ _).alloc (Nat.le_refl _) _) (some c)) hg1)
  have R1 := Lib.hid hr1
  clear hr1 hg1
  go_wp2_with fail
  refine (HK.out _ R1.out).mono ?_; rintro e w2 ⟨rfl, hr1, hg1⟩
  have A2 := Lib.hid (A1.out.kept hg1 (by intro e; injection e with e; have := HC.out; omega))
  have G2 := Lib.hid (grown_trans2 G1.out hg1)
  have R2 := Lib.hid hr1
  clear hr1 hg1
  go_wp2_with fail
  refine (HS.out _ R2.out).mono ?_; rintro e w3 ⟨rfl, hr1, hg1⟩
  have A3 := Lib.hid (A2.out.kept hg1 (by intro e; injection e with e; have := HC.out; omega))
  have G3 := Lib.hid (grown_trans2 G2.out hg1)
  have R3 := Lib.hid hr1
  clear hr1 hg1
  go_wp2_with fail
  refine (HQ.out _ R3.out).mono ?_; rintro e w4 ⟨rfl, hr1, hg1⟩
  have A4 := Lib.hid (A3.out.kept hg1 (by intro e; injection e with e; have := HC.out; omega))
  have G4 := Lib.hid (grown_trans2 G3.out hg1)
  have R4 := Lib.hid hr1
  clear hr1 hg1 A1 A2 A3 G1 G2 G3 R1 R2 R3 HB HK HS HQ
  go_wp2_with fail
  have D5 : Hid (At (w4.alloc (.cells #[.int .i64 (vk : Nat), .int .i64 (vs : Nat), .int .u32 (vb : Nat), .int .i64 0, .int .i64 0, .int .i64 0, .int .i64 0, .int .i64 0, .string ⟨#[]⟩, .string ⟨#[]⟩] 24)) w4.heap.size 24 [.int .i64 (vk : Nat), .int .i64 (vs : Nat), .int .u32 (vb : Nat), .int .i64 0, .int .i64 0, .int .i64 0, .int .i64 0, .int .i64 0, .string ⟨#[]⟩, .string ⟨#[]⟩]) := Lib.hid (At.new w4 24 [.int .i64 (vk : Nat), .int .i64 (vs : Nat), .int .u32 (vb : Nat), .int .i64 0, .int .i64 0, .int .i64 0, .int .i64 0, .int .i64 0, .string ⟨#[]⟩, .string ⟨#[]⟩])
  have A5 := Lib.hid (A4.out.alloc (.cells #[.int .i64 (vk : Nat), .int .i64 (vs : Nat), .int .u32 (vb : Nat), .int .i64 0, .int .i64 0, .int .i64 0, .int .i64 0, .int .i64 0, .string ⟨#[]⟩, .string ⟨#[]⟩] 24))
  have R5 := Lib.hid (At.alloc R4.out (.cells #[.int .i64 (vk : Nat), .int .i64 (vs : Nat), .int .u32 (vb : Nat), .int .i64 0, .int .i64 0, .int .i64 0, .int .i64 0, .int .i64 0, .string ⟨#[]⟩, .string ⟨#[]⟩] 24))
  have G5 := Lib.hid (grown_alloc G4.out (.cells #[.int .i64 (vk : Nat), .int .i64 (vs : Nat), .int .u32 (vb : Nat), .int .i64 0, .int .i64 0, .int .i64 0, .int .i64 0, .int .i64 0, .string ⟨#[]⟩, .string ⟨#[]⟩] 24))
  have hc0 := D5.out.cell 0 rfl
  have hs4 : w.heap.size ≤ w4.heap.size := G4.out.size
  generalize w4.alloc (.cells #[.int .i64 (vk : Nat), .int .i64 (vs : Nat), .int .u32 (vb : Nat), .int .i64 0, .int .i64 0, .int .i64 0, .int .i64 0, .int .i64 0, .string ⟨#[]⟩, .string ⟨#[]⟩] 24) = w5 at *
  refine (HL.out _).mono ?_; rintro e w6 ⟨rfl, g6⟩
  have A6 := Lib.hid (A5.out.below g6 A5.out.lt)
  have G6 := Lib.hid (grown_then G5.out g6)
  clear g6
  have hz6 : w.heap.size < w6.heap.size := A6.out.lt
  have x0 := A6.out.cell 0 rfl
  have y0 := A6.out.free 0
  have x1 := A6.out.cell 1 rfl
  have y1 := A6.out.free 1
  have x2 := A6.out.cell 2 rfl
  have y2 := A6.out.free 2
  have x3 := A6.out.cell 3 rfl
  have y3 := A6.out.free 3
  have x4 := A6.out.cell 4 rfl
  have y4 := A6.out.free 4
  have x5 := A6.out.cell 5 rfl
  have y5 := A6.out.free 5
  have x6 := A6.out.cell 6 rfl
  have y6 := A6.out.free 6
  have x7 := A6.out.cell 7 rfl
  have y7 := A6.out.free 7
  have x8 := A6.out.cell 8 rfl
  have y8 := A6.out.free 8
  have x9 := A6.out.cell 9 rfl
  have y9 := A6.out.free 9
  go_wp2_with fail
  refine bodyPost_ret (v := .tuple #[dg0.val, .int .i64 1]) (res_fd (d := dg0) rfl rfl (((((((((((A6.out.set_ 0 _).set_ 1 _).set_ 2 _).set_ 3 _).set_ 4 _).set_ 5 _).set_ 6 _).set_ 7 _).set_ 8 _).set_ 9 _).alloc _)) rfl ⟨rfl, ?_⟩
  refine grown_alloc ?_ _
  repeat (with_reducible refine grown_setNew ?_ (Nat.le_refl _) _)
  exact G6.out
set_option maxRecDepth 100000 in
set_option maxHeartbeats 3200000 in
theorem fields_read (g : Grp) (a : ByteArray) (c : Nat) (w : World) (ha : a.size ≤ 281474976710656) (h8 : 8 ≤ a.size) (hr : Rd w c a 0) (hm : a.extract 0 2 = xLS) (hk : 1 ≤ cutN a 2 3 ∧ cutN a 2 3 ≤ 6) (hg : grpOf (cutN a 2 3 : Nat) = g) (dd : Dg) (zz : Int) (hz : zz = grpF g (a.size - 8)) (hd : dd = if zz = 0 then pD g a else dg0) : Calls Try.prog 26 #[.pointer (some ⟨c, 0, none⟩)] w (GivesF w c dd zz) := by
  have HB : Hid (∀ w, Rd w c a 0 → Calls Try.prog 39 #[.pointer (some ⟨c, 0, none⟩), .int .i64 2] w (GivesRd w c (.string (a.extract 0 2)) (sfx a 2) 0)) := Lib.hid fun w hr => bytes_at c a 0 2 2 w (by rw [sfx_zero]; exact hr) rfl (by omega) ha
  have HK : Hid (∀ w, Rd w c (sfx a 2) 0 → Calls Try.prog 25 #[.pointer (some ⟨c, 0, none⟩), .int .i64 1] w (GivesRd w c (.int .u32 (cutN a 2 3 : Nat)) (sfx a 3) 0)) := Lib.hid fun w hr => num_at c a 2 1 3 w hr rfl (by omega) (by simp)
  have HS : Hid (∀ w, Rd w c (sfx a 3) 0 → Calls Try.prog 25 #[.pointer (some ⟨c, 0, none⟩), .int .i64 1] w (GivesRd w c (.int .u32 (cutN a 3 4 : Nat)) (sfx a 4) 0)) := Lib.hid fun w hr => num_at c a 3 1 4 w hr rfl (by omega) (by simp)
  have HQ : Hid (∀ w, Rd w c (sfx a 4) 0 → Calls Try.prog 25 #[.pointer (some ⟨c, 0, none⟩), .int .i64 4] w (GivesRd w c (.int .u32 (cutN a 4 8 : Nat)) (sfx a 8) 0)) := Lib.hid fun w hr => num_at c a 4 4 8 w hr rfl h8 (by simp)
  have hvk := cutN_lt (a := a) (i := 2) (j := 3) (k := 1) (by omega) rfl
  have hvs := cutN_lt (a := a) (i := 3) (j := 4) (k := 1) (by omega) rfl
  have hne := ls_yes hm
  have HV : Hid (∀ b w, At w b 24 [.int .i64 (cutN a 2 3 : Nat), .int .i64 (cutN a 3 4 : Nat), .int .u32 (cutN a 4 8 : Nat), .int .i64 0, .int .i64 0, .int .i64 0, .int .i64 0, .int .i64 0, .string ⟨#[]⟩, .string ⟨#[]⟩] → Rd w c (sfx a 8) 0 → b ≠ c → Calls Try.prog (fRead g) #[.pointer (some ⟨b, 0, none⟩), .pointer (some ⟨c, 0, none⟩)] w (GivesFd w g a b c)) := Lib.hid fun b w hd hr hbc => gread_any g a b c w ha h8 hd hr hbc
  generalize cutN a 2 3 = vk at *
  generalize cutN a 3 4 = vs at *
  generalize cutN a 4 8 = vb at *
  generalize a.extract 0 2 = M at *
  have k0 : (0 : Int) ≤ (vk : Int) := Int.natCast_nonneg _
  have k1 : (vk : Int) < 256 := by omega
  have s0 : (0 : Int) ≤ (vs : Int) := Int.natCast_nonneg _
  have s1 : (vs : Int) < 256 := by omega
  have HR := Lib.hid hr
  have hlt := hr.lt
  have HC := Lib.hid hlt
  have HL := Lib.hid (fun w => layout_yes (vk : Int) w (by omega))
  rw [hg] at HL
  unfold layV at HL
  have hcall := call_read g
  have HF := Lib.hid (grpF_is g (a.size - 8))
  have HZ := Lib.hid hz
  have HX := Lib.hid hd
  clear hr hm ha h8 hlt hk hvk hvs hg hz hd
  go_enter Try.func26, Try.ntmps26
  go_wp2_with fail
  refine (HB.out _ (HR.out.alloc _)).mono ?_; rintro e w1 ⟨rfl, hr1, hg1⟩
  have A1 : Hid (At w1 w.heap.size 24 [.int .i64 0, .int .i64 0, .int .u32 0, .int .i64 0, .int .i64 0, .int .i64 0, .int .i64 0, .int .i64 0, .string ⟨#[]⟩, .string ⟨#[]⟩]) := Lib.hid ((At.new w 24 [.int .i64 0, .int .i64 0, .int .u32 0, .int .i64 0, .int .i64 0, .int .i64 0, .int .i64 0, .int .i64 0, .string ⟨#[]⟩, .string ⟨#[]⟩]).kept hg1 (by intro e; injection e with e; have := HC.out; omega))
  have G1 : Hid (w.grownBy w1 (some c)) := Lib.hid (grown_trans2 (grown_below ((Below.refl _ _).alloc (Nat.le_refl _) _) (some c)) hg1)
  have R1 := Lib.hid hr1
  clear hr1 hg1
  go_wp2_with fail
  refine (HK.out _ R1.out).mono ?_; rintro e w2 ⟨rfl, hr1, hg1⟩
  have A2 := Lib.hid (A1.out.kept hg1 (by intro e; injection e with e; have := HC.out; omega))
  have G2 := Lib.hid (grown_trans2 G1.out hg1)
  have R2 := Lib.hid hr1
  clear hr1 hg1
  go_wp2_with fail
  refine (HS.out _ R2.out).mono ?_; rintro e w3 ⟨rfl, hr1, hg1⟩
  have A3 := Lib.hid (A2.out.kept hg1 (by intro e; injection e with e; have := HC.out; omega))
  have G3 := Lib.hid (grown_trans2 G2.out hg1)
  have R3 := Lib.hid hr1
  clear hr1 hg1
  go_wp2_with fail
  refine (HQ.out _ R3.out).mono ?_; rintro e w4 ⟨rfl, hr1, hg1⟩
  have A4 := Lib.hid (A3.out.kept hg1 (by intro e; injection e with e; have := HC.out; omega))
  have G4 := Lib.hid (grown_trans2 G3.out hg1)
  have R4 := Lib.hid hr1
  clear hr1 hg1 A1 A2 A3 G1 G2 G3 R1 R2 R3 HB HK HS HQ
  go_wp2_with fail
  have D5 : Hid (At (w4.alloc (.cells #[.int .i64 (vk : Nat), .int .i64 (vs : Nat), .int .u32 (vb : Nat), .int .i64 0, .int .i64 0, .int .i64 0, .int .i64 0, .int .i64 0, .string ⟨#[]⟩, .string ⟨#[]⟩] 24)) w4.heap.size 24 [.int .i64 (vk : Nat), .int .i64 (vs : Nat), .int .u32 (vb : Nat), .int .i64 0, .int .i64 0, .int .i64 0, .int .i64 0, .int .i64 0, .string ⟨#[]⟩, .string ⟨#[]⟩]) := Lib.hid (At.new w4 24 [.int .i64 (vk : Nat), .int .i64 (vs : Nat), .int .u32 (vb : Nat), .int .i64 0, .int .i64 0, .int .i64 0, .int .i64 0, .int .i64 0, .string ⟨#[]⟩, .string ⟨#[]⟩])
  have A5 := Lib.hid (A4.out.alloc (.cells #[.int .i64 (vk : Nat), .int .i64 (vs : Nat), .int .u32 (vb : Nat), .int .i64 0, .int .i64 0, .int .i64 0, .int .i64 0, .int .i64 0, .string ⟨#[]⟩, .string ⟨#[]⟩] 24))
  have R5 := Lib.hid (At.alloc R4.out (.cells #[.int .i64 (vk : Nat), .int .i64 (vs : Nat), .int .u32 (vb : Nat), .int .i64 0, .int .i64 0, .int .i64 0, .int .i64 0, .int .i64 0, .string ⟨#[]⟩, .string ⟨#[]⟩] 24))
  have G5 := Lib.hid (grown_alloc G4.out (.cells #[.int .i64 (vk : Nat), .int .i64 (vs : Nat), .int .u32 (vb : Nat), .int .i64 0, .int .i64 0, .int .i64 0, .int .i64 0, .int .i64 0, .string ⟨#[]⟩, .string ⟨#[]⟩] 24))
  have hc0 := D5.out.cell 0 rfl
  have hs4 : w.heap.size ≤ w4.heap.size := G4.out.size
  generalize w4.alloc (.cells #[.int .i64 (vk : Nat), .int .i64 (vs : Nat), .int .u32 (vb : Nat), .int .i64 0, .int .i64 0, .int .i64 0, .int .i64 0, .int .i64 0, .string ⟨#[]⟩, .string ⟨#[]⟩] 24) = w5 at *
  refine (HL.out _).mono ?_; rintro e w6 ⟨rfl, g6⟩
  have A6 := Lib.hid (A5.out.below g6 A5.out.lt)
  have D6 := Lib.hid (D5.out.below g6 D5.out.lt)
  have R6 := Lib.hid (At.below R5.out g6 R5.out.lt)
  have G6 := Lib.hid (grown_then G5.out g6)
  clear g6 hc0
  have hs5 : w4.heap.size < w6.heap.size := D6.out.lt
  have hcw := HC.out
  go_wp2_with fail
  have A7 := Lib.hid (A6.out.alloc (.cells #[.func (.func (fChk g)) #[] #[], .func (.func (fOut g)) #[] #[], .func (.func (fPut g)) #[] #[], .func (.func (fRead g)) #[] #[], .int .i64 (grpSz g : Nat)] 48))
  have D7 := Lib.hid (D6.out.alloc (.cells #[.func (.func (fChk g)) #[] #[], .func (.func (fOut g)) #[] #[], .func (.func (fPut g)) #[] #[], .func (.func (fRead g)) #[] #[], .int .i64 (grpSz g : Nat)] 48))
  have R7 := Lib.hid (At.alloc R6.out (.cells #[.func (.func (fChk g)) #[] #[], .func (.func (fOut g)) #[] #[], .func (.func (fPut g)) #[] #[], .func (.func (fRead g)) #[] #[], .int .i64 (grpSz g : Nat)] 48))
  have G7 := Lib.hid (grown_alloc G6.out (.cells #[.func (.func (fChk g)) #[] #[], .func (.func (fOut g)) #[] #[], .func (.func (fPut g)) #[] #[], .func (.func (fRead g)) #[] #[], .int .i64 (grpSz g : Nat)] 48))
  generalize w6.alloc (.cells #[.func (.func (fChk g)) #[] #[], .func (.func (fOut g)) #[] #[], .func (.func (fPut g)) #[] #[], .func (.func (fRead g)) #[] #[], .int .i64 (grpSz g : Nat)] 48) = w7 at *
  refine (HV.out _ _ D7.out R7.out (by omega)).mono ?_; rintro e w8 ⟨rfl, d8, s8, z8, hd8, hr8, hk8, hp, hq⟩
  have hs4l := A4.out.lt
  have A8 := Lib.hid (A7.out.block (hk8.block _ A7.out.lt (by omega) (by omega)))
  have D8 := Lib.hid hd8
  have R8 := Lib.hid hr8
  have G8 := Lib.hid (Kept2.grown G7.out hs4 hk8)
  have HP := Lib.hid hp
  have HQ := Lib.hid hq
  clear hd8 hr8 hk8 hp hq hcall hcw
  go_wp2_with fail
  refine (err_any c s8 z8 _ R8.out).mono ?_; rintro e w9 ⟨rfl, rfl⟩
  have hz8 : w.heap.size < w8.heap.size := A8.out.lt
  by_cases hsh : a.size - 8 < grpSz g
  · obtain rfl := HP.out hsh
    have hzz : zz = 4 := by rw [HZ.out, HF.out, if_pos hsh]
    have hdd : dd = dg0 := by rw [HX.out, if_neg (by rw [hzz]; decide)]
    clear HP HQ hsh HZ HX HF
    subst hzz
    subst hdd
    have x0 := A8.out.cell 0 rfl
    have y0 := A8.out.free 0
    have x1 := A8.out.cell 1 rfl
    have y1 := A8.out.free 1
    have x2 := A8.out.cell 2 rfl
    have y2 := A8.out.free 2
    have x3 := A8.out.cell 3 rfl
    have y3 := A8.out.free 3
    have x4 := A8.out.cell 4 rfl
    have y4 := A8.out.free 4
    have x5 := A8.out.cell 5 rfl
    have y5 := A8.out.free 5
    have x6 := A8.out.cell 6 rfl
    have y6 := A8.out.free 6
    have x7 := A8.out.cell 7 rfl
    have y7 := A8.out.free 7
    have x8 := A8.out.cell 8 rfl
    have y8 := A8.out.free 8
    have x9 := A8.out.cell 9 rfl
    have y9 := A8.out.free 9
    go_wp2_with fail
    refine bodyPost_ret (v := .tuple #[dg0.val, .int .i64 4]) (res_fd (d := dg0) rfl rfl ((((((((((A8.out.set_ 0 _).set_ 1 _).set_ 2 _).set_ 3 _).set_ 4 _).set_ 5 _).set_ 6 _).set_ 7 _).set_ 8 _).set_ 9 _)) rfl ⟨rfl, ?_⟩
    repeat (with_reducible refine grown_setNew ?_ (Nat.le_refl _) _)
    exact G8.out
  · obtain ⟨rfl, rfl, hlf⟩ := HQ.out (by omega)
    by_cases hl : 0 < leftN g (a.size - 8)
    · have hzz : zz = 5 := by rw [HZ.out, HF.out, if_neg hsh, if_pos hl]
      have hdd : dd = dg0 := by rw [HX.out, if_neg (by rw [hzz]; decide)]
      rw [← hlf] at hl
      have HLF := Lib.hid (left_any c s8 0 _ R8.out)
      have hl2 : (0 : Int) < (s8.size : Int) := by omega
      clear HP HQ hsh HZ HX HF hlf hl
      subst hzz
      subst hdd
      have x0 := A8.out.cell 0 rfl
      have y0 := A8.out.free 0
      have x1 := A8.out.cell 1 rfl
      have y1 := A8.out.free 1
      have x2 := A8.out.cell 2 rfl
      have y2 := A8.out.free 2
      have x3 := A8.out.cell 3 rfl
      have y3 := A8.out.free 3
      have x4 := A8.out.cell 4 rfl
      have y4 := A8.out.free 4
      have x5 := A8.out.cell 5 rfl
      have y5 := A8.out.free 5
      have x6 := A8.out.cell 6 rfl
      have y6 := A8.out.free 6
      have x7 := A8.out.cell 7 rfl
      have y7 := A8.out.free 7
      have x8 := A8.out.cell 8 rfl
      have y8 := A8.out.free 8
      have x9 := A8.out.cell 9 rfl
      have y9 := A8.out.free 9
      go_wp2_with fail
      refine HLF.out.mono ?_; rintro e w10 ⟨rfl, rfl⟩
      go_wp2_with fail
      refine bodyPost_ret (v := .tuple #[dg0.val, .int .i64 5]) (res_fd (d := dg0) rfl rfl ((((((((((A8.out.set_ 0 _).set_ 1 _).set_ 2 _).set_ 3 _).set_ 4 _).set_ 5 _).set_ 6 _).set_ 7 _).set_ 8 _).set_ 9 _)) rfl ⟨rfl, ?_⟩
      repeat (with_reducible refine grown_setNew ?_ (Nat.le_refl _) _)
      exact G8.out
    · have hzz : zz = 0 := by rw [HZ.out, HF.out, if_neg hsh, if_neg hl]
      have hdd : dd = pD g a := by rw [HX.out, if_pos hzz]
      rw [← hlf] at hl
      have HLF := Lib.hid (left_any c s8 0 _ R8.out)
      have hl2 : (s8.size : Int) = 0 := by omega
      rw [hl2] at HLF
      clear HP HQ hsh HZ HX HF hlf hl hl2
      subst hzz
      subst hdd
      generalize pD g a = dx at *
      obtain ⟨b0, b1, b2, b3, b4, b5, b6, b7, b8, b9⟩ := dx
      have x0 := A8.out.cell 0 rfl
      have y0 := A8.out.free 0
      have x1 := A8.out.cell 1 rfl
      have y1 := A8.out.free 1
      have x2 := A8.out.cell 2 rfl
      have y2 := A8.out.free 2
      have x3 := A8.out.cell 3 rfl
      have y3 := A8.out.free 3
      have x4 := A8.out.cell 4 rfl
      have y4 := A8.out.free 4
      have x5 := A8.out.cell 5 rfl
      have y5 := A8.out.free 5
      have x6 := A8.out.cell 6 rfl
      have y6 := A8.out.free 6
      have x7 := A8.out.cell 7 rfl
      have y7 := A8.out.free 7
      have x8 := A8.out.cell 8 rfl
      have y8 := A8.out.free 8
      have x9 := A8.out.cell 9 rfl
      have y9 := A8.out.free 9
      have q0 := D8.out.cell 0 rfl
      have q1 := D8.out.cell 1 rfl
      have q2 := D8.out.cell 2 rfl
      have q3 := D8.out.cell 3 rfl
      have q4 := D8.out.cell 4 rfl
      have q5 := D8.out.cell 5 rfl
      have q6 := D8.out.cell 6 rfl
      have q7 := D8.out.cell 7 rfl
      have q8 := D8.out.cell 8 rfl
      have q9 := D8.out.cell 9 rfl
      go_wp2_with fail
      refine HLF.out.mono ?_; rintro e w10 ⟨rfl, rfl⟩
      go_wp2_with fail
      refine bodyPost_ret (v := .tuple #[Dg.val ⟨b0, b1, b2, b3, b4, b5, b6, b7, b8, b9⟩, .int .i64 0]) (res_fd (d := ⟨b0, b1, b2, b3, b4, b5, b6, b7, b8, b9⟩) rfl rfl ((((((((((A8.out.set_ 0 _).set_ 1 _).set_ 2 _).set_ 3 _).set_ 4 _).set_ 5 _).set_ 6 _).set_ 7 _).set_ 8 _).set_ 9 _)) rfl ⟨rfl, ?_⟩
      repeat (with_reducible refine grown_setNew ?_ (Nat.le_refl _) _)
      exact G8.out
/-- What fields answers. -/
def pOut (a : ByteArray) : Dg := if pE a = 0 then pD (grpOf (cutN a 2 3 : Nat)) a else dg0
theorem fields_any (a : ByteArray) (c : Nat) (w : World) (ha : a.size ≤ 281474976710656) (h8 : 8 ≤ a.size) (hr : Rd w c a 0) : Calls Try.prog 26 #[.pointer (some ⟨c, 0, none⟩)] w (GivesF w c (pOut a) (pE a)) := by
  by_cases hm : a.extract 0 2 = xLS
  · by_cases hk : 1 ≤ cutN a 2 3 ∧ cutN a 2 3 ≤ 6
    · have hz : pE a = grpF (grpOf (cutN a 2 3 : Nat)) (a.size - 8) := by
        unfold pE
        rw [if_neg (fun q => q hm), if_neg (fun q => q hk)]
      exact fields_read _ a c w ha h8 hr hm hk rfl _ _ hz rfl
    · have hz : pE a = 1 := by
        unfold pE
        rw [if_neg (fun q => q hm), if_pos hk]
      unfold pOut
      rw [hz, if_neg (by decide)]
      exact fields_kind a c w ha h8 hr hm hk
  · have hz : pE a = 5 := by
      unfold pE
      rw [if_pos hm]
    unfold pOut
    rw [hz, if_neg (by decide)]
    exact fields_mark a c w ha h8 hr hm
end Go.Proofs.Ytekolkbahhbcjaa

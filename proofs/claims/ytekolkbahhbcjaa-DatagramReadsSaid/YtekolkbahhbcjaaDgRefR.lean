/- Proved: what the document's Read answers. Conditions: those that the theorems name. -/
import Derived.Test.YtekolkbahhbcjaaDgRefG
import Derived.Laws.DeepStrings4
namespace Go.Proofs.Ytekolkbahhbcjaa
open Go.ChangeShapes Go.WideShapes Go.ChangeAt Go.RowKit

theorem res_rr {T : Array Value} {W : World} {b : Nat} {z : Int} {d : Dg} (h2 : T.getD 2 undef = .pointer (some ⟨b, 0, none⟩)) (h3 : T.getD 3 undef = .int .i64 z) (A : At W b 24 d.cells) : (results Try.f15 T).run Try.prog W = .ok (.tuple #[d.val, .int .i64 z]) W := by
  have h2' : T[2]?.getD undef = .pointer (some ⟨b, 0, none⟩) := by simpa using h2
  have h3' : T[3]?.getD undef = .int .i64 z := by simpa using h3
  have c0 := A.cell 0 rfl
  have c1 := A.cell 1 rfl
  have c2 := A.cell 2 rfl
  have c3 := A.cell 3 rfl
  have c4 := A.cell 4 rfl
  have c5 := A.cell 5 rfl
  have c6 := A.cell 6 rfl
  have c7 := A.cell 7 rfl
  have c8 := A.cell 8 rfl
  have c9 := A.cell 9 rfl
  simp [results, Try.results15, h2', h3', c0, c1, c2, c3, c4, c5, c6, c7, c8, c9, Dg.val, go_sem]
theorem cut_one (a : ByteArray) (i : Nat) (h : i < a.size) : cutN a i (i + 1) = (bts a).getD i 0 := by
  unfold cutN numS
  have hz : (a.extract i (i + 1)).size = 1 := by rw [ByteArray.size_extract]; omega
  rw [hz, bts_extract]
  show numK 0 _ * 256 + _ = _
  rw [show numK 0 ((bts a).take (i + 1) |>.drop i) = 0 from rfl, Nat.zero_mul, Nat.zero_add, List.getD_eq_getElem?_getD, List.getD_eq_getElem?_getD]
  congr 1
  simp
theorem sum_same {s : ByteArray} (h : ¬ s.size < 12) : (tx (byteL (crcS 0 (front s)) 4) = s.extract (s.size - 4) s.size) ↔ sumOf s = crcS 0 (front s) := by
  constructor
  · intro e
    unfold sumOf
    rw [← e]
    exact num_put (crcS_lt (by decide) _)
  · intro e
    rw [← e]
    exact sum_text h
theorem s0_list : S0.toList = [] := by rw [ByteArray.toList_eq]; rfl
theorem rfields_agg (a : ByteArray) (w : World) (ha : a.size ≤ 281474976710656) (h8 : 8 ≤ a.size) (hk : 1 ≤ cutN a 2 3 ∧ cutN a 2 3 ≤ 6) : Calls Try.prog 28 #[.agg #[.string (sfx a 8), .int .i64 0], .agg #[.int .i64 (cutN a 2 3 : Nat), .int .i64 (cutN a 3 4 : Nat), .int .u32 (cutN a 4 8 : Nat), .int .i64 0, .int .i64 0, .int .i64 0, .int .i64 0, .int .i64 0, .string ⟨#[]⟩, .string ⟨#[]⟩]] w (GivesRX w (grpOf (cutN a 2 3 : Nat)) a) := rfields_any a w ha h8 hk
set_option maxRecDepth 100000 in
set_option maxHeartbeats 3200000 in
theorem rread_cut (s : ByteArray) (w : World) (h : s.size < 12) : Calls Try.prog 15 #[.string s] w (GivesDZ w dg0 4) := by
  have h1 : (s.size : Int) < 12 := by omega
  clear h
  go_enter Try.func15, Try.ntmps15
  go_wp2_with fail
  refine bodyPost_ret (v := .tuple #[dg0.val, .int .i64 4]) (res_rr (d := dg0) rfl rfl (At.new w 24 [.int .i64 0, .int .i64 0, .int .u32 0, .int .i64 0, .int .i64 0, .int .i64 0, .int .i64 0, .int .i64 0, .string ⟨#[]⟩, .string ⟨#[]⟩])) rfl ⟨rfl, (Below.refl _ _).alloc (Nat.le_refl _) _⟩
set_option maxRecDepth 100000 in
set_option maxHeartbeats 3200000 in
theorem rread_sum (s : ByteArray) (w : World) (h : ¬ s.size < 12) (hs : s.size ≤ 281474976710656) (hn : sumOf s ≠ crcS 0 (front s)) : Calls Try.prog 15 #[.string s] w (GivesDZ w dg0 6) := by
  have h1 : (12 : Int) ≤ (s.size : Int) := by omega
  have h2 : (s.size : Int) ≤ 281474976710656 := by omega
  have hw : IntKind.i64.wrap ((s.size : Int) - 4) = (s.size : Int) - 4 := IntWalk.i64_in _ (by omega)
  have hs1 : ∀ W, (Instr.slice 9 (Value.string s) none (some (Value.int .i64 ((s.size : Int) - 4))) none).run Try.prog W = .ok (Value.string (front s)) W := fun W => by
    rw [run_slice_string_to_if W 9 s .i64 ((s.size : Int) - 4) Try.underlying9, if_pos ⟨by omega, by omega⟩]
    unfold front
    rw [show ((s.size : Int) - 4).toNat = s.size - 4 by omega]
  have hs2 : ∀ W, (Instr.slice 9 (Value.string s) (some (Value.int .i64 ((s.size : Int) - 4))) none none).run Try.prog W = .ok (Value.string (s.extract (s.size - 4) s.size)) W := fun W => by
    rw [run_slice_string_from_if W 9 s .i64 ((s.size : Int) - 4) Try.underlying9, if_pos ⟨by omega, by omega⟩]
    rw [show ((s.size : Int) - 4).toNat = s.size - 4 by omega]
  have hfz := front_size s
  have HSM : Hid (∀ w, Calls Try.prog 21 #[.string (front s)] w fun e w' => e = .returned (.int .u32 (crcS 0 (front s) : Nat)) ∧ w = w') := Lib.hid fun w => rsum7_any (front s) (by unfold maxLen; omega) w
  have hcr := crcS_lt (c := 0) (by decide) (front s)
  have HNM : Hid (∀ w, Calls Try.prog 20 #[.int .i64 (crcS 0 (front s) : Nat), .int .i64 4] w (GivesT w (tx (byteL (crcS 0 (front s)) 4)))) := Lib.hid fun w => rnum_text _ 4 w (by simp) hcr
  have cr0 : (0 : Int) ≤ (crcS 0 (front s) : Int) := Int.natCast_nonneg _
  have cr1 : (crcS 0 (front s) : Int) < 4294967296 := by omega
  have hwc : IntKind.i64.wrap (crcS 0 (front s) : Int) = (crcS 0 (front s) : Int) := IntWalk.i64_in _ (by omega)
  have hne := list_no (fun q => hn ((sum_same h).1 q))
  generalize tx (byteL (crcS 0 (front s)) 4) = X at *
  generalize s.extract (s.size - 4) s.size = Y at *
  generalize crcS 0 (front s) = cr at *
  generalize front s = A at *
  clear h hs hn hfz hcr cr0 cr1
  go_enter Try.func15, Try.ntmps15
  go_wp2_with fail
  have HH2 := Lib.hid (And.intro h1 h2)
  clear h1 h2
  have A1 : Hid (At (w.alloc (.cells #[.int .i64 0, .int .i64 0, .int .u32 0, .int .i64 0, .int .i64 0, .int .i64 0, .int .i64 0, .int .i64 0, .string ⟨#[]⟩, .string ⟨#[]⟩] 24)) w.heap.size 24 [.int .i64 0, .int .i64 0, .int .u32 0, .int .i64 0, .int .i64 0, .int .i64 0, .int .i64 0, .int .i64 0, .string ⟨#[]⟩, .string ⟨#[]⟩]) := Lib.hid (At.new w 24 [.int .i64 0, .int .i64 0, .int .u32 0, .int .i64 0, .int .i64 0, .int .i64 0, .int .i64 0, .int .i64 0, .string ⟨#[]⟩, .string ⟨#[]⟩])
  have B1 := Lib.hid ((Below.refl w.heap.size w).alloc (Nat.le_refl _) (.cells #[.int .i64 0, .int .i64 0, .int .u32 0, .int .i64 0, .int .i64 0, .int .i64 0, .int .i64 0, .int .i64 0, .string ⟨#[]⟩, .string ⟨#[]⟩] 24))
  generalize w.alloc (.cells #[.int .i64 0, .int .i64 0, .int .u32 0, .int .i64 0, .int .i64 0, .int .i64 0, .int .i64 0, .int .i64 0, .string ⟨#[]⟩, .string ⟨#[]⟩] 24) = w1 at *
  have KP : Hid (∀ w6, Below w1.heap.size w1 w6 → w6.cell? ⟨w.heap.size, 0, none⟩ = some (.int .i64 0)) := Lib.hid fun w6 h => (A1.out.below h A1.out.lt).cell 0 rfl
  have BA : Hid (∀ w6, Below w1.drew.heap.size w1.drew w6 → Below w1.heap.size w1 w6) := Lib.hid fun w6 h => (Below.refl w1.heap.size w1).drew.trans h
  have c0 := KP.out w1.drew (BA.out _ (Below.refl _ _))
  go_region_held3 (fun w' => w'.cell? ⟨w.heap.size, 0, none⟩ = some (.int .i64 0))
    (first | go_keep | exact KP.out _ (BA.out _ (Below.refl _ _)) | exact KP.out _ Q1.out)
    (first
      | ((with_reducible refine (HSM.out _).mono ?_); rintro e w2 ⟨rfl, rfl⟩)
      | ((with_reducible refine (HNM.out _).mono ?_); rintro e w3 ⟨rfl, g3⟩; have Q1 := Lib.hid (BA.out _ g3); clear g3))
  have A3 := Lib.hid (A1.out.below Q1.out A1.out.lt)
  have B3 := Lib.hid (B1.out.trans (Q1.out.mono B1.out.size))
  clear c0 KP BA Q1 A1 B1
  have x0 := A3.out.cell 0 rfl
  have y0 := A3.out.free 0
  have x1 := A3.out.cell 1 rfl
  have y1 := A3.out.free 1
  have x2 := A3.out.cell 2 rfl
  have y2 := A3.out.free 2
  have x3 := A3.out.cell 3 rfl
  have y3 := A3.out.free 3
  have x4 := A3.out.cell 4 rfl
  have y4 := A3.out.free 4
  have x5 := A3.out.cell 5 rfl
  have y5 := A3.out.free 5
  have x6 := A3.out.cell 6 rfl
  have y6 := A3.out.free 6
  have x7 := A3.out.cell 7 rfl
  have y7 := A3.out.free 7
  have x8 := A3.out.cell 8 rfl
  have y8 := A3.out.free 8
  have x9 := A3.out.cell 9 rfl
  have y9 := A3.out.free 9
  go_wp2_with fail
  refine bodyPost_ret (v := .tuple #[dg0.val, .int .i64 6]) (res_rr (d := dg0) rfl rfl (At.set_ (At.set_ (At.set_ (At.set_ (At.set_ (At.set_ (At.set_ (At.set_ (At.set_ (At.set_ A3.out 0 _) 1 _) 2 _) 3 _) 4 _) 5 _) 6 _) 7 _) 8 _) 9 _)) rfl ⟨rfl, ?_⟩
  repeat (with_reducible refine below_setNew ?_ (Nat.le_refl _) _)
  exact B3.out
set_option maxRecDepth 100000 in
set_option maxHeartbeats 3200000 in
theorem rread_mark (s : ByteArray) (w : World) (h : ¬ s.size < 12) (hs : s.size ≤ 281474976710656) (hn : sumOf s = crcS 0 (front s)) (hm : (front s).extract 0 2 ≠ xLS) : Calls Try.prog 15 #[.string s] w (GivesDZ w dg0 5) := by
  have h1 : (12 : Int) ≤ (s.size : Int) := by omega
  have h2 : (s.size : Int) ≤ 281474976710656 := by omega
  have hw : IntKind.i64.wrap ((s.size : Int) - 4) = (s.size : Int) - 4 := IntWalk.i64_in _ (by omega)
  have hs1 : ∀ W, (Instr.slice 9 (Value.string s) none (some (Value.int .i64 ((s.size : Int) - 4))) none).run Try.prog W = .ok (Value.string (front s)) W := fun W => by
    rw [run_slice_string_to_if W 9 s .i64 ((s.size : Int) - 4) Try.underlying9, if_pos ⟨by omega, by omega⟩]
    unfold front
    rw [show ((s.size : Int) - 4).toNat = s.size - 4 by omega]
  have hs2 : ∀ W, (Instr.slice 9 (Value.string s) (some (Value.int .i64 ((s.size : Int) - 4))) none none).run Try.prog W = .ok (Value.string (s.extract (s.size - 4) s.size)) W := fun W => by
    rw [run_slice_string_from_if W 9 s .i64 ((s.size : Int) - 4) Try.underlying9, if_pos ⟨by omega, by omega⟩]
    rw [show ((s.size : Int) - 4).toNat = s.size - 4 by omega]
  have hfz := front_size s
  have HSM : Hid (∀ w, Calls Try.prog 21 #[.string (front s)] w fun e w' => e = .returned (.int .u32 (crcS 0 (front s) : Nat)) ∧ w = w') := Lib.hid fun w => rsum7_any (front s) (by unfold maxLen; omega) w
  have hcr := crcS_lt (c := 0) (by decide) (front s)
  have HNM : Hid (∀ w, Calls Try.prog 20 #[.int .i64 (crcS 0 (front s) : Nat), .int .i64 4] w (GivesT w (tx (byteL (crcS 0 (front s)) 4)))) := Lib.hid fun w => rnum_text _ 4 w (by simp) hcr
  have cr0 : (0 : Int) ≤ (crcS 0 (front s) : Int) := Int.natCast_nonneg _
  have cr1 : (crcS 0 (front s) : Int) < 4294967296 := by omega
  have hwc : IntKind.i64.wrap (crcS 0 (front s) : Int) = (crcS 0 (front s) : Int) := IntWalk.i64_in _ (by omega)
  have hee : ((tx (byteL (crcS 0 (front s)) 4)).toList == (s.extract (s.size - 4) s.size).toList) = true := by
    rw [(sum_same h).2 hn]; simp
  have HI2 : ∀ W, (Instr.index 9 (Value.string s) (Value.int .i64 2)).run Try.prog W = .ok (Value.int .u8 (cutN (front s) 2 3 : Nat)) W := fun W => by
    have q := index_at9 s 2 (by omega) W
    rw [show cutN (front s) 2 3 = (bts s).getD 2 0 by rw [cut_one _ 2 (by omega), front_at (by omega)]]
    exact q
  have HI3 : ∀ W, (Instr.index 9 (Value.string s) (Value.int .i64 3)).run Try.prog W = .ok (Value.int .u8 (cutN (front s) 3 4 : Nat)) W := fun W => by
    have q := index_at9 s 3 (by omega) W
    rw [show cutN (front s) 3 4 = (bts s).getD 3 0 by rw [cut_one _ 3 (by omega), front_at (by omega)]]
    exact q
  have HSL : ∀ W, (Instr.slice 9 (Value.string s) none (some (Value.int .i64 2)) none).run Try.prog W = .ok (Value.string ((front s).extract 0 2)) W := fun W => by
    rw [run_slice_string_to_if W 9 s .i64 2 Try.underlying9, if_pos ⟨by omega, by omega⟩]
    unfold front
    rw [extract_extract' s (by omega)]
    rfl
  have HS4 : ∀ W, (Instr.slice 9 (Value.string s) (some (Value.int .i64 4)) (some (Value.int .i64 ((s.size : Int) - 4))) none).run Try.prog W = .ok (Value.string (sfx (front s) 4)) W := fun W => by
    rw [run_slice_string_if W 9 s .i64 .i64 4 ((s.size : Int) - 4) Try.underlying9, if_pos ⟨by omega, by omega⟩, if_pos ⟨by omega, by omega⟩]
    unfold sfx
    rw [hfz]
    unfold front
    rw [extract_extract' s (by omega), show ((s.size : Int) - 4).toNat = s.size - 4 by omega, Nat.zero_add, Nat.zero_add]
    rfl
  have hne := ls_no hm
  clear HI2 HI3 HS4
  generalize tx (byteL (crcS 0 (front s)) 4) = X at *
  generalize s.extract (s.size - 4) s.size = Y at *
  generalize crcS 0 (front s) = cr at *
  generalize (front s).extract 0 2 = M at *
  generalize front s = A at *
  clear h hs hn hm hfz hcr cr0 cr1
  go_enter Try.func15, Try.ntmps15
  go_wp2_with fail
  have HH2 := Lib.hid (And.intro h1 h2)
  clear h1 h2
  have A1 : Hid (At (w.alloc (.cells #[.int .i64 0, .int .i64 0, .int .u32 0, .int .i64 0, .int .i64 0, .int .i64 0, .int .i64 0, .int .i64 0, .string ⟨#[]⟩, .string ⟨#[]⟩] 24)) w.heap.size 24 [.int .i64 0, .int .i64 0, .int .u32 0, .int .i64 0, .int .i64 0, .int .i64 0, .int .i64 0, .int .i64 0, .string ⟨#[]⟩, .string ⟨#[]⟩]) := Lib.hid (At.new w 24 [.int .i64 0, .int .i64 0, .int .u32 0, .int .i64 0, .int .i64 0, .int .i64 0, .int .i64 0, .int .i64 0, .string ⟨#[]⟩, .string ⟨#[]⟩])
  have B1 := Lib.hid ((Below.refl w.heap.size w).alloc (Nat.le_refl _) (.cells #[.int .i64 0, .int .i64 0, .int .u32 0, .int .i64 0, .int .i64 0, .int .i64 0, .int .i64 0, .int .i64 0, .string ⟨#[]⟩, .string ⟨#[]⟩] 24))
  generalize w.alloc (.cells #[.int .i64 0, .int .i64 0, .int .u32 0, .int .i64 0, .int .i64 0, .int .i64 0, .int .i64 0, .int .i64 0, .string ⟨#[]⟩, .string ⟨#[]⟩] 24) = w1 at *
  have KP : Hid (∀ w6, Below w1.heap.size w1 w6 → w6.cell? ⟨w.heap.size, 0, none⟩ = some (.int .i64 0)) := Lib.hid fun w6 h => (A1.out.below h A1.out.lt).cell 0 rfl
  have BA : Hid (∀ w6, Below w1.drew.heap.size w1.drew w6 → Below w1.heap.size w1 w6) := Lib.hid fun w6 h => (Below.refl w1.heap.size w1).drew.trans h
  have c0 := KP.out w1.drew (BA.out _ (Below.refl _ _))
  go_region_held3 (fun w' => w'.cell? ⟨w.heap.size, 0, none⟩ = some (.int .i64 0))
    (first | go_keep | exact KP.out _ (BA.out _ (Below.refl _ _)) | exact KP.out _ Q1.out)
    (first
      | ((with_reducible refine (HSM.out _).mono ?_); rintro e w2 ⟨rfl, rfl⟩)
      | ((with_reducible refine (HNM.out _).mono ?_); rintro e w3 ⟨rfl, g3⟩; have Q1 := Lib.hid (BA.out _ g3); clear g3))
  have A3 := Lib.hid (A1.out.below Q1.out A1.out.lt)
  have B3 := Lib.hid (B1.out.trans (Q1.out.mono B1.out.size))
  clear c0 KP BA Q1 A1 B1
  have x0 := A3.out.cell 0 rfl
  have y0 := A3.out.free 0
  have x1 := A3.out.cell 1 rfl
  have y1 := A3.out.free 1
  have x2 := A3.out.cell 2 rfl
  have y2 := A3.out.free 2
  have x3 := A3.out.cell 3 rfl
  have y3 := A3.out.free 3
  have x4 := A3.out.cell 4 rfl
  have y4 := A3.out.free 4
  have x5 := A3.out.cell 5 rfl
  have y5 := A3.out.free 5
  have x6 := A3.out.cell 6 rfl
  have y6 := A3.out.free 6
  have x7 := A3.out.cell 7 rfl
  have y7 := A3.out.free 7
  have x8 := A3.out.cell 8 rfl
  have y8 := A3.out.free 8
  have x9 := A3.out.cell 9 rfl
  have y9 := A3.out.free 9
  go_wp2_with fail
  refine bodyPost_ret (v := .tuple #[dg0.val, .int .i64 5]) (res_rr (d := dg0) rfl rfl (At.set_ (At.set_ (At.set_ (At.set_ (At.set_ (At.set_ (At.set_ (At.set_ (At.set_ (At.set_ A3.out 0 _) 1 _) 2 _) 3 _) 4 _) 5 _) 6 _) 7 _) 8 _) 9 _)) rfl ⟨rfl, ?_⟩
  repeat (with_reducible refine below_setNew ?_ (Nat.le_refl _) _)
  exact B3.out
set_option maxRecDepth 100000 in
set_option maxHeartbeats 3200000 in
theorem rread_rest (s : ByteArray) (w : World) (h : ¬ s.size < 12) (hs : s.size ≤ 281474976710656) (hn : sumOf s = crcS 0 (front s)) (hm : (front s).extract 0 2 = xLS) (dd : Dg) (zz : Int) (hz : zz = rE s) (hd : dd = rD s) : Calls Try.prog 15 #[.string s] w (GivesDZ w dd zz) := by
  have h1 : (12 : Int) ≤ (s.size : Int) := by omega
  have h2 : (s.size : Int) ≤ 281474976710656 := by omega
  have hw : IntKind.i64.wrap ((s.size : Int) - 4) = (s.size : Int) - 4 := IntWalk.i64_in _ (by omega)
  have hs1 : ∀ W, (Instr.slice 9 (Value.string s) none (some (Value.int .i64 ((s.size : Int) - 4))) none).run Try.prog W = .ok (Value.string (front s)) W := fun W => by
    rw [run_slice_string_to_if W 9 s .i64 ((s.size : Int) - 4) Try.underlying9, if_pos ⟨by omega, by omega⟩]
    unfold front
    rw [show ((s.size : Int) - 4).toNat = s.size - 4 by omega]
  have hs2 : ∀ W, (Instr.slice 9 (Value.string s) (some (Value.int .i64 ((s.size : Int) - 4))) none none).run Try.prog W = .ok (Value.string (s.extract (s.size - 4) s.size)) W := fun W => by
    rw [run_slice_string_from_if W 9 s .i64 ((s.size : Int) - 4) Try.underlying9, if_pos ⟨by omega, by omega⟩]
    rw [show ((s.size : Int) - 4).toNat = s.size - 4 by omega]
  have hfz := front_size s
  have HSM : Hid (∀ w, Calls Try.prog 21 #[.string (front s)] w fun e w' => e = .returned (.int .u32 (crcS 0 (front s) : Nat)) ∧ w = w') := Lib.hid fun w => rsum7_any (front s) (by unfold maxLen; omega) w
  have hcr := crcS_lt (c := 0) (by decide) (front s)
  have HNM : Hid (∀ w, Calls Try.prog 20 #[.int .i64 (crcS 0 (front s) : Nat), .int .i64 4] w (GivesT w (tx (byteL (crcS 0 (front s)) 4)))) := Lib.hid fun w => rnum_text _ 4 w (by simp) hcr
  have cr0 : (0 : Int) ≤ (crcS 0 (front s) : Int) := Int.natCast_nonneg _
  have cr1 : (crcS 0 (front s) : Int) < 4294967296 := by omega
  have hwc : IntKind.i64.wrap (crcS 0 (front s) : Int) = (crcS 0 (front s) : Int) := IntWalk.i64_in _ (by omega)
  have hee : ((tx (byteL (crcS 0 (front s)) 4)).toList == (s.extract (s.size - 4) s.size).toList) = true := by
    rw [(sum_same h).2 hn]; simp
  have HI2 : ∀ W, (Instr.index 9 (Value.string s) (Value.int .i64 2)).run Try.prog W = .ok (Value.int .u8 (cutN (front s) 2 3 : Nat)) W := fun W => by
    have q := index_at9 s 2 (by omega) W
    rw [show cutN (front s) 2 3 = (bts s).getD 2 0 by rw [cut_one _ 2 (by omega), front_at (by omega)]]
    exact q
  have HI3 : ∀ W, (Instr.index 9 (Value.string s) (Value.int .i64 3)).run Try.prog W = .ok (Value.int .u8 (cutN (front s) 3 4 : Nat)) W := fun W => by
    have q := index_at9 s 3 (by omega) W
    rw [show cutN (front s) 3 4 = (bts s).getD 3 0 by rw [cut_one _ 3 (by omega), front_at (by omega)]]
    exact q
  have HSL : ∀ W, (Instr.slice 9 (Value.string s) none (some (Value.int .i64 2)) none).run Try.prog W = .ok (Value.string ((front s).extract 0 2)) W := fun W => by
    rw [run_slice_string_to_if W 9 s .i64 2 Try.underlying9, if_pos ⟨by omega, by omega⟩]
    unfold front
    rw [extract_extract' s (by omega)]
    rfl
  have HS4 : ∀ W, (Instr.slice 9 (Value.string s) (some (Value.int .i64 4)) (some (Value.int .i64 ((s.size : Int) - 4))) none).run Try.prog W = .ok (Value.string (sfx (front s) 4)) W := fun W => by
    rw [run_slice_string_if W 9 s .i64 .i64 4 ((s.size : Int) - 4) Try.underlying9, if_pos ⟨by omega, by omega⟩, if_pos ⟨by omega, by omega⟩]
    unfold sfx
    rw [hfz]
    unfold front
    rw [extract_extract' s (by omega), show ((s.size : Int) - 4).toNat = s.size - 4 by omega, Nat.zero_add, Nat.zero_add]
    rfl
  have hne := ls_yes hm
  have HNB : Hid (∀ w, Calls Try.prog 27 #[.agg #[.string (sfx (front s) 4), .int .i64 0], .int .i64 4] w (GivesR9 w (sfx (front s) 8) 0 (.int .u32 (cutN (front s) 4 8 : Nat)))) := Lib.hid fun w => rnum_at (front s) 4 4 8 w rfl (by omega) (by omega) (by simp)
  have hvk := cutN_lt (a := front s) (i := 2) (j := 3) (k := 1) (by omega) rfl
  have hvs := cutN_lt (a := front s) (i := 3) (j := 4) (k := 1) (by omega) rfl
  -- the answer, case by case
  have Z1 : Hid (¬ (1 ≤ cutN (front s) 2 3 ∧ cutN (front s) 2 3 ≤ 6) → zz = 1) := Lib.hid fun q => by
    have e : pE (front s) = 1 := by unfold pE; rw [if_neg (fun r => r hm), if_pos q]
    rw [hz, rE_fields h hn (by rw [e]; decide), e]
  have ZE : (1 ≤ cutN (front s) 2 3 ∧ cutN (front s) 2 3 ≤ 6) → pE (front s) = grpF (grpOf (cutN (front s) 2 3 : Nat)) ((front s).size - 8) := fun q => by
    unfold pE; rw [if_neg (fun r => r hm), if_neg (fun r => r q)]
  have Z2 : Hid ((1 ≤ cutN (front s) 2 3 ∧ cutN (front s) 2 3 ≤ 6) → (front s).size - 8 < grpSz (grpOf (cutN (front s) 2 3 : Nat)) → zz = 4) := Lib.hid fun q r => by
    have e := ZE q
    rw [grpF_is, if_pos r] at e
    rw [hz, rE_fields h hn (by rw [e]; decide), e]
  have Z3 : Hid ((1 ≤ cutN (front s) 2 3 ∧ cutN (front s) 2 3 ≤ 6) → grpSz (grpOf (cutN (front s) 2 3 : Nat)) ≤ (front s).size - 8 → 0 < leftN (grpOf (cutN (front s) 2 3 : Nat)) ((front s).size - 8) → zz = 5) := Lib.hid fun q r t => by
    have e := ZE q
    rw [grpF_is, if_neg (by omega), if_pos t] at e
    rw [hz, rE_fields h hn (by rw [e]; decide), e]
  have Z4 : Hid ((1 ≤ cutN (front s) 2 3 ∧ cutN (front s) 2 3 ≤ 6) → grpSz (grpOf (cutN (front s) 2 3 : Nat)) ≤ (front s).size - 8 → ¬ 0 < leftN (grpOf (cutN (front s) 2 3 : Nat)) ((front s).size - 8) → zz = chk (pD (grpOf (cutN (front s) 2 3 : Nat)) (front s))) := Lib.hid fun q r t => by
    have e := ZE q
    rw [grpF_is, if_neg (by omega), if_neg t] at e
    rw [hz, rE_check h hn e]
  have Z5 : Hid (zz ≠ 0 → dd = dg0) := Lib.hid fun q => by rw [hd]; exact rD_bad (by rw [← hz]; exact q)
  have Z6 : Hid (zz = 0 → dd = pD (grpOf (cutN (front s) 2 3 : Nat)) (front s)) := Lib.hid fun q => by rw [hd]; exact rD_good (by rw [← hz]; exact q)
  have HFF : Hid ((1 ≤ cutN (front s) 2 3 ∧ cutN (front s) 2 3 ≤ 6) → ∀ w, Calls Try.prog 28 #[.agg #[.string (sfx (front s) 8), .int .i64 0], .agg #[.int .i64 (cutN (front s) 2 3 : Nat), .int .i64 (cutN (front s) 3 4 : Nat), .int .u32 (cutN (front s) 4 8 : Nat), .int .i64 0, .int .i64 0, .int .i64 0, .int .i64 0, .int .i64 0, .string ⟨#[]⟩, .string ⟨#[]⟩]] w (GivesRX w (grpOf (cutN (front s) 2 3 : Nat)) (front s))) := Lib.hid fun q w => rfields_agg (front s) w (by omega) (by omega) q
  generalize tx (byteL (crcS 0 (front s)) 4) = X at *
  generalize s.extract (s.size - 4) s.size = Y at *
  generalize crcS 0 (front s) = cr at *
  generalize (front s).extract 0 2 = M at *
  generalize cutN (front s) 2 3 = vk at *
  generalize cutN (front s) 3 4 = vs at *
  generalize cutN (front s) 4 8 = vb at *
  generalize sfx (front s) 4 = S4 at *
  generalize sfx (front s) 8 = S8 at *
  generalize front s = A at *
  have k0 : (0 : Int) ≤ (vk : Int) := Int.natCast_nonneg _
  have k1 : (vk : Int) < 256 := by omega
  have s0 : (0 : Int) ≤ (vs : Int) := Int.natCast_nonneg _
  have s1 : (vs : Int) < 256 := by omega
  clear h hs hn hm hfz hcr cr0 cr1 hvk hvs hz hd ZE
  go_enter Try.func15, Try.ntmps15
  go_wp2_with fail
  have HH2 := Lib.hid (And.intro h1 h2)
  clear h1 h2
  have A1 : Hid (At (w.alloc (.cells #[.int .i64 0, .int .i64 0, .int .u32 0, .int .i64 0, .int .i64 0, .int .i64 0, .int .i64 0, .int .i64 0, .string ⟨#[]⟩, .string ⟨#[]⟩] 24)) w.heap.size 24 [.int .i64 0, .int .i64 0, .int .u32 0, .int .i64 0, .int .i64 0, .int .i64 0, .int .i64 0, .int .i64 0, .string ⟨#[]⟩, .string ⟨#[]⟩]) := Lib.hid (At.new w 24 [.int .i64 0, .int .i64 0, .int .u32 0, .int .i64 0, .int .i64 0, .int .i64 0, .int .i64 0, .int .i64 0, .string ⟨#[]⟩, .string ⟨#[]⟩])
  have B1 := Lib.hid ((Below.refl w.heap.size w).alloc (Nat.le_refl _) (.cells #[.int .i64 0, .int .i64 0, .int .u32 0, .int .i64 0, .int .i64 0, .int .i64 0, .int .i64 0, .int .i64 0, .string ⟨#[]⟩, .string ⟨#[]⟩] 24))
  generalize w.alloc (.cells #[.int .i64 0, .int .i64 0, .int .u32 0, .int .i64 0, .int .i64 0, .int .i64 0, .int .i64 0, .int .i64 0, .string ⟨#[]⟩, .string ⟨#[]⟩] 24) = w1 at *
  have KP : Hid (∀ w6, Below w1.heap.size w1 w6 → w6.cell? ⟨w.heap.size, 0, none⟩ = some (.int .i64 0)) := Lib.hid fun w6 h => (A1.out.below h A1.out.lt).cell 0 rfl
  have BA : Hid (∀ w6, Below w1.drew.heap.size w1.drew w6 → Below w1.heap.size w1 w6) := Lib.hid fun w6 h => (Below.refl w1.heap.size w1).drew.trans h
  have c0 := KP.out w1.drew (BA.out _ (Below.refl _ _))
  go_region_held3 (fun w' => w'.cell? ⟨w.heap.size, 0, none⟩ = some (.int .i64 0))
    (first | go_keep | exact KP.out _ (BA.out _ (Below.refl _ _)) | exact KP.out _ Q1.out)
    (first
      | ((with_reducible refine (HSM.out _).mono ?_); rintro e w2 ⟨rfl, rfl⟩)
      | ((with_reducible refine (HNM.out _).mono ?_); rintro e w3 ⟨rfl, g3⟩; have Q1 := Lib.hid (BA.out _ g3); clear g3))
  have A3 := Lib.hid (A1.out.below Q1.out A1.out.lt)
  have B3 := Lib.hid (B1.out.trans (Q1.out.mono B1.out.size))
  clear c0 KP BA Q1 A1 B1
  have hz3 := A3.out.lt
  go_wp2_with fail
  go_region
  have A4 := Lib.hid (At.drew (A3.out.alloc (.cells #[.int .i64 (vk : Nat), .int .i64 (vs : Nat), .int .u32 0, .int .i64 0, .int .i64 0, .int .i64 0, .int .i64 0, .int .i64 0, .string ⟨#[]⟩, .string ⟨#[]⟩] 24)))
  have D4 : Hid (At (w3.alloc (.cells #[.int .i64 (vk : Nat), .int .i64 (vs : Nat), .int .u32 0, .int .i64 0, .int .i64 0, .int .i64 0, .int .i64 0, .int .i64 0, .string ⟨#[]⟩, .string ⟨#[]⟩] 24)).drew w3.heap.size 24 [.int .i64 (vk : Nat), .int .i64 (vs : Nat), .int .u32 0, .int .i64 0, .int .i64 0, .int .i64 0, .int .i64 0, .int .i64 0, .string ⟨#[]⟩, .string ⟨#[]⟩]) := Lib.hid (At.new w3 24 [.int .i64 (vk : Nat), .int .i64 (vs : Nat), .int .u32 0, .int .i64 0, .int .i64 0, .int .i64 0, .int .i64 0, .int .i64 0, .string ⟨#[]⟩, .string ⟨#[]⟩])
  have B4 := Lib.hid (B3.out.alloc B3.out.size (.cells #[.int .i64 (vk : Nat), .int .i64 (vs : Nat), .int .u32 0, .int .i64 0, .int .i64 0, .int .i64 0, .int .i64 0, .int .i64 0, .string ⟨#[]⟩, .string ⟨#[]⟩] 24)).drew
  have hdb : w.heap.size ≤ w3.heap.size := B3.out.size
  generalize (w3.alloc (.cells #[.int .i64 (vk : Nat), .int .i64 (vs : Nat), .int .u32 0, .int .i64 0, .int .i64 0, .int .i64 0, .int .i64 0, .int .i64 0, .string ⟨#[]⟩, .string ⟨#[]⟩] 24)).drew = w4 at *
  generalize w3.heap.size = db at *
  clear A3 B3 hw hs1 hs2 HI2 HI3 HSL hee hne hwc
  go_wp2_with fail
  refine (HNB.out _).mono ?_; rintro e w5 ⟨rfl, g5⟩
  have A5 := Lib.hid (A4.out.below g5 A4.out.lt)
  have D5 := Lib.hid (D4.out.below g5 D4.out.lt)
  have B5 := Lib.hid (B4.out.trans (g5.mono B4.out.size))
  clear g5 A4 D4 B4 HS4
  have hz5 := D5.out.lt
  have hz6 := A5.out.lt
  have dc0 := D5.out.cell 0 rfl
  have df0 := D5.out.free 0
  have dc1 := D5.out.cell 1 rfl
  have df1 := D5.out.free 1
  have dc2 := D5.out.cell 2 rfl
  have df2 := D5.out.free 2
  have dc3 := D5.out.cell 3 rfl
  have df3 := D5.out.free 3
  have dc4 := D5.out.cell 4 rfl
  have df4 := D5.out.free 4
  have dc5 := D5.out.cell 5 rfl
  have df5 := D5.out.free 5
  have dc6 := D5.out.cell 6 rfl
  have df6 := D5.out.free 6
  have dc7 := D5.out.cell 7 rfl
  have df7 := D5.out.free 7
  have dc8 := D5.out.cell 8 rfl
  have df8 := D5.out.free 8
  have dc9 := D5.out.cell 9 rfl
  have df9 := D5.out.free 9
  by_cases hk : 1 ≤ vk ∧ vk ≤ 6
  · have HF := Lib.hid (HFF.out hk)
    have kk1 : (1 : Int) ≤ (vk : Int) := by omega
    have kk2 : (vk : Int) ≤ 6 := by omega
    have W2 := Lib.hid (Z2.out hk)
    have W3 := Lib.hid (Z3.out hk)
    have W4 := Lib.hid (Z4.out hk)
    clear Z1 Z2 Z3 Z4 HFF hk
    generalize grpOf (vk : Nat) = g at *
    go_wp2_with fail
    have A6 := Lib.hid ((A5.out.far (p := ⟨db, 2, none⟩) (by first | (simp; done) | (simp; omega)) (.int .u32 vb)).alloc (.cells #[.string S8, .int .i64 0] 59))
    have D6 := Lib.hid ((D5.out.set_ 2 (.int .u32 vb)).alloc (.cells #[.string S8, .int .i64 0] 59))
    have T6 : Hid (At ((w5.setCell ⟨db, 2, none⟩ (.int .u32 vb)).alloc (.cells #[.string S8, .int .i64 0] 59)) w5.heap.size 59 [.string S8, .int .i64 0]) := Lib.hid (by have q := At.new (w5.setCell ⟨db, 2, none⟩ (.int .u32 vb)) 59 [.string S8, .int .i64 0]; simpa using q)
    have B6 := Lib.hid ((B5.out.setCell (p := ⟨db, 2, none⟩) hdb (.int .u32 vb)).alloc (Nat.le_trans B5.out.size (by simp)) (.cells #[.string S8, .int .i64 0] 59))
    have hrb : w.heap.size ≤ w5.heap.size := B5.out.size
    generalize (w5.setCell ⟨db, 2, none⟩ (.int .u32 vb)).alloc (.cells #[.string S8, .int .i64 0] 59) = w6 at *
    generalize w5.heap.size = rb at *
    clear A5 D5 B5 dc0 df0 dc1 df1 dc2 df2 dc3 df3 dc4 df4 dc5 df5 dc6 df6 dc7 df7 dc8 df8 dc9 df9
    refine (HF.out _).mono ?_; rintro e w7 ⟨s8, z8, b0, b1, b2, b3, b4, b5, b6, b7, b8, b9, rfl, g7, hp, hq⟩
    have A7 := Lib.hid (A6.out.below g7 A6.out.lt)
    have D7 := Lib.hid (D6.out.below g7 D6.out.lt)
    have T7 := Lib.hid (T6.out.below g7 T6.out.lt)
    have B7 := Lib.hid (B6.out.trans (g7.mono B6.out.size))
    have HP := Lib.hid hp
    have hAr : w.heap.size ≠ rb := by omega
    have hAd : w.heap.size ≠ db := by omega
    have hDr : db ≠ rb := by omega
    have HQ := Lib.hid hq
    clear g7 hp hq A6 D6 T6 B6 HF
    have tc0 := T7.out.cell 0 rfl
    have tf0 := T7.out.free 0
    have tc1 := T7.out.cell 1 rfl
    have tf1 := T7.out.free 1
    have dc0 := D7.out.cell 0 rfl
    have df0 := D7.out.free 0
    have dc1 := D7.out.cell 1 rfl
    have df1 := D7.out.free 1
    have dc2 := D7.out.cell 2 rfl
    have df2 := D7.out.free 2
    have dc3 := D7.out.cell 3 rfl
    have df3 := D7.out.free 3
    have dc4 := D7.out.cell 4 rfl
    have df4 := D7.out.free 4
    have dc5 := D7.out.cell 5 rfl
    have df5 := D7.out.free 5
    have dc6 := D7.out.cell 6 rfl
    have df6 := D7.out.free 6
    have dc7 := D7.out.cell 7 rfl
    have df7 := D7.out.free 7
    have dc8 := D7.out.cell 8 rfl
    have df8 := D7.out.free 8
    have dc9 := D7.out.cell 9 rfl
    have df9 := D7.out.free 9
    by_cases hsh : A.size - 8 < grpSz g
    · have h8z := HP.out hsh
      have hzz := W2.out hsh
      have hdd := Z5.out (by rw [hzz]; decide)
      clear HP HQ W2 W3 W4 Z5 Z6 hsh
      subst h8z
      subst hzz
      subst hdd
      go_wp2_with fail
      have A8 := Lib.hid (At.far (At.far (At.far (At.far (At.far (At.far (At.far (At.far (At.far (At.far (At.far (At.far A7.out (p := ⟨rb, 0, none⟩) hAr (.string s8)) (p := ⟨rb, 1, none⟩) hAr (.int .i64 4)) (p := ⟨db, 0, none⟩) hAd (.int .i64 b0)) (p := ⟨db, 1, none⟩) hAd (.int .i64 b1)) (p := ⟨db, 2, none⟩) hAd (.int .u32 (b2 : Nat))) (p := ⟨db, 3, none⟩) hAd (.int .i64 b3)) (p := ⟨db, 4, none⟩) hAd (.int .i64 b4)) (p := ⟨db, 5, none⟩) hAd (.int .i64 b5)) (p := ⟨db, 6, none⟩) hAd (.int .i64 b6)) (p := ⟨db, 7, none⟩) hAd (.int .i64 b7)) (p := ⟨db, 8, none⟩) hAd (.string b8)) (p := ⟨db, 9, none⟩) hAd (.string b9))
      have D8 := Lib.hid (At.set_ (At.set_ (At.set_ (At.set_ (At.set_ (At.set_ (At.set_ (At.set_ (At.set_ (At.set_ (At.far (At.far D7.out (p := ⟨rb, 0, none⟩) hDr (.string s8)) (p := ⟨rb, 1, none⟩) hDr (.int .i64 4)) 0 (.int .i64 b0)) 1 (.int .i64 b1)) 2 (.int .u32 (b2 : Nat))) 3 (.int .i64 b3)) 4 (.int .i64 b4)) 5 (.int .i64 b5)) 6 (.int .i64 b6)) 7 (.int .i64 b7)) 8 (.string b8)) 9 (.string b9))
      have T8 := Lib.hid (At.far (At.far (At.far (At.far (At.far (At.far (At.far (At.far (At.far (At.far (At.set_ (At.set_ T7.out 0 (.string s8)) 1 (.int .i64 4)) (p := ⟨db, 0, none⟩) hDr.symm (.int .i64 b0)) (p := ⟨db, 1, none⟩) hDr.symm (.int .i64 b1)) (p := ⟨db, 2, none⟩) hDr.symm (.int .u32 (b2 : Nat))) (p := ⟨db, 3, none⟩) hDr.symm (.int .i64 b3)) (p := ⟨db, 4, none⟩) hDr.symm (.int .i64 b4)) (p := ⟨db, 5, none⟩) hDr.symm (.int .i64 b5)) (p := ⟨db, 6, none⟩) hDr.symm (.int .i64 b6)) (p := ⟨db, 7, none⟩) hDr.symm (.int .i64 b7)) (p := ⟨db, 8, none⟩) hDr.symm (.string b8)) (p := ⟨db, 9, none⟩) hDr.symm (.string b9))
      have B8 := Lib.hid (Below.setCell (Below.setCell (Below.setCell (Below.setCell (Below.setCell (Below.setCell (Below.setCell (Below.setCell (Below.setCell (Below.setCell (Below.setCell (Below.setCell B7.out (p := ⟨rb, 0, none⟩) hrb (.string s8)) (p := ⟨rb, 1, none⟩) hrb (.int .i64 4)) (p := ⟨db, 0, none⟩) hdb (.int .i64 b0)) (p := ⟨db, 1, none⟩) hdb (.int .i64 b1)) (p := ⟨db, 2, none⟩) hdb (.int .u32 (b2 : Nat))) (p := ⟨db, 3, none⟩) hdb (.int .i64 b3)) (p := ⟨db, 4, none⟩) hdb (.int .i64 b4)) (p := ⟨db, 5, none⟩) hdb (.int .i64 b5)) (p := ⟨db, 6, none⟩) hdb (.int .i64 b6)) (p := ⟨db, 7, none⟩) hdb (.int .i64 b7)) (p := ⟨db, 8, none⟩) hdb (.string b8)) (p := ⟨db, 9, none⟩) hdb (.string b9))
      generalize ((((((((((((w7.setCell ⟨rb, 0, none⟩ (.string s8)).setCell ⟨rb, 1, none⟩ (.int .i64 4)).setCell ⟨db, 0, none⟩ (.int .i64 b0)).setCell ⟨db, 1, none⟩ (.int .i64 b1)).setCell ⟨db, 2, none⟩ (.int .u32 (b2 : Nat))).setCell ⟨db, 3, none⟩ (.int .i64 b3)).setCell ⟨db, 4, none⟩ (.int .i64 b4)).setCell ⟨db, 5, none⟩ (.int .i64 b5)).setCell ⟨db, 6, none⟩ (.int .i64 b6)).setCell ⟨db, 7, none⟩ (.int .i64 b7)).setCell ⟨db, 8, none⟩ (.string b8)).setCell ⟨db, 9, none⟩ (.string b9)) = w8 at *
      clear tc0 tf0 tc1 tf1 dc0 df0 dc1 df1 dc2 df2 dc3 df3 dc4 df4 dc5 df5 dc6 df6 dc7 df7 dc8 df8 dc9 df9
      clear A7 D7 T7 B7
      have x0 := A8.out.cell 0 rfl
      have y0 := A8.out.free 0
      have x1 := A8.out.cell 1 rfl
      have y1 := A8.out.free 1
      have x2 := A8.out.cell 2 rfl
      have y2 := A8.out.free 2
      have x3 := A8.out.cell 3 rfl
      have y3 := A8.out.free 3
      have x4 := A8.out.cell 4 rfl
      have y4 := A8.out.free 4
      have x5 := A8.out.cell 5 rfl
      have y5 := A8.out.free 5
      have x6 := A8.out.cell 6 rfl
      have y6 := A8.out.free 6
      have x7 := A8.out.cell 7 rfl
      have y7 := A8.out.free 7
      have x8 := A8.out.cell 8 rfl
      have y8 := A8.out.free 8
      have x9 := A8.out.cell 9 rfl
      have y9 := A8.out.free 9
      have tc0 := T8.out.cell 0 rfl
      have tc1 := T8.out.cell 1 rfl
      go_region
      go_wp2_with fail
      refine bodyPost_ret (v := .tuple #[dg0.val, .int .i64 4]) (res_rr (d := dg0) rfl rfl (At.drew (At.set_ (At.set_ (At.set_ (At.set_ (At.set_ (At.set_ (At.set_ (At.set_ (At.set_ (At.set_ A8.out 0 _) 1 _) 2 _) 3 _) 4 _) 5 _) 6 _) 7 _) 8 _) 9 _))) rfl ⟨rfl, ?_⟩
      refine Below.drew ?_
      repeat (with_reducible refine below_setNew ?_ (Nat.le_refl _) _)
      exact B8.out
    · have hge : grpSz g ≤ A.size - 8 := by omega
      obtain ⟨h8z, hdp, h8s⟩ := HQ.out hge
      subst h8z
      by_cases hl : 0 < leftN g (A.size - 8)
      · have hzz := W3.out hge hl
        have hdd := Z5.out (by rw [hzz]; decide)
        rw [← h8s] at hl
        have hem : s8.toList.isEmpty = false := by
          cases q : s8.toList.isEmpty with
          | false => rfl
          | true =>
            have e : s8 = S0 := (toList_iff s8 S0).1 (by rw [List.isEmpty_iff] at q; rw [q, s0_list])
            rw [e] at hl
            exact absurd hl (by decide)
        clear HP HQ W2 W3 W4 Z5 Z6 hsh hge hdp h8s hl
        subst hzz
        subst hdd
        have x0 := A7.out.cell 0 rfl
        have y0 := A7.out.free 0
        have x1 := A7.out.cell 1 rfl
        have y1 := A7.out.free 1
        have x2 := A7.out.cell 2 rfl
        have y2 := A7.out.free 2
        have x3 := A7.out.cell 3 rfl
        have y3 := A7.out.free 3
        have x4 := A7.out.cell 4 rfl
        have y4 := A7.out.free 4
        have x5 := A7.out.cell 5 rfl
        have y5 := A7.out.free 5
        have x6 := A7.out.cell 6 rfl
        have y6 := A7.out.free 6
        have x7 := A7.out.cell 7 rfl
        have y7 := A7.out.free 7
        have x8 := A7.out.cell 8 rfl
        have y8 := A7.out.free 8
        have x9 := A7.out.cell 9 rfl
        have y9 := A7.out.free 9
        go_wp2_with fail
        refine bodyPost_ret (v := .tuple #[dg0.val, .int .i64 5]) (res_rr (d := dg0) rfl rfl (At.set_ (At.set_ (At.set_ (At.set_ (At.set_ (At.set_ (At.set_ (At.set_ (At.set_ (At.set_ (At.far (At.far (At.far (At.far (At.far (At.far (At.far (At.far (At.far (At.far (At.far (At.far A7.out (p := ⟨rb, 0, none⟩) hAr (.string s8)) (p := ⟨rb, 1, none⟩) hAr (.int .i64 0)) (p := ⟨db, 0, none⟩) hAd (.int .i64 b0)) (p := ⟨db, 1, none⟩) hAd (.int .i64 b1)) (p := ⟨db, 2, none⟩) hAd (.int .u32 (b2 : Nat))) (p := ⟨db, 3, none⟩) hAd (.int .i64 b3)) (p := ⟨db, 4, none⟩) hAd (.int .i64 b4)) (p := ⟨db, 5, none⟩) hAd (.int .i64 b5)) (p := ⟨db, 6, none⟩) hAd (.int .i64 b6)) (p := ⟨db, 7, none⟩) hAd (.int .i64 b7)) (p := ⟨db, 8, none⟩) hAd (.string b8)) (p := ⟨db, 9, none⟩) hAd (.string b9)) 0 _) 1 _) 2 _) 3 _) 4 _) 5 _) 6 _) 7 _) 8 _) 9 _)) rfl ⟨rfl, ?_⟩
        repeat (with_reducible refine below_setNew ?_ (Nat.le_refl _) _)
        exact (Below.setCell (Below.setCell (Below.setCell (Below.setCell (Below.setCell (Below.setCell (Below.setCell (Below.setCell (Below.setCell (Below.setCell (Below.setCell (Below.setCell B7.out (p := ⟨rb, 0, none⟩) hrb (.string s8)) (p := ⟨rb, 1, none⟩) hrb (.int .i64 0)) (p := ⟨db, 0, none⟩) hdb (.int .i64 b0)) (p := ⟨db, 1, none⟩) hdb (.int .i64 b1)) (p := ⟨db, 2, none⟩) hdb (.int .u32 (b2 : Nat))) (p := ⟨db, 3, none⟩) hdb (.int .i64 b3)) (p := ⟨db, 4, none⟩) hdb (.int .i64 b4)) (p := ⟨db, 5, none⟩) hdb (.int .i64 b5)) (p := ⟨db, 6, none⟩) hdb (.int .i64 b6)) (p := ⟨db, 7, none⟩) hdb (.int .i64 b7)) (p := ⟨db, 8, none⟩) hdb (.string b8)) (p := ⟨db, 9, none⟩) hdb (.string b9))
      · have hzz := W4.out hge hl
        rw [← hdp] at hzz
        rw [← h8s] at hl
        have hem : s8.toList.isEmpty = true := by
          rw [size_zero (show s8.size = 0 by omega), s0_list]; rfl
        have hlz : (s8.size : Int) = 0 := by omega
        have HK := Lib.hid (fun w => rcheck10_any ⟨b0, b1, b2, b3, b4, b5, b6, b7, b8, b9⟩ w)
        unfold Dg.val at HK
        simp only at HK
        rw [← hdp] at Z6
        rw [← hzz] at HK
        clear HP HQ W2 W3 W4 hsh hge hdp h8s hl hzz
        go_wp2_with fail
        have A8 := Lib.hid (At.far (At.far (At.far (At.far (At.far (At.far (At.far (At.far (At.far (At.far (At.far (At.far A7.out (p := ⟨rb, 0, none⟩) hAr (.string s8)) (p := ⟨rb, 1, none⟩) hAr (.int .i64 0)) (p := ⟨db, 0, none⟩) hAd (.int .i64 b0)) (p := ⟨db, 1, none⟩) hAd (.int .i64 b1)) (p := ⟨db, 2, none⟩) hAd (.int .u32 (b2 : Nat))) (p := ⟨db, 3, none⟩) hAd (.int .i64 b3)) (p := ⟨db, 4, none⟩) hAd (.int .i64 b4)) (p := ⟨db, 5, none⟩) hAd (.int .i64 b5)) (p := ⟨db, 6, none⟩) hAd (.int .i64 b6)) (p := ⟨db, 7, none⟩) hAd (.int .i64 b7)) (p := ⟨db, 8, none⟩) hAd (.string b8)) (p := ⟨db, 9, none⟩) hAd (.string b9))
        have D8 := Lib.hid (At.set_ (At.set_ (At.set_ (At.set_ (At.set_ (At.set_ (At.set_ (At.set_ (At.set_ (At.set_ (At.far (At.far D7.out (p := ⟨rb, 0, none⟩) hDr (.string s8)) (p := ⟨rb, 1, none⟩) hDr (.int .i64 0)) 0 (.int .i64 b0)) 1 (.int .i64 b1)) 2 (.int .u32 (b2 : Nat))) 3 (.int .i64 b3)) 4 (.int .i64 b4)) 5 (.int .i64 b5)) 6 (.int .i64 b6)) 7 (.int .i64 b7)) 8 (.string b8)) 9 (.string b9))
        have T8 := Lib.hid (At.far (At.far (At.far (At.far (At.far (At.far (At.far (At.far (At.far (At.far (At.set_ (At.set_ T7.out 0 (.string s8)) 1 (.int .i64 0)) (p := ⟨db, 0, none⟩) hDr.symm (.int .i64 b0)) (p := ⟨db, 1, none⟩) hDr.symm (.int .i64 b1)) (p := ⟨db, 2, none⟩) hDr.symm (.int .u32 (b2 : Nat))) (p := ⟨db, 3, none⟩) hDr.symm (.int .i64 b3)) (p := ⟨db, 4, none⟩) hDr.symm (.int .i64 b4)) (p := ⟨db, 5, none⟩) hDr.symm (.int .i64 b5)) (p := ⟨db, 6, none⟩) hDr.symm (.int .i64 b6)) (p := ⟨db, 7, none⟩) hDr.symm (.int .i64 b7)) (p := ⟨db, 8, none⟩) hDr.symm (.string b8)) (p := ⟨db, 9, none⟩) hDr.symm (.string b9))
        have B8 := Lib.hid (Below.setCell (Below.setCell (Below.setCell (Below.setCell (Below.setCell (Below.setCell (Below.setCell (Below.setCell (Below.setCell (Below.setCell (Below.setCell (Below.setCell B7.out (p := ⟨rb, 0, none⟩) hrb (.string s8)) (p := ⟨rb, 1, none⟩) hrb (.int .i64 0)) (p := ⟨db, 0, none⟩) hdb (.int .i64 b0)) (p := ⟨db, 1, none⟩) hdb (.int .i64 b1)) (p := ⟨db, 2, none⟩) hdb (.int .u32 (b2 : Nat))) (p := ⟨db, 3, none⟩) hdb (.int .i64 b3)) (p := ⟨db, 4, none⟩) hdb (.int .i64 b4)) (p := ⟨db, 5, none⟩) hdb (.int .i64 b5)) (p := ⟨db, 6, none⟩) hdb (.int .i64 b6)) (p := ⟨db, 7, none⟩) hdb (.int .i64 b7)) (p := ⟨db, 8, none⟩) hdb (.string b8)) (p := ⟨db, 9, none⟩) hdb (.string b9))
        generalize ((((((((((((w7.setCell ⟨rb, 0, none⟩ (.string s8)).setCell ⟨rb, 1, none⟩ (.int .i64 0)).setCell ⟨db, 0, none⟩ (.int .i64 b0)).setCell ⟨db, 1, none⟩ (.int .i64 b1)).setCell ⟨db, 2, none⟩ (.int .u32 (b2 : Nat))).setCell ⟨db, 3, none⟩ (.int .i64 b3)).setCell ⟨db, 4, none⟩ (.int .i64 b4)).setCell ⟨db, 5, none⟩ (.int .i64 b5)).setCell ⟨db, 6, none⟩ (.int .i64 b6)).setCell ⟨db, 7, none⟩ (.int .i64 b7)).setCell ⟨db, 8, none⟩ (.string b8)).setCell ⟨db, 9, none⟩ (.string b9)) = w8 at *
        clear tc0 tf0 tc1 tf1 dc0 df0 dc1 df1 dc2 df2 dc3 df3 dc4 df4 dc5 df5 dc6 df6 dc7 df7 dc8 df8 dc9 df9
        clear A7 D7 T7 B7
        refine (HK.out _).mono ?_; rintro e w9 ⟨rfl, g9⟩
        have A9 := Lib.hid (A8.out.below g9 A8.out.lt)
        have D9 := Lib.hid (D8.out.below g9 D8.out.lt)
        have B9 := Lib.hid (B8.out.trans (g9.mono B8.out.size))
        clear g9 A8 D8 T8 B8 HK
        have x0 := A9.out.cell 0 rfl
        have y0 := A9.out.free 0
        have x1 := A9.out.cell 1 rfl
        have y1 := A9.out.free 1
        have x2 := A9.out.cell 2 rfl
        have y2 := A9.out.free 2
        have x3 := A9.out.cell 3 rfl
        have y3 := A9.out.free 3
        have x4 := A9.out.cell 4 rfl
        have y4 := A9.out.free 4
        have x5 := A9.out.cell 5 rfl
        have y5 := A9.out.free 5
        have x6 := A9.out.cell 6 rfl
        have y6 := A9.out.free 6
        have x7 := A9.out.cell 7 rfl
        have y7 := A9.out.free 7
        have x8 := A9.out.cell 8 rfl
        have y8 := A9.out.free 8
        have x9 := A9.out.cell 9 rfl
        have y9 := A9.out.free 9
        have dc0 := D9.out.cell 0 rfl
        have dc1 := D9.out.cell 1 rfl
        have dc2 := D9.out.cell 2 rfl
        have dc3 := D9.out.cell 3 rfl
        have dc4 := D9.out.cell 4 rfl
        have dc5 := D9.out.cell 5 rfl
        have dc6 := D9.out.cell 6 rfl
        have dc7 := D9.out.cell 7 rfl
        have dc8 := D9.out.cell 8 rfl
        have dc9 := D9.out.cell 9 rfl
        by_cases hc : zz = 0
        · have hdd := Z6.out hc
          clear Z5 Z6
          subst hc
          subst hdd
          go_wp2_with fail
          refine bodyPost_ret (v := .tuple #[Dg.val ⟨b0, b1, b2, b3, b4, b5, b6, b7, b8, b9⟩, .int .i64 0]) (res_rr (d := ⟨b0, b1, b2, b3, b4, b5, b6, b7, b8, b9⟩) rfl rfl (At.set_ (At.set_ (At.set_ (At.set_ (At.set_ (At.set_ (At.set_ (At.set_ (At.set_ (At.set_ A9.out 0 _) 1 _) 2 _) 3 _) 4 _) 5 _) 6 _) 7 _) 8 _) 9 _)) rfl ⟨rfl, ?_⟩
          repeat (with_reducible refine below_setNew ?_ (Nat.le_refl _) _)
          exact B9.out
        · have hdd := Z5.out hc
          have hc1 : (zz == 0) = false := by rw [beq_eq_false_iff_ne]; exact hc
          have hc2 : (zz != 0) = true := by rw [bne, hc1]; rfl
          clear Z5 Z6 hc
          subst hdd
          go_wp2_with fail
          refine bodyPost_ret (v := .tuple #[dg0.val, .int .i64 zz]) (res_rr (d := dg0) rfl rfl (At.set_ (At.set_ (At.set_ (At.set_ (At.set_ (At.set_ (At.set_ (At.set_ (At.set_ (At.set_ A9.out 0 _) 1 _) 2 _) 3 _) 4 _) 5 _) 6 _) 7 _) 8 _) 9 _)) rfl ⟨rfl, ?_⟩
          repeat (with_reducible refine below_setNew ?_ (Nat.le_refl _) _)
          exact B9.out
  · have hzz := Z1.out hk
    have hdd := Z5.out (by rw [hzz]; decide)
    clear Z1 Z2 Z3 Z4 Z5 Z6 HFF
    subst hzz
    subst hdd
    have x0 := A5.out.cell 0 rfl
    have y0 := A5.out.free 0
    have x1 := A5.out.cell 1 rfl
    have y1 := A5.out.free 1
    have x2 := A5.out.cell 2 rfl
    have y2 := A5.out.free 2
    have x3 := A5.out.cell 3 rfl
    have y3 := A5.out.free 3
    have x4 := A5.out.cell 4 rfl
    have y4 := A5.out.free 4
    have x5 := A5.out.cell 5 rfl
    have y5 := A5.out.free 5
    have x6 := A5.out.cell 6 rfl
    have y6 := A5.out.free 6
    have x7 := A5.out.cell 7 rfl
    have y7 := A5.out.free 7
    have x8 := A5.out.cell 8 rfl
    have y8 := A5.out.free 8
    have x9 := A5.out.cell 9 rfl
    have y9 := A5.out.free 9
    by_cases hlo : vk < 1
    · have kk1 : (vk : Int) < 1 := by omega
      go_wp2_with fail
      refine bodyPost_ret (v := .tuple #[dg0.val, .int .i64 1]) (res_rr (d := dg0) rfl rfl ((At.set_ (At.set_ (At.set_ (At.set_ (At.set_ (At.set_ (At.set_ (At.set_ (At.set_ (At.set_ (At.far A5.out (p := ⟨db, 2, none⟩) (by first | (simp; done) | (simp; omega)) (.int .u32 vb)) 0 _) 1 _) 2 _) 3 _) 4 _) 5 _) 6 _) 7 _) 8 _) 9 _).alloc _)) rfl ⟨rfl, ?_⟩
      refine Below.alloc ?_ (Nat.le_trans B5.out.size (by simp)) _
      repeat (with_reducible refine below_setNew ?_ (Nat.le_refl _) _)
      exact B5.out.setCell (p := ⟨db, 2, none⟩) hdb _
    · have kk1 : (1 : Int) ≤ (vk : Int) := by omega
      have kk2 : (6 : Int) < (vk : Int) := by omega
      go_wp2_with fail
      refine bodyPost_ret (v := .tuple #[dg0.val, .int .i64 1]) (res_rr (d := dg0) rfl rfl ((At.set_ (At.set_ (At.set_ (At.set_ (At.set_ (At.set_ (At.set_ (At.set_ (At.set_ (At.set_ (At.far A5.out (p := ⟨db, 2, none⟩) (by first | (simp; done) | (simp; omega)) (.int .u32 vb)) 0 _) 1 _) 2 _) 3 _) 4 _) 5 _) 6 _) 7 _) 8 _) 9 _).alloc _)) rfl ⟨rfl, ?_⟩
      refine Below.alloc ?_ (Nat.le_trans B5.out.size (by simp)) _
      repeat (with_reducible refine below_setNew ?_ (Nat.le_refl _) _)
      exact B5.out.setCell (p := ⟨db, 2, none⟩) hdb _
theorem rread_any (s : ByteArray) (w : World) (hs : s.size ≤ 281474976710656) : Calls Try.prog 15 #[.string s] w (GivesDZ w (rD s) (rE s)) := by
  by_cases h : s.size < 12
  · rw [rD_cut h, rE_cut h]
    exact rread_cut s w h
  · by_cases hn : sumOf s = crcS 0 (front s)
    · by_cases hm : (front s).extract 0 2 = xLS
      · exact rread_rest s w h hs hn hm _ _ rfl rfl
      · have e : pE (front s) = 5 := by unfold pE; rw [if_pos hm]
        have hz : rE s = 5 := by rw [rE_fields h hn (by rw [e]; decide), e]
        rw [rD_bad (by rw [hz]; decide), hz]
        exact rread_mark s w h hs hn hm
    · have hz := rE_sum h hn
      rw [rD_bad (by rw [hz]; decide), hz]
      exact rread_sum s w h hs hn
end Go.Proofs.Ytekolkbahhbcjaa

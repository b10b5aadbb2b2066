/- Proved: what Read of package datagram answers. Conditions: those that the theorems name. -/
import Derived.Test.YtekolkbahhbcjaaDgFields
namespace Go.Proofs.Ytekolkbahhbcjaa
open Go.ChangeShapes Go.WideShapes Go.ChangeAt Go.RowKit

/-- A datagram and a number come back; nothing that was there has turned. -/
def GivesDZ (W : World) (d : Dg) (z : Int) (e : Ending) (w' : World) : Prop := e = .returned (.tuple #[d.val, .int .i64 z]) ∧ Below W.heap.size W w'
theorem res_rd {T : Array Value} {W : World} {b : Nat} {z : Int} {d : Dg} (h2 : T.getD 2 undef = .pointer (some ⟨b, 0, none⟩)) (h3 : T.getD 3 undef = .int .i64 z) (A : At W b 24 d.cells) : (results Try.f14 T).run Try.prog W = .ok (.tuple #[d.val, .int .i64 z]) W := by
  have h2' : T[2]?.getD undef = .pointer (some ⟨b, 0, none⟩) := by simpa using h2
  have h3' : T[3]?.getD undef = .int .i64 z := by simpa using h3
  have c0 := A.cell 0 rfl
  have c1 := A.cell 1 rfl
  have c2 := A.cell 2 rfl
  have c3 := A.cell 3 rfl
  have c4 := A.cell 4 rfl
  have c5 := A.cell 5 rfl
  have c6 := A.cell 6 rfl
  have c7 := A.cell 7 rfl
  have c8 := A.cell 8 rfl
  have c9 := A.cell 9 rfl
  simp [results, Try.results14, h2', h3', c0, c1, c2, c3, c4, c5, c6, c7, c8, c9, Dg.val, go_sem]
theorem below_setNew {W w : World} (h : Below W.heap.size W w) {p : Addr} (hp : W.heap.size ≤ p.block) (v : Value) : Below W.heap.size W (w.setCell p v) := h.setCell hp v
theorem rD_cut {s : ByteArray} (h : s.size < 12) : rD s = dg0 := rD_bad (by rw [rE_cut h]; decide)
set_option maxRecDepth 100000 in
set_option maxHeartbeats 3200000 in
theorem dread_cut (s : ByteArray) (w : World) (h : s.size < 12) : Calls Try.prog 14 #[.string s] w (GivesDZ w dg0 4) := by
  have h1 : (s.size : Int) < 12 := by omega
  clear h
  go_enter Try.func14, Try.ntmps14
  go_wp2_with fail
  refine bodyPost_ret (v := .tuple #[dg0.val, .int .i64 4]) (res_rd (d := dg0) rfl rfl (At.new w 24 [.int .i64 0, .int .i64 0, .int .u32 0, .int .i64 0, .int .i64 0, .int .i64 0, .int .i64 0, .int .i64 0, .string ⟨#[]⟩, .string ⟨#[]⟩])) rfl ⟨rfl, (Below.refl _ _).alloc (Nat.le_refl _) _⟩
set_option maxRecDepth 100000 in
set_option maxHeartbeats 3200000 in
theorem dread_long (s : ByteArray) (w : World) (h : ¬ s.size < 12) (hs : s.size ≤ 281474976710656) (dd : Dg) (zz : Int) (hz : zz = rE s) (hd : dd = rD s) : Calls Try.prog 14 #[.string s] w (GivesDZ w dd zz) := by
  have h1 : (12 : Int) ≤ (s.size : Int) := by omega
  have h2 : (s.size : Int) ≤ 281474976710656 := by omega
  have hw : IntKind.i64.wrap ((s.size : Int) - 4) = (s.size : Int) - 4 := IntWalk.i64_in _ (by omega)
  have hs1 : ∀ W, (Instr.slice 9 (Value.string s) none (some (Value.int .i64 ((s.size : Int) - 4))) none).run Try.prog W = .ok (Value.string (front s)) W := fun W => by
    rw [run_slice_string_to_if W 9 s .i64 ((s.size : Int) - 4) Try.underlying9, if_pos ⟨by omega, by omega⟩]
    unfold front
    rw [show ((s.size : Int) - 4).toNat = s.size - 4 by omega]
  have hs2 : ∀ W, (Instr.slice 9 (Value.string s) (some (Value.int .i64 ((s.size : Int) - 4))) none none).run Try.prog W = .ok (Value.string (s.extract (s.size - 4) s.size)) W := fun W => by
    rw [run_slice_string_from_if W 9 s .i64 ((s.size : Int) - 4) Try.underlying9, if_pos ⟨by omega, by omega⟩]
    rw [show ((s.size : Int) - 4).toNat = s.size - 4 by omega]
  have hfz := front_size s
  have hbz : (s.extract (s.size - 4) s.size).size = 4 := by rw [ByteArray.size_extract]; omega
  have HN : Hid (∀ b w, Rd w b (s.extract (s.size - 4) s.size) 0 → Calls Try.prog 25 #[.pointer (some ⟨b, 0, none⟩), .int .i64 4] w (GivesRd w b (.int .u32 (sumOf s : Nat)) (sfx (s.extract (s.size - 4) s.size) 4) 0)) := Lib.hid fun b w hr => by
    have q := num_at b (s.extract (s.size - 4) s.size) 0 4 4 w (by rw [sfx_zero]; exact hr) rfl (by omega) (by simp)
    have e : cutN (s.extract (s.size - 4) s.size) 0 4 = sumOf s := by
      unfold cutN sumOf
      rw [ext_self hbz]
    rwa [e] at q
  have HC := Lib.hid (fun w => csum_any (front s) (by unfold maxLen; omega) w)
  have HF : Hid (∀ c w, Rd w c (front s) 0 → Calls Try.prog 26 #[.pointer (some ⟨c, 0, none⟩)] w (GivesF w c (pOut (front s)) (pE (front s)))) := Lib.hid fun c w hr => fields_any (front s) c w (by omega) (by omega) hr
  have hpb : (pOut (front s)).body.size ≤ maxLen := by
    have q : (pOut (front s)).body.size ≤ (front s).size := by
      unfold pOut
      split
      · generalize grpOf _ = g
        cases g with
        | shard =>
          show ((front s).extract 13 (front s).size).size ≤ _
          rw [ByteArray.size_extract]; omega
        | _ => exact Nat.zero_le _
      · exact Nat.zero_le _
    unfold maxLen; omega
  have HK := Lib.hid (fun w => dcheck_any (pOut (front s)) w hpb)
  -- the answer, case by case
  have Z1 : Hid (sumOf s ≠ crcS 0 (front s) → zz = 6) := Lib.hid fun q => by rw [hz]; exact rE_sum h q
  have Z2 : Hid (sumOf s = crcS 0 (front s) → pE (front s) ≠ 0 → zz = pE (front s)) := Lib.hid fun q r => by rw [hz]; exact rE_fields h q r
  have Z3 : Hid (sumOf s = crcS 0 (front s) → pE (front s) = 0 → zz = chk (pOut (front s))) := Lib.hid fun q r => by
    rw [hz]
    unfold pOut
    rw [if_pos r]
    exact rE_check h q r
  have Z4 : Hid (zz ≠ 0 → dd = dg0) := Lib.hid fun q => by rw [hd]; exact rD_bad (by rw [← hz]; exact q)
  have Z5 : Hid (zz = 0 → dd = pOut (front s)) := Lib.hid fun q => by
    rw [hz] at q
    rw [hd, rD_good q]
    unfold pOut
    rw [if_pos (rE_zero q).2.2.1]
  generalize pOut (front s) = px at *
  generalize pE (front s) = pe at *
  generalize sumOf s = su at *
  generalize crcS 0 (front s) = cr at *
  generalize chk px = ck at *
  generalize front s = A at *
  generalize s.extract (s.size - 4) s.size = B at *
  clear h hs hz hd hfz hbz hpb
  obtain ⟨b0, b1, b2, b3, b4, b5, b6, b7, b8, b9⟩ := px
  unfold GivesF Dg.val at HF
  unfold Dg.val at HK
  simp only at HF HK
  go_enter Try.func14, Try.ntmps14
  go_wp2_with fail
  go_quiet (fail)
  go_wp2_with fail
  have A1 : Hid (At ((w.alloc (.cells #[.int .i64 0, .int .i64 0, .int .u32 0, .int .i64 0, .int .i64 0, .int .i64 0, .int .i64 0, .int .i64 0, .string ⟨#[]⟩, .string ⟨#[]⟩] 24)).drewN nq) w.heap.size 24 [.int .i64 0, .int .i64 0, .int .u32 0, .int .i64 0, .int .i64 0, .int .i64 0, .int .i64 0, .int .i64 0, .string ⟨#[]⟩, .string ⟨#[]⟩]) := Lib.hid (At.block (At.new w 24 [.int .i64 0, .int .i64 0, .int .u32 0, .int .i64 0, .int .i64 0, .int .i64 0, .int .i64 0, .int .i64 0, .string ⟨#[]⟩, .string ⟨#[]⟩]) rfl)
  have B1 : Hid (Below w.heap.size w ((w.alloc (.cells #[.int .i64 0, .int .i64 0, .int .u32 0, .int .i64 0, .int .i64 0, .int .i64 0, .int .i64 0, .int .i64 0, .string ⟨#[]⟩, .string ⟨#[]⟩] 24)).drewN nq)) := Lib.hid (below_drewN ((Below.refl _ _).alloc (Nat.le_refl _) _) nq)
  generalize (w.alloc (.cells #[.int .i64 0, .int .i64 0, .int .u32 0, .int .i64 0, .int .i64 0, .int .i64 0, .int .i64 0, .int .i64 0, .string ⟨#[]⟩, .string ⟨#[]⟩] 24)).drewN nq = w1 at *
  clear hw hs1 hs2
  refine (new_gives B _).mono ?_; rintro e w2 ⟨b, rfl, hb, hr, g2⟩
  have A2 := Lib.hid (A1.out.below g2 A1.out.lt)
  have B2 := Lib.hid (B1.out.trans (g2.mono B1.out.size))
  have R2 := Lib.hid hr
  have HB := Lib.hid hb
  clear hr g2 hb
  go_wp2_with fail
  refine (HN.out b _ R2.out).mono ?_; rintro e w3 ⟨rfl, hr, hg⟩
  have A3 := Lib.hid (A2.out.kept hg (by intro e; injection e with e; have := A1.out.lt; have := HB.out; omega))
  have B3 := Lib.hid (rd_below B2.out B2.out.size (Nat.le_trans B1.out.size HB.out) hg)
  clear hr hg
  go_wp2_with fail
  refine (HC.out _).mono ?_; rintro e w4 ⟨rfl, rfl⟩
  by_cases hsum : su = cr
  · have hsb : ((su : Int) == (cr : Int)) = true := by rw [hsum]; simp
    have hsb2 : ((su : Int) != (cr : Int)) = false := by rw [bne, hsb]; rfl
    have HSUM := Lib.hid hsum
    clear hsum
    go_wp2_with fail
    refine (new_gives A _).mono ?_; rintro e w5 ⟨c, rfl, hc, hr, g5⟩
    have A5 := Lib.hid (A3.out.below g5 A3.out.lt)
    have B5 := Lib.hid (B3.out.trans (g5.mono B3.out.size))
    have R5 := Lib.hid hr
    have HB5 := Lib.hid (Nat.lt_of_lt_of_le A3.out.lt hc)
    have HB6 := Lib.hid (Nat.le_trans B3.out.size hc)
    clear hr g5 hc
    go_wp2_with fail
    refine (HF.out c _ R5.out).mono ?_; rintro e w6 ⟨rfl, hg⟩
    have A6 := Lib.hid (A5.out.kept hg (by intro e; injection e with e; have := HB5.out; omega))
    have B6 := Lib.hid (rd_below B5.out B5.out.size HB6.out hg)
    have hz6 := A6.out.lt
    clear hg
    by_cases hpe : pe = 0
    · subst hpe
      by_cases hck : ck = 0
      · subst hck
        have hzz := Z3.out HSUM.out rfl
        have hdd := Z5.out hzz
        clear Z1 Z2 Z3 Z4 Z5
        subst hzz
        subst hdd
        go_wp2_with fail
        have D7 : Hid (At (w6.alloc (.cells #[.int .i64 b0, .int .i64 b1, .int .u32 (b2 : Nat), .int .i64 b3, .int .i64 b4, .int .i64 b5, .int .i64 b6, .int .i64 b7, .string b8, .string b9] 24)) w6.heap.size 24 [.int .i64 b0, .int .i64 b1, .int .u32 (b2 : Nat), .int .i64 b3, .int .i64 b4, .int .i64 b5, .int .i64 b6, .int .i64 b7, .string b8, .string b9]) := Lib.hid (At.new w6 24 [.int .i64 b0, .int .i64 b1, .int .u32 (b2 : Nat), .int .i64 b3, .int .i64 b4, .int .i64 b5, .int .i64 b6, .int .i64 b7, .string b8, .string b9])
        have A7 := Lib.hid (A6.out.alloc (.cells #[.int .i64 b0, .int .i64 b1, .int .u32 (b2 : Nat), .int .i64 b3, .int .i64 b4, .int .i64 b5, .int .i64 b6, .int .i64 b7, .string b8, .string b9] 24))
        have B7 := Lib.hid (B6.out.alloc B6.out.size (.cells #[.int .i64 b0, .int .i64 b1, .int .u32 (b2 : Nat), .int .i64 b3, .int .i64 b4, .int .i64 b5, .int .i64 b6, .int .i64 b7, .string b8, .string b9] 24))
        generalize w6.alloc (.cells #[.int .i64 b0, .int .i64 b1, .int .u32 (b2 : Nat), .int .i64 b3, .int .i64 b4, .int .i64 b5, .int .i64 b6, .int .i64 b7, .string b8, .string b9] 24) = w7 at *
        refine (HK.out _).mono ?_; rintro e w8 ⟨rfl, g8⟩
        have A8 := Lib.hid (A7.out.below g8 A7.out.lt)
        have D8 := Lib.hid (D7.out.below g8 D7.out.lt)
        have B8 := Lib.hid (B7.out.trans (g8.mono B7.out.size))
        clear g8
        have x0 := A8.out.cell 0 rfl
        have y0 := A8.out.free 0
        have x1 := A8.out.cell 1 rfl
        have y1 := A8.out.free 1
        have x2 := A8.out.cell 2 rfl
        have y2 := A8.out.free 2
        have x3 := A8.out.cell 3 rfl
        have y3 := A8.out.free 3
        have x4 := A8.out.cell 4 rfl
        have y4 := A8.out.free 4
        have x5 := A8.out.cell 5 rfl
        have y5 := A8.out.free 5
        have x6 := A8.out.cell 6 rfl
        have y6 := A8.out.free 6
        have x7 := A8.out.cell 7 rfl
        have y7 := A8.out.free 7
        have x8 := A8.out.cell 8 rfl
        have y8 := A8.out.free 8
        have x9 := A8.out.cell 9 rfl
        have y9 := A8.out.free 9
        have q0 := D8.out.cell 0 rfl
        have q1 := D8.out.cell 1 rfl
        have q2 := D8.out.cell 2 rfl
        have q3 := D8.out.cell 3 rfl
        have q4 := D8.out.cell 4 rfl
        have q5 := D8.out.cell 5 rfl
        have q6 := D8.out.cell 6 rfl
        have q7 := D8.out.cell 7 rfl
        have q8 := D8.out.cell 8 rfl
        have q9 := D8.out.cell 9 rfl
        go_wp2_with fail
        refine bodyPost_ret (v := .tuple #[Dg.val ⟨b0, b1, b2, b3, b4, b5, b6, b7, b8, b9⟩, .int .i64 0]) (res_rd (d := ⟨b0, b1, b2, b3, b4, b5, b6, b7, b8, b9⟩) rfl rfl ((((((((((A8.out.set_ 0 _).set_ 1 _).set_ 2 _).set_ 3 _).set_ 4 _).set_ 5 _).set_ 6 _).set_ 7 _).set_ 8 _).set_ 9 _)) rfl ⟨rfl, ?_⟩
        repeat (with_reducible refine below_setNew ?_ (Nat.le_refl _) _)
        exact B8.out
      · have hzz := Z3.out HSUM.out rfl
        have hdd := Z4.out (by rw [hzz]; exact hck)
        have hck2 : (ck == 0) = false := by rw [beq_eq_false_iff_ne]; exact hck
        have hck3 : (ck != 0) = true := by rw [bne, hck2]; rfl
        clear Z1 Z2 Z3 Z4 Z5 hck
        subst hzz
        subst hdd
        go_wp2_with fail
        have A7 := Lib.hid (A6.out.alloc (.cells #[.int .i64 b0, .int .i64 b1, .int .u32 (b2 : Nat), .int .i64 b3, .int .i64 b4, .int .i64 b5, .int .i64 b6, .int .i64 b7, .string b8, .string b9] 24))
        have B7 := Lib.hid (B6.out.alloc B6.out.size (.cells #[.int .i64 b0, .int .i64 b1, .int .u32 (b2 : Nat), .int .i64 b3, .int .i64 b4, .int .i64 b5, .int .i64 b6, .int .i64 b7, .string b8, .string b9] 24))
        have D7 : Hid (At (w6.alloc (.cells #[.int .i64 b0, .int .i64 b1, .int .u32 (b2 : Nat), .int .i64 b3, .int .i64 b4, .int .i64 b5, .int .i64 b6, .int .i64 b7, .string b8, .string b9] 24)) w6.heap.size 24 [.int .i64 b0, .int .i64 b1, .int .u32 (b2 : Nat), .int .i64 b3, .int .i64 b4, .int .i64 b5, .int .i64 b6, .int .i64 b7, .string b8, .string b9]) := Lib.hid (At.new w6 24 [.int .i64 b0, .int .i64 b1, .int .u32 (b2 : Nat), .int .i64 b3, .int .i64 b4, .int .i64 b5, .int .i64 b6, .int .i64 b7, .string b8, .string b9])
        generalize w6.alloc (.cells #[.int .i64 b0, .int .i64 b1, .int .u32 (b2 : Nat), .int .i64 b3, .int .i64 b4, .int .i64 b5, .int .i64 b6, .int .i64 b7, .string b8, .string b9] 24) = w7 at *
        refine (HK.out _).mono ?_; rintro e w8 ⟨rfl, g8⟩
        have A8 := Lib.hid (A7.out.below g8 A7.out.lt)
        have B8 := Lib.hid (B7.out.trans (g8.mono B7.out.size))
        clear g8
        have x0 := A8.out.cell 0 rfl
        have y0 := A8.out.free 0
        have x1 := A8.out.cell 1 rfl
        have y1 := A8.out.free 1
        have x2 := A8.out.cell 2 rfl
        have y2 := A8.out.free 2
        have x3 := A8.out.cell 3 rfl
        have y3 := A8.out.free 3
        have x4 := A8.out.cell 4 rfl
        have y4 := A8.out.free 4
        have x5 := A8.out.cell 5 rfl
        have y5 := A8.out.free 5
        have x6 := A8.out.cell 6 rfl
        have y6 := A8.out.free 6
        have x7 := A8.out.cell 7 rfl
        have y7 := A8.out.free 7
        have x8 := A8.out.cell 8 rfl
        have y8 := A8.out.free 8
        have x9 := A8.out.cell 9 rfl
        have y9 := A8.out.free 9
        go_wp2_with fail
        refine bodyPost_ret (v := .tuple #[dg0.val, .int .i64 zz]) (res_rd (d := dg0) rfl rfl ((((((((((A8.out.set_ 0 _).set_ 1 _).set_ 2 _).set_ 3 _).set_ 4 _).set_ 5 _).set_ 6 _).set_ 7 _).set_ 8 _).set_ 9 _)) rfl ⟨rfl, ?_⟩
        repeat (with_reducible refine below_setNew ?_ (Nat.le_refl _) _)
        exact B8.out
    · have hzz := Z2.out HSUM.out hpe
      have hdd := Z4.out (by rw [hzz]; exact hpe)
      have hpe2 : (pe == 0) = false := by rw [beq_eq_false_iff_ne]; exact hpe
      have hpe3 : (pe != 0) = true := by rw [bne, hpe2]; rfl
      clear Z1 Z2 Z3 Z4 Z5 hpe
      subst hzz
      subst hdd
      have x0 := A6.out.cell 0 rfl
      have y0 := A6.out.free 0
      have x1 := A6.out.cell 1 rfl
      have y1 := A6.out.free 1
      have x2 := A6.out.cell 2 rfl
      have y2 := A6.out.free 2
      have x3 := A6.out.cell 3 rfl
      have y3 := A6.out.free 3
      have x4 := A6.out.cell 4 rfl
      have y4 := A6.out.free 4
      have x5 := A6.out.cell 5 rfl
      have y5 := A6.out.free 5
      have x6 := A6.out.cell 6 rfl
      have y6 := A6.out.free 6
      have x7 := A6.out.cell 7 rfl
      have y7 := A6.out.free 7
      have x8 := A6.out.cell 8 rfl
      have y8 := A6.out.free 8
      have x9 := A6.out.cell 9 rfl
      have y9 := A6.out.free 9
      go_wp2_with fail
      refine bodyPost_ret (v := .tuple #[dg0.val, .int .i64 zz]) (res_rd (d := dg0) rfl rfl (((((((((((A6.out.set_ 0 _).set_ 1 _).set_ 2 _).set_ 3 _).set_ 4 _).set_ 5 _).set_ 6 _).set_ 7 _).set_ 8 _).set_ 9 _).alloc _)) rfl ⟨rfl, ?_⟩
      refine Below.alloc ?_ (Nat.le_trans B6.out.size (by simp)) _
      repeat (with_reducible refine below_setNew ?_ (Nat.le_refl _) _)
      exact B6.out
  · have hsb : ((su : Int) == (cr : Int)) = false := by rw [beq_eq_false_iff_ne]; omega
    have hsb2 : ((su : Int) != (cr : Int)) = true := by rw [bne, hsb]; rfl
    have hzz := Z1.out hsum
    have hdd := Z4.out (by rw [hzz]; decide)
    clear Z1 Z2 Z3 Z4 Z5 
    subst hzz
    subst hdd
    have x0 := A3.out.cell 0 rfl
    have y0 := A3.out.free 0
    have x1 := A3.out.cell 1 rfl
    have y1 := A3.out.free 1
    have x2 := A3.out.cell 2 rfl
    have y2 := A3.out.free 2
    have x3 := A3.out.cell 3 rfl
    have y3 := A3.out.free 3
    have x4 := A3.out.cell 4 rfl
    have y4 := A3.out.free 4
    have x5 := A3.out.cell 5 rfl
    have y5 := A3.out.free 5
    have x6 := A3.out.cell 6 rfl
    have y6 := A3.out.free 6
    have x7 := A3.out.cell 7 rfl
    have y7 := A3.out.free 7
    have x8 := A3.out.cell 8 rfl
    have y8 := A3.out.free 8
    have x9 := A3.out.cell 9 rfl
    have y9 := A3.out.free 9
    go_wp2_with fail
    refine bodyPost_ret (v := .tuple #[dg0.val, .int .i64 6]) (res_rd (d := dg0) rfl rfl ((((((((((A3.out.set_ 0 _).set_ 1 _).set_ 2 _).set_ 3 _).set_ 4 _).set_ 5 _).set_ 6 _).set_ 7 _).set_ 8 _).set_ 9 _)) rfl ⟨rfl, ?_⟩
    repeat (with_reducible refine below_setNew ?_ (Nat.le_refl _) _)
    exact B3.out
theorem dread_any (s : ByteArray) (w : World) (hs : s.size ≤ 281474976710656) : Calls Try.prog 14 #[.string s] w (GivesDZ w (rD s) (rE s)) := by
  by_cases h : s.size < 12
  · rw [rD_cut h, rE_cut h]
    exact dread_cut s w h
  · exact dread_long s w h hs _ _ rfl rfl
end Go.Proofs.Ytekolkbahhbcjaa

/- Proved: what the document's fields answers. Conditions: those that the theorems name. -/
import Derived.Test.YtekolkbahhbcjaaDgRefPut
namespace Go.Proofs.Ytekolkbahhbcjaa
open Go.ChangeShapes Go.WideShapes Go.ChangeAt Go.RowKit

/-- A reader and a datagram come back; nothing that was there has turned. -/
def GivesRF (W : World) (s : ByteArray) (z : Int) (d : Dg) (e : Ending) (w' : World) : Prop := e = .returned (.tuple #[.agg #[.string s, .int .i64 z], d.val]) ∧ Below W.heap.size W w'
theorem At.drew {w : World} {b : Nat} {t : TypeId} {xs : List Value} (h : At w b t xs) : At w.drew b t xs := h
theorem res_rf {T : Array Value} {W : World} {b c : Nat} {s : ByteArray} {z : Int} {d : Dg} (h4 : T.getD 4 undef = .pointer (some ⟨b, 0, none⟩)) (h5 : T.getD 5 undef = .pointer (some ⟨c, 0, none⟩)) (R : At W b 59 [.string s, .int .i64 z]) (A : At W c 24 d.cells) : (results Try.f28 T).run Try.prog W = .ok (.tuple #[.agg #[.string s, .int .i64 z], d.val]) W := by
  have h4' : T[4]?.getD undef = .pointer (some ⟨b, 0, none⟩) := by simpa using h4
  have h5' : T[5]?.getD undef = .pointer (some ⟨c, 0, none⟩) := by simpa using h5
  have r0 := R.cell 0 rfl
  have r1 := R.cell 1 rfl
  have c0 := A.cell 0 rfl
  have c1 := A.cell 1 rfl
  have c2 := A.cell 2 rfl
  have c3 := A.cell 3 rfl
  have c4 := A.cell 4 rfl
  have c5 := A.cell 5 rfl
  have c6 := A.cell 6 rfl
  have c7 := A.cell 7 rfl
  have c8 := A.cell 8 rfl
  have c9 := A.cell 9 rfl
  simp [results, Try.results28, h4', h5', r0, r1, c0, c1, c2, c3, c4, c5, c6, c7, c8, c9, Dg.val, go_sem]
theorem rnum_at (a : ByteArray) (p m q : Nat) (w : World) (hp : p + m = q) (hq : q ≤ a.size) (ha : a.size ≤ 281474976710656) (hm : m = 1 ∨ m = 2 ∨ m = 4) :
    Calls Try.prog 27 #[.agg #[.string (sfx a p), .int .i64 0], .int .i64 m] w (GivesR9 w (sfx a q) 0 (.int .u32 (cutN a p q : Nat))) := by
  subst hp
  have h := rnum_any (sfx a p) 0 m w (by rw [sfx_size]; omega)
  have e : sizedB (m : Int) = true := by unfold sizedB; rcases hm with rfl | rfl | rfl <;> rfl
  obtain ⟨q1, q2, q3⟩ := sfx_take hq
  rw [e, q1, q2, q3] at h
  exact h
theorem rbytes_at (a : ByteArray) (p m q : Nat) (w : World) (hp : p + m = q) (hq : q ≤ a.size) :
    Calls Try.prog 42 #[.agg #[.string (sfx a p), .int .i64 0], .int .i64 m] w (GivesR9 w (sfx a q) 0 (.string (a.extract p q))) := by
  subst hp
  have h := rbytes_any (sfx a p) 0 m w
  have e : decide (0 ≤ (m : Int)) = true := decide_eq_true (by omega)
  obtain ⟨q1, q2, q3⟩ := sfx_take hq
  rw [e, q1, q2, q3] at h
  exact h
theorem rnum_short (s : ByteArray) (e : Int) (m : Nat) (w : World) (hs : s.size ≤ 281474976710656) (hm : m = 1 ∨ m = 2 ∨ m = 4) :
    ∃ v : Nat, v < 4294967296 ∧ Calls Try.prog 27 #[.agg #[.string s, .int .i64 e], .int .i64 m] w (GivesR9 w (tkR s e m true) (tkE s e m true) (.int .u32 v)) := by
  have h := rnum_any s e m w hs
  have hz := num_size s e (m : Int)
  have e1 : sizedB (m : Int) = true := by unfold sizedB; rcases hm with rfl | rfl | rfl <;> rfl
  rw [e1] at h hz
  refine ⟨_, ?_, h⟩
  exact Nat.lt_of_lt_of_le (numS_lt _) (Nat.pow_le_pow_right (by decide) hz)
set_option maxRecDepth 100000 in
set_option maxHeartbeats 3200000 in
theorem rf_bare (k : Int) (vs vb : Nat) (S : ByteArray) (w : World) (h : k = 5 ∨ k = 6) : Calls Try.prog 28 #[.agg #[.string S, .int .i64 0], Dg.val ⟨k, vs, vb, 0, 0, 0, 0, 0, ⟨#[]⟩, ⟨#[]⟩⟩] w (GivesRF w S 0 ⟨k, vs, vb, 0, 0, 0, 0, 0, ⟨#[]⟩, ⟨#[]⟩⟩) := by
  unfold Dg.val
  simp only
  rcases h with rfl | rfl
  all_goals
    go_enter Try.func28, Try.ntmps28
    go_wp2_with fail
    go_region
    go_wp2_with fail
    refine bodyPost_ret (v := .tuple #[.agg #[.string S, .int .i64 0], Dg.val ⟨_, vs, vb, 0, 0, 0, 0, 0, ⟨#[]⟩, ⟨#[]⟩⟩]) (by simp [results, Try.results28, Dg.val, go_sem]) rfl ⟨rfl, ?_⟩
    exact (((((Below.refl _ _).alloc (Nat.le_refl _) _).alloc (by simp) _).alloc (by simp; omega) _).alloc (by simp; omega) _).drew
set_option maxRecDepth 100000 in
set_option maxHeartbeats 3200000 in
theorem rf_hav (vs vb : Nat) (S X Y : ByteArray) (z : Int) (w : World) (HB : Hid (∀ w, Calls Try.prog 42 #[.agg #[.string S, .int .i64 0], .int .i64 32] w (GivesR9 w Y z (.string X)))) : Calls Try.prog 28 #[.agg #[.string S, .int .i64 0], Dg.val ⟨3, vs, vb, 0, 0, 0, 0, 0, ⟨#[]⟩, ⟨#[]⟩⟩] w (GivesRF w Y z ⟨3, vs, vb, 0, 0, 0, 0, 0, X, ⟨#[]⟩⟩) := by
  unfold Dg.val
  simp only
  go_enter Try.func28, Try.ntmps28
  go_wp2_with fail
  refine (HB.out _).mono ?_; rintro e w1 ⟨rfl, g1⟩
  have D1 : Hid (At w1 (w.heap.size + 1) 24 [.int .i64 3, .int .i64 (vs : Nat), .int .u32 (vb : Nat), .int .i64 0, .int .i64 0, .int .i64 0, .int .i64 0, .int .i64 0, .string ⟨#[]⟩, .string ⟨#[]⟩]) := Lib.hid (At.below (by have q := ((At.new (w.alloc (.cells #[.string S, .int .i64 0] 59)) 24 [.int .i64 3, .int .i64 (vs : Nat), .int .u32 (vb : Nat), .int .i64 0, .int .i64 0, .int .i64 0, .int .i64 0, .int .i64 0, .string ⟨#[]⟩, .string ⟨#[]⟩]).alloc (.cells #[.string ⟨#[]⟩, .int .i64 0] 59)).alloc (.cells #[.int .i64 0, .int .i64 0, .int .u32 0, .int .i64 0, .int .i64 0, .int .i64 0, .int .i64 0, .int .i64 0, .string ⟨#[]⟩, .string ⟨#[]⟩] 24); simpa using q) g1 (by first | (simp; done) | (simp; omega)))
  have R1 : Hid (At w1 (w.heap.size + 1 + 1) 59 [.string ⟨#[]⟩, .int .i64 0]) := Lib.hid (At.below (by have q := (At.new ((w.alloc (.cells #[.string S, .int .i64 0] 59)).alloc (.cells #[.int .i64 3, .int .i64 (vs : Nat), .int .u32 (vb : Nat), .int .i64 0, .int .i64 0, .int .i64 0, .int .i64 0, .int .i64 0, .string ⟨#[]⟩, .string ⟨#[]⟩] 24)) 59 [.string ⟨#[]⟩, .int .i64 0]).alloc (.cells #[.int .i64 0, .int .i64 0, .int .u32 0, .int .i64 0, .int .i64 0, .int .i64 0, .int .i64 0, .int .i64 0, .string ⟨#[]⟩, .string ⟨#[]⟩] 24); simpa using q) g1 (by simp))
  have Q1 : Hid (At w1 (w.heap.size + 1 + 1 + 1) 24 [.int .i64 0, .int .i64 0, .int .u32 0, .int .i64 0, .int .i64 0, .int .i64 0, .int .i64 0, .int .i64 0, .string ⟨#[]⟩, .string ⟨#[]⟩]) := Lib.hid (At.below (by have q := At.new (((w.alloc (.cells #[.string S, .int .i64 0] 59)).alloc (.cells #[.int .i64 3, .int .i64 (vs : Nat), .int .u32 (vb : Nat), .int .i64 0, .int .i64 0, .int .i64 0, .int .i64 0, .int .i64 0, .string ⟨#[]⟩, .string ⟨#[]⟩] 24)).alloc (.cells #[.string ⟨#[]⟩, .int .i64 0] 59)) 24 [.int .i64 0, .int .i64 0, .int .u32 0, .int .i64 0, .int .i64 0, .int .i64 0, .int .i64 0, .int .i64 0, .string ⟨#[]⟩, .string ⟨#[]⟩]; simpa using q) g1 (by simp))
  have B1 : Hid (Below w.heap.size w w1) := Lib.hid (((((((Below.refl _ _).alloc (Nat.le_refl _) _).alloc (by simp) _).alloc (by simp; omega) _).alloc (by simp; omega) _)).trans (g1.mono (by simp; omega)))
  have hz1 : w.heap.size + 1 < w1.heap.size := D1.out.lt
  have hz2 : w.heap.size + 1 + 1 < w1.heap.size := R1.out.lt
  have hz3 : w.heap.size + 1 + 1 + 1 < w1.heap.size := Q1.out.lt
  clear g1
  have x8 := D1.out.cell 8 rfl
  have y8 := D1.out.free 8
  go_wp2_with fail
  have D9 := Lib.hid ((D1.out.set_ 8 (.string X)).alloc (.cells #[.string Y, .int .i64 z] 59))
  have R9 := Lib.hid ((R1.out.far (p := ⟨w.heap.size + 1, 8, none⟩) (by first | (simp; done) | (simp; omega)) (.string X)).alloc (.cells #[.string Y, .int .i64 z] 59))
  have Q9 := Lib.hid ((Q1.out.far (p := ⟨w.heap.size + 1, 8, none⟩) (by first | (simp; done) | (simp; omega)) (.string X)).alloc (.cells #[.string Y, .int .i64 z] 59))
  have T9 : Hid (At ((w1.setCell ⟨w.heap.size + 1, 8, none⟩ (.string X)).alloc (.cells #[.string Y, .int .i64 z] 59)) w1.heap.size 59 [.string Y, .int .i64 z]) := Lib.hid (by have q := At.new (w1.setCell ⟨w.heap.size + 1, 8, none⟩ (.string X)) 59 [.string Y, .int .i64 z]; simpa using q)
  have B9 := Lib.hid ((B1.out.setCell (p := ⟨w.heap.size + 1, 8, none⟩) (by first | (simp; done) | (simp; omega)) (.string X)).alloc (Nat.le_trans B1.out.size (by simp)) (.cells #[.string Y, .int .i64 z] 59))
  generalize (w1.setCell ⟨w.heap.size + 1, 8, none⟩ (.string X)).alloc (.cells #[.string Y, .int .i64 z] 59) = w9 at *
  have dc0 := D9.out.cell 0 rfl
  have dc1 := D9.out.cell 1 rfl
  have dc2 := D9.out.cell 2 rfl
  have dc3 := D9.out.cell 3 rfl
  have dc4 := D9.out.cell 4 rfl
  have dc5 := D9.out.cell 5 rfl
  have dc6 := D9.out.cell 6 rfl
  have dc7 := D9.out.cell 7 rfl
  have dc8 := D9.out.cell 8 rfl
  have dc9 := D9.out.cell 9 rfl
  have tc0 := T9.out.cell 0 rfl
  have tc1 := T9.out.cell 1 rfl
  have rc0 := R9.out.cell 0 rfl
  have rf0 := R9.out.free 0
  have rc1 := R9.out.cell 1 rfl
  have rf1 := R9.out.free 1
  have qc0 := Q9.out.cell 0 rfl
  have qf0 := Q9.out.free 0
  have qc1 := Q9.out.cell 1 rfl
  have qf1 := Q9.out.free 1
  have qc2 := Q9.out.cell 2 rfl
  have qf2 := Q9.out.free 2
  have qc3 := Q9.out.cell 3 rfl
  have qf3 := Q9.out.free 3
  have qc4 := Q9.out.cell 4 rfl
  have qf4 := Q9.out.free 4
  have qc5 := Q9.out.cell 5 rfl
  have qf5 := Q9.out.free 5
  have qc6 := Q9.out.cell 6 rfl
  have qf6 := Q9.out.free 6
  have qc7 := Q9.out.cell 7 rfl
  have qf7 := Q9.out.free 7
  have qc8 := Q9.out.cell 8 rfl
  have qf8 := Q9.out.free 8
  have qc9 := Q9.out.cell 9 rfl
  have qf9 := Q9.out.free 9
  have hne : w.heap.size + 1 + 1 ≠ w.heap.size + 1 + 1 + 1 := by omega
  have hbr : w.heap.size ≤ w.heap.size + 1 + 1 := by omega
  have hbd : w.heap.size ≤ w.heap.size + 1 + 1 + 1 := by omega
  have HN3 := Lib.hid (And.intro hne (And.intro hbr hbd))
  clear hne hbr hbd
  go_region
  go_wp2_with fail
  have hne := HN3.out.1
  have hbr := HN3.out.2.1
  have hbd := HN3.out.2.2
  refine bodyPost_ret (v := .tuple #[.agg #[.string Y, .int .i64 z], Dg.val ⟨3, vs, vb, 0, 0, 0, 0, 0, X, ⟨#[]⟩⟩]) (res_rf (s := Y) (z := z) (d := ⟨3, vs, vb, 0, 0, 0, 0, 0, X, ⟨#[]⟩⟩) rfl rfl (At.drew (At.far (At.far (At.far (At.far (At.far (At.far (At.far (At.far (At.far (At.far ((R9.out.set_ 0 _).set_ 1 _) (p := ⟨w.heap.size + 1 + 1 + 1, 0, none⟩) hne _) (p := ⟨w.heap.size + 1 + 1 + 1, 1, none⟩) hne _) (p := ⟨w.heap.size + 1 + 1 + 1, 2, none⟩) hne _) (p := ⟨w.heap.size + 1 + 1 + 1, 3, none⟩) hne _) (p := ⟨w.heap.size + 1 + 1 + 1, 4, none⟩) hne _) (p := ⟨w.heap.size + 1 + 1 + 1, 5, none⟩) hne _) (p := ⟨w.heap.size + 1 + 1 + 1, 6, none⟩) hne _) (p := ⟨w.heap.size + 1 + 1 + 1, 7, none⟩) hne _) (p := ⟨w.heap.size + 1 + 1 + 1, 8, none⟩) hne _) (p := ⟨w.heap.size + 1 + 1 + 1, 9, none⟩) hne _)) (At.drew (At.set_ (At.set_ (At.set_ (At.set_ (At.set_ (At.set_ (At.set_ (At.set_ (At.set_ (At.set_ (At.far (At.far Q9.out (p := ⟨w.heap.size + 1 + 1, 0, none⟩) hne.symm _) (p := ⟨w.heap.size + 1 + 1, 1, none⟩) hne.symm _) 0 _) 1 _) 2 _) 3 _) 4 _) 5 _) 6 _) 7 _) 8 _) 9 _))) rfl ⟨rfl, ?_⟩
  exact (Below.setCell (Below.setCell (Below.setCell (Below.setCell (Below.setCell (Below.setCell (Below.setCell (Below.setCell (Below.setCell (Below.setCell (Below.setCell (Below.setCell B9.out (p := ⟨w.heap.size + 1 + 1, 0, none⟩) hbr _) (p := ⟨w.heap.size + 1 + 1, 1, none⟩) hbr _) (p := ⟨w.heap.size + 1 + 1 + 1, 0, none⟩) hbd _) (p := ⟨w.heap.size + 1 + 1 + 1, 1, none⟩) hbd _) (p := ⟨w.heap.size + 1 + 1 + 1, 2, none⟩) hbd _) (p := ⟨w.heap.size + 1 + 1 + 1, 3, none⟩) hbd _) (p := ⟨w.heap.size + 1 + 1 + 1, 4, none⟩) hbd _) (p := ⟨w.heap.size + 1 + 1 + 1, 5, none⟩) hbd _) (p := ⟨w.heap.size + 1 + 1 + 1, 6, none⟩) hbd _) (p := ⟨w.heap.size + 1 + 1 + 1, 7, none⟩) hbd _) (p := ⟨w.heap.size + 1 + 1 + 1, 8, none⟩) hbd _) (p := ⟨w.heap.size + 1 + 1 + 1, 9, none⟩) hbd _).drew
set_option maxRecDepth 100000 in
set_option maxHeartbeats 3200000 in
theorem rf_cred (vs vb v : Nat) (S Y : ByteArray) (z : Int) (w : World) (hv : v < 4294967296) (HB : Hid (∀ w, Calls Try.prog 27 #[.agg #[.string S, .int .i64 0], .int .i64 2] w (GivesR9 w Y z (.int .u32 v)))) : Calls Try.prog 28 #[.agg #[.string S, .int .i64 0], Dg.val ⟨4, vs, vb, 0, 0, 0, 0, 0, ⟨#[]⟩, ⟨#[]⟩⟩] w (GivesRF w Y z ⟨4, vs, vb, 0, 0, 0, 0, v, ⟨#[]⟩, ⟨#[]⟩⟩) := by
  have v0 : (0 : Int) ≤ (v : Int) := Int.natCast_nonneg _
  have v1 : (v : Int) < 4294967296 := by omega
  clear hv
  unfold Dg.val
  simp only
  go_enter Try.func28, Try.ntmps28
  go_wp2_with fail
  refine (HB.out _).mono ?_; rintro e w1 ⟨rfl, g1⟩
  have D1 : Hid (At w1 (w.heap.size + 1) 24 [.int .i64 4, .int .i64 (vs : Nat), .int .u32 (vb : Nat), .int .i64 0, .int .i64 0, .int .i64 0, .int .i64 0, .int .i64 0, .string ⟨#[]⟩, .string ⟨#[]⟩]) := Lib.hid (At.below (by have q := ((At.new (w.alloc (.cells #[.string S, .int .i64 0] 59)) 24 [.int .i64 4, .int .i64 (vs : Nat), .int .u32 (vb : Nat), .int .i64 0, .int .i64 0, .int .i64 0, .int .i64 0, .int .i64 0, .string ⟨#[]⟩, .string ⟨#[]⟩]).alloc (.cells #[.string ⟨#[]⟩, .int .i64 0] 59)).alloc (.cells #[.int .i64 0, .int .i64 0, .int .u32 0, .int .i64 0, .int .i64 0, .int .i64 0, .int .i64 0, .int .i64 0, .string ⟨#[]⟩, .string ⟨#[]⟩] 24); simpa using q) g1 (by first | (simp; done) | (simp; omega)))
  have R1 : Hid (At w1 (w.heap.size + 1 + 1) 59 [.string ⟨#[]⟩, .int .i64 0]) := Lib.hid (At.below (by have q := (At.new ((w.alloc (.cells #[.string S, .int .i64 0] 59)).alloc (.cells #[.int .i64 4, .int .i64 (vs : Nat), .int .u32 (vb : Nat), .int .i64 0, .int .i64 0, .int .i64 0, .int .i64 0, .int .i64 0, .string ⟨#[]⟩, .string ⟨#[]⟩] 24)) 59 [.string ⟨#[]⟩, .int .i64 0]).alloc (.cells #[.int .i64 0, .int .i64 0, .int .u32 0, .int .i64 0, .int .i64 0, .int .i64 0, .int .i64 0, .int .i64 0, .string ⟨#[]⟩, .string ⟨#[]⟩] 24); simpa using q) g1 (by simp))
  have Q1 : Hid (At w1 (w.heap.size + 1 + 1 + 1) 24 [.int .i64 0, .int .i64 0, .int .u32 0, .int .i64 0, .int .i64 0, .int .i64 0, .int .i64 0, .int .i64 0, .string ⟨#[]⟩, .string ⟨#[]⟩]) := Lib.hid (At.below (by have q := At.new (((w.alloc (.cells #[.string S, .int .i64 0] 59)).alloc (.cells #[.int .i64 4, .int .i64 (vs : Nat), .int .u32 (vb : Nat), .int .i64 0, .int .i64 0, .int .i64 0, .int .i64 0, .int .i64 0, .string ⟨#[]⟩, .string ⟨#[]⟩] 24)).alloc (.cells #[.string ⟨#[]⟩, .int .i64 0] 59)) 24 [.int .i64 0, .int .i64 0, .int .u32 0, .int .i64 0, .int .i64 0, .int .i64 0, .int .i64 0, .int .i64 0, .string ⟨#[]⟩, .string ⟨#[]⟩]; simpa using q) g1 (by simp))
  have B1 : Hid (Below w.heap.size w w1) := Lib.hid (((((((Below.refl _ _).alloc (Nat.le_refl _) _).alloc (by simp) _).alloc (by simp; omega) _).alloc (by simp; omega) _)).trans (g1.mono (by simp; omega)))
  have hz1 : w.heap.size + 1 < w1.heap.size := D1.out.lt
  have hz2 : w.heap.size + 1 + 1 < w1.heap.size := R1.out.lt
  have hz3 : w.heap.size + 1 + 1 + 1 < w1.heap.size := Q1.out.lt
  clear g1
  have x8 := D1.out.cell 7 rfl
  have y8 := D1.out.free 7
  go_wp2_with fail
  have D9 := Lib.hid ((D1.out.set_ 7 (.int .i64 v)).alloc (.cells #[.string Y, .int .i64 z] 59))
  have R9 := Lib.hid ((R1.out.far (p := ⟨w.heap.size + 1, 7, none⟩) (by first | (simp; done) | (simp; omega)) (.int .i64 v)).alloc (.cells #[.string Y, .int .i64 z] 59))
  have Q9 := Lib.hid ((Q1.out.far (p := ⟨w.heap.size + 1, 7, none⟩) (by first | (simp; done) | (simp; omega)) (.int .i64 v)).alloc (.cells #[.string Y, .int .i64 z] 59))
  have T9 : Hid (At ((w1.setCell ⟨w.heap.size + 1, 7, none⟩ (.int .i64 v)).alloc (.cells #[.string Y, .int .i64 z] 59)) w1.heap.size 59 [.string Y, .int .i64 z]) := Lib.hid (by have q := At.new (w1.setCell ⟨w.heap.size + 1, 7, none⟩ (.int .i64 v)) 59 [.string Y, .int .i64 z]; simpa using q)
  have B9 := Lib.hid ((B1.out.setCell (p := ⟨w.heap.size + 1, 7, none⟩) (by first | (simp; done) | (simp; omega)) (.int .i64 v)).alloc (Nat.le_trans B1.out.size (by simp)) (.cells #[.string Y, .int .i64 z] 59))
  generalize (w1.setCell ⟨w.heap.size + 1, 7, none⟩ (.int .i64 v)).alloc (.cells #[.string Y, .int .i64 z] 59) = w9 at *
  have dc0 := D9.out.cell 0 rfl
  have dc1 := D9.out.cell 1 rfl
  have dc2 := D9.out.cell 2 rfl
  have dc3 := D9.out.cell 3 rfl
  have dc4 := D9.out.cell 4 rfl
  have dc5 := D9.out.cell 5 rfl
  have dc6 := D9.out.cell 6 rfl
  have dc7 := D9.out.cell 7 rfl
  have dc8 := D9.out.cell 8 rfl
  have dc9 := D9.out.cell 9 rfl
  have tc0 := T9.out.cell 0 rfl
  have tc1 := T9.out.cell 1 rfl
  have rc0 := R9.out.cell 0 rfl
  have rf0 := R9.out.free 0
  have rc1 := R9.out.cell 1 rfl
  have rf1 := R9.out.free 1
  have qc0 := Q9.out.cell 0 rfl
  have qf0 := Q9.out.free 0
  have qc1 := Q9.out.cell 1 rfl
  have qf1 := Q9.out.free 1
  have qc2 := Q9.out.cell 2 rfl
  have qf2 := Q9.out.free 2
  have qc3 := Q9.out.cell 3 rfl
  have qf3 := Q9.out.free 3
  have qc4 := Q9.out.cell 4 rfl
  have qf4 := Q9.out.free 4
  have qc5 := Q9.out.cell 5 rfl
  have qf5 := Q9.out.free 5
  have qc6 := Q9.out.cell 6 rfl
  have qf6 := Q9.out.free 6
  have qc7 := Q9.out.cell 7 rfl
  have qf7 := Q9.out.free 7
  have qc8 := Q9.out.cell 8 rfl
  have qf8 := Q9.out.free 8
  have qc9 := Q9.out.cell 9 rfl
  have qf9 := Q9.out.free 9
  have hne : w.heap.size + 1 + 1 ≠ w.heap.size + 1 + 1 + 1 := by omega
  have hbr : w.heap.size ≤ w.heap.size + 1 + 1 := by omega
  have hbd : w.heap.size ≤ w.heap.size + 1 + 1 + 1 := by omega
  have HN3 := Lib.hid (And.intro hne (And.intro hbr hbd))
  clear hne hbr hbd
  go_region
  go_wp2_with fail
  have hne := HN3.out.1
  have hbr := HN3.out.2.1
  have hbd := HN3.out.2.2
  refine bodyPost_ret (v := .tuple #[.agg #[.string Y, .int .i64 z], Dg.val ⟨4, vs, vb, 0, 0, 0, 0, v, ⟨#[]⟩, ⟨#[]⟩⟩]) (res_rf (s := Y) (z := z) (d := ⟨4, vs, vb, 0, 0, 0, 0, v, ⟨#[]⟩, ⟨#[]⟩⟩) rfl rfl (At.drew (At.far (At.far (At.far (At.far (At.far (At.far (At.far (At.far (At.far (At.far ((R9.out.set_ 0 _).set_ 1 _) (p := ⟨w.heap.size + 1 + 1 + 1, 0, none⟩) hne _) (p := ⟨w.heap.size + 1 + 1 + 1, 1, none⟩) hne _) (p := ⟨w.heap.size + 1 + 1 + 1, 2, none⟩) hne _) (p := ⟨w.heap.size + 1 + 1 + 1, 3, none⟩) hne _) (p := ⟨w.heap.size + 1 + 1 + 1, 4, none⟩) hne _) (p := ⟨w.heap.size + 1 + 1 + 1, 5, none⟩) hne _) (p := ⟨w.heap.size + 1 + 1 + 1, 6, none⟩) hne _) (p := ⟨w.heap.size + 1 + 1 + 1, 7, none⟩) hne _) (p := ⟨w.heap.size + 1 + 1 + 1, 8, none⟩) hne _) (p := ⟨w.heap.size + 1 + 1 + 1, 9, none⟩) hne _)) (At.drew (At.set_ (At.set_ (At.set_ (At.set_ (At.set_ (At.set_ (At.set_ (At.set_ (At.set_ (At.set_ (At.far (At.far Q9.out (p := ⟨w.heap.size + 1 + 1, 0, none⟩) hne.symm _) (p := ⟨w.heap.size + 1 + 1, 1, none⟩) hne.symm _) 0 _) 1 _) 2 _) 3 _) 4 _) 5 _) 6 _) 7 _) 8 _) 9 _))) rfl ⟨rfl, ?_⟩
  exact (Below.setCell (Below.setCell (Below.setCell (Below.setCell (Below.setCell (Below.setCell (Below.setCell (Below.setCell (Below.setCell (Below.setCell (Below.setCell (Below.setCell B9.out (p := ⟨w.heap.size + 1 + 1, 0, none⟩) hbr _) (p := ⟨w.heap.size + 1 + 1, 1, none⟩) hbr _) (p := ⟨w.heap.size + 1 + 1 + 1, 0, none⟩) hbd _) (p := ⟨w.heap.size + 1 + 1 + 1, 1, none⟩) hbd _) (p := ⟨w.heap.size + 1 + 1 + 1, 2, none⟩) hbd _) (p := ⟨w.heap.size + 1 + 1 + 1, 3, none⟩) hbd _) (p := ⟨w.heap.size + 1 + 1 + 1, 4, none⟩) hbd _) (p := ⟨w.heap.size + 1 + 1 + 1, 5, none⟩) hbd _) (p := ⟨w.heap.size + 1 + 1 + 1, 6, none⟩) hbd _) (p := ⟨w.heap.size + 1 + 1 + 1, 7, none⟩) hbd _) (p := ⟨w.heap.size + 1 + 1 + 1, 8, none⟩) hbd _) (p := ⟨w.heap.size + 1 + 1 + 1, 9, none⟩) hbd _).drew
set_option maxRecDepth 100000 in
set_option maxHeartbeats 3200000 in
theorem rf_short (vs vb v1 v2 v3 v4 : Nat) (S s1 s2 s3 s4 : ByteArray) (e1 e2 e3 e4 : Int) (w : World) (hv1 : v1 < 4294967296) (hv2 : v2 < 4294967296) (hv3 : v3 < 4294967296) (hv4 : v4 < 4294967296) (H1 : Hid (∀ w, Calls Try.prog 27 #[.agg #[.string S, .int .i64 0], .int .i64 1] w (GivesR9 w s1 e1 (.int .u32 v1)))) (H2 : Hid (∀ w, Calls Try.prog 27 #[.agg #[.string s1, .int .i64 e1], .int .i64 1] w (GivesR9 w s2 e2 (.int .u32 v2)))) (H3 : Hid (∀ w, Calls Try.prog 27 #[.agg #[.string s2, .int .i64 e2], .int .i64 1] w (GivesR9 w s3 e3 (.int .u32 v3)))) (H4 : Hid (∀ w, Calls Try.prog 27 #[.agg #[.string s3, .int .i64 e3], .int .i64 2] w (GivesR9 w s4 e4 (.int .u32 v4)))) (he : e4 ≠ 0) (k : Int) (hk : k = 1 ∨ k = 2) : Calls Try.prog 28 #[.agg #[.string S, .int .i64 0], Dg.val ⟨k, vs, vb, 0, 0, 0, 0, 0, ⟨#[]⟩, ⟨#[]⟩⟩] w (GivesRF w s4 e4 ⟨k, vs, vb, 0, 0, 0, 0, 0, ⟨#[]⟩, ⟨#[]⟩⟩) := by
  have v1a : (0 : Int) ≤ (v1 : Int) := Int.natCast_nonneg _
  have v1b : (v1 : Int) < 4294967296 := by omega
  have v2a : (0 : Int) ≤ (v2 : Int) := Int.natCast_nonneg _
  have v2b : (v2 : Int) < 4294967296 := by omega
  have v3a : (0 : Int) ≤ (v3 : Int) := Int.natCast_nonneg _
  have v3b : (v3 : Int) < 4294967296 := by omega
  have v4a : (0 : Int) ≤ (v4 : Int) := Int.natCast_nonneg _
  have v4b : (v4 : Int) < 4294967296 := by omega
  have he2 : (e4 != 0) = true := by simpa using he
  have he3 : (e4 == 0) = false := by rw [beq_eq_false_iff_ne]; exact he
  clear he
  clear hv1 hv2 hv3 hv4
  unfold Dg.val
  simp only
  rcases hk with rfl | rfl
  · go_enter Try.func28, Try.ntmps28
    go_wp2_with fail
    refine (H1.out _).mono ?_; rintro e w1 ⟨rfl, g1⟩
    have D1 : Hid (At w1 (w.heap.size + 1) 24 [.int .i64 1, .int .i64 (vs : Nat), .int .u32 (vb : Nat), .int .i64 0, .int .i64 0, .int .i64 0, .int .i64 0, .int .i64 0, .string ⟨#[]⟩, .string ⟨#[]⟩]) := Lib.hid (At.below (by have q := ((At.new (w.alloc (.cells #[.string S, .int .i64 0] 59)) 24 [.int .i64 1, .int .i64 (vs : Nat), .int .u32 (vb : Nat), .int .i64 0, .int .i64 0, .int .i64 0, .int .i64 0, .int .i64 0, .string ⟨#[]⟩, .string ⟨#[]⟩]).alloc (.cells #[.string ⟨#[]⟩, .int .i64 0] 59)).alloc (.cells #[.int .i64 0, .int .i64 0, .int .u32 0, .int .i64 0, .int .i64 0, .int .i64 0, .int .i64 0, .int .i64 0, .string ⟨#[]⟩, .string ⟨#[]⟩] 24); simpa using q) g1 (by first | (simp; done) | (simp; omega)))
    have R1 : Hid (At w1 (w.heap.size + 1 + 1) 59 [.string ⟨#[]⟩, .int .i64 0]) := Lib.hid (At.below (by have q := (At.new ((w.alloc (.cells #[.string S, .int .i64 0] 59)).alloc (.cells #[.int .i64 1, .int .i64 (vs : Nat), .int .u32 (vb : Nat), .int .i64 0, .int .i64 0, .int .i64 0, .int .i64 0, .int .i64 0, .string ⟨#[]⟩, .string ⟨#[]⟩] 24)) 59 [.string ⟨#[]⟩, .int .i64 0]).alloc (.cells #[.int .i64 0, .int .i64 0, .int .u32 0, .int .i64 0, .int .i64 0, .int .i64 0, .int .i64 0, .int .i64 0, .string ⟨#[]⟩, .string ⟨#[]⟩] 24); simpa using q) g1 (by simp))
    have Q1 : Hid (At w1 (w.heap.size + 1 + 1 + 1) 24 [.int .i64 0, .int .i64 0, .int .u32 0, .int .i64 0, .int .i64 0, .int .i64 0, .int .i64 0, .int .i64 0, .string ⟨#[]⟩, .string ⟨#[]⟩]) := Lib.hid (At.below (by have q := At.new (((w.alloc (.cells #[.string S, .int .i64 0] 59)).alloc (.cells #[.int .i64 1, .int .i64 (vs : Nat), .int .u32 (vb : Nat), .int .i64 0, .int .i64 0, .int .i64 0, .int .i64 0, .int .i64 0, .string ⟨#[]⟩, .string ⟨#[]⟩] 24)).alloc (.cells #[.string ⟨#[]⟩, .int .i64 0] 59)) 24 [.int .i64 0, .int .i64 0, .int .u32 0, .int .i64 0, .int .i64 0, .int .i64 0, .int .i64 0, .int .i64 0, .string ⟨#[]⟩, .string ⟨#[]⟩]; simpa using q) g1 (by simp))
    have B1 : Hid (Below w.heap.size w w1) := Lib.hid (((((((Below.refl _ _).alloc (Nat.le_refl _) _).alloc (by simp) _).alloc (by simp; omega) _).alloc (by simp; omega) _)).trans (g1.mono (by simp; omega)))
    have hz1 : w.heap.size + 1 < w1.heap.size := D1.out.lt
    have hz2 : w.heap.size + 1 + 1 < w1.heap.size := R1.out.lt
    have hz3 : w.heap.size + 1 + 1 + 1 < w1.heap.size := Q1.out.lt
    clear g1
    go_wp2_with fail
    have hbz : w.heap.size + 1 + 1 + 1 < w1.heap.size := hz3
    have D2 := Lib.hid (D1.out.alloc (.cells #[.string s1, .int .i64 e1] 59))
    have R2 := Lib.hid (R1.out.alloc (.cells #[.string s1, .int .i64 e1] 59))
    have Q2 := Lib.hid (Q1.out.alloc (.cells #[.string s1, .int .i64 e1] 59))
    have T2 : Hid (At (w1.alloc (.cells #[.string s1, .int .i64 e1] 59)) w1.heap.size 59 [.string s1, .int .i64 e1]) := Lib.hid (At.new w1 59 [.string s1, .int .i64 e1])
    have B2 := Lib.hid (B1.out.alloc B1.out.size (.cells #[.string s1, .int .i64 e1] 59))
    generalize w1.alloc (.cells #[.string s1, .int .i64 e1] 59) = w2 at *
    generalize w1.heap.size = tb at *
    clear D1 R1 Q1 B1 hz1 hz2 hz3
    have tc0 := T2.out.cell 0 rfl
    have tc1 := T2.out.cell 1 rfl
    go_wp2_with fail
    refine (H2.out _).mono ?_; rintro e w3 ⟨rfl, g1⟩
    have D3 := Lib.hid (D2.out.below g1 D2.out.lt)
    have R3 := Lib.hid (R2.out.below g1 R2.out.lt)
    have Q3 := Lib.hid (Q2.out.below g1 Q2.out.lt)
    have T3 := Lib.hid (T2.out.below g1 T2.out.lt)
    have B3 := Lib.hid (B2.out.trans (g1.mono B2.out.size))
    clear g1 tc0 tc1 D2 R2 Q2 T2 B2
    have tc0 := T3.out.cell 0 rfl
    have tc1 := T3.out.cell 1 rfl
    have tf0 := T3.out.free 0
    have tf1 := T3.out.free 1
    go_wp2_with fail
    have D4 := Lib.hid ((D3.out.far (p := ⟨tb, 0, none⟩) (by first | (simp; done) | (simp; omega)) (.string s2)).far (p := ⟨tb, 1, none⟩) (by first | (simp; done) | (simp; omega)) (.int .i64 e2))
    have R4 := Lib.hid ((R3.out.far (p := ⟨tb, 0, none⟩) (by first | (simp; done) | (simp; omega)) (.string s2)).far (p := ⟨tb, 1, none⟩) (by first | (simp; done) | (simp; omega)) (.int .i64 e2))
    have Q4 := Lib.hid ((Q3.out.far (p := ⟨tb, 0, none⟩) (by first | (simp; done) | (simp; omega)) (.string s2)).far (p := ⟨tb, 1, none⟩) (by first | (simp; done) | (simp; omega)) (.int .i64 e2))
    have T4 := Lib.hid ((T3.out.set_ 0 (.string s2)).set_ 1 (.int .i64 e2))
    have B4 := Lib.hid ((B3.out.setCell (p := ⟨tb, 0, none⟩) (by first | (simp; done) | (simp; omega)) (.string s2)).setCell (p := ⟨tb, 1, none⟩) (by first | (simp; done) | (simp; omega)) (.int .i64 e2))
    generalize ((w3.setCell ⟨tb, 0, none⟩ (.string s2)).setCell ⟨tb, 1, none⟩ (.int .i64 e2)) = w4 at *
    clear tc0 tc1 tf0 tf1 D3 R3 Q3 T3 B3
    have tc0 := T4.out.cell 0 rfl
    have tc1 := T4.out.cell 1 rfl
    go_wp2_with fail
    refine (H3.out _).mono ?_; rintro e w5 ⟨rfl, g1⟩
    have D5 := Lib.hid (D4.out.below g1 D4.out.lt)
    have R5 := Lib.hid (R4.out.below g1 R4.out.lt)
    have Q5 := Lib.hid (Q4.out.below g1 Q4.out.lt)
    have T5 := Lib.hid (T4.out.below g1 T4.out.lt)
    have B5 := Lib.hid (B4.out.trans (g1.mono B4.out.size))
    clear g1 tc0 tc1 D4 R4 Q4 T4 B4
    have tc0 := T5.out.cell 0 rfl
    have tc1 := T5.out.cell 1 rfl
    have tf0 := T5.out.free 0
    have tf1 := T5.out.free 1
    go_wp2_with fail
    have D6 := Lib.hid ((D5.out.far (p := ⟨tb, 0, none⟩) (by first | (simp; done) | (simp; omega)) (.string s3)).far (p := ⟨tb, 1, none⟩) (by first | (simp; done) | (simp; omega)) (.int .i64 e3))
    have R6 := Lib.hid ((R5.out.far (p := ⟨tb, 0, none⟩) (by first | (simp; done) | (simp; omega)) (.string s3)).far (p := ⟨tb, 1, none⟩) (by first | (simp; done) | (simp; omega)) (.int .i64 e3))
    have Q6 := Lib.hid ((Q5.out.far (p := ⟨tb, 0, none⟩) (by first | (simp; done) | (simp; omega)) (.string s3)).far (p := ⟨tb, 1, none⟩) (by first | (simp; done) | (simp; omega)) (.int .i64 e3))
    have T6 := Lib.hid ((T5.out.set_ 0 (.string s3)).set_ 1 (.int .i64 e3))
    have B6 := Lib.hid ((B5.out.setCell (p := ⟨tb, 0, none⟩) (by first | (simp; done) | (simp; omega)) (.string s3)).setCell (p := ⟨tb, 1, none⟩) (by first | (simp; done) | (simp; omega)) (.int .i64 e3))
    generalize ((w5.setCell ⟨tb, 0, none⟩ (.string s3)).setCell ⟨tb, 1, none⟩ (.int .i64 e3)) = w6 at *
    clear tc0 tc1 tf0 tf1 D5 R5 Q5 T5 B5
    have tc0 := T6.out.cell 0 rfl
    have tc1 := T6.out.cell 1 rfl
    go_wp2_with fail
    refine (H4.out _).mono ?_; rintro e w7 ⟨rfl, g1⟩
    have D7 := Lib.hid (D6.out.below g1 D6.out.lt)
    have R7 := Lib.hid (R6.out.below g1 R6.out.lt)
    have Q7 := Lib.hid (Q6.out.below g1 Q6.out.lt)
    have T7 := Lib.hid (T6.out.below g1 T6.out.lt)
    have B7 := Lib.hid (B6.out.trans (g1.mono B6.out.size))
    clear g1 tc0 tc1 D6 R6 Q6 T6 B6
    have tc0 := T7.out.cell 0 rfl
    have tc1 := T7.out.cell 1 rfl
    have tf0 := T7.out.free 0
    have tf1 := T7.out.free 1
    go_wp2_with fail
    have D9 := Lib.hid ((D7.out.far (p := ⟨tb, 0, none⟩) (by first | (simp; done) | (simp; omega)) (.string s4)).far (p := ⟨tb, 1, none⟩) (by first | (simp; done) | (simp; omega)) (.int .i64 e4))
    have R9 := Lib.hid ((R7.out.far (p := ⟨tb, 0, none⟩) (by first | (simp; done) | (simp; omega)) (.string s4)).far (p := ⟨tb, 1, none⟩) (by first | (simp; done) | (simp; omega)) (.int .i64 e4))
    have Q9 := Lib.hid ((Q7.out.far (p := ⟨tb, 0, none⟩) (by first | (simp; done) | (simp; omega)) (.string s4)).far (p := ⟨tb, 1, none⟩) (by first | (simp; done) | (simp; omega)) (.int .i64 e4))
    have T9 : Hid (At (((w7.setCell ⟨tb, 0, none⟩ (.string s4)).setCell ⟨tb, 1, none⟩ (.int .i64 e4))) tb 59 [.string s4, .int .i64 e4]) := Lib.hid ((T7.out.set_ 0 (.string s4)).set_ 1 (.int .i64 e4))
    have B9 := Lib.hid ((B7.out.setCell (p := ⟨tb, 0, none⟩) (by first | (simp; done) | (simp; omega)) (.string s4)).setCell (p := ⟨tb, 1, none⟩) (by first | (simp; done) | (simp; omega)) (.int .i64 e4))
    clear tc0 tc1 tf0 tf1
    generalize ((w7.setCell ⟨tb, 0, none⟩ (.string s4)).setCell ⟨tb, 1, none⟩ (.int .i64 e4)) = w9 at *
    have dc0 := D9.out.cell 0 rfl
    have dc1 := D9.out.cell 1 rfl
    have dc2 := D9.out.cell 2 rfl
    have dc3 := D9.out.cell 3 rfl
    have dc4 := D9.out.cell 4 rfl
    have dc5 := D9.out.cell 5 rfl
    have dc6 := D9.out.cell 6 rfl
    have dc7 := D9.out.cell 7 rfl
    have dc8 := D9.out.cell 8 rfl
    have dc9 := D9.out.cell 9 rfl
    have tc0 := T9.out.cell 0 rfl
    have tc1 := T9.out.cell 1 rfl
    have rc0 := R9.out.cell 0 rfl
    have rf0 := R9.out.free 0
    have rc1 := R9.out.cell 1 rfl
    have rf1 := R9.out.free 1
    have qc0 := Q9.out.cell 0 rfl
    have qf0 := Q9.out.free 0
    have qc1 := Q9.out.cell 1 rfl
    have qf1 := Q9.out.free 1
    have qc2 := Q9.out.cell 2 rfl
    have qf2 := Q9.out.free 2
    have qc3 := Q9.out.cell 3 rfl
    have qf3 := Q9.out.free 3
    have qc4 := Q9.out.cell 4 rfl
    have qf4 := Q9.out.free 4
    have qc5 := Q9.out.cell 5 rfl
    have qf5 := Q9.out.free 5
    have qc6 := Q9.out.cell 6 rfl
    have qf6 := Q9.out.free 6
    have qc7 := Q9.out.cell 7 rfl
    have qf7 := Q9.out.free 7
    have qc8 := Q9.out.cell 8 rfl
    have qf8 := Q9.out.free 8
    have qc9 := Q9.out.cell 9 rfl
    have qf9 := Q9.out.free 9
    have hne : w.heap.size + 1 + 1 ≠ w.heap.size + 1 + 1 + 1 := by omega
    have hbr : w.heap.size ≤ w.heap.size + 1 + 1 := by omega
    have hbd : w.heap.size ≤ w.heap.size + 1 + 1 + 1 := by omega
    have HN3 := Lib.hid (And.intro hne (And.intro hbr hbd))
    clear hne hbr hbd
    go_region
    go_wp2_with fail
    have hne := HN3.out.1
    have hbr := HN3.out.2.1
    have hbd := HN3.out.2.2
    refine bodyPost_ret (v := .tuple #[.agg #[.string s4, .int .i64 e4], Dg.val ⟨1, vs, vb, 0, 0, 0, 0, 0, ⟨#[]⟩, ⟨#[]⟩⟩]) (res_rf (s := s4) (z := e4) (d := ⟨1, vs, vb, 0, 0, 0, 0, 0, ⟨#[]⟩, ⟨#[]⟩⟩) rfl rfl (At.drew (At.far (At.far (At.far (At.far (At.far (At.far (At.far (At.far (At.far (At.far ((R9.out.set_ 0 _).set_ 1 _) (p := ⟨w.heap.size + 1 + 1 + 1, 0, none⟩) hne _) (p := ⟨w.heap.size + 1 + 1 + 1, 1, none⟩) hne _) (p := ⟨w.heap.size + 1 + 1 + 1, 2, none⟩) hne _) (p := ⟨w.heap.size + 1 + 1 + 1, 3, none⟩) hne _) (p := ⟨w.heap.size + 1 + 1 + 1, 4, none⟩) hne _) (p := ⟨w.heap.size + 1 + 1 + 1, 5, none⟩) hne _) (p := ⟨w.heap.size + 1 + 1 + 1, 6, none⟩) hne _) (p := ⟨w.heap.size + 1 + 1 + 1, 7, none⟩) hne _) (p := ⟨w.heap.size + 1 + 1 + 1, 8, none⟩) hne _) (p := ⟨w.heap.size + 1 + 1 + 1, 9, none⟩) hne _)) (At.drew (At.set_ (At.set_ (At.set_ (At.set_ (At.set_ (At.set_ (At.set_ (At.set_ (At.set_ (At.set_ (At.far (At.far Q9.out (p := ⟨w.heap.size + 1 + 1, 0, none⟩) hne.symm _) (p := ⟨w.heap.size + 1 + 1, 1, none⟩) hne.symm _) 0 _) 1 _) 2 _) 3 _) 4 _) 5 _) 6 _) 7 _) 8 _) 9 _))) rfl ⟨rfl, ?_⟩
    exact (Below.setCell (Below.setCell (Below.setCell (Below.setCell (Below.setCell (Below.setCell (Below.setCell (Below.setCell (Below.setCell (Below.setCell (Below.setCell (Below.setCell B9.out (p := ⟨w.heap.size + 1 + 1, 0, none⟩) hbr _) (p := ⟨w.heap.size + 1 + 1, 1, none⟩) hbr _) (p := ⟨w.heap.size + 1 + 1 + 1, 0, none⟩) hbd _) (p := ⟨w.heap.size + 1 + 1 + 1, 1, none⟩) hbd _) (p := ⟨w.heap.size + 1 + 1 + 1, 2, none⟩) hbd _) (p := ⟨w.heap.size + 1 + 1 + 1, 3, none⟩) hbd _) (p := ⟨w.heap.size + 1 + 1 + 1, 4, none⟩) hbd _) (p := ⟨w.heap.size + 1 + 1 + 1, 5, none⟩) hbd _) (p := ⟨w.heap.size + 1 + 1 + 1, 6, none⟩) hbd _) (p := ⟨w.heap.size + 1 + 1 + 1, 7, none⟩) hbd _) (p := ⟨w.heap.size + 1 + 1 + 1, 8, none⟩) hbd _) (p := ⟨w.heap.size + 1 + 1 + 1, 9, none⟩) hbd _).drew
  · go_enter Try.func28, Try.ntmps28
    go_wp2_with fail
    refine (H1.out _).mono ?_; rintro e w1 ⟨rfl, g1⟩
    have D1 : Hid (At w1 (w.heap.size + 1) 24 [.int .i64 2, .int .i64 (vs : Nat), .int .u32 (vb : Nat), .int .i64 0, .int .i64 0, .int .i64 0, .int .i64 0, .int .i64 0, .string ⟨#[]⟩, .string ⟨#[]⟩]) := Lib.hid (At.below (by have q := ((At.new (w.alloc (.cells #[.string S, .int .i64 0] 59)) 24 [.int .i64 2, .int .i64 (vs : Nat), .int .u32 (vb : Nat), .int .i64 0, .int .i64 0, .int .i64 0, .int .i64 0, .int .i64 0, .string ⟨#[]⟩, .string ⟨#[]⟩]).alloc (.cells #[.string ⟨#[]⟩, .int .i64 0] 59)).alloc (.cells #[.int .i64 0, .int .i64 0, .int .u32 0, .int .i64 0, .int .i64 0, .int .i64 0, .int .i64 0, .int .i64 0, .string ⟨#[]⟩, .string ⟨#[]⟩] 24); simpa using q) g1 (by first | (simp; done) | (simp; omega)))
    have R1 : Hid (At w1 (w.heap.size + 1 + 1) 59 [.string ⟨#[]⟩, .int .i64 0]) := Lib.hid (At.below (by have q := (At.new ((w.alloc (.cells #[.string S, .int .i64 0] 59)).alloc (.cells #[.int .i64 2, .int .i64 (vs : Nat), .int .u32 (vb : Nat), .int .i64 0, .int .i64 0, .int .i64 0, .int .i64 0, .int .i64 0, .string ⟨#[]⟩, .string ⟨#[]⟩] 24)) 59 [.string ⟨#[]⟩, .int .i64 0]).alloc (.cells #[.int .i64 0, .int .i64 0, .int .u32 0, .int .i64 0, .int .i64 0, .int .i64 0, .int .i64 0, .int .i64 0, .string ⟨#[]⟩, .string ⟨#[]⟩] 24); simpa using q) g1 (by simp))
    have Q1 : Hid (At w1 (w.heap.size + 1 + 1 + 1) 24 [.int .i64 0, .int .i64 0, .int .u32 0, .int .i64 0, .int .i64 0, .int .i64 0, .int .i64 0, .int .i64 0, .string ⟨#[]⟩, .string ⟨#[]⟩]) := Lib.hid (At.below (by have q := At.new (((w.alloc (.cells #[.string S, .int .i64 0] 59)).alloc (.cells #[.int .i64 2, .int .i64 (vs : Nat), .int .u32 (vb : Nat), .int .i64 0, .int .i64 0, .int .i64 0, .int .i64 0, .int .i64 0, .string ⟨#[]⟩, .string ⟨#[]⟩] 24)).alloc (.cells #[.string ⟨#[]⟩, .int .i64 0] 59)) 24 [.int .i64 0, .int .i64 0, .int .u32 0, .int .i64 0, .int .i64 0, .int .i64 0, .int .i64 0, .int .i64 0, .string ⟨#[]⟩, .string ⟨#[]⟩]; simpa using q) g1 (by simp))
    have B1 : Hid (Below w.heap.size w w1) := Lib.hid (((((((Below.refl _ _).alloc (Nat.le_refl _) _).alloc (by simp) _).alloc (by simp; omega) _).alloc (by simp; omega) _)).trans (g1.mono (by simp; omega)))
    have hz1 : w.heap.size + 1 < w1.heap.size := D1.out.lt
    have hz2 : w.heap.size + 1 + 1 < w1.heap.size := R1.out.lt
    have hz3 : w.heap.size + 1 + 1 + 1 < w1.heap.size := Q1.out.lt
    clear g1
    go_wp2_with fail
    have hbz : w.heap.size + 1 + 1 + 1 < w1.heap.size := hz3
    have D2 := Lib.hid (D1.out.alloc (.cells #[.string s1, .int .i64 e1] 59))
    have R2 := Lib.hid (R1.out.alloc (.cells #[.string s1, .int .i64 e1] 59))
    have Q2 := Lib.hid (Q1.out.alloc (.cells #[.string s1, .int .i64 e1] 59))
    have T2 : Hid (At (w1.alloc (.cells #[.string s1, .int .i64 e1] 59)) w1.heap.size 59 [.string s1, .int .i64 e1]) := Lib.hid (At.new w1 59 [.string s1, .int .i64 e1])
    have B2 := Lib.hid (B1.out.alloc B1.out.size (.cells #[.string s1, .int .i64 e1] 59))
    generalize w1.alloc (.cells #[.string s1, .int .i64 e1] 59) = w2 at *
    generalize w1.heap.size = tb at *
    clear D1 R1 Q1 B1 hz1 hz2 hz3
    have tc0 := T2.out.cell 0 rfl
    have tc1 := T2.out.cell 1 rfl
    go_wp2_with fail
    refine (H2.out _).mono ?_; rintro e w3 ⟨rfl, g1⟩
    have D3 := Lib.hid (D2.out.below g1 D2.out.lt)
    have R3 := Lib.hid (R2.out.below g1 R2.out.lt)
    have Q3 := Lib.hid (Q2.out.below g1 Q2.out.lt)
    have T3 := Lib.hid (T2.out.below g1 T2.out.lt)
    have B3 := Lib.hid (B2.out.trans (g1.mono B2.out.size))
    clear g1 tc0 tc1 D2 R2 Q2 T2 B2
    have tc0 := T3.out.cell 0 rfl
    have tc1 := T3.out.cell 1 rfl
    have tf0 := T3.out.free 0
    have tf1 := T3.out.free 1
    go_wp2_with fail
    have D4 := Lib.hid ((D3.out.far (p := ⟨tb, 0, none⟩) (by first | (simp; done) | (simp; omega)) (.string s2)).far (p := ⟨tb, 1, none⟩) (by first | (simp; done) | (simp; omega)) (.int .i64 e2))
    have R4 := Lib.hid ((R3.out.far (p := ⟨tb, 0, none⟩) (by first | (simp; done) | (simp; omega)) (.string s2)).far (p := ⟨tb, 1, none⟩) (by first | (simp; done) | (simp; omega)) (.int .i64 e2))
    have Q4 := Lib.hid ((Q3.out.far (p := ⟨tb, 0, none⟩) (by first | (simp; done) | (simp; omega)) (.string s2)).far (p := ⟨tb, 1, none⟩) (by first | (simp; done) | (simp; omega)) (.int .i64 e2))
    have T4 := Lib.hid ((T3.out.set_ 0 (.string s2)).set_ 1 (.int .i64 e2))
    have B4 := Lib.hid ((B3.out.setCell (p := ⟨tb, 0, none⟩) (by first | (simp; done) | (simp; omega)) (.string s2)).setCell (p := ⟨tb, 1, none⟩) (by first | (simp; done) | (simp; omega)) (.int .i64 e2))
    generalize ((w3.setCell ⟨tb, 0, none⟩ (.string s2)).setCell ⟨tb, 1, none⟩ (.int .i64 e2)) = w4 at *
    clear tc0 tc1 tf0 tf1 D3 R3 Q3 T3 B3
    have tc0 := T4.out.cell 0 rfl
    have tc1 := T4.out.cell 1 rfl
    go_wp2_with fail
    refine (H3.out _).mono ?_; rintro e w5 ⟨rfl, g1⟩
    have D5 := Lib.hid (D4.out.below g1 D4.out.lt)
    have R5 := Lib.hid (R4.out.below g1 R4.out.lt)
    have Q5 := Lib.hid (Q4.out.below g1 Q4.out.lt)
    have T5 := Lib.hid (T4.out.below g1 T4.out.lt)
    have B5 := Lib.hid (B4.out.trans (g1.mono B4.out.size))
    clear g1 tc0 tc1 D4 R4 Q4 T4 B4
    have tc0 := T5.out.cell 0 rfl
    have tc1 := T5.out.cell 1 rfl
    have tf0 := T5.out.free 0
    have tf1 := T5.out.free 1
    go_wp2_with fail
    have D6 := Lib.hid ((D5.out.far (p := ⟨tb, 0, none⟩) (by first | (simp; done) | (simp; omega)) (.string s3)).far (p := ⟨tb, 1, none⟩) (by first | (simp; done) | (simp; omega)) (.int .i64 e3))
    have R6 := Lib.hid ((R5.out.far (p := ⟨tb, 0, none⟩) (by first | (simp; done) | (simp; omega)) (.string s3)).far (p := ⟨tb, 1, none⟩) (by first | (simp; done) | (simp; omega)) (.int .i64 e3))
    have Q6 := Lib.hid ((Q5.out.far (p := ⟨tb, 0, none⟩) (by first | (simp; done) | (simp; omega)) (.string s3)).far (p := ⟨tb, 1, none⟩) (by first | (simp; done) | (simp; omega)) (.int .i64 e3))
    have T6 := Lib.hid ((T5.out.set_ 0 (.string s3)).set_ 1 (.int .i64 e3))
    have B6 := Lib.hid ((B5.out.setCell (p := ⟨tb, 0, none⟩) (by first | (simp; done) | (simp; omega)) (.string s3)).setCell (p := ⟨tb, 1, none⟩) (by first | (simp; done) | (simp; omega)) (.int .i64 e3))
    generalize ((w5.setCell ⟨tb, 0, none⟩ (.string s3)).setCell ⟨tb, 1, none⟩ (.int .i64 e3)) = w6 at *
    clear tc0 tc1 tf0 tf1 D5 R5 Q5 T5 B5
    have tc0 := T6.out.cell 0 rfl
    have tc1 := T6.out.cell 1 rfl
    go_wp2_with fail
    refine (H4.out _).mono ?_; rintro e w7 ⟨rfl, g1⟩
    have D7 := Lib.hid (D6.out.below g1 D6.out.lt)
    have R7 := Lib.hid (R6.out.below g1 R6.out.lt)
    have Q7 := Lib.hid (Q6.out.below g1 Q6.out.lt)
    have T7 := Lib.hid (T6.out.below g1 T6.out.lt)
    have B7 := Lib.hid (B6.out.trans (g1.mono B6.out.size))
    clear g1 tc0 tc1 D6 R6 Q6 T6 B6
    have tc0 := T7.out.cell 0 rfl
    have tc1 := T7.out.cell 1 rfl
    have tf0 := T7.out.free 0
    have tf1 := T7.out.free 1
    go_wp2_with fail
    have D9 := Lib.hid ((D7.out.far (p := ⟨tb, 0, none⟩) (by first | (simp; done) | (simp; omega)) (.string s4)).far (p := ⟨tb, 1, none⟩) (by first | (simp; done) | (simp; omega)) (.int .i64 e4))
    have R9 := Lib.hid ((R7.out.far (p := ⟨tb, 0, none⟩) (by first | (simp; done) | (simp; omega)) (.string s4)).far (p := ⟨tb, 1, none⟩) (by first | (simp; done) | (simp; omega)) (.int .i64 e4))
    have Q9 := Lib.hid ((Q7.out.far (p := ⟨tb, 0, none⟩) (by first | (simp; done) | (simp; omega)) (.string s4)).far (p := ⟨tb, 1, none⟩) (by first | (simp; done) | (simp; omega)) (.int .i64 e4))
    have T9 : Hid (At (((w7.setCell ⟨tb, 0, none⟩ (.string s4)).setCell ⟨tb, 1, none⟩ (.int .i64 e4))) tb 59 [.string s4, .int .i64 e4]) := Lib.hid ((T7.out.set_ 0 (.string s4)).set_ 1 (.int .i64 e4))
    have B9 := Lib.hid ((B7.out.setCell (p := ⟨tb, 0, none⟩) (by first | (simp; done) | (simp; omega)) (.string s4)).setCell (p := ⟨tb, 1, none⟩) (by first | (simp; done) | (simp; omega)) (.int .i64 e4))
    clear tc0 tc1 tf0 tf1
    generalize ((w7.setCell ⟨tb, 0, none⟩ (.string s4)).setCell ⟨tb, 1, none⟩ (.int .i64 e4)) = w9 at *
    have dc0 := D9.out.cell 0 rfl
    have dc1 := D9.out.cell 1 rfl
    have dc2 := D9.out.cell 2 rfl
    have dc3 := D9.out.cell 3 rfl
    have dc4 := D9.out.cell 4 rfl
    have dc5 := D9.out.cell 5 rfl
    have dc6 := D9.out.cell 6 rfl
    have dc7 := D9.out.cell 7 rfl
    have dc8 := D9.out.cell 8 rfl
    have dc9 := D9.out.cell 9 rfl
    have tc0 := T9.out.cell 0 rfl
    have tc1 := T9.out.cell 1 rfl
    have rc0 := R9.out.cell 0 rfl
    have rf0 := R9.out.free 0
    have rc1 := R9.out.cell 1 rfl
    have rf1 := R9.out.free 1
    have qc0 := Q9.out.cell 0 rfl
    have qf0 := Q9.out.free 0
    have qc1 := Q9.out.cell 1 rfl
    have qf1 := Q9.out.free 1
    have qc2 := Q9.out.cell 2 rfl
    have qf2 := Q9.out.free 2
    have qc3 := Q9.out.cell 3 rfl
    have qf3 := Q9.out.free 3
    have qc4 := Q9.out.cell 4 rfl
    have qf4 := Q9.out.free 4
    have qc5 := Q9.out.cell 5 rfl
    have qf5 := Q9.out.free 5
    have qc6 := Q9.out.cell 6 rfl
    have qf6 := Q9.out.free 6
    have qc7 := Q9.out.cell 7 rfl
    have qf7 := Q9.out.free 7
    have qc8 := Q9.out.cell 8 rfl
    have qf8 := Q9.out.free 8
    have qc9 := Q9.out.cell 9 rfl
    have qf9 := Q9.out.free 9
    have hne : w.heap.size + 1 + 1 ≠ w.heap.size + 1 + 1 + 1 := by omega
    have hbr : w.heap.size ≤ w.heap.size + 1 + 1 := by omega
    have hbd : w.heap.size ≤ w.heap.size + 1 + 1 + 1 := by omega
    have HN3 := Lib.hid (And.intro hne (And.intro hbr hbd))
    clear hne hbr hbd
    go_region
    go_wp2_with fail
    have hne := HN3.out.1
    have hbr := HN3.out.2.1
    have hbd := HN3.out.2.2
    refine bodyPost_ret (v := .tuple #[.agg #[.string s4, .int .i64 e4], Dg.val ⟨2, vs, vb, 0, 0, 0, 0, 0, ⟨#[]⟩, ⟨#[]⟩⟩]) (res_rf (s := s4) (z := e4) (d := ⟨2, vs, vb, 0, 0, 0, 0, 0, ⟨#[]⟩, ⟨#[]⟩⟩) rfl rfl (At.drew (At.far (At.far (At.far (At.far (At.far (At.far (At.far (At.far (At.far (At.far ((R9.out.set_ 0 _).set_ 1 _) (p := ⟨w.heap.size + 1 + 1 + 1, 0, none⟩) hne _) (p := ⟨w.heap.size + 1 + 1 + 1, 1, none⟩) hne _) (p := ⟨w.heap.size + 1 + 1 + 1, 2, none⟩) hne _) (p := ⟨w.heap.size + 1 + 1 + 1, 3, none⟩) hne _) (p := ⟨w.heap.size + 1 + 1 + 1, 4, none⟩) hne _) (p := ⟨w.heap.size + 1 + 1 + 1, 5, none⟩) hne _) (p := ⟨w.heap.size + 1 + 1 + 1, 6, none⟩) hne _) (p := ⟨w.heap.size + 1 + 1 + 1, 7, none⟩) hne _) (p := ⟨w.heap.size + 1 + 1 + 1, 8, none⟩) hne _) (p := ⟨w.heap.size + 1 + 1 + 1, 9, none⟩) hne _)) (At.drew (At.set_ (At.set_ (At.set_ (At.set_ (At.set_ (At.set_ (At.set_ (At.set_ (At.set_ (At.set_ (At.far (At.far Q9.out (p := ⟨w.heap.size + 1 + 1, 0, none⟩) hne.symm _) (p := ⟨w.heap.size + 1 + 1, 1, none⟩) hne.symm _) 0 _) 1 _) 2 _) 3 _) 4 _) 5 _) 6 _) 7 _) 8 _) 9 _))) rfl ⟨rfl, ?_⟩
    exact (Below.setCell (Below.setCell (Below.setCell (Below.setCell (Below.setCell (Below.setCell (Below.setCell (Below.setCell (Below.setCell (Below.setCell (Below.setCell (Below.setCell B9.out (p := ⟨w.heap.size + 1 + 1, 0, none⟩) hbr _) (p := ⟨w.heap.size + 1 + 1, 1, none⟩) hbr _) (p := ⟨w.heap.size + 1 + 1 + 1, 0, none⟩) hbd _) (p := ⟨w.heap.size + 1 + 1 + 1, 1, none⟩) hbd _) (p := ⟨w.heap.size + 1 + 1 + 1, 2, none⟩) hbd _) (p := ⟨w.heap.size + 1 + 1 + 1, 3, none⟩) hbd _) (p := ⟨w.heap.size + 1 + 1 + 1, 4, none⟩) hbd _) (p := ⟨w.heap.size + 1 + 1 + 1, 5, none⟩) hbd _) (p := ⟨w.heap.size + 1 + 1 + 1, 6, none⟩) hbd _) (p := ⟨w.heap.size + 1 + 1 + 1, 7, none⟩) hbd _) (p := ⟨w.heap.size + 1 + 1 + 1, 8, none⟩) hbd _) (p := ⟨w.heap.size + 1 + 1 + 1, 9, none⟩) hbd _).drew
set_option maxRecDepth 100000 in
set_option maxHeartbeats 3200000 in
theorem rf_shard (vs vb v1 v2 v3 v4 : Nat) (S s1 s2 s3 s4 : ByteArray) (e1 e2 e3 : Int) (X s5 : ByteArray) (z : Int) (w : World) (hv1 : v1 < 4294967296) (hv2 : v2 < 4294967296) (hv3 : v3 < 4294967296) (hv4 : v4 < 4294967296) (H1 : Hid (∀ w, Calls Try.prog 27 #[.agg #[.string S, .int .i64 0], .int .i64 1] w (GivesR9 w s1 e1 (.int .u32 v1)))) (H2 : Hid (∀ w, Calls Try.prog 27 #[.agg #[.string s1, .int .i64 e1], .int .i64 1] w (GivesR9 w s2 e2 (.int .u32 v2)))) (H3 : Hid (∀ w, Calls Try.prog 27 #[.agg #[.string s2, .int .i64 e2], .int .i64 1] w (GivesR9 w s3 e3 (.int .u32 v3)))) (H4 : Hid (∀ w, Calls Try.prog 27 #[.agg #[.string s3, .int .i64 e3], .int .i64 2] w (GivesR9 w s4 0 (.int .u32 v4)))) (H5 : Hid (∀ w, Calls Try.prog 42 #[.agg #[.string s4, .int .i64 0], .int .i64 (s4.size : Nat)] w (GivesR9 w s5 z (.string X)))) (k : Int) (hk : k = 1 ∨ k = 2) : Calls Try.prog 28 #[.agg #[.string S, .int .i64 0], Dg.val ⟨k, vs, vb, 0, 0, 0, 0, 0, ⟨#[]⟩, ⟨#[]⟩⟩] w (GivesRF w s5 z ⟨k, vs, vb, v1, v2, v3, (v4 : Int) + 1, 0, ⟨#[]⟩, X⟩) := by
  have v1a : (0 : Int) ≤ (v1 : Int) := Int.natCast_nonneg _
  have v1b : (v1 : Int) < 4294967296 := by omega
  have v2a : (0 : Int) ≤ (v2 : Int) := Int.natCast_nonneg _
  have v2b : (v2 : Int) < 4294967296 := by omega
  have v3a : (0 : Int) ≤ (v3 : Int) := Int.natCast_nonneg _
  have v3b : (v3 : Int) < 4294967296 := by omega
  have v4a : (0 : Int) ≤ (v4 : Int) := Int.natCast_nonneg _
  have v4b : (v4 : Int) < 4294967296 := by omega
  clear hv1 hv2 hv3 hv4
  unfold Dg.val
  simp only
  rcases hk with rfl | rfl
  · go_enter Try.func28, Try.ntmps28
    go_wp2_with fail
    refine (H1.out _).mono ?_; rintro e w1 ⟨rfl, g1⟩
    have D1 : Hid (At w1 (w.heap.size + 1) 24 [.int .i64 1, .int .i64 (vs : Nat), .int .u32 (vb : Nat), .int .i64 0, .int .i64 0, .int .i64 0, .int .i64 0, .int .i64 0, .string ⟨#[]⟩, .string ⟨#[]⟩]) := Lib.hid (At.below (by have q := ((At.new (w.alloc (.cells #[.string S, .int .i64 0] 59)) 24 [.int .i64 1, .int .i64 (vs : Nat), .int .u32 (vb : Nat), .int .i64 0, .int .i64 0, .int .i64 0, .int .i64 0, .int .i64 0, .string ⟨#[]⟩, .string ⟨#[]⟩]).alloc (.cells #[.string ⟨#[]⟩, .int .i64 0] 59)).alloc (.cells #[.int .i64 0, .int .i64 0, .int .u32 0, .int .i64 0, .int .i64 0, .int .i64 0, .int .i64 0, .int .i64 0, .string ⟨#[]⟩, .string ⟨#[]⟩] 24); simpa using q) g1 (by first | (simp; done) | (simp; omega)))
    have R1 : Hid (At w1 (w.heap.size + 1 + 1) 59 [.string ⟨#[]⟩, .int .i64 0]) := Lib.hid (At.below (by have q := (At.new ((w.alloc (.cells #[.string S, .int .i64 0] 59)).alloc (.cells #[.int .i64 1, .int .i64 (vs : Nat), .int .u32 (vb : Nat), .int .i64 0, .int .i64 0, .int .i64 0, .int .i64 0, .int .i64 0, .string ⟨#[]⟩, .string ⟨#[]⟩] 24)) 59 [.string ⟨#[]⟩, .int .i64 0]).alloc (.cells #[.int .i64 0, .int .i64 0, .int .u32 0, .int .i64 0, .int .i64 0, .int .i64 0, .int .i64 0, .int .i64 0, .string ⟨#[]⟩, .string ⟨#[]⟩] 24); simpa using q) g1 (by simp))
    have Q1 : Hid (At w1 (w.heap.size + 1 + 1 + 1) 24 [.int .i64 0, .int .i64 0, .int .u32 0, .int .i64 0, .int .i64 0, .int .i64 0, .int .i64 0, .int .i64 0, .string ⟨#[]⟩, .string ⟨#[]⟩]) := Lib.hid (At.below (by have q := At.new (((w.alloc (.cells #[.string S, .int .i64 0] 59)).alloc (.cells #[.int .i64 1, .int .i64 (vs : Nat), .int .u32 (vb : Nat), .int .i64 0, .int .i64 0, .int .i64 0, .int .i64 0, .int .i64 0, .string ⟨#[]⟩, .string ⟨#[]⟩] 24)).alloc (.cells #[.string ⟨#[]⟩, .int .i64 0] 59)) 24 [.int .i64 0, .int .i64 0, .int .u32 0, .int .i64 0, .int .i64 0, .int .i64 0, .int .i64 0, .int .i64 0, .string ⟨#[]⟩, .string ⟨#[]⟩]; simpa using q) g1 (by simp))
    have B1 : Hid (Below w.heap.size w w1) := Lib.hid (((((((Below.refl _ _).alloc (Nat.le_refl _) _).alloc (by simp) _).alloc (by simp; omega) _).alloc (by simp; omega) _)).trans (g1.mono (by simp; omega)))
    have hz1 : w.heap.size + 1 < w1.heap.size := D1.out.lt
    have hz2 : w.heap.size + 1 + 1 < w1.heap.size := R1.out.lt
    have hz3 : w.heap.size + 1 + 1 + 1 < w1.heap.size := Q1.out.lt
    clear g1
    go_wp2_with fail
    have hbz : w.heap.size + 1 + 1 + 1 < w1.heap.size := hz3
    have D2 := Lib.hid (D1.out.alloc (.cells #[.string s1, .int .i64 e1] 59))
    have R2 := Lib.hid (R1.out.alloc (.cells #[.string s1, .int .i64 e1] 59))
    have Q2 := Lib.hid (Q1.out.alloc (.cells #[.string s1, .int .i64 e1] 59))
    have T2 : Hid (At (w1.alloc (.cells #[.string s1, .int .i64 e1] 59)) w1.heap.size 59 [.string s1, .int .i64 e1]) := Lib.hid (At.new w1 59 [.string s1, .int .i64 e1])
    have B2 := Lib.hid (B1.out.alloc B1.out.size (.cells #[.string s1, .int .i64 e1] 59))
    generalize w1.alloc (.cells #[.string s1, .int .i64 e1] 59) = w2 at *
    generalize w1.heap.size = tb at *
    clear D1 R1 Q1 B1 hz1 hz2 hz3
    have tc0 := T2.out.cell 0 rfl
    have tc1 := T2.out.cell 1 rfl
    go_wp2_with fail
    refine (H2.out _).mono ?_; rintro e w3 ⟨rfl, g1⟩
    have D3 := Lib.hid (D2.out.below g1 D2.out.lt)
    have R3 := Lib.hid (R2.out.below g1 R2.out.lt)
    have Q3 := Lib.hid (Q2.out.below g1 Q2.out.lt)
    have T3 := Lib.hid (T2.out.below g1 T2.out.lt)
    have B3 := Lib.hid (B2.out.trans (g1.mono B2.out.size))
    clear g1 tc0 tc1 D2 R2 Q2 T2 B2
    have tc0 := T3.out.cell 0 rfl
    have tc1 := T3.out.cell 1 rfl
    have tf0 := T3.out.free 0
    have tf1 := T3.out.free 1
    go_wp2_with fail
    have D4 := Lib.hid ((D3.out.far (p := ⟨tb, 0, none⟩) (by first | (simp; done) | (simp; omega)) (.string s2)).far (p := ⟨tb, 1, none⟩) (by first | (simp; done) | (simp; omega)) (.int .i64 e2))
    have R4 := Lib.hid ((R3.out.far (p := ⟨tb, 0, none⟩) (by first | (simp; done) | (simp; omega)) (.string s2)).far (p := ⟨tb, 1, none⟩) (by first | (simp; done) | (simp; omega)) (.int .i64 e2))
    have Q4 := Lib.hid ((Q3.out.far (p := ⟨tb, 0, none⟩) (by first | (simp; done) | (simp; omega)) (.string s2)).far (p := ⟨tb, 1, none⟩) (by first | (simp; done) | (simp; omega)) (.int .i64 e2))
    have T4 := Lib.hid ((T3.out.set_ 0 (.string s2)).set_ 1 (.int .i64 e2))
    have B4 := Lib.hid ((B3.out.setCell (p := ⟨tb, 0, none⟩) (by first | (simp; done) | (simp; omega)) (.string s2)).setCell (p := ⟨tb, 1, none⟩) (by first | (simp; done) | (simp; omega)) (.int .i64 e2))
    generalize ((w3.setCell ⟨tb, 0, none⟩ (.string s2)).setCell ⟨tb, 1, none⟩ (.int .i64 e2)) = w4 at *
    clear tc0 tc1 tf0 tf1 D3 R3 Q3 T3 B3
    have tc0 := T4.out.cell 0 rfl
    have tc1 := T4.out.cell 1 rfl
    go_wp2_with fail
    refine (H3.out _).mono ?_; rintro e w5 ⟨rfl, g1⟩
    have D5 := Lib.hid (D4.out.below g1 D4.out.lt)
    have R5 := Lib.hid (R4.out.below g1 R4.out.lt)
    have Q5 := Lib.hid (Q4.out.below g1 Q4.out.lt)
    have T5 := Lib.hid (T4.out.below g1 T4.out.lt)
    have B5 := Lib.hid (B4.out.trans (g1.mono B4.out.size))
    clear g1 tc0 tc1 D4 R4 Q4 T4 B4
    have tc0 := T5.out.cell 0 rfl
    have tc1 := T5.out.cell 1 rfl
    have tf0 := T5.out.free 0
    have tf1 := T5.out.free 1
    go_wp2_with fail
    have D6 := Lib.hid ((D5.out.far (p := ⟨tb, 0, none⟩) (by first | (simp; done) | (simp; omega)) (.string s3)).far (p := ⟨tb, 1, none⟩) (by first | (simp; done) | (simp; omega)) (.int .i64 e3))
    have R6 := Lib.hid ((R5.out.far (p := ⟨tb, 0, none⟩) (by first | (simp; done) | (simp; omega)) (.string s3)).far (p := ⟨tb, 1, none⟩) (by first | (simp; done) | (simp; omega)) (.int .i64 e3))
    have Q6 := Lib.hid ((Q5.out.far (p := ⟨tb, 0, none⟩) (by first | (simp; done) | (simp; omega)) (.string s3)).far (p := ⟨tb, 1, none⟩) (by first | (simp; done) | (simp; omega)) (.int .i64 e3))
    have T6 := Lib.hid ((T5.out.set_ 0 (.string s3)).set_ 1 (.int .i64 e3))
    have B6 := Lib.hid ((B5.out.setCell (p := ⟨tb, 0, none⟩) (by first | (simp; done) | (simp; omega)) (.string s3)).setCell (p := ⟨tb, 1, none⟩) (by first | (simp; done) | (simp; omega)) (.int .i64 e3))
    generalize ((w5.setCell ⟨tb, 0, none⟩ (.string s3)).setCell ⟨tb, 1, none⟩ (.int .i64 e3)) = w6 at *
    clear tc0 tc1 tf0 tf1 D5 R5 Q5 T5 B5
    have tc0 := T6.out.cell 0 rfl
    have tc1 := T6.out.cell 1 rfl
    go_wp2_with fail
    refine (H4.out _).mono ?_; rintro e w7 ⟨rfl, g1⟩
    have D7 := Lib.hid (D6.out.below g1 D6.out.lt)
    have R7 := Lib.hid (R6.out.below g1 R6.out.lt)
    have Q7 := Lib.hid (Q6.out.below g1 Q6.out.lt)
    have T7 := Lib.hid (T6.out.below g1 T6.out.lt)
    have B7 := Lib.hid (B6.out.trans (g1.mono B6.out.size))
    clear g1 tc0 tc1 D6 R6 Q6 T6 B6
    have tc0 := T7.out.cell 0 rfl
    have tc1 := T7.out.cell 1 rfl
    have tf0 := T7.out.free 0
    have tf1 := T7.out.free 1
    go_wp2_with fail
    have D8 := Lib.hid ((D7.out.far (p := ⟨tb, 0, none⟩) (by first | (simp; done) | (simp; omega)) (.string s4)).far (p := ⟨tb, 1, none⟩) (by first | (simp; done) | (simp; omega)) (.int .i64 0))
    have R8 := Lib.hid ((R7.out.far (p := ⟨tb, 0, none⟩) (by first | (simp; done) | (simp; omega)) (.string s4)).far (p := ⟨tb, 1, none⟩) (by first | (simp; done) | (simp; omega)) (.int .i64 0))
    have Q8 := Lib.hid ((Q7.out.far (p := ⟨tb, 0, none⟩) (by first | (simp; done) | (simp; omega)) (.string s4)).far (p := ⟨tb, 1, none⟩) (by first | (simp; done) | (simp; omega)) (.int .i64 0))
    have T8 := Lib.hid ((T7.out.set_ 0 (.string s4)).set_ 1 (.int .i64 0))
    have B8 := Lib.hid ((B7.out.setCell (p := ⟨tb, 0, none⟩) (by first | (simp; done) | (simp; omega)) (.string s4)).setCell (p := ⟨tb, 1, none⟩) (by first | (simp; done) | (simp; omega)) (.int .i64 0))
    generalize ((w7.setCell ⟨tb, 0, none⟩ (.string s4)).setCell ⟨tb, 1, none⟩ (.int .i64 0)) = w8 at *
    clear tc0 tc1 tf0 tf1 D7 R7 Q7 T7 B7
    have tc0 := T8.out.cell 0 rfl
    have tc1 := T8.out.cell 1 rfl
    refine (H5.out _).mono ?_; rintro e wz ⟨rfl, g1⟩
    have D9a := Lib.hid (D8.out.below g1 D8.out.lt)
    have R9a := Lib.hid (R8.out.below g1 R8.out.lt)
    have Q9a := Lib.hid (Q8.out.below g1 Q8.out.lt)
    have T9a := Lib.hid (T8.out.below g1 T8.out.lt)
    have B9a := Lib.hid (B8.out.trans (g1.mono B8.out.size))
    clear g1 tc0 tc1 D8 R8 Q8 T8 B8
    have tc0 := T9a.out.cell 0 rfl
    have tf0 := T9a.out.free 0
    have tc1 := T9a.out.cell 1 rfl
    have tf1 := T9a.out.free 1
    have xc3 := D9a.out.cell 3 rfl
    have xf3 := D9a.out.free 3
    have xc4 := D9a.out.cell 4 rfl
    have xf4 := D9a.out.free 4
    have xc5 := D9a.out.cell 5 rfl
    have xf5 := D9a.out.free 5
    have xc6 := D9a.out.cell 6 rfl
    have xf6 := D9a.out.free 6
    have xc9 := D9a.out.cell 9 rfl
    have xf9 := D9a.out.free 9
    go_wp2_with fail
    have D9 := Lib.hid ((At.set_ (At.set_ (At.set_ (At.set_ (At.set_ (At.far (At.far D9a.out (p := ⟨tb, 0, none⟩) (by first | (simp; done) | (simp; omega)) (.string s5)) (p := ⟨tb, 1, none⟩) (by first | (simp; done) | (simp; omega)) (.int .i64 z)) 3 (.int .i64 v1)) 4 (.int .i64 v2)) 5 (.int .i64 v3)) 6 (.int .i64 ((v4 : Int) + 1))) 9 (.string X)))
    have R9 := Lib.hid ((At.far (At.far (At.far (At.far (At.far (At.far (At.far R9a.out (p := ⟨tb, 0, none⟩) (by first | (simp; done) | (simp; omega)) (.string s5)) (p := ⟨tb, 1, none⟩) (by first | (simp; done) | (simp; omega)) (.int .i64 z)) (p := ⟨w.heap.size + 1, 3, none⟩) (by first | (simp; done) | (simp; omega)) (.int .i64 v1)) (p := ⟨w.heap.size + 1, 4, none⟩) (by first | (simp; done) | (simp; omega)) (.int .i64 v2)) (p := ⟨w.heap.size + 1, 5, none⟩) (by first | (simp; done) | (simp; omega)) (.int .i64 v3)) (p := ⟨w.heap.size + 1, 6, none⟩) (by first | (simp; done) | (simp; omega)) (.int .i64 ((v4 : Int) + 1))) (p := ⟨w.heap.size + 1, 9, none⟩) (by first | (simp; done) | (simp; omega)) (.string X)))
    have Q9 := Lib.hid ((At.far (At.far (At.far (At.far (At.far (At.far (At.far Q9a.out (p := ⟨tb, 0, none⟩) (by first | (simp; done) | (simp; omega)) (.string s5)) (p := ⟨tb, 1, none⟩) (by first | (simp; done) | (simp; omega)) (.int .i64 z)) (p := ⟨w.heap.size + 1, 3, none⟩) (by first | (simp; done) | (simp; omega)) (.int .i64 v1)) (p := ⟨w.heap.size + 1, 4, none⟩) (by first | (simp; done) | (simp; omega)) (.int .i64 v2)) (p := ⟨w.heap.size + 1, 5, none⟩) (by first | (simp; done) | (simp; omega)) (.int .i64 v3)) (p := ⟨w.heap.size + 1, 6, none⟩) (by first | (simp; done) | (simp; omega)) (.int .i64 ((v4 : Int) + 1))) (p := ⟨w.heap.size + 1, 9, none⟩) (by first | (simp; done) | (simp; omega)) (.string X)))
    have T9 : Hid (At ((((((((wz.setCell ⟨tb, 0, none⟩ (.string s5)).setCell ⟨tb, 1, none⟩ (.int .i64 z)).setCell ⟨w.heap.size + 1, 3, none⟩ (.int .i64 v1)).setCell ⟨w.heap.size + 1, 4, none⟩ (.int .i64 v2)).setCell ⟨w.heap.size + 1, 5, none⟩ (.int .i64 v3)).setCell ⟨w.heap.size + 1, 6, none⟩ (.int .i64 ((v4 : Int) + 1))).setCell ⟨w.heap.size + 1, 9, none⟩ (.string X))) tb 59 [.string s5, .int .i64 z]) := Lib.hid ((At.far (At.far (At.far (At.far (At.far (At.set_ (At.set_ T9a.out 0 (.string s5)) 1 (.int .i64 z)) (p := ⟨w.heap.size + 1, 3, none⟩) (by first | (simp; done) | (simp; omega)) (.int .i64 v1)) (p := ⟨w.heap.size + 1, 4, none⟩) (by first | (simp; done) | (simp; omega)) (.int .i64 v2)) (p := ⟨w.heap.size + 1, 5, none⟩) (by first | (simp; done) | (simp; omega)) (.int .i64 v3)) (p := ⟨w.heap.size + 1, 6, none⟩) (by first | (simp; done) | (simp; omega)) (.int .i64 ((v4 : Int) + 1))) (p := ⟨w.heap.size + 1, 9, none⟩) (by first | (simp; done) | (simp; omega)) (.string X)))
    have B9 := Lib.hid ((Below.setCell (Below.setCell (Below.setCell (Below.setCell (Below.setCell (Below.setCell (Below.setCell B9a.out (p := ⟨tb, 0, none⟩) (by first | (simp; done) | (simp; omega)) (.string s5)) (p := ⟨tb, 1, none⟩) (by first | (simp; done) | (simp; omega)) (.int .i64 z)) (p := ⟨w.heap.size + 1, 3, none⟩) (by first | (simp; done) | (simp; omega)) (.int .i64 v1)) (p := ⟨w.heap.size + 1, 4, none⟩) (by first | (simp; done) | (simp; omega)) (.int .i64 v2)) (p := ⟨w.heap.size + 1, 5, none⟩) (by first | (simp; done) | (simp; omega)) (.int .i64 v3)) (p := ⟨w.heap.size + 1, 6, none⟩) (by first | (simp; done) | (simp; omega)) (.int .i64 ((v4 : Int) + 1))) (p := ⟨w.heap.size + 1, 9, none⟩) (by first | (simp; done) | (simp; omega)) (.string X)))
    clear tc0 tf0 tc1 tf1 xc3 xf3 xc4 xf4 xc5 xf5 xc6 xf6 xc9 xf9
    generalize (((((((wz.setCell ⟨tb, 0, none⟩ (.string s5)).setCell ⟨tb, 1, none⟩ (.int .i64 z)).setCell ⟨w.heap.size + 1, 3, none⟩ (.int .i64 v1)).setCell ⟨w.heap.size + 1, 4, none⟩ (.int .i64 v2)).setCell ⟨w.heap.size + 1, 5, none⟩ (.int .i64 v3)).setCell ⟨w.heap.size + 1, 6, none⟩ (.int .i64 ((v4 : Int) + 1))).setCell ⟨w.heap.size + 1, 9, none⟩ (.string X)) = w9 at *
    have dc0 := D9.out.cell 0 rfl
    have dc1 := D9.out.cell 1 rfl
    have dc2 := D9.out.cell 2 rfl
    have dc3 := D9.out.cell 3 rfl
    have dc4 := D9.out.cell 4 rfl
    have dc5 := D9.out.cell 5 rfl
    have dc6 := D9.out.cell 6 rfl
    have dc7 := D9.out.cell 7 rfl
    have dc8 := D9.out.cell 8 rfl
    have dc9 := D9.out.cell 9 rfl
    have tc0 := T9.out.cell 0 rfl
    have tc1 := T9.out.cell 1 rfl
    have rc0 := R9.out.cell 0 rfl
    have rf0 := R9.out.free 0
    have rc1 := R9.out.cell 1 rfl
    have rf1 := R9.out.free 1
    have qc0 := Q9.out.cell 0 rfl
    have qf0 := Q9.out.free 0
    have qc1 := Q9.out.cell 1 rfl
    have qf1 := Q9.out.free 1
    have qc2 := Q9.out.cell 2 rfl
    have qf2 := Q9.out.free 2
    have qc3 := Q9.out.cell 3 rfl
    have qf3 := Q9.out.free 3
    have qc4 := Q9.out.cell 4 rfl
    have qf4 := Q9.out.free 4
    have qc5 := Q9.out.cell 5 rfl
    have qf5 := Q9.out.free 5
    have qc6 := Q9.out.cell 6 rfl
    have qf6 := Q9.out.free 6
    have qc7 := Q9.out.cell 7 rfl
    have qf7 := Q9.out.free 7
    have qc8 := Q9.out.cell 8 rfl
    have qf8 := Q9.out.free 8
    have qc9 := Q9.out.cell 9 rfl
    have qf9 := Q9.out.free 9
    have hne : w.heap.size + 1 + 1 ≠ w.heap.size + 1 + 1 + 1 := by omega
    have hbr : w.heap.size ≤ w.heap.size + 1 + 1 := by omega
    have hbd : w.heap.size ≤ w.heap.size + 1 + 1 + 1 := by omega
    have HN3 := Lib.hid (And.intro hne (And.intro hbr hbd))
    clear hne hbr hbd
    go_region
    go_wp2_with fail
    have hne := HN3.out.1
    have hbr := HN3.out.2.1
    have hbd := HN3.out.2.2
    refine bodyPost_ret (v := .tuple #[.agg #[.string s5, .int .i64 z], Dg.val ⟨1, vs, vb, v1, v2, v3, (v4 : Int) + 1, 0, ⟨#[]⟩, X⟩]) (res_rf (s := s5) (z := z) (d := ⟨1, vs, vb, v1, v2, v3, (v4 : Int) + 1, 0, ⟨#[]⟩, X⟩) rfl rfl (At.drew (At.far (At.far (At.far (At.far (At.far (At.far (At.far (At.far (At.far (At.far ((R9.out.set_ 0 _).set_ 1 _) (p := ⟨w.heap.size + 1 + 1 + 1, 0, none⟩) hne _) (p := ⟨w.heap.size + 1 + 1 + 1, 1, none⟩) hne _) (p := ⟨w.heap.size + 1 + 1 + 1, 2, none⟩) hne _) (p := ⟨w.heap.size + 1 + 1 + 1, 3, none⟩) hne _) (p := ⟨w.heap.size + 1 + 1 + 1, 4, none⟩) hne _) (p := ⟨w.heap.size + 1 + 1 + 1, 5, none⟩) hne _) (p := ⟨w.heap.size + 1 + 1 + 1, 6, none⟩) hne _) (p := ⟨w.heap.size + 1 + 1 + 1, 7, none⟩) hne _) (p := ⟨w.heap.size + 1 + 1 + 1, 8, none⟩) hne _) (p := ⟨w.heap.size + 1 + 1 + 1, 9, none⟩) hne _)) (At.drew (At.set_ (At.set_ (At.set_ (At.set_ (At.set_ (At.set_ (At.set_ (At.set_ (At.set_ (At.set_ (At.far (At.far Q9.out (p := ⟨w.heap.size + 1 + 1, 0, none⟩) hne.symm _) (p := ⟨w.heap.size + 1 + 1, 1, none⟩) hne.symm _) 0 _) 1 _) 2 _) 3 _) 4 _) 5 _) 6 _) 7 _) 8 _) 9 _))) rfl ⟨rfl, ?_⟩
    exact (Below.setCell (Below.setCell (Below.setCell (Below.setCell (Below.setCell (Below.setCell (Below.setCell (Below.setCell (Below.setCell (Below.setCell (Below.setCell (Below.setCell B9.out (p := ⟨w.heap.size + 1 + 1, 0, none⟩) hbr _) (p := ⟨w.heap.size + 1 + 1, 1, none⟩) hbr _) (p := ⟨w.heap.size + 1 + 1 + 1, 0, none⟩) hbd _) (p := ⟨w.heap.size + 1 + 1 + 1, 1, none⟩) hbd _) (p := ⟨w.heap.size + 1 + 1 + 1, 2, none⟩) hbd _) (p := ⟨w.heap.size + 1 + 1 + 1, 3, none⟩) hbd _) (p := ⟨w.heap.size + 1 + 1 + 1, 4, none⟩) hbd _) (p := ⟨w.heap.size + 1 + 1 + 1, 5, none⟩) hbd _) (p := ⟨w.heap.size + 1 + 1 + 1, 6, none⟩) hbd _) (p := ⟨w.heap.size + 1 + 1 + 1, 7, none⟩) hbd _) (p := ⟨w.heap.size + 1 + 1 + 1, 8, none⟩) hbd _) (p := ⟨w.heap.size + 1 + 1 + 1, 9, none⟩) hbd _).drew
  · go_enter Try.func28, Try.ntmps28
    go_wp2_with fail
    refine (H1.out _).mono ?_; rintro e w1 ⟨rfl, g1⟩
    have D1 : Hid (At w1 (w.heap.size + 1) 24 [.int .i64 2, .int .i64 (vs : Nat), .int .u32 (vb : Nat), .int .i64 0, .int .i64 0, .int .i64 0, .int .i64 0, .int .i64 0, .string ⟨#[]⟩, .string ⟨#[]⟩]) := Lib.hid (At.below (by have q := ((At.new (w.alloc (.cells #[.string S, .int .i64 0] 59)) 24 [.int .i64 2, .int .i64 (vs : Nat), .int .u32 (vb : Nat), .int .i64 0, .int .i64 0, .int .i64 0, .int .i64 0, .int .i64 0, .string ⟨#[]⟩, .string ⟨#[]⟩]).alloc (.cells #[.string ⟨#[]⟩, .int .i64 0] 59)).alloc (.cells #[.int .i64 0, .int .i64 0, .int .u32 0, .int .i64 0, .int .i64 0, .int .i64 0, .int .i64 0, .int .i64 0, .string ⟨#[]⟩, .string ⟨#[]⟩] 24); simpa using q) g1 (by first | (simp; done) | (simp; omega)))
    have R1 : Hid (At w1 (w.heap.size + 1 + 1) 59 [.string ⟨#[]⟩, .int .i64 0]) := Lib.hid (At.below (by have q := (At.new ((w.alloc (.cells #[.string S, .int .i64 0] 59)).alloc (.cells #[.int .i64 2, .int .i64 (vs : Nat), .int .u32 (vb : Nat), .int .i64 0, .int .i64 0, .int .i64 0, .int .i64 0, .int .i64 0, .string ⟨#[]⟩, .string ⟨#[]⟩] 24)) 59 [.string ⟨#[]⟩, .int .i64 0]).alloc (.cells #[.int .i64 0, .int .i64 0, .int .u32 0, .int .i64 0, .int .i64 0, .int .i64 0, .int .i64 0, .int .i64 0, .string ⟨#[]⟩, .string ⟨#[]⟩] 24); simpa using q) g1 (by simp))
    have Q1 : Hid (At w1 (w.heap.size + 1 + 1 + 1) 24 [.int .i64 0, .int .i64 0, .int .u32 0, .int .i64 0, .int .i64 0, .int .i64 0, .int .i64 0, .int .i64 0, .string ⟨#[]⟩, .string ⟨#[]⟩]) := Lib.hid (At.below (by have q := At.new (((w.alloc (.cells #[.string S, .int .i64 0] 59)).alloc (.cells #[.int .i64 2, .int .i64 (vs : Nat), .int .u32 (vb : Nat), .int .i64 0, .int .i64 0, .int .i64 0, .int .i64 0, .int .i64 0, .string ⟨#[]⟩, .string ⟨#[]⟩] 24)).alloc (.cells #[.string ⟨#[]⟩, .int .i64 0] 59)) 24 [.int .i64 0, .int .i64 0, .int .u32 0, .int .i64 0, .int .i64 0, .int .i64 0, .int .i64 0, .int .i64 0, .string ⟨#[]⟩, .string ⟨#[]⟩]; simpa using q) g1 (by simp))
    have B1 : Hid (Below w.heap.size w w1) := Lib.hid (((((((Below.refl _ _).alloc (Nat.le_refl _) _).alloc (by simp) _).alloc (by simp; omega) _).alloc (by simp; omega) _)).trans (g1.mono (by simp; omega)))
    have hz1 : w.heap.size + 1 < w1.heap.size := D1.out.lt
    have hz2 : w.heap.size + 1 + 1 < w1.heap.size := R1.out.lt
    have hz3 : w.heap.size + 1 + 1 + 1 < w1.heap.size := Q1.out.lt
    clear g1
    go_wp2_with fail
    have hbz : w.heap.size + 1 + 1 + 1 < w1.heap.size := hz3
    have D2 := Lib.hid (D1.out.alloc (.cells #[.string s1, .int .i64 e1] 59))
    have R2 := Lib.hid (R1.out.alloc (.cells #[.string s1, .int .i64 e1] 59))
    have Q2 := Lib.hid (Q1.out.alloc (.cells #[.string s1, .int .i64 e1] 59))
    have T2 : Hid (At (w1.alloc (.cells #[.string s1, .int .i64 e1] 59)) w1.heap.size 59 [.string s1, .int .i64 e1]) := Lib.hid (At.new w1 59 [.string s1, .int .i64 e1])
    have B2 := Lib.hid (B1.out.alloc B1.out.size (.cells #[.string s1, .int .i64 e1] 59))
    generalize w1.alloc (.cells #[.string s1, .int .i64 e1] 59) = w2 at *
    generalize w1.heap.size = tb at *
    clear D1 R1 Q1 B1 hz1 hz2 hz3
    have tc0 := T2.out.cell 0 rfl
    have tc1 := T2.out.cell 1 rfl
    go_wp2_with fail
    refine (H2.out _).mono ?_; rintro e w3 ⟨rfl, g1⟩
    have D3 := Lib.hid (D2.out.below g1 D2.out.lt)
    have R3 := Lib.hid (R2.out.below g1 R2.out.lt)
    have Q3 := Lib.hid (Q2.out.below g1 Q2.out.lt)
    have T3 := Lib.hid (T2.out.below g1 T2.out.lt)
    have B3 := Lib.hid (B2.out.trans (g1.mono B2.out.size))
    clear g1 tc0 tc1 D2 R2 Q2 T2 B2
    have tc0 := T3.out.cell 0 rfl
    have tc1 := T3.out.cell 1 rfl
    have tf0 := T3.out.free 0
    have tf1 := T3.out.free 1
    go_wp2_with fail
    have D4 := Lib.hid ((D3.out.far (p := ⟨tb, 0, none⟩) (by first | (simp; done) | (simp; omega)) (.string s2)).far (p := ⟨tb, 1, none⟩) (by first | (simp; done) | (simp; omega)) (.int .i64 e2))
    have R4 := Lib.hid ((R3.out.far (p := ⟨tb, 0, none⟩) (by first | (simp; done) | (simp; omega)) (.string s2)).far (p := ⟨tb, 1, none⟩) (by first | (simp; done) | (simp; omega)) (.int .i64 e2))
    have Q4 := Lib.hid ((Q3.out.far (p := ⟨tb, 0, none⟩) (by first | (simp; done) | (simp; omega)) (.string s2)).far (p := ⟨tb, 1, none⟩) (by first | (simp; done) | (simp; omega)) (.int .i64 e2))
    have T4 := Lib.hid ((T3.out.set_ 0 (.string s2)).set_ 1 (.int .i64 e2))
    have B4 := Lib.hid ((B3.out.setCell (p := ⟨tb, 0, none⟩) (by first | (simp; done) | (simp; omega)) (.string s2)).setCell (p := ⟨tb, 1, none⟩) (by first | (simp; done) | (simp; omega)) (.int .i64 e2))
    generalize ((w3.setCell ⟨tb, 0, none⟩ (.string s2)).setCell ⟨tb, 1, none⟩ (.int .i64 e2)) = w4 at *
    clear tc0 tc1 tf0 tf1 D3 R3 Q3 T3 B3
    have tc0 := T4.out.cell 0 rfl
    have tc1 := T4.out.cell 1 rfl
    go_wp2_with fail
    refine (H3.out _).mono ?_; rintro e w5 ⟨rfl, g1⟩
    have D5 := Lib.hid (D4.out.below g1 D4.out.lt)
    have R5 := Lib.hid (R4.out.below g1 R4.out.lt)
    have Q5 := Lib.hid (Q4.out.below g1 Q4.out.lt)
    have T5 := Lib.hid (T4.out.below g1 T4.out.lt)
    have B5 := Lib.hid (B4.out.trans (g1.mono B4.out.size))
    clear g1 tc0 tc1 D4 R4 Q4 T4 B4
    have tc0 := T5.out.cell 0 rfl
    have tc1 := T5.out.cell 1 rfl
    have tf0 := T5.out.free 0
    have tf1 := T5.out.free 1
    go_wp2_with fail
    have D6 := Lib.hid ((D5.out.far (p := ⟨tb, 0, none⟩) (by first | (simp; done) | (simp; omega)) (.string s3)).far (p := ⟨tb, 1, none⟩) (by first | (simp; done) | (simp; omega)) (.int .i64 e3))
    have R6 := Lib.hid ((R5.out.far (p := ⟨tb, 0, none⟩) (by first | (simp; done) | (simp; omega)) (.string s3)).far (p := ⟨tb, 1, none⟩) (by first | (simp; done) | (simp; omega)) (.int .i64 e3))
    have Q6 := Lib.hid ((Q5.out.far (p := ⟨tb, 0, none⟩) (by first | (simp; done) | (simp; omega)) (.string s3)).far (p := ⟨tb, 1, none⟩) (by first | (simp; done) | (simp; omega)) (.int .i64 e3))
    have T6 := Lib.hid ((T5.out.set_ 0 (.string s3)).set_ 1 (.int .i64 e3))
    have B6 := Lib.hid ((B5.out.setCell (p := ⟨tb, 0, none⟩) (by first | (simp; done) | (simp; omega)) (.string s3)).setCell (p := ⟨tb, 1, none⟩) (by first | (simp; done) | (simp; omega)) (.int .i64 e3))
    generalize ((w5.setCell ⟨tb, 0, none⟩ (.string s3)).setCell ⟨tb, 1, none⟩ (.int .i64 e3)) = w6 at *
    clear tc0 tc1 tf0 tf1 D5 R5 Q5 T5 B5
    have tc0 := T6.out.cell 0 rfl
    have tc1 := T6.out.cell 1 rfl
    go_wp2_with fail
    refine (H4.out _).mono ?_; rintro e w7 ⟨rfl, g1⟩
    have D7 := Lib.hid (D6.out.below g1 D6.out.lt)
    have R7 := Lib.hid (R6.out.below g1 R6.out.lt)
    have Q7 := Lib.hid (Q6.out.below g1 Q6.out.lt)
    have T7 := Lib.hid (T6.out.below g1 T6.out.lt)
    have B7 := Lib.hid (B6.out.trans (g1.mono B6.out.size))
    clear g1 tc0 tc1 D6 R6 Q6 T6 B6
    have tc0 := T7.out.cell 0 rfl
    have tc1 := T7.out.cell 1 rfl
    have tf0 := T7.out.free 0
    have tf1 := T7.out.free 1
    go_wp2_with fail
    have D8 := Lib.hid ((D7.out.far (p := ⟨tb, 0, none⟩) (by first | (simp; done) | (simp; omega)) (.string s4)).far (p := ⟨tb, 1, none⟩) (by first | (simp; done) | (simp; omega)) (.int .i64 0))
    have R8 := Lib.hid ((R7.out.far (p := ⟨tb, 0, none⟩) (by first | (simp; done) | (simp; omega)) (.string s4)).far (p := ⟨tb, 1, none⟩) (by first | (simp; done) | (simp; omega)) (.int .i64 0))
    have Q8 := Lib.hid ((Q7.out.far (p := ⟨tb, 0, none⟩) (by first | (simp; done) | (simp; omega)) (.string s4)).far (p := ⟨tb, 1, none⟩) (by first | (simp; done) | (simp; omega)) (.int .i64 0))
    have T8 := Lib.hid ((T7.out.set_ 0 (.string s4)).set_ 1 (.int .i64 0))
    have B8 := Lib.hid ((B7.out.setCell (p := ⟨tb, 0, none⟩) (by first | (simp; done) | (simp; omega)) (.string s4)).setCell (p := ⟨tb, 1, none⟩) (by first | (simp; done) | (simp; omega)) (.int .i64 0))
    generalize ((w7.setCell ⟨tb, 0, none⟩ (.string s4)).setCell ⟨tb, 1, none⟩ (.int .i64 0)) = w8 at *
    clear tc0 tc1 tf0 tf1 D7 R7 Q7 T7 B7
    have tc0 := T8.out.cell 0 rfl
    have tc1 := T8.out.cell 1 rfl
    refine (H5.out _).mono ?_; rintro e wz ⟨rfl, g1⟩
    have D9a := Lib.hid (D8.out.below g1 D8.out.lt)
    have R9a := Lib.hid (R8.out.below g1 R8.out.lt)
    have Q9a := Lib.hid (Q8.out.below g1 Q8.out.lt)
    have T9a := Lib.hid (T8.out.below g1 T8.out.lt)
    have B9a := Lib.hid (B8.out.trans (g1.mono B8.out.size))
    clear g1 tc0 tc1 D8 R8 Q8 T8 B8
    have tc0 := T9a.out.cell 0 rfl
    have tf0 := T9a.out.free 0
    have tc1 := T9a.out.cell 1 rfl
    have tf1 := T9a.out.free 1
    have xc3 := D9a.out.cell 3 rfl
    have xf3 := D9a.out.free 3
    have xc4 := D9a.out.cell 4 rfl
    have xf4 := D9a.out.free 4
    have xc5 := D9a.out.cell 5 rfl
    have xf5 := D9a.out.free 5
    have xc6 := D9a.out.cell 6 rfl
    have xf6 := D9a.out.free 6
    have xc9 := D9a.out.cell 9 rfl
    have xf9 := D9a.out.free 9
    go_wp2_with fail
    have D9 := Lib.hid ((At.set_ (At.set_ (At.set_ (At.set_ (At.set_ (At.far (At.far D9a.out (p := ⟨tb, 0, none⟩) (by first | (simp; done) | (simp; omega)) (.string s5)) (p := ⟨tb, 1, none⟩) (by first | (simp; done) | (simp; omega)) (.int .i64 z)) 3 (.int .i64 v1)) 4 (.int .i64 v2)) 5 (.int .i64 v3)) 6 (.int .i64 ((v4 : Int) + 1))) 9 (.string X)))
    have R9 := Lib.hid ((At.far (At.far (At.far (At.far (At.far (At.far (At.far R9a.out (p := ⟨tb, 0, none⟩) (by first | (simp; done) | (simp; omega)) (.string s5)) (p := ⟨tb, 1, none⟩) (by first | (simp; done) | (simp; omega)) (.int .i64 z)) (p := ⟨w.heap.size + 1, 3, none⟩) (by first | (simp; done) | (simp; omega)) (.int .i64 v1)) (p := ⟨w.heap.size + 1, 4, none⟩) (by first | (simp; done) | (simp; omega)) (.int .i64 v2)) (p := ⟨w.heap.size + 1, 5, none⟩) (by first | (simp; done) | (simp; omega)) (.int .i64 v3)) (p := ⟨w.heap.size + 1, 6, none⟩) (by first | (simp; done) | (simp; omega)) (.int .i64 ((v4 : Int) + 1))) (p := ⟨w.heap.size + 1, 9, none⟩) (by first | (simp; done) | (simp; omega)) (.string X)))
    have Q9 := Lib.hid ((At.far (At.far (At.far (At.far (At.far (At.far (At.far Q9a.out (p := ⟨tb, 0, none⟩) (by first | (simp; done) | (simp; omega)) (.string s5)) (p := ⟨tb, 1, none⟩) (by first | (simp; done) | (simp; omega)) (.int .i64 z)) (p := ⟨w.heap.size + 1, 3, none⟩) (by first | (simp; done) | (simp; omega)) (.int .i64 v1)) (p := ⟨w.heap.size + 1, 4, none⟩) (by first | (simp; done) | (simp; omega)) (.int .i64 v2)) (p := ⟨w.heap.size + 1, 5, none⟩) (by first | (simp; done) | (simp; omega)) (.int .i64 v3)) (p := ⟨w.heap.size + 1, 6, none⟩) (by first | (simp; done) | (simp; omega)) (.int .i64 ((v4 : Int) + 1))) (p := ⟨w.heap.size + 1, 9, none⟩) (by first | (simp; done) | (simp; omega)) (.string X)))
    have T9 : Hid (At ((((((((wz.setCell ⟨tb, 0, none⟩ (.string s5)).setCell ⟨tb, 1, none⟩ (.int .i64 z)).setCell ⟨w.heap.size + 1, 3, none⟩ (.int .i64 v1)).setCell ⟨w.heap.size + 1, 4, none⟩ (.int .i64 v2)).setCell ⟨w.heap.size + 1, 5, none⟩ (.int .i64 v3)).setCell ⟨w.heap.size + 1, 6, none⟩ (.int .i64 ((v4 : Int) + 1))).setCell ⟨w.heap.size + 1, 9, none⟩ (.string X))) tb 59 [.string s5, .int .i64 z]) := Lib.hid ((At.far (At.far (At.far (At.far (At.far (At.set_ (At.set_ T9a.out 0 (.string s5)) 1 (.int .i64 z)) (p := ⟨w.heap.size + 1, 3, none⟩) (by first | (simp; done) | (simp; omega)) (.int .i64 v1)) (p := ⟨w.heap.size + 1, 4, none⟩) (by first | (simp; done) | (simp; omega)) (.int .i64 v2)) (p := ⟨w.heap.size + 1, 5, none⟩) (by first | (simp; done) | (simp; omega)) (.int .i64 v3)) (p := ⟨w.heap.size + 1, 6, none⟩) (by first | (simp; done) | (simp; omega)) (.int .i64 ((v4 : Int) + 1))) (p := ⟨w.heap.size + 1, 9, none⟩) (by first | (simp; done) | (simp; omega)) (.string X)))
    have B9 := Lib.hid ((Below.setCell (Below.setCell (Below.setCell (Below.setCell (Below.setCell (Below.setCell (Below.setCell B9a.out (p := ⟨tb, 0, none⟩) (by first | (simp; done) | (simp; omega)) (.string s5)) (p := ⟨tb, 1, none⟩) (by first | (simp; done) | (simp; omega)) (.int .i64 z)) (p := ⟨w.heap.size + 1, 3, none⟩) (by first | (simp; done) | (simp; omega)) (.int .i64 v1)) (p := ⟨w.heap.size + 1, 4, none⟩) (by first | (simp; done) | (simp; omega)) (.int .i64 v2)) (p := ⟨w.heap.size + 1, 5, none⟩) (by first | (simp; done) | (simp; omega)) (.int .i64 v3)) (p := ⟨w.heap.size + 1, 6, none⟩) (by first | (simp; done) | (simp; omega)) (.int .i64 ((v4 : Int) + 1))) (p := ⟨w.heap.size + 1, 9, none⟩) (by first | (simp; done) | (simp; omega)) (.string X)))
    clear tc0 tf0 tc1 tf1 xc3 xf3 xc4 xf4 xc5 xf5 xc6 xf6 xc9 xf9
    generalize (((((((wz.setCell ⟨tb, 0, none⟩ (.string s5)).setCell ⟨tb, 1, none⟩ (.int .i64 z)).setCell ⟨w.heap.size + 1, 3, none⟩ (.int .i64 v1)).setCell ⟨w.heap.size + 1, 4, none⟩ (.int .i64 v2)).setCell ⟨w.heap.size + 1, 5, none⟩ (.int .i64 v3)).setCell ⟨w.heap.size + 1, 6, none⟩ (.int .i64 ((v4 : Int) + 1))).setCell ⟨w.heap.size + 1, 9, none⟩ (.string X)) = w9 at *
    have dc0 := D9.out.cell 0 rfl
    have dc1 := D9.out.cell 1 rfl
    have dc2 := D9.out.cell 2 rfl
    have dc3 := D9.out.cell 3 rfl
    have dc4 := D9.out.cell 4 rfl
    have dc5 := D9.out.cell 5 rfl
    have dc6 := D9.out.cell 6 rfl
    have dc7 := D9.out.cell 7 rfl
    have dc8 := D9.out.cell 8 rfl
    have dc9 := D9.out.cell 9 rfl
    have tc0 := T9.out.cell 0 rfl
    have tc1 := T9.out.cell 1 rfl
    have rc0 := R9.out.cell 0 rfl
    have rf0 := R9.out.free 0
    have rc1 := R9.out.cell 1 rfl
    have rf1 := R9.out.free 1
    have qc0 := Q9.out.cell 0 rfl
    have qf0 := Q9.out.free 0
    have qc1 := Q9.out.cell 1 rfl
    have qf1 := Q9.out.free 1
    have qc2 := Q9.out.cell 2 rfl
    have qf2 := Q9.out.free 2
    have qc3 := Q9.out.cell 3 rfl
    have qf3 := Q9.out.free 3
    have qc4 := Q9.out.cell 4 rfl
    have qf4 := Q9.out.free 4
    have qc5 := Q9.out.cell 5 rfl
    have qf5 := Q9.out.free 5
    have qc6 := Q9.out.cell 6 rfl
    have qf6 := Q9.out.free 6
    have qc7 := Q9.out.cell 7 rfl
    have qf7 := Q9.out.free 7
    have qc8 := Q9.out.cell 8 rfl
    have qf8 := Q9.out.free 8
    have qc9 := Q9.out.cell 9 rfl
    have qf9 := Q9.out.free 9
    have hne : w.heap.size + 1 + 1 ≠ w.heap.size + 1 + 1 + 1 := by omega
    have hbr : w.heap.size ≤ w.heap.size + 1 + 1 := by omega
    have hbd : w.heap.size ≤ w.heap.size + 1 + 1 + 1 := by omega
    have HN3 := Lib.hid (And.intro hne (And.intro hbr hbd))
    clear hne hbr hbd
    go_region
    go_wp2_with fail
    have hne := HN3.out.1
    have hbr := HN3.out.2.1
    have hbd := HN3.out.2.2
    refine bodyPost_ret (v := .tuple #[.agg #[.string s5, .int .i64 z], Dg.val ⟨2, vs, vb, v1, v2, v3, (v4 : Int) + 1, 0, ⟨#[]⟩, X⟩]) (res_rf (s := s5) (z := z) (d := ⟨2, vs, vb, v1, v2, v3, (v4 : Int) + 1, 0, ⟨#[]⟩, X⟩) rfl rfl (At.drew (At.far (At.far (At.far (At.far (At.far (At.far (At.far (At.far (At.far (At.far ((R9.out.set_ 0 _).set_ 1 _) (p := ⟨w.heap.size + 1 + 1 + 1, 0, none⟩) hne _) (p := ⟨w.heap.size + 1 + 1 + 1, 1, none⟩) hne _) (p := ⟨w.heap.size + 1 + 1 + 1, 2, none⟩) hne _) (p := ⟨w.heap.size + 1 + 1 + 1, 3, none⟩) hne _) (p := ⟨w.heap.size + 1 + 1 + 1, 4, none⟩) hne _) (p := ⟨w.heap.size + 1 + 1 + 1, 5, none⟩) hne _) (p := ⟨w.heap.size + 1 + 1 + 1, 6, none⟩) hne _) (p := ⟨w.heap.size + 1 + 1 + 1, 7, none⟩) hne _) (p := ⟨w.heap.size + 1 + 1 + 1, 8, none⟩) hne _) (p := ⟨w.heap.size + 1 + 1 + 1, 9, none⟩) hne _)) (At.drew (At.set_ (At.set_ (At.set_ (At.set_ (At.set_ (At.set_ (At.set_ (At.set_ (At.set_ (At.set_ (At.far (At.far Q9.out (p := ⟨w.heap.size + 1 + 1, 0, none⟩) hne.symm _) (p := ⟨w.heap.size + 1 + 1, 1, none⟩) hne.symm _) 0 _) 1 _) 2 _) 3 _) 4 _) 5 _) 6 _) 7 _) 8 _) 9 _))) rfl ⟨rfl, ?_⟩
    exact (Below.setCell (Below.setCell (Below.setCell (Below.setCell (Below.setCell (Below.setCell (Below.setCell (Below.setCell (Below.setCell (Below.setCell (Below.setCell (Below.setCell B9.out (p := ⟨w.heap.size + 1 + 1, 0, none⟩) hbr _) (p := ⟨w.heap.size + 1 + 1, 1, none⟩) hbr _) (p := ⟨w.heap.size + 1 + 1 + 1, 0, none⟩) hbd _) (p := ⟨w.heap.size + 1 + 1 + 1, 1, none⟩) hbd _) (p := ⟨w.heap.size + 1 + 1 + 1, 2, none⟩) hbd _) (p := ⟨w.heap.size + 1 + 1 + 1, 3, none⟩) hbd _) (p := ⟨w.heap.size + 1 + 1 + 1, 4, none⟩) hbd _) (p := ⟨w.heap.size + 1 + 1 + 1, 5, none⟩) hbd _) (p := ⟨w.heap.size + 1 + 1 + 1, 6, none⟩) hbd _) (p := ⟨w.heap.size + 1 + 1 + 1, 7, none⟩) hbd _) (p := ⟨w.heap.size + 1 + 1 + 1, 8, none⟩) hbd _) (p := ⟨w.heap.size + 1 + 1 + 1, 9, none⟩) hbd _).drew
end Go.Proofs.Ytekolkbahhbcjaa

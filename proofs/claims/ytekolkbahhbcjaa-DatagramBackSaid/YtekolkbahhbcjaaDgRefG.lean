/- Proved: what the document's Read answers. Conditions: those that the theorems name. -/
import Derived.Test.YtekolkbahhbcjaaDgRefF
namespace Go.Proofs.Ytekolkbahhbcjaa
open Go.ChangeShapes Go.WideShapes Go.ChangeAt Go.RowKit

/-- A reader and a datagram come back as the fields of a layout leave them; nothing that was there has turned. -/
def GivesRX (W : World) (g : Grp) (a : ByteArray) (e : Ending) (w' : World) : Prop :=
  ∃ (s : ByteArray) (z b0 b1 : Int) (b2 : Nat) (b3 b4 b5 b6 b7 : Int) (b8 b9 : ByteArray), e = .returned (.tuple #[.agg #[.string s, .int .i64 z], .agg #[.int .i64 b0, .int .i64 b1, .int .u32 (b2 : Nat), .int .i64 b3, .int .i64 b4, .int .i64 b5, .int .i64 b6, .int .i64 b7, .string b8, .string b9]]) ∧ Below W.heap.size W w' ∧
    (a.size - 8 < grpSz g → z = 4) ∧ (grpSz g ≤ a.size - 8 → z = 0 ∧ (⟨b0, b1, b2, b3, b4, b5, b6, b7, b8, b9⟩ : Dg) = pD g a ∧ s.size = leftN g (a.size - 8))
theorem rx_of {W : World} {g : Grp} {a s : ByteArray} {z : Int} {d : Dg} {f : FuncId} {args : Array Value} (h : Calls Try.prog f args W (GivesRF W s z d)) (h1 : a.size - 8 < grpSz g → z = 4) (h2 : grpSz g ≤ a.size - 8 → z = 0 ∧ d = pD g a ∧ s.size = leftN g (a.size - 8)) : Calls Try.prog f args W (GivesRX W g a) :=
  h.mono fun _ _ q => ⟨s, z, d.kind, d.stream, d.block, d.index, d.k, d.n, d.len, d.credit, d.has, d.body, q.1, q.2, h1, h2⟩
theorem rnum_short' (s : ByteArray) (e : Int) (m : Nat) (hs : s.size ≤ 281474976710656) (hm : m = 1 ∨ m = 2 ∨ m = 4) :
    ∃ v : Nat, v < 4294967296 ∧ Hid (∀ w, Calls Try.prog 27 #[.agg #[.string s, .int .i64 e], .int .i64 m] w (GivesR9 w (tkR s e m true) (tkE s e m true) (.int .u32 v))) := by
  have hz := num_size s e (m : Int)
  refine ⟨numS (tkT s e m (sizedB m)), Nat.lt_of_lt_of_le (numS_lt _) (Nat.pow_le_pow_right (by decide) hz), Lib.hid fun w => ?_⟩
  have h := rnum_any s e m w hs
  have e1 : sizedB (m : Int) = true := by unfold sizedB; rcases hm with rfl | rfl | rfl <;> rfl
  rw [e1] at h
  rw [e1]
  exact h
/-- the fields of any layout, by the document. -/
theorem rfields_any (a : ByteArray) (w : World) (ha : a.size ≤ 281474976710656) (h8 : 8 ≤ a.size) (hk : 1 ≤ cutN a 2 3 ∧ cutN a 2 3 ≤ 6) :
    Calls Try.prog 28 #[.agg #[.string (sfx a 8), .int .i64 0], Dg.val (pD .bare a)] w (GivesRX w (grpOf (cutN a 2 3 : Nat)) a) := by
  have hz8 := sfx_size a 8
  have e0 : ∀ k : Nat, cutN a 2 3 = k → Dg.val (pD .bare a) = Dg.val ⟨(k : Int), cutN a 3 4, cutN a 4 8, 0, 0, 0, 0, 0, ⟨#[]⟩, ⟨#[]⟩⟩ := fun k h => by rw [← h]; rfl
  rcases (show cutN a 2 3 = 1 ∨ cutN a 2 3 = 2 ∨ cutN a 2 3 = 3 ∨ cutN a 2 3 = 4 ∨ cutN a 2 3 = 5 ∨ cutN a 2 3 = 6 by omega) with h | h | h | h | h | h
  iterate 2
    · have hg : grpOf (cutN a 2 3 : Nat) = .shard := by rw [h]; rfl
      rw [hg, e0 _ h]
      by_cases h13 : 13 ≤ a.size
      · have hl := cutN_lt (a := a) (i := 11) (j := 13) (k := 2) (by omega) rfl
        have q := rf_shard (cutN a 3 4) (cutN a 4 8) (cutN a 8 9) (cutN a 9 10) (cutN a 10 11) (cutN a 11 13) (sfx a 8) (sfx a 9) (sfx a 10) (sfx a 11) (sfx a 13) 0 0 0 (a.extract 13 a.size) (sfx a a.size) 0 w
          (by have := cutN_lt (a := a) (i := 8) (j := 9) (k := 1) (by omega) rfl; omega) (by have := cutN_lt (a := a) (i := 9) (j := 10) (k := 1) (by omega) rfl; omega) (by have := cutN_lt (a := a) (i := 10) (j := 11) (k := 1) (by omega) rfl; omega) (by omega)
          (Lib.hid fun w => rnum_at a 8 1 9 w rfl (by omega) ha (by simp)) (Lib.hid fun w => rnum_at a 9 1 10 w rfl (by omega) ha (by simp)) (Lib.hid fun w => rnum_at a 10 1 11 w rfl (by omega) ha (by simp)) (Lib.hid fun w => rnum_at a 11 2 13 w rfl (by omega) ha (by simp))
          (Lib.hid fun w => by rw [sfx_size]; exact rbytes_at a 13 (a.size - 13) a.size w (by omega) (Nat.le_refl _)) (cutN a 2 3 : Nat) (by omega)
        rw [h] at q
        refine rx_of q (fun r => ?_) fun _ => ⟨rfl, ?_, ?_⟩
        · have r' : a.size - 8 < 5 := r
          omega
        · unfold pD
          rw [h]; rfl
        · rw [sfx_size]
          show a.size - a.size = 0
          omega
      · obtain ⟨v1, hv1, q1⟩ : ∃ v : Nat, v < 4294967296 ∧ Hid (∀ w, Calls Try.prog 27 #[.agg #[.string (sfx a 8), .int .i64 0], .int .i64 1] w (GivesR9 w (tkR (sfx a 8) 0 1 true) (tkE (sfx a 8) 0 1 true) (.int .u32 v))) := rnum_short' (sfx a 8) 0 1 (by omega) (by simp)
        have z1 := tkR_size (sfx a 8) 0 1 true
        have s1 : a.size - 8 = 0 ∧ tkE (sfx a 8) 0 1 true = 4 ∨ 1 ≤ a.size - 8 ∧ Short (tkR (sfx a 8) 0 1 true) (tkE (sfx a 8) 0 1 true) (a.size - 8 - 1) := by
          have s0 : Short (sfx a 8) 0 (a.size - 8) := Or.inl ⟨rfl, hz8⟩
          by_cases g1 : 1 ≤ a.size - 8
          · exact Or.inr ⟨g1, s0.step g1⟩
          · exact Or.inl ⟨by omega, s0.fail (z := 1) (by omega)⟩
        generalize tkR (sfx a 8) 0 1 true = r1 at *
        generalize tkE (sfx a 8) 0 1 true = x1 at *
        obtain ⟨v2, hv2, q2⟩ : ∃ v : Nat, v < 4294967296 ∧ Hid (∀ w, Calls Try.prog 27 #[.agg #[.string r1, .int .i64 x1], .int .i64 1] w (GivesR9 w (tkR r1 x1 1 true) (tkE r1 x1 1 true) (.int .u32 v))) := rnum_short' r1 x1 1 (by omega) (by simp)
        have z2 := tkR_size r1 x1 1 true
        have s2 : tkE r1 x1 1 true = 4 ∨ 2 ≤ a.size - 8 ∧ Short (tkR r1 x1 1 true) (tkE r1 x1 1 true) (a.size - 8 - 2) := by
          rcases s1 with ⟨_, s1⟩ | ⟨g, s1⟩
          · rw [s1]; exact Or.inl (stay4 _ _ _)
          · by_cases g1 : 1 ≤ a.size - 8 - 1
            · exact Or.inr ⟨by omega, s1.step g1⟩
            · exact Or.inl (s1.fail (z := 1) (by omega))
        generalize tkR r1 x1 1 true = r2 at *
        generalize tkE r1 x1 1 true = x2 at *
        obtain ⟨v3, hv3, q3⟩ : ∃ v : Nat, v < 4294967296 ∧ Hid (∀ w, Calls Try.prog 27 #[.agg #[.string r2, .int .i64 x2], .int .i64 1] w (GivesR9 w (tkR r2 x2 1 true) (tkE r2 x2 1 true) (.int .u32 v))) := rnum_short' r2 x2 1 (by omega) (by simp)
        have z3 := tkR_size r2 x2 1 true
        have s3 : tkE r2 x2 1 true = 4 ∨ 3 ≤ a.size - 8 ∧ Short (tkR r2 x2 1 true) (tkE r2 x2 1 true) (a.size - 8 - 3) := by
          rcases s2 with s2 | ⟨g, s2⟩
          · rw [s2]; exact Or.inl (stay4 _ _ _)
          · by_cases g1 : 1 ≤ a.size - 8 - 2
            · exact Or.inr ⟨by omega, s2.step g1⟩
            · exact Or.inl (s2.fail (z := 1) (by omega))
        generalize tkR r2 x2 1 true = r3 at *
        generalize tkE r2 x2 1 true = x3 at *
        obtain ⟨v4, hv4, q4⟩ : ∃ v : Nat, v < 4294967296 ∧ Hid (∀ w, Calls Try.prog 27 #[.agg #[.string r3, .int .i64 x3], .int .i64 2] w (GivesR9 w (tkR r3 x3 2 true) (tkE r3 x3 2 true) (.int .u32 v))) := rnum_short' r3 x3 2 (by omega) (by simp)
        have s4 : tkE r3 x3 2 true = 4 := by
          rcases s3 with s3 | ⟨g, s3⟩
          · rw [s3]; exact stay4 _ _ _
          · exact s3.fail (z := 2) (by omega)
        rw [s4] at q4
        have q := rf_short (cutN a 3 4) (cutN a 4 8) v1 v2 v3 v4 (sfx a 8) r1 r2 r3 (tkR r3 x3 2 true) x1 x2 x3 4 w hv1 hv2 hv3 hv4 q1 q2 q3 q4 (by decide) (cutN a 2 3 : Nat) (by omega)
        rw [h] at q
        refine rx_of q (fun _ => rfl) fun r => ?_
        have r' : 5 ≤ a.size - 8 := r
        omega
  · have hg : grpOf (cutN a 2 3 : Nat) = .hav := by rw [h]; rfl
    rw [hg, e0 _ h]
    by_cases h40 : 40 ≤ a.size
    · have q := rf_hav (cutN a 3 4) (cutN a 4 8) (sfx a 8) (a.extract 8 40) (sfx a 40) 0 w (Lib.hid fun w => rbytes_at a 8 32 40 w rfl h40)
      refine rx_of q (fun r => ?_) fun _ => ⟨rfl, ?_, ?_⟩
      · have r' : a.size - 8 < 32 := r
        omega
      · unfold pD
        rw [h]; rfl
      · rw [sfx_size]
        show a.size - 40 = a.size - 8 - 32
        omega
    · have hs := (Short.fail (s := sfx a 8) (e := 0) (n := a.size - 8) (z := 32) (Or.inl ⟨rfl, hz8⟩) (by omega))
      have q := rf_hav (cutN a 3 4) (cutN a 4 8) (sfx a 8) (tkT (sfx a 8) 0 32 true) (tkR (sfx a 8) 0 32 true) 4 w (Lib.hid fun w => by
        have r := rbytes_any (sfx a 8) 0 32 w
        rw [show decide (0 ≤ (32 : Int)) = true from rfl, show tkE (sfx a 8) 0 32 true = 4 from hs] at r
        exact r)
      refine rx_of q (fun _ => rfl) fun r => ?_
      have r' : 32 ≤ a.size - 8 := r
      omega
  · have hg : grpOf (cutN a 2 3 : Nat) = .cred := by rw [h]; rfl
    rw [hg, e0 _ h]
    by_cases h10 : 10 ≤ a.size
    · have q := rf_cred (cutN a 3 4) (cutN a 4 8) (cutN a 8 10) (sfx a 8) (sfx a 10) 0 w (by have := cutN_lt (a := a) (i := 8) (j := 10) (k := 2) (by omega) rfl; omega) (Lib.hid fun w => rnum_at a 8 2 10 w rfl h10 ha (by simp))
      refine rx_of q (fun r => ?_) fun _ => ⟨rfl, ?_, ?_⟩
      · have r' : a.size - 8 < 2 := r
        omega
      · unfold pD
        rw [h]; rfl
      · rw [sfx_size]
        show a.size - 10 = a.size - 8 - 2
        omega
    · have hs := (Short.fail (s := sfx a 8) (e := 0) (n := a.size - 8) (z := 2) (Or.inl ⟨rfl, hz8⟩) (by omega))
      obtain ⟨v, hv, q0⟩ := rnum_short' (sfx a 8) 0 2 (by omega) (by simp)
      rw [hs] at q0
      have q := rf_cred (cutN a 3 4) (cutN a 4 8) v (sfx a 8) (tkR (sfx a 8) 0 2 true) 4 w hv q0
      refine rx_of q (fun _ => rfl) fun r => ?_
      have r' : 2 ≤ a.size - 8 := r
      omega
  · have hg : grpOf (cutN a 2 3 : Nat) = .bare := by rw [h]; rfl
    rw [hg, e0 _ h]
    refine rx_of (rf_bare 5 (cutN a 3 4) (cutN a 4 8) (sfx a 8) w (Or.inl rfl)) (fun r => absurd r (Nat.not_lt_zero _)) fun _ => ⟨rfl, ?_, ?_⟩
    · unfold pD
      rw [h]; rfl
    · rw [hz8]; rfl
  · have hg : grpOf (cutN a 2 3 : Nat) = .bare := by rw [h]; rfl
    rw [hg, e0 _ h]
    refine rx_of (rf_bare 6 (cutN a 3 4) (cutN a 4 8) (sfx a 8) w (Or.inr rfl)) (fun r => absurd r (Nat.not_lt_zero _)) fun _ => ⟨rfl, ?_, ?_⟩
    · unfold pD
      rw [h]; rfl
    · rw [hz8]; rfl
end Go.Proofs.Ytekolkbahhbcjaa

/- Proved: lemmas of one statement's proof, merged by program: what each part proves stands ahead of it. Conditions: those that the lemmas name. -/
import Derived.Test.YtmnbkghihdbepaaM2
import Derived.Test.YtmnbkghihdbepaaM5

/- Plain lemmas on rows of bytes that are written out. No condition beyond those that each lemma names. -/
namespace Go.Proofs.Ytmnbkghihdbepaa
open Go.ChangeShapes Go.WideShapes Go.ChangeAt Go.RowKit

theorem bs_new (w : World) (l : List Nat) (hl : ∀ j, l.getD j 0 < 256) : Bs (w.alloc (.cells (cells l).toArray 5)) (some ⟨w.heap.size, 0, none⟩) l.length l := by
  refine ⟨rfl, hl, fun _ => ⟨_, rfl, by simp, fun j hj => ?_⟩⟩
  have e : (⟨w.heap.size, 0, none⟩ : Addr).add j = ⟨w.heap.size, j, none⟩ := by unfold Addr.add; split <;> simp_all
  rw [e, cell_of_row _ _ j _ _ (0, 0) (heap_alloc_new w _)]
  have := cells_at l j hj
  simpa using this
theorem bs_one (w : World) (x : Nat) (hx : x < 256) : Bs (w.alloc (.cells #[.int .u8 (x : Nat)] 5)) (some ⟨w.heap.size, 0, none⟩) 1 [x] :=
  bs_new w [x] (getD_lt (fun y hy => by simp at hy; omega))
theorem bs_two (w : World) (x y : Nat) (hx : x < 256) (hy : y < 256) : Bs (w.alloc (.cells #[.int .u8 (x : Nat), .int .u8 (y : Nat)] 5)) (some ⟨w.heap.size, 0, none⟩) 2 [x, y] :=
  bs_new w [x, y] (getD_lt (fun z hz => by simp at hz; omega))
theorem bs_both (w : World) : Bs ((w.alloc (.cells #[.int .u8 1, .int .u8 2] 5)).alloc (.cells #[.int .u8 3, .int .u8 4] 5)) (some ⟨w.heap.size, 0, none⟩) 2 [1, 2] ∧
    Bs ((w.alloc (.cells #[.int .u8 1, .int .u8 2] 5)).alloc (.cells #[.int .u8 3, .int .u8 4] 5)) (some ⟨w.heap.size + 1, 0, none⟩) 2 [3, 4] := by
  have h := bs_two w 1 2 (by decide) (by decide)
  have g := bs_two (w.alloc (.cells #[.int .u8 1, .int .u8 2] 5)) 3 4 (by decide) (by decide)
  refine ⟨h.below ((Below.refl _ _).alloc (Nat.le_refl _) _), ?_⟩
  simpa using g
theorem below2 (w : World) (o p : Obj) : Below w.heap.size w ((w.alloc o).alloc p) := ((Below.refl _ _).alloc (Nat.le_refl _) _).alloc (by simp) _

end Go.Proofs.Ytmnbkghihdbepaa

/- Proved: what Put of package wire answers where there is an error, and what its twin of the document answers for every number and every size. Conditions: those that the theorems name. -/
namespace Go.Proofs.Ytmnbkghihdbepaa
open Go.ChangeShapes Go.WideShapes Go.ChangeAt Go.RowKit

theorem sizedB_cases {z : Int} (h : sizedB z = true) : z = 1 ∨ z = 2 ∨ z = 4 := by
  unfold sizedB at h
  simp at h; omega
theorem sizedB_no {z : Int} (h : sizedB z = false) : z ≠ 1 ∧ z ≠ 2 ∧ z ≠ 4 := by
  unfold sizedB at h
  simp at h; omega
set_option maxHeartbeats 800000 in
theorem put_arg (n : Nat) (z : Int) (w : World) (h : sizedB z = false) :
    Calls Try.prog 59 #[.int .u32 n, .int .i64 z] w (GivesSE9 w S0 1) := by
  have HZ := Lib.hid (fun w => h ▸ sized_any z w)
  clear h
  go_enter Try.func59, Try.ntmps59
  go_wp2_with fail
  refine (HZ.out _).mono ?_; rintro e w1 ⟨rfl, rfl⟩
  go_wp2_with fail
  go_ret2
  exact ⟨rfl, Below.refl _ _⟩
set_option maxRecDepth 100000 in
set_option maxHeartbeats 800000 in
theorem put_range (n m : Nat) (w : World) (hm : m = 1 ∨ m = 2) (hn : ¬ n < 256 ^ m) :
    Calls Try.prog 59 #[.int .u32 n, .int .i64 m] w (GivesSE9 w S0 2) := by
  have HZ : Hid (∀ w, Calls Try.prog 62 #[.int .i64 m] w fun e w' => e = .returned (.bool true) ∧ w = w') := Lib.hid fun w => by
    have h := sized_any m w
    have e : sizedB m = true := by unfold sizedB; rcases hm with rfl | rfl <;> rfl
    rwa [e] at h
  have hlt0 : decide ((0 : Int) < (n : Int) / 2 ^ (8 * m)) = true := decide_eq_true (by
    have e : 0 < n / 2 ^ (8 * m) := Nat.div_pos (by rw [pow_8]; omega) (Nat.two_pow_pos _)
    have e2 : (n : Int) / 2 ^ (8 * m) = ((n / 2 ^ (8 * m) : Nat) : Int) := by simp
    rw [e2]; omega)
  have h1 : (1 : Int) ≤ m := by omega
  have h4 : (m : Int) ≤ 4 := by omega
  clear hm hn
  go_enter Try.func59, Try.ntmps59
  go_wp2_with fail
  refine (HZ.out _).mono ?_; rintro e w1 ⟨rfl, rfl⟩
  go_wp2_with fail
  go_ret2
  exact ⟨rfl, Below.refl _ _⟩
theorem put_any (n : Nat) (z : Int) (w : World) (hn : n < 4294967296) :
    Calls Try.prog 59 #[.int .u32 n, .int .i64 z] w (GivesSE9 w (putS n z) (putZ n z)) := by
  unfold putS putZ
  by_cases h : sizedB z = true
  · have hz := sizedB_cases h
    obtain ⟨m, rfl⟩ := Int.eq_ofNat_of_zero_le (show 0 ≤ z by omega)
    rw [if_pos h, Int.toNat_natCast]
    by_cases g : n < 256 ^ m
    · rw [if_pos g, if_pos rfl]
      exact put_good n m w (by omega) g hn
    · rw [if_neg g, if_neg (by decide)]
      rcases (show m = 1 ∨ m = 2 ∨ m = 4 by omega) with rfl | rfl | rfl
      · exact put_range n 1 w (Or.inl rfl) g
      · exact put_range n 2 w (Or.inr rfl) g
      · exact absurd hn g
  · rw [if_neg h, if_neg (by decide)]
    exact put_arg n z w (by simpa using h)

theorem tx_cons (x : Nat) (l : List Nat) : tx [x] ++ tx l = tx (x :: l) := by
  apply ByteArray.ext
  rw [ByteArray.data_append]
  unfold tx
  simp
theorem byteL_front (n k : Nat) : (n / 256 ^ k % 256) :: byteL n k = byteL n (k + 1) := by
  induction k generalizing n with
  | zero => simp [byteL]
  | succ k ih =>
    have h := ih (n / 256)
    rw [Nat.div_div_eq_div_mul, Nat.mul_comm, ← Nat.pow_succ] at h
    show _ :: (byteL (n / 256) k ++ [n % 256]) = byteL (n / 256) (k + 1) ++ [n % 256]
    rw [← List.cons_append, h]

end Go.Proofs.Ytmnbkghihdbepaa

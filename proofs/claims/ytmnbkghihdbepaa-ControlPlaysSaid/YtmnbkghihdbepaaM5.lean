/- Proved: lemmas of one statement's proof, merged by program: what each part proves stands ahead of it. Conditions: those that the lemmas name. -/
import Derived.Test.YtmnbkghihdbepaaM3
import Derived.Test.YtmnbkghihdbepaaM4
import Derived.Laws.World
import Derived.Deep.OwnRows

/- Plain lemmas on a new row of bytes of the call's own, all 0. No condition beyond those that each lemma names. -/
namespace Go.Proofs.Ytmnbkghihdbepaa
open Go.ChangeShapes Go.WideShapes Go.ChangeAt Go.RowKit

/-- a new block of n zeros. -/
theorem own_new (w : World) (n : Nat) : Own (w.alloc (.cells (madeCells #[.int .u8 0] n) 5)) w.heap.size n (List.replicate n 0) := by
  have e : ∀ r, (List.replicate n 0).getD r 0 = 0 := fun r => by
    rw [List.getD_eq_getElem?_getD, List.getElem?_replicate]
    split <;> rfl
  refine ⟨by simp, fun j => by rw [e]; decide, _, heap_alloc_new w _, fun r hr => ?_⟩
  rw [e]
  simp [madeCells, hr, Nat.mod_one]
theorem rep_at (n r : Nat) : (List.replicate n 0).getD r 0 = 0 := by
  rw [List.getD_eq_getElem?_getD, List.getElem?_replicate]
  split <;> rfl
end Go.Proofs.Ytmnbkghihdbepaa

/- Proved: what Put of package wire, and its twin of the document, answer for every number and every size. Conditions: those that the theorems name. -/
namespace Go.Proofs.Ytmnbkghihdbepaa
open Go.ChangeShapes Go.WideShapes Go.ChangeAt Go.RowKit

/-- the k lowest bytes of n, the highest first. -/
def byteL : Nat → Nat → List Nat
  | _, 0 => []
  | n, k + 1 => byteL (n / 256) k ++ [n % 256]
theorem byteL_len (n k : Nat) : (byteL n k).length = k := by
  induction k generalizing n with
  | zero => rfl
  | succ k ih => unfold byteL; rw [List.length_append, ih]; rfl
theorem byteL_lt (n k : Nat) : ∀ j, (byteL n k).getD j 0 < 256 := getD_lt fun x hx => by
  induction k generalizing n with
  | zero => exact absurd hx (by simp [byteL])
  | succ k ih =>
    unfold byteL at hx
    rcases List.mem_append.1 hx with h | h
    · exact ih _ h
    · simp at h; omega
/-- may a number have so many bytes? -/
def sizedB (z : Int) : Bool := z == 1 || z == 2 || z == 4
/-- Put's error. -/
def putZ (n : Nat) (z : Int) : Int := if sizedB z = true then (if n < 256 ^ z.toNat then 0 else 2) else 1
/-- Put's answer. -/
def putS (n : Nat) (z : Int) : ByteArray := if putZ n z = 0 then tx (byteL n z.toNat) else S0
/-- A text and an error come back; nothing that was there has turned. -/
def GivesSE9 (W : World) (t : ByteArray) (z : Int) (e : Ending) (w' : World) : Prop := e = .returned (.tuple #[.string t, .int .i64 z]) ∧ Below W.heap.size W w'

theorem sized_any (z : Int) (w : World) : Calls Try.prog 62 #[.int .i64 z] w fun e w' => e = .returned (.bool (sizedB z)) ∧ w = w' := by
  unfold sizedB
  by_cases h1 : z = 1
  · subst h1
    go_enter Try.func62, Try.ntmps62
    go_wp2_with fail
    go_ret
    exact ⟨rfl, rfl⟩
  · by_cases h2 : z = 2
    · subst h2
      go_enter Try.func62, Try.ntmps62
      go_wp2_with fail
      go_ret
      exact ⟨rfl, rfl⟩
    · have e1 : (z == 1) = false := by simpa using h1
      have e2 : (z == 2) = false := by simpa using h2
      rw [e1, e2]
      go_enter Try.func62, Try.ntmps62
      go_wp2_with fail
      go_ret
      exact ⟨rfl, rfl⟩

theorem byteL_at {k j : Nat} (hj : j < k) (n : Nat) : (byteL n k).getD (k - 1 - j) 0 = n / 256 ^ j % 256 := by
  induction k generalizing n j with
  | zero => omega
  | succ k ih =>
    unfold byteL
    rw [List.getD_eq_getElem?_getD]
    rcases j with _ | j
    · rw [List.getElem?_append_right (by rw [byteL_len]; omega), byteL_len]
      simp
    · rw [List.getElem?_append_left (by rw [byteL_len]; omega), ← List.getD_eq_getElem?_getD, show k + 1 - 1 - (j + 1) = k - 1 - j by omega, ih (by omega), Nat.div_div_eq_div_mul, Nat.pow_succ, Nat.mul_comm]
/-- the last k bytes of the row are those of n. -/
def Lows (n m k : Nat) (l : List Nat) : Prop := l.length = m ∧ ∀ j, j < k → l.getD (m - 1 - j) 0 = n / 256 ^ j % 256
theorem Lows.start {n m : Nat} {l : List Nat} (h : l.length = m) : Lows n m 0 l := ⟨h, fun _ h => absurd h (by omega)⟩
theorem Lows.next {n m k : Nat} {l : List Nat} (h : Lows n m k l) (hk : k < m) : Lows n m (k + 1) (l.set (m - 1 - k) (n / 256 ^ k % 256)) := by
  refine ⟨by rw [List.length_set]; exact h.1, fun j hj => ?_⟩
  rw [set_at _ _ _ _ (by rw [h.1]; omega)]
  by_cases e : m - 1 - k = m - 1 - j
  · rw [if_pos e, show j = k by omega]
  · rw [if_neg e]; exact h.2 j (by omega)
theorem Lows.done {n m : Nat} {l : List Nat} (h : Lows n m m l) : l = byteL n m := by
  refine ext_at h.1 (byteL_len n m) fun j hj => ?_
  have h1 := h.2 (m - 1 - j) (by omega)
  have h2 := byteL_at (k := m) (j := m - 1 - j) (by omega) n
  rw [show m - 1 - (m - 1 - j) = j by omega] at h1 h2
  rw [h1, h2]
theorem pow_8 (k : Nat) : (2 : Nat) ^ (8 * k) = 256 ^ k := by rw [Nat.pow_mul]
theorem shr_8 (n k : Nat) : (n : Int) / 2 ^ (8 * k) % 256 = ((n / 256 ^ k % 256 : Nat) : Int) := by
  rw [← pow_8]; simp

set_option maxRecDepth 100000 in
set_option maxHeartbeats 800000 in
theorem put_good (n m : Nat) (w : World) (hm : m = 1 ∨ m = 2 ∨ m = 4) (hn : n < 256 ^ m) (hn4 : n < 4294967296) :
    Calls Try.prog 59 #[.int .u32 n, .int .i64 m] w (GivesSE9 w (tx (byteL n m)) 0) := by
  have hmR := run_make_row' (P := Try.prog) 60 5 (.int .u8 0) 1 Try.underlying60 Try.infoByte rfl .i64 .i64 m (by omega) (by omega)
  have HZ : Hid (∀ w, Calls Try.prog 62 #[.int .i64 m] w fun e w' => e = .returned (.bool true) ∧ w = w') := Lib.hid fun w => by
    have h := sized_any m w
    have e : sizedB m = true := by unfold sizedB; rcases hm with rfl | rfl | rfl <;> rfl
    rwa [e] at h
  have h1 : (1 : Int) ≤ m := by omega
  have h4 : (m : Int) ≤ 4 := by omega
  have hlt0 : decide ((0 : Int) < (n : Int) / 2 ^ (8 * m)) = false := decide_eq_false (by
    have e : n / 2 ^ (8 * m) = 0 := Nat.div_eq_of_lt (by rw [pow_8]; exact hn)
    have e2 : (n : Int) / 2 ^ (8 * m) = ((n / 2 ^ (8 * m) : Nat) : Int) := by simp
    rw [e2, e]; decide)
  have N1 := Lib.hid (And.intro hm (And.intro hn hn4))
  clear hm hn hn4
  go_enter Try.func59, Try.ntmps59
  go_wp2_with fail
  refine (HZ.out _).mono ?_; rintro e w1 ⟨rfl, rfl⟩
  go_wp2_with fail
  have HO := Lib.hid (own_new w m)
  have HW := Lib.hid ((Below.refl w.heap.size w).alloc (Nat.le_refl _) (.cells (madeCells #[.int .u8 0] m) 5))
  have HL := Lib.hid (Lows.start (n := n) (m := m) (l := List.replicate m 0) (by simp))
  clear hmR hlt0
  go_loopw [7, 20] (fun _ i wr => ∃ k : Nat, k ≤ m ∧ i = .int .i64 k ∧ ∃ l, Own wr w.heap.size m l ∧ Lows n m k l ∧ Below w.heap.size w wr) (fun _ i _ => m - (intOf i).toNat)
  case atStart => exact ⟨0, by omega, rfl, _, HO.out, HL.out, HW.out⟩
  case round =>
    obtain ⟨k, hk, rfl, l, ho, hl, hbel⟩ := hrel
    have HO' := Lib.hid ho
    have HL' := Lib.hid hl
    have HW' := Lib.hid hbel
    clear ho hl hbel HO HL HW
    by_cases hlt : k < m
    · have hlt' : (k : Int) < (m : Int) := by omega
      have hk0 : (0 : Int) ≤ (k : Int) := Int.natCast_nonneg _
      obtain ⟨y, hy⟩ : ∃ y, y = m - 1 - k := ⟨_, rfl⟩
      have hyi : (m : Int) - 1 - (k : Int) = (y : Int) := by omega
      have hy0 : (0 : Int) ≤ (y : Int) := by omega
      have hym : (y : Int) < (m : Int) := by omega
      have HN := Lib.hid (HL'.out.next hlt)
      have hsh := shr_8 n k
      have hx : n / 256 ^ k % 256 < 256 := by omega
      rw [← hy] at HN
      have hc := HO'.out.cell (j := y) (by omega)
      have hf := HO'.out.frozen y
      have HS := Lib.hid (HO'.out.set_ (j := y) (x := n / 256 ^ k % 256) (by omega) hx)
      clear hy
      generalize n / 256 ^ k % 256 = x at *
      go_wp2_with fail
      go_roundw
      case rel => exact ⟨k + 1, by omega, by go_num, _, HS.out, HN.out, HW'.out.setCell (by simp) _⟩
      case measure => simp [intOf]; omega
    · obtain rfl : k = m := by omega
      have hcv := convert_back wr (some ⟨w.heap.size, 0, none⟩) k k _ HO'.out.bs (by omega)
      rw [HL'.out.done] at hcv
      go_wp2_with fail
      go_ret2
      exact ⟨rfl, HW'.out⟩
end Go.Proofs.Ytmnbkghihdbepaa

/- Proved: lemmas of one statement's proof, merged by program: what each part proves stands ahead of it. Conditions: those that the lemmas name. -/
import Derived.Test.YtodokgkchmpmnaaGreatM31
import Derived.Deep.QuietTactic
import Derived.BigQuiet
import Derived.Test.YtodokgkchmpmnaaGreatM15

/- Proved: what Has of package bits, and its twin of the document, answer for every string and every int. Conditions: those that the theorems name. -/
namespace Go.Proofs.YtodokgkchmpmnaaGreat
open Go.ChangeShapes Go.WideShapes Go.ChangeAt Go.RowKit

theorem ret_bool {a b : Bool} (h : a = b) : Ending.returned (.bool a) = .returned (.bool b) := by rw [h]
set_option maxHeartbeats 400000 in
theorem sized11_any (s : ByteArray) (w : World) :
    Calls Tryz.prog 75 #[.string s] w fun e w' => e = .returned (.bool (decide (s.size = 32))) ∧ w = w' := by
  by_cases h : s.size = 32
  · rw [decide_eq_true h]
    have h1 : ((s.size : Int) == 32) = true := by simp; omega
    clear h
    go_enter Tryz.func75, Tryz.ntmps75
    go_wp2_with fail
    go_ret
    exact ⟨rfl, rfl⟩
  · rw [decide_eq_false h]
    have h1 : ((s.size : Int) == 32) = false := by simp; omega
    clear h
    go_enter Tryz.func75, Tryz.ntmps75
    go_wp2_with fail
    go_ret
    exact ⟨rfl, rfl⟩
set_option maxHeartbeats 400000 in
theorem placed_any (i : Int) (w : World) :
    Calls Tryz.prog 86 #[.int .i64 i] w fun e w' => e = .returned (.bool (inB i)) ∧ w = w' := by
  unfold inB
  by_cases h : 0 ≤ i
  · rw [decide_eq_true h, Bool.true_and]
    go_enter Tryz.func86, Tryz.ntmps86
    go_wp2_with fail
    go_ret
    exact ⟨rfl, rfl⟩
  · rw [decide_eq_false h, Bool.false_and]
    go_enter Tryz.func86, Tryz.ntmps86
    go_wp2_with fail
    go_ret
    exact ⟨rfl, rfl⟩
theorem pow_mod {r : Nat} (h : r < 8) : (2 : Int) ^ r % 256 = ((2 ^ r : Nat) : Int) := by
  have h2 := pow_byte h
  push_cast
  have : ((2 ^ r : Nat) : Int) < 256 := by omega
  push_cast at this
  have h0 : (0 : Int) ≤ 2 ^ r := by
    have := Int.natCast_nonneg (2 ^ r)
    push_cast at this
    exact this
  omega
set_option maxHeartbeats 400000 in
theorem bit_any (n r : Nat) (hn : n < 256) (hr : n % 8 = r) (w : World) :
    Calls Tryz.prog 87 #[.int .i64 n] w fun e w' => e = .returned (.int .u8 (2 ^ r : Nat)) ∧ w = w' := by
  have HR := Lib.hid (pow_mod (r := r) (by omega))
  have e2 : (n : Int) % 8 = (r : Int) := by omega
  have h0 : (0 : Int) ≤ (n : Int) := Int.natCast_nonneg _
  have h1 : (n : Int) ≤ 255 := by omega
  have hr0 : (0 : Int) ≤ (r : Int) := Int.natCast_nonneg _
  have hr1 : (r : Int) < 8 := by omega
  clear hn hr
  go_enter Tryz.func87, Tryz.ntmps87
  go_wp2_with fail
  go_ret
  exact ⟨ret_int HR.out, rfl⟩

set_option maxRecDepth 100000 in
set_option maxHeartbeats 800000 in
theorem has_size (s : ByteArray) (i : Int) (w : World) (h : s.size ≠ 32) :
    Calls Tryz.prog 74 #[.string s, .int .i64 i] w fun e w' => e = .returned (.bool false) ∧ ∃ q, w' = w.drewN q := by
  have HS := Lib.hid (fun w => sized11_any s w)
  rw [decide_eq_false h] at HS
  clear h
  go_enter Tryz.func74, Tryz.ntmps74
  go_wp2_with fail
  go_quiet ((go_at_call 75; exact Calls.quiet_of_same ((HS.out _).mono fun _ _ h => ⟨h.1, h.2.symm⟩)))
  go_wp2_with fail
  go_ret
  exact ⟨rfl, _, rfl⟩
set_option maxRecDepth 100000 in
set_option maxHeartbeats 800000 in
theorem has_out (s : ByteArray) (i : Int) (w : World) (h : s.size = 32) (hi : inB i = false) :
    Calls Tryz.prog 74 #[.string s, .int .i64 i] w fun e w' => e = .returned (.bool false) ∧ ∃ q, w' = w.drewN q := by
  have HS := Lib.hid (fun w => sized11_any s w)
  rw [decide_eq_true h] at HS
  have HP := Lib.hid (fun w => placed_any i w)
  rw [hi] at HP
  clear h hi
  go_enter Tryz.func74, Tryz.ntmps74
  go_wp2_with fail
  go_quiet ((first | (go_at_call 75; exact Calls.quiet_of_same ((HS.out _).mono fun _ _ h => ⟨h.1, h.2.symm⟩)) | (go_at_call 86; exact Calls.quiet_of_same ((HP.out _).mono fun _ _ h => ⟨h.1, h.2.symm⟩))))
  go_wp2_with fail
  go_ret
  exact ⟨rfl, _, rfl⟩
theorem and_bit {x r : Nat} (hx : x < 256) (hr : r < 8) : bits BinOp.and IntKind.u8 (x : Int) ((2 ^ r : Nat) : Int) = ((x &&& 2 ^ r : Nat) : Int) := u8_and_nat _ _ hx (pow_byte hr)
theorem and_bit_val (x r : Nat) : x &&& 2 ^ r = if x.testBit r = true then 2 ^ r else 0 := by
  refine Nat.eq_of_testBit_eq fun i => ?_
  rw [Nat.testBit_and, Nat.testBit_two_pow]
  by_cases e : r = i
  · subst e
    cases h : x.testBit r <;> simp
  · rw [decide_eq_false e, Bool.and_false]
    split
    · rw [Nat.testBit_two_pow, decide_eq_false e]
    · rw [Nat.zero_testBit]
theorem and_bit_ne (x r : Nat) : (((x &&& 2 ^ r : Nat) : Int) != 0) = x.testBit r := by
  rw [and_bit_val]
  have h0 : 0 < 2 ^ r := Nat.pow_pos (by decide)
  generalize (2 : Nat) ^ r = p at *
  cases h : x.testBit r with
  | false => rfl
  | true =>
    simp
    omega
set_option maxRecDepth 100000 in
set_option maxHeartbeats 800000 in
theorem has_good (s : ByteArray) (n : Nat) (w : World) (h : s.size = 32) (hn : n < 256) :
    Calls Tryz.prog 74 #[.string s, .int .i64 n] w fun e w' => e = .returned (.bool (bitN (bts s) n)) ∧ ∃ q, w' = w.drewN q := by
  have HS := Lib.hid (fun w => sized11_any s w)
  rw [decide_eq_true h] at HS
  have HP := Lib.hid (fun w => placed_any n w)
  rw [inB_of (by omega) (by omega)] at HP
  have HB := Lib.hid (fun w => bit_any n (n % 8) hn rfl w)
  have hx := at_index s (n / 8) (by omega)
  have hlt := bts_lt s (n / 8)
  have ha := and_bit hlt (show n % 8 < 8 by omega)
  have HN := Lib.hid (and_bit_ne ((bts s).getD (n / 8) 0) (n % 8))
  unfold bitN
  have e1 : (n : Int) / 8 = ((n / 8 : Nat) : Int) := by omega
  have h0 : (0 : Int) ≤ (n : Int) := Int.natCast_nonneg _
  have h1 : (n : Int) ≤ 255 := by omega
  generalize hy : (bts s).getD (n / 8) 0 &&& 2 ^ (n % 8) = y at *
  generalize (2 ^ (n % 8) : Nat) = p at *
  generalize (bts s).getD (n / 8) 0 = x at *
  generalize n / 8 = j at *
  generalize x.testBit (n % 8) = b at *
  clear h hn hlt hy
  go_enter Tryz.func74, Tryz.ntmps74
  go_wp2_with fail
  go_quiet ((first | (go_at_call 75; exact Calls.quiet_of_same ((HS.out _).mono fun _ _ h => ⟨h.1, h.2.symm⟩)) | (go_at_call 86; exact Calls.quiet_of_same ((HP.out _).mono fun _ _ h => ⟨h.1, h.2.symm⟩)) | (go_at_call 87; exact Calls.quiet_of_same ((HB.out _).mono fun _ _ h => ⟨h.1, h.2.symm⟩))))
  go_wp2_with fail
  go_ret
  exact ⟨ret_bool HN.out, _, rfl⟩
theorem has_any (s : ByteArray) (i : Int) (w : World) :
    Calls Tryz.prog 74 #[.string s, .int .i64 i] w fun e w' => e = .returned (.bool (hasB s i)) ∧ ∃ q, w' = w.drewN q := by
  by_cases h : s.size = 32
  · cases hi : inB i with
    | false => rw [hasB_in hi]; exact has_out s i w h hi
    | true =>
      obtain ⟨h0, h1⟩ := inB_yes hi
      obtain ⟨n, rfl⟩ := Int.eq_ofNat_of_zero_le h0
      rw [hasB_at h (by omega)]
      exact has_good s n w h (by omega)
  · rw [hasB_size h]; exact has_size s i w h
/-! ### the document's -/
end Go.Proofs.YtodokgkchmpmnaaGreat

/- Plain lemmas on a row of bytes that a call made of a text: what it holds, what a store leaves, and what it reads as. No condition beyond those that each lemma names. -/
namespace Go.Proofs.YtodokgkchmpmnaaGreat
open Go.ChangeShapes Go.WideShapes Go.ChangeAt Go.RowKit

/-- Block g is a row of the call's own, made of a text, whose first n cells are the bytes l. -/
def OwnC (w : World) (g n : Nat) (l : List Nat) : Prop :=
  l.length = n ∧ (∀ j, l.getD j 0 < 256) ∧ ∃ (cur : Array Value) (m : Nat), w.heap[g]? = some (.cells cur 5 (m, m + 1)) ∧ n ≤ m ∧ ∀ j, j < n → cur[j]? = some (.int .u8 (l.getD j 0 : Nat))
theorem OwnC.lt {w : World} {g n : Nat} {l : List Nat} (h : OwnC w g n l) : g < w.heap.size := by
  obtain ⟨_, _, cur, m, hc, _⟩ := h
  exact (Array.getElem?_eq_some_iff.1 hc).1
theorem OwnC.cell {w : World} {g n : Nat} {l : List Nat} (h : OwnC w g n l) {j : Nat} (hj : j < n) : w.cell? ⟨g, j, none⟩ = some (.int .u8 (l.getD j 0 : Nat)) := by
  obtain ⟨_, _, cur, m, hc, _, hr⟩ := h
  rw [cell_of_row w g j cur _ (m, m + 1) hc]
  exact hr j hj
theorem OwnC.frozen {w : World} {g n : Nat} {l : List Nat} (h : OwnC w g n l) {j : Nat} (hj : j < n) : w.frozen? ⟨g, j, none⟩ = false := by
  obtain ⟨_, _, cur, m, hc, hm, _⟩ := h
  simp [World.frozen?, hc]
  omega
theorem OwnC.set_ {w : World} {g n : Nat} {l : List Nat} (h : OwnC w g n l) {j x : Nat} (hj : j < n) (hx : x < 256) : OwnC (w.setCell ⟨g, j, none⟩ (.int .u8 (x : Nat))) g n (l.set j x) := by
  obtain ⟨hl, hb, cur, m, hc, hm, hr⟩ := h
  have hget : ∀ i, (l.set j x).getD i 0 = if j = i then x else l.getD i 0 := by
    intro i
    rw [List.getD_eq_getElem?_getD, List.getElem?_set]
    by_cases e : j = i
    · rw [if_pos e, if_pos e, if_pos (by omega)]; rfl
    · rw [if_neg e, if_neg e, ← List.getD_eq_getElem?_getD]
  refine ⟨by rw [List.length_set, hl], fun i => ?_, cur.setIfInBounds j (.int .u8 (x : Nat)), m, ?_, hm, fun i hi => ?_⟩
  · rw [hget]; split
    · exact hx
    · exact hb i
  · simp [World.setCell, Array.getElem?_modify, hc]
  · rw [hget, Array.getElem?_setIfInBounds]
    have hsz : i < cur.size := (Array.getElem?_eq_some_iff.1 (hr i hi)).1
    by_cases e : j = i
    · rw [if_pos e, if_pos e, if_pos (by omega)]
    · rw [if_neg e, if_neg e]; exact hr i hi
theorem OwnC.bs {w : World} {g n : Nat} {l : List Nat} (h : OwnC w g n l) : Bs w (some ⟨g, 0, none⟩) n l :=
  ⟨h.1, h.2.1, fun _ => ⟨_, rfl, h.lt, fun j hj => by
    have e : (⟨g, 0, none⟩ : Addr).add j = ⟨g, j, none⟩ := by unfold Addr.add; split <;> simp_all
    rw [e]; exact h.cell hj⟩⟩
/-- a text turned into bytes: a new row of the call's own. -/
theorem convert_own (w : World) (s : ByteArray) : ∃ cap W', s.size ≤ cap ∧ (convert 9 128 (.string s)).run Tryz.prog w = .ok (.slice (some ⟨w.heap.size, 0, none⟩) s.size cap) W' ∧ OwnC W' w.heap.size s.size (bts s) ∧ Below w.heap.size w W' := by
  refine ⟨_, _, grownCap_ge w s.size 0 5, run_bytes_of_string w 9 128 5 s Tryz.underlying9 Tryz.underlying128 Tryz.underlying5, ⟨bts_len s, bts_lt s, _, _, heap_alloc_new w.drew _, ?_, fun j hj => ?_⟩, ((Below.refl _ _).drew).alloc (by simp) _⟩
  · unfold bytesRow
    rw [Array.size_append, Array.size_map]
    show s.size ≤ s.data.size + _
    have : s.data.size = s.size := rfl
    omega
  · have hj' : j < s.data.size := hj
    unfold bytesRow bts
    rw [Array.getElem?_append_left (by simpa using hj'), Array.getElem?_map, Array.getElem?_eq_getElem hj', List.getD_eq_getElem?_getD, List.getElem?_map, Array.getElem?_toList, Array.getElem?_eq_getElem hj']
    rfl
end Go.Proofs.YtodokgkchmpmnaaGreat

/- Proved: lemmas of one statement's proof, merged by program: what each part proves stands ahead of it. Conditions: those that the lemmas name. -/
import Derived.Test.YtmnbkghihdbepaaM3

/- Plain lemmas on CRC-32 as natural numbers: a step of the register is one to one below 2^32; so rows that part in one byte never meet again. No condition beyond the bounds that each lemma names. -/
namespace Go.Proofs.Ytmnbkghihdbepaa

def pol : Nat := 3988292384
def stp (c : Nat) : Nat := if c % 2 = 1 then c / 2 ^^^ pol else c / 2
def stpN : Nat → Nat → Nat
  | 0, c => c
  | k + 1, c => stp (stpN k c)
def feed (c b : Nat) : Nat := stpN 8 (c ^^^ b)
def reg (c : Nat) (l : List Nat) : Nat := l.foldl feed c
def ngx (m c : Nat) : Nat := m ^^^ c
def neg32 (c : Nat) : Nat := ngx 4294967295 c
/-- the sum of some bytes with others behind. -/
def crcL (c : Nat) (l : List Nat) : Nat := neg32 (reg (neg32 c) l)

theorem xor32 {a b : Nat} (ha : a < 4294967296) (hb : b < 4294967296) : a ^^^ b < 4294967296 := Nat.xor_lt_two_pow (n := 32) ha hb
theorem neg32_lt {c : Nat} (h : c < 4294967296) : neg32 c < 4294967296 := xor32 (by decide) h
theorem ngx_twice (a c : Nat) : ngx a (ngx a c) = c := by unfold ngx; rw [← Nat.xor_assoc, Nat.xor_self, Nat.zero_xor]
theorem neg32_neg (c : Nat) : neg32 (neg32 c) = c := ngx_twice 4294967295 c
theorem stp_lt {c : Nat} (h : c < 4294967296) : stp c < 4294967296 := by
  unfold stp
  split
  · exact xor32 (by omega) (by decide)
  · omega
theorem stpN_lt (k : Nat) {c : Nat} (h : c < 4294967296) : stpN k c < 4294967296 := by
  induction k with
  | zero => exact h
  | succ k ih => exact stp_lt ih
theorem stpN_succ (k c : Nat) : stpN (k + 1) c = stp (stpN k c) := rfl
theorem feed_lt {c b : Nat} (h : c < 4294967296) (hb : b < 256) : feed c b < 4294967296 := stpN_lt 8 (xor32 h (by omega))
theorem reg_lt {c : Nat} (h : c < 4294967296) : ∀ {l : List Nat}, (∀ x ∈ l, x < 256) → reg c l < 4294967296
  | [], _ => h
  | x :: l, hl => reg_lt (feed_lt h (hl x (by simp))) (l := l) fun y hy => hl y (by simp [hy])
theorem reg_snoc (c : Nat) (l : List Nat) (b : Nat) : reg c (l ++ [b]) = feed (reg c l) b := by unfold reg; rw [List.foldl_append]; rfl
theorem reg_append (c : Nat) (l m : List Nat) : reg c (l ++ m) = reg (reg c l) m := by unfold reg; rw [List.foldl_append]

theorem xor_cancel {a b p : Nat} (h : a ^^^ p = b ^^^ p) : a = b := by
  have := congrArg (· ^^^ p) h
  simpa [Nat.xor_assoc] using this
theorem top_bit {a b : Nat} (ha : a < 2147483648) (hb : b < 2147483648) : a ^^^ pol ≠ b := by
  intro h
  have h1 := congrArg (fun x => x.testBit 31) h
  simp only [Nat.testBit_xor] at h1
  rw [Nat.testBit_lt_two_pow (x := a) (i := 31) ha, Nat.testBit_lt_two_pow (x := b) (i := 31) hb] at h1
  exact absurd h1 (by decide)
theorem stp_inj {c d : Nat} (hc : c < 4294967296) (hd : d < 4294967296) (h : stp c = stp d) : c = d := by
  unfold stp at h
  split at h <;> split at h
  · have := xor_cancel h; omega
  · exact absurd h (top_bit (by omega) (by omega))
  · exact absurd h.symm (top_bit (by omega) (by omega))
  · omega
theorem stpN_inj (k : Nat) {c d : Nat} (hc : c < 4294967296) (hd : d < 4294967296) (h : stpN k c = stpN k d) : c = d := by
  induction k with
  | zero => exact h
  | succ k ih => exact ih (stp_inj (stpN_lt k hc) (stpN_lt k hd) h)
theorem feed_inj {c d b : Nat} (hc : c < 4294967296) (hd : d < 4294967296) (hb : b < 256) (h : feed c b = feed d b) : c = d :=
  xor_cancel (stpN_inj 8 (xor32 hc (by omega)) (xor32 hd (by omega)) h)
theorem feed_byte {c a b : Nat} (hc : c < 4294967296) (ha : a < 256) (hb : b < 256) (h : feed c a = feed c b) : a = b := by
  have := stpN_inj 8 (xor32 hc (by omega)) (xor32 hc (by omega)) h
  rw [Nat.xor_comm c a, Nat.xor_comm c b] at this
  exact xor_cancel this
theorem reg_inj : ∀ {l : List Nat} {c d : Nat}, c < 4294967296 → d < 4294967296 → (∀ x ∈ l, x < 256) → reg c l = reg d l → c = d
  | [], _, _, _, _, _, h => h
  | x :: l, _, _, hc, hd, hl, h =>
    feed_inj hc hd (hl x (by simp)) (reg_inj (l := l) (feed_lt hc (hl x (by simp))) (feed_lt hd (hl x (by simp))) (fun y hy => hl y (by simp [hy])) h)
/-- rows that part in one byte have unlike sums. -/
theorem crc_one {c : Nat} (hc : c < 4294967296) {l m : List Nat} {a b : Nat} (hl : ∀ x ∈ l, x < 256) (hm : ∀ x ∈ m, x < 256) (ha : a < 256) (hb : b < 256) (hne : a ≠ b) :
    crcL c (l ++ a :: m) ≠ crcL c (l ++ b :: m) := by
  intro h
  have h1 : reg (neg32 c) (l ++ a :: m) = reg (neg32 c) (l ++ b :: m) := by
    have := congrArg neg32 h
    unfold crcL at this
    rwa [neg32_neg, neg32_neg] at this
  rw [reg_append, reg_append] at h1
  have hr := reg_lt (neg32_lt hc) hl
  exact hne (feed_byte hr ha hb (reg_inj (l := m) (feed_lt hr ha) (feed_lt hr hb) hm h1))
theorem crc_parts (c : Nat) (l m : List Nat) : crcL (crcL c l) m = crcL c (l ++ m) := by
  unfold crcL
  rw [neg32_neg, reg_append]
theorem crc_lt {c : Nat} (hc : c < 4294967296) {l : List Nat} (hl : ∀ x ∈ l, x < 256) : crcL c l < 4294967296 := neg32_lt (reg_lt (neg32_lt hc) hl)

/-! ### strings -/
/-- the sum of a string behind a sum. -/
def crcS (c : Nat) (s : ByteArray) : Nat := crcL c (bts s)
theorem bts_mem (s : ByteArray) : ∀ x ∈ bts s, x < 256 := mem_lt (bts_lt s)
theorem crcS_lt {c : Nat} (hc : c < 4294967296) (s : ByteArray) : crcS c s < 4294967296 := crc_lt hc (bts_mem s)
theorem bts_append (s t : ByteArray) : bts (s ++ t) = bts s ++ bts t := by
  unfold bts
  rw [ByteArray.data_append]
  simp
theorem bts_extract (s : ByteArray) (a b : Nat) : bts (s.extract a b) = ((bts s).take b).drop a := by
  unfold bts
  rw [ByteArray.data_extract]
  simp [List.map_drop, List.map_take, List.extract_eq_take_drop, List.drop_take]
theorem crcS_parts (c : Nat) (s t : ByteArray) : crcS (crcS c s) t = crcS c (s ++ t) := by unfold crcS; rw [crc_parts, bts_append]
theorem getD_split (l : List Nat) (j : Nat) (h : j < l.length) : l = l.take j ++ l.getD j 0 :: l.drop (j + 1) := by
  have e : l.getD j 0 = l[j] := by rw [List.getD_eq_getElem?_getD, List.getElem?_eq_getElem h]; rfl
  rw [e, ← List.drop_eq_getElem_cons h, List.take_append_drop]
theorem crcS_one {c : Nat} (hc : c < 4294967296) (s : ByteArray) (j b : Nat) (hj : j < s.size) (hb : b < 256) (hne : (bts s).getD j 0 ≠ b) :
    crcS c (s.extract 0 j ++ tx [b] ++ s.extract (j + 1) s.size) ≠ crcS c s := by
  have h1 : bts (tx [b]) = [b] := bts_tx fun i => by
    cases i with
    | zero => exact hb
    | succ i => simp
  have hl : (bts s).length = s.size := bts_len s
  unfold crcS
  rw [bts_append, bts_append, bts_extract, bts_extract, h1, List.drop_zero, List.take_of_length_le (i := s.size) (by omega), List.append_assoc]
  have h2 := getD_split (bts s) j (by omega)
  conv => rhs; rw [h2]
  have hx := bts_lt s j
  have hm := bts_mem s
  exact crc_one hc (fun x hx => hm x (List.mem_of_mem_take hx)) (fun x hx => hm x (List.mem_of_mem_drop hx)) hb hx (fun e => hne e.symm)
/-- the register behind the first k bytes. -/
def regK (c k : Nat) (s : ByteArray) : Nat := reg c ((bts s).take k)
theorem regK_zero (c : Nat) (s : ByteArray) : regK c 0 s = c := rfl
theorem regK_lt {c : Nat} (hc : c < 4294967296) (k : Nat) (s : ByteArray) : regK c k s < 4294967296 :=
  reg_lt hc fun x hx => bts_mem s x (List.mem_of_mem_take hx)
theorem regK_succ (c k : Nat) (s : ByteArray) (h : k < s.size) : regK c (k + 1) s = feed (regK c k s) ((bts s).getD k 0) := by
  unfold regK
  rw [← reg_snoc]
  congr 1
  have hl : k < (bts s).length := by rw [bts_len]; exact h
  rw [List.getD_eq_getElem?_getD, List.getElem?_eq_getElem hl]
  exact (List.take_append_getElem hl).symm
theorem regK_all (c : Nat) (s : ByteArray) : neg32 (regK (neg32 c) s.size s) = crcS c s := by
  unfold regK crcS crcL
  rw [List.take_of_length_le (by rw [bts_len]; exact Nat.le_refl _)]
end Go.Proofs.Ytmnbkghihdbepaa

/- Proved: what moved of package crc answers. Conditions: the bounds that the theorem names. -/
namespace Go.Proofs.Ytmnbkghihdbepaa
open Go.ChangeShapes Go.WideShapes Go.ChangeAt Go.RowKit

theorem u32_not {c : Nat} (h : c < 4294967296) : bits BinOp.xor IntKind.u32 4294967295 (c : Int) = ((neg32 c : Nat) : Int) :=
  u32_xor_nat 4294967295 c (by decide) h
theorem u32_low {c : Nat} (h : c < 4294967296) : bits BinOp.and IntKind.u32 (c : Int) 1 = ((c % 2 : Nat) : Int) := by
  have e := u32_and_nat c 1 h (by decide)
  rw [Nat.and_one_is_mod] at e
  exact e
theorem u32_pol {c : Nat} (h : c < 4294967296) : bits BinOp.xor IntKind.u32 (c : Int) 3988292384 = ((c ^^^ pol : Nat) : Int) :=
  u32_xor_nat c 3988292384 h (by decide)
theorem stp_one {c : Nat} (h : c % 2 = 1) : stp c = c / 2 ^^^ pol := if_pos h
theorem stp_zero {c : Nat} (h : c % 2 = 0) : stp c = c / 2 := if_neg (by omega)

theorem index_byte (s : ByteArray) (j : Nat) (h : j < s.size) (W : World) : (Instr.index 9 (Value.string s) (Value.int .i64 (j : Int))).run Try.prog W = .ok (Value.int .u8 ((bts s).getD j 0 : Nat)) W := by
  rw [run_index_string W 9 s .i64 (j : Int) Try.underlying9, dif_pos ⟨by omega, by omega⟩]
  have : (bts s).getD j 0 = s[j].toNat := by
    unfold bts
    rw [List.getD_eq_getElem?_getD, List.getElem?_map, Array.getElem?_toList, Array.getElem?_eq_getElem h]; rfl
  rw [this]; rfl
theorem u32_xor_byte {c b : Nat} (h : c < 4294967296) (hb : b < 256) : bits BinOp.xor IntKind.u32 (c : Int) (b : Int) = ((c ^^^ b : Nat) : Int) :=
  u32_xor_nat c b h (by omega)

end Go.Proofs.Ytmnbkghihdbepaa

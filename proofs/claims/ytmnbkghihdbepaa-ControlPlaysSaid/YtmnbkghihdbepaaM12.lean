/- Proved: lemmas of one statement's proof, merged by program: what each part proves stands ahead of it. Conditions: those that the lemmas name. -/
import Derived.Test.YtmnbkghihdbepaaM11
import Derived.Maps.Keyed
import Derived.Maps.RangeWalk

/- Plain lemmas on datagrams and their bytes: which may be, what their bytes are, what is read of any bytes, that each comes back from the other, and that one byte that is another one is found out. No condition beyond those that each lemma names. -/
namespace Go.Proofs.Ytmnbkghihdbepaa

/-! ### which may be -/
/-- the ways in which a kind is laid. -/
inductive Grp where
  | shard
  | hav
  | cred
  | bare
def grpOf (k : Int) : Grp := if k = 1 ∨ k = 2 then .shard else if k = 3 then .hav else if k = 4 then .cred else .bare
/-- the error of a shard's fields. -/
def shardE (d : Dg) : Int :=
  if ¬ (1 ≤ d.k ∧ d.k ≤ 32 ∧ d.k ≤ d.n ∧ d.n ≤ 255 ∧ 0 ≤ d.index ∧ d.index < d.n) then 2
  else if ¬ ((d.index < d.k ↔ d.kind = 1) ∧ 1 ≤ d.len ∧ d.len ≤ 32768) then 2
  else if ¬ ((d.body.size : Int) = sizeZ d.len d.k ∧ d.body.size ≤ 1024) then 3 else 0
/-- the error of what a kind asks of its fields. -/
def grpE (g : Grp) (d : Dg) : Int := match g with
  | .shard => shardE d
  | .hav => if d.has.size = 32 then 0 else 5
  | .cred => if 0 ≤ d.credit ∧ d.credit ≤ 65535 then 0 else 2
  | .bare => 0
/-- a datagram without the fields of its kind. -/
def Dg.without (g : Grp) (d : Dg) : Dg := match g with
  | .shard => ⟨d.kind, d.stream, d.block, 0, 0, 0, 0, d.credit, d.has, S0⟩
  | .hav => ⟨d.kind, d.stream, d.block, d.index, d.k, d.n, d.len, d.credit, S0, d.body⟩
  | .cred => ⟨d.kind, d.stream, d.block, d.index, d.k, d.n, d.len, 0, d.has, d.body⟩
  | .bare => d
/-- what all kinds have. -/
def Dg.common (d : Dg) : Dg := ⟨d.kind, d.stream, d.block, 0, 0, 0, 0, 0, S0, S0⟩
/-- a datagram with the fields of its kind alone. -/
def Dg.own (g : Grp) (d : Dg) : Dg := match g with
  | .shard => ⟨d.kind, d.stream, d.block, d.index, d.k, d.n, d.len, 0, S0, d.body⟩
  | .hav => ⟨d.kind, d.stream, d.block, 0, 0, 0, 0, 0, d.has, S0⟩
  | .cred => ⟨d.kind, d.stream, d.block, 0, 0, 0, 0, d.credit, S0, S0⟩
  | .bare => d.common
theorem own_iff (g : Grp) (d : Dg) : d.own g = d ↔ d.without g = d.common := by
  obtain ⟨a0, a1, a2, a3, a4, a5, a6, a7, a8, a9⟩ := d
  cases g <;> simp [Dg.own, Dg.without, Dg.common] <;> grind
/-- Check's error. -/
def chk (d : Dg) : Int :=
  if ¬ (1 ≤ d.kind ∧ d.kind ≤ 6) then 1
  else if ¬ (0 ≤ d.stream ∧ d.stream ≤ 255) then 2
  else if grpE (grpOf d.kind) d ≠ 0 then grpE (grpOf d.kind) d
  else if (d.without (grpOf d.kind)).eqB d.common = true then 0 else 5
theorem chk_kind {d : Dg} (h : ¬ (1 ≤ d.kind ∧ d.kind ≤ 6)) : chk d = 1 := if_pos h
theorem chk_stream {d : Dg} (h : 1 ≤ d.kind ∧ d.kind ≤ 6) (h2 : ¬ (0 ≤ d.stream ∧ d.stream ≤ 255)) : chk d = 2 := by
  unfold chk
  rw [if_neg (fun q => q h), if_pos h2]
theorem chk_grp {d : Dg} (h : 1 ≤ d.kind ∧ d.kind ≤ 6) (h2 : 0 ≤ d.stream ∧ d.stream ≤ 255) (h3 : grpE (grpOf d.kind) d ≠ 0) : chk d = grpE (grpOf d.kind) d := by
  unfold chk
  rw [if_neg (fun q => q h), if_neg (fun q => q h2), if_pos h3]
theorem chk_form {d : Dg} (h : 1 ≤ d.kind ∧ d.kind ≤ 6) (h2 : 0 ≤ d.stream ∧ d.stream ≤ 255) (h3 : grpE (grpOf d.kind) d = 0) (h4 : (d.without (grpOf d.kind)).eqB d.common = false) : chk d = 5 := by
  unfold chk
  rw [if_neg (fun q => q h), if_neg (fun q => q h2), if_neg (fun q => q h3), if_neg (by rw [h4]; decide)]
theorem chk_ok {d : Dg} (h : 1 ≤ d.kind ∧ d.kind ≤ 6) (h2 : 0 ≤ d.stream ∧ d.stream ≤ 255) (h3 : grpE (grpOf d.kind) d = 0) (h4 : (d.without (grpOf d.kind)).eqB d.common = true) : chk d = 0 := by
  unfold chk
  rw [if_neg (fun q => q h), if_neg (fun q => q h2), if_neg (fun q => q h3), if_pos h4]
theorem shardE_cases (d : Dg) : shardE d = 0 ∨ shardE d = 2 ∨ shardE d = 3 := by
  unfold shardE
  split
  · exact Or.inr (Or.inl rfl)
  · split
    · exact Or.inr (Or.inl rfl)
    · split
      · exact Or.inr (Or.inr rfl)
      · exact Or.inl rfl
theorem grpE_cases (g : Grp) (d : Dg) : grpE g d = 0 ∨ grpE g d = 2 ∨ grpE g d = 3 ∨ grpE g d = 5 := by
  cases g with
  | shard => have := shardE_cases d; unfold grpE; simp only; omega
  | hav => unfold grpE; simp only; split <;> simp
  | cred => unfold grpE; simp only; split <;> simp
  | bare => exact Or.inl rfl
/-- all that Check asks. -/
theorem chk_zero {d : Dg} (h : chk d = 0) : (1 ≤ d.kind ∧ d.kind ≤ 6) ∧ (0 ≤ d.stream ∧ d.stream ≤ 255) ∧ grpE (grpOf d.kind) d = 0 ∧ d.own (grpOf d.kind) = d := by
  by_cases h1 : 1 ≤ d.kind ∧ d.kind ≤ 6
  · by_cases h2 : 0 ≤ d.stream ∧ d.stream ≤ 255
    · by_cases h3 : grpE (grpOf d.kind) d = 0
      · refine ⟨h1, h2, h3, (own_iff _ _).2 ?_⟩
        cases h4 : (d.without (grpOf d.kind)).eqB d.common with
        | true => exact (eqB_iff _ _).1 h4
        | false => rw [chk_form h1 h2 h3 h4] at h; exact absurd h (by decide)
      · rw [chk_grp h1 h2 h3] at h; exact absurd h h3
    · rw [chk_stream h1 h2] at h; exact absurd h (by decide)
  · rw [chk_kind h1] at h; exact absurd h (by decide)
theorem shardE_zero {d : Dg} (h : shardE d = 0) : (1 ≤ d.k ∧ d.k ≤ 32 ∧ d.k ≤ d.n ∧ d.n ≤ 255 ∧ 0 ≤ d.index ∧ d.index < d.n) ∧ 1 ≤ d.len ∧ d.len ≤ 32768 ∧ d.body.size ≤ 1024 := by
  unfold shardE at h
  split at h
  · exact absurd h (by decide)
  · split at h
    · exact absurd h (by decide)
    · split at h
      · exact absurd h (by decide)
      · rename_i a b c
        simp only [Decidable.not_not] at a b c
        exact ⟨a, b.2.1, b.2.2, c.2⟩

/-! ### texts in parts -/
theorem extract_parts (a : ByteArray) {i j k : Nat} (hi : i ≤ j) (hj : j ≤ k) : a.extract i j ++ a.extract j k = a.extract i k := by
  apply bts_inj
  rw [bts_append, bts_extract, bts_extract, bts_extract]
  have h1 : (bts a).take j = ((bts a).take k).take j := by rw [List.take_take, Nat.min_eq_left hj]
  rw [h1]
  generalize (bts a).take k = l
  have h2 : l.drop j = (l.drop i).drop (j - i) := by rw [List.drop_drop]; congr 1; omega
  rw [h2, List.drop_take, List.take_append_drop]
theorem extract_extract' (a : ByteArray) {i j k m : Nat} (h : i + m ≤ j) : (a.extract i j).extract k m = a.extract (i + k) (i + m) := by
  apply bts_inj
  rw [bts_extract, bts_extract, bts_extract, List.take_drop, List.take_take, List.drop_drop, Nat.min_eq_left (by omega)]
theorem extract_all (a : ByteArray) : a.extract 0 a.size = a := ByteArray.extract_zero_size
/-- the number that bytes i to j of a text are. -/
def cutN (a : ByteArray) (i j : Nat) : Nat := numS (a.extract i j)
theorem byteL_numK {l : List Nat} (h : ∀ j, l.getD j 0 < 256) (k : Nat) (hk : k ≤ l.length) : byteL (numK k l) k = l.take k := by
  induction k with
  | zero => rfl
  | succ k ih =>
    have hx := h k
    rw [numK_succ]
    show byteL ((numK k l * 256 + l.getD k 0) / 256) k ++ [(numK k l * 256 + l.getD k 0) % 256] = _
    rw [show (numK k l * 256 + l.getD k 0) / 256 = numK k l by omega, show (numK k l * 256 + l.getD k 0) % 256 = l.getD k 0 by omega, ih (by omega), List.take_add_one, List.getD_eq_getElem?_getD, List.getElem?_eq_getElem (show k < l.length by omega)]
    rfl
theorem num_back {t : ByteArray} {k : Nat} (h : t.size = k) : tx (byteL (numS t) k) = t := by
  unfold numS
  rw [h, byteL_numK (bts_lt t) k (by rw [bts_len]; omega), List.take_of_length_le (by rw [bts_len]; omega), tx_bts]
theorem num_put {n k : Nat} (h : n < 256 ^ k) : numS (tx (byteL n k)) = n := by
  unfold numS
  rw [tx_size, byteL_len, bts_tx (byteL_lt n k), numK_byteL n k h]
theorem numS_lt (t : ByteArray) : numS t < 256 ^ t.size := numK_lt (bts_lt t) _
theorem cut_back {a : ByteArray} {i j k : Nat} (hj : j ≤ a.size) (hk : j - i = k) : tx (byteL (cutN a i j) k) = a.extract i j :=
  num_back (by rw [ByteArray.size_extract]; omega)
theorem cutN_lt {a : ByteArray} {i j k : Nat} (hj : j ≤ a.size) (hk : j - i = k) : cutN a i j < 256 ^ k := by
  have h := numS_lt (a.extract i j)
  rwa [ByteArray.size_extract, show min j a.size - i = k by omega] at h

/-! ### the bytes -/
abbrev xLS : ByteArray := ⟨#[76, 83]⟩
/-- the bytes of the fields of a kind. -/
def ownS (g : Grp) (d : Dg) : ByteArray := match g with
  | .shard => tx (byteL d.index.toNat 1) ++ tx (byteL d.k.toNat 1) ++ tx (byteL d.n.toNat 1) ++ tx (byteL (d.len - 1).toNat 2) ++ d.body
  | .hav => d.has
  | .cred => tx (byteL d.credit.toNat 2)
  | .bare => S0
/-- all but the sum. -/
def headS (d : Dg) : ByteArray := xLS ++ tx (byteL d.kind.toNat 1) ++ tx (byteL d.stream.toNat 1) ++ tx (byteL d.block 4) ++ ownS (grpOf d.kind) d
def fullS (d : Dg) : ByteArray := headS d ++ tx (byteL (crcS 0 (headS d)) 4)
/-- what Put answers. -/
def putT (d : Dg) : ByteArray := if chk d = 0 then fullS d else S0
/-- what Size answers. -/
def sizeT (d : Dg) : Int := if chk d = 0 then (fullS d).size else 0
def grpSz (g : Grp) : Nat := match g with
  | .shard => 5
  | .hav => 32
  | .cred => 2
  | .bare => 0
theorem ownS_size {g : Grp} {d : Dg} (h : grpE g d = 0) (ho : d.own g = d) : (ownS g d).size = grpSz g + d.body.size := by
  cases g with
  | shard =>
    show (tx (byteL d.index.toNat 1) ++ tx (byteL d.k.toNat 1) ++ tx (byteL d.n.toNat 1) ++ tx (byteL (d.len - 1).toNat 2) ++ d.body).size = 5 + d.body.size
    simp only [ByteArray.size_append, tx_size, byteL_len]
  | hav =>
    have e : d.body = S0 := by rw [← ho]; rfl
    rw [e]
    unfold grpE at h
    simp only at h
    split at h
    · assumption
    · exact absurd h (by decide)
  | cred =>
    have e : d.body = S0 := by rw [← ho]; rfl
    rw [e]
    show (tx (byteL d.credit.toNat 2)).size = 2 + 0
    rw [tx_size, byteL_len]
  | bare =>
    have e : d.body = S0 := by rw [← ho]; rfl
    rw [e]; rfl
theorem headS_size (d : Dg) : (headS d).size = 8 + (ownS (grpOf d.kind) d).size := by
  unfold headS
  simp only [ByteArray.size_append, tx_size, byteL_len]
  have : xLS.size = 2 := rfl
  omega
theorem fullS_size (d : Dg) : (fullS d).size = (headS d).size + 4 := by
  unfold fullS
  rw [ByteArray.size_append, tx_size, byteL_len]
end Go.Proofs.Ytmnbkghihdbepaa

/- Plain lemmas on what datagrams speak of (kind, stream and, of a Nack, block) as keys of a map. No condition beyond those that each lemma names. -/
namespace Go.Proofs.Ytmnbkghihdbepaa
open Go.ChangeShapes Go.WideShapes

/-- what a datagram speaks of. -/
abbrev Sk := Int × Int × Int
def I64 (x : Int) : Prop := -9223372036854775808 ≤ x ∧ x ≤ 9223372036854775807
/-- numbers that may be. -/
structure SkOk (k : Sk) : Prop where
  a : I64 k.1
  b : I64 k.2.1
  c : 0 ≤ k.2.2 ∧ k.2.2 ≤ 4294967295
/-- a key's value. -/
abbrev skV (k : Sk) : Value := .agg #[.int .i64 k.1, .int .i64 k.2.1, .int .u32 k.2.2]
/-- .. and how it reads. -/
def skL (k : Sk) : Lit := .string (keyBytes [.int .i64 k.1, .int .i64 k.2.1, .int .u32 k.2.2])
theorem wf_i64 {x : Int} (h : I64 x) : (Lit.int .i64 x).wf = true := by
  unfold I64 at h
  simp [Lit.wf, IntKind.min, IntKind.max, IntKind.signed, IntKind.bits]
  omega
theorem wf_u32 {x : Int} (h : 0 ≤ x ∧ x ≤ 4294967295) : (Lit.int .u32 x).wf = true := by
  simp [Lit.wf, IntKind.min, IntKind.max, IntKind.signed, IntKind.bits]
  omega
theorem sk_of_wf {k : Sk} (h : (Lit.int .i64 k.1).wf = true) (g : (Lit.int .i64 k.2.1).wf = true) (f : (Lit.int .u32 k.2.2).wf = true) : SkOk k := by
  simp [Lit.wf, IntKind.min, IntKind.max, IntKind.signed, IntKind.bits] at h g f
  exact ⟨⟨by omega, by omega⟩, ⟨by omega, by omega⟩, by omega, by omega⟩
theorem sk_row : (54 : TypeId) < Try.prog.types.size := of_decide_eq_true (by kernel_rfl)
theorem sk_type : Try.prog.keyType 54 = true := by kernel_rfl
theorem sk_cells : Try.prog.cellsOf 54 = 3 := by kernel_rfl
theorem sk_int : Try.prog.cellsOf 3 = 1 := by kernel_rfl
theorem sk_u32 : Try.prog.cellsOf 27 = 1 := by kernel_rfl
theorem sk_wide : (match Try.prog.underlying 54 with | some (.array _ _) | some (.struct _) => true | _ => false) = true := by kernel_rfl
theorem sk_laid : laidOutB Try.prog = true := by kernel_rfl
set_option maxRecDepth 100000 in
theorem sk_law : Maps.Keyed Try.prog 54 := Maps.Keyed.of_law (deep_law_laid sk_laid (m := 3) (by omega) sk_row (by kernel_rfl) sk_wide)
theorem sk_one {q : IntKind} {t : TypeId} (ht : Try.prog.underlying t = some (.int q)) {d : Nat} {a : Value} {L : List Lit} (h : Try.prog.keyLits (d + 1) t [a] = some L) : ∃ n, a = .int q n ∧ (Lit.int q n).wf = true ∧ L = [.int q n] := by
  unfold Program.keyLits at h
  rw [ht] at h
  cases a <;> simp at h
  obtain ⟨⟨rfl, hw⟩, rfl⟩ := h
  exact ⟨_, rfl, hw, rfl⟩
set_option maxRecDepth 100000 in
theorem sk_lits (d : Nat) (cs : List Value) (L : List Lit) (h : Try.prog.keyLits (d + 2) 54 cs = some L) : ∃ k : Sk, SkOk k ∧ cs = [.int .i64 k.1, .int .i64 k.2.1, .int .u32 k.2.2] ∧ L = [.int .i64 k.1, .int .i64 k.2.1, .int .u32 k.2.2] := by
  unfold Program.keyLits at h
  simp only [Try.underlying54] at h
  split at h
  · rename_i hl
    have hl := hl.1
    rw [sk_cells] at hl
    match cs, hl with
    | [a, b, c], _ =>
      simp only [Option.map_eq_some_iff] at h
      obtain ⟨us, ha, rfl⟩ := h
      simp only [List.mapM_cons, List.mapM_nil, sk_int, sk_u32, List.drop_zero, List.take_succ_cons, List.take_zero, List.drop_succ_cons, Option.bind_eq_bind, Option.bind_eq_some_iff, Option.pure_def, Option.some.injEq] at ha
      obtain ⟨L1, h1, L2, ⟨L3, h3, L4, ⟨L5, h5, L6, rfl, rfl⟩, rfl⟩, rfl⟩ := ha
      obtain ⟨n, rfl, hn, rfl⟩ := sk_one Try.underlying3 h1
      obtain ⟨m, rfl, hm, rfl⟩ := sk_one Try.underlying3 h3
      obtain ⟨l, rfl, hl, rfl⟩ := sk_one Try.underlying27 h5
      exact ⟨(n, m, l), sk_of_wf hn hm hl, rfl, rfl⟩
  · cases h
set_option maxRecDepth 100000 in
theorem sk_lits_mk (d : Nat) {k : Sk} (h : SkOk k) : Try.prog.keyLits (d + 2) 54 [.int .i64 k.1, .int .i64 k.2.1, .int .u32 k.2.2] = some [.int .i64 k.1, .int .i64 k.2.1, .int .u32 k.2.2] := by
  unfold Program.keyLits
  simp [Try.underlying54, sk_cells, List.mapM_cons, sk_int, sk_u32, Program.keyLits, Try.underlying3, Try.underlying27, wf_i64 h.a, wf_i64 h.b, wf_u32 h.c]
set_option maxRecDepth 100000 in
theorem sk_size : ∃ n, Try.prog.types.size + 1 = n + 2 := ⟨Try.prog.types.size - 1, by
  have h : 0 < Try.prog.types.size := Nat.lt_of_le_of_lt (Nat.zero_le _) sk_row
  omega⟩
set_option maxRecDepth 100000 in
theorem sk_key {k : Sk} (h : SkOk k) : keyOf Try.prog 54 (skV k) = some (skL k) := by
  unfold keyOf
  have hf : (skV k).formed Try.prog 54 = true := by simp [Value.formed, Try.underlying54, sk_cells]
  simp only [Try.underlying54, sk_type, hf, Bool.and_true, if_true]
  obtain ⟨n, hn⟩ := sk_size
  rw [hn]
  have e : (skV k).cells.toList = [.int .i64 k.1, .int .i64 k.2.1, .int .u32 k.2.2] := by simp [Value.cells]
  rw [e, sk_lits_mk n h]
  rfl
theorem skL_inj {k k' : Sk} (h : SkOk k) (g : SkOk k') (e : skL k = skL k') : k = k' := by
  have h1 := sk_key h
  rw [e] at h1
  have := sk_law.inj h1 (sk_key g)
  simp at this
  exact Prod.ext this.1 (Prod.ext this.2.1 this.2.2)
theorem skL_lit {k : Sk} (h : SkOk k) : WideAt.IsKeyLit (skL k) := sk_law.key (sk_key h)

/-! ### what a datagram speaks of -/
def subj (d : Dg) : Sk := (d.kind, d.stream, if d.kind = 3 then (d.block : Int) else 0)
/-- a datagram that may be asked for. -/
structure DOk (d : Dg) : Prop where
  k : 3 ≤ d.kind ∧ d.kind ≤ 6
  s : 0 ≤ d.stream ∧ d.stream ≤ 255
  b : d.block < 4294967296
theorem DOk.sk {d : Dg} (h : DOk d) : SkOk (subj d) := by
  obtain ⟨k1, k2⟩ := h.k
  obtain ⟨s1, s2⟩ := h.s
  have hb := h.b
  unfold subj
  refine ⟨⟨?_, ?_⟩, ⟨?_, ?_⟩, ?_, ?_⟩ <;> dsimp only <;> (try split) <;> omega
end Go.Proofs.Ytmnbkghihdbepaa

/- Proved: lemmas of one statement's proof, merged by program: what each part proves stands ahead of it. Conditions: those that the lemmas name. -/
import Derived.Test.YtodokgkchmpmnaaGreatM23
import Derived.Shelf.Strconv.Clone
import Derived.Test.YtodokgkchmpmnaaGreatProg
import Derived.Test.YtodokgkchmpmnaaGreatM2
import Derived.RegionTactic
import Derived.ChangeAlike
import Derived.Test.YtodokgkchmpmnaaGreatM18
import Derived.Laws.EntriesVeiled
import Derived.Laws.StructEq

/- Plain lemmas on datagrams as values. No condition beyond those that each lemma names. -/
namespace Go.Proofs.YtodokgkchmpmnaaGreat
open Go.ChangeShapes Go.WideShapes Go.ChangeAt Go.RowKit

/-- a datagram. -/
structure Dg where
  kind : Int
  stream : Int
  block : Nat
  index : Int
  k : Int
  n : Int
  len : Int
  credit : Int
  has : ByteArray
  body : ByteArray
def Dg.cells (d : Dg) : List Value := [.int .i64 d.kind, .int .i64 d.stream, .int .u32 d.block, .int .i64 d.index, .int .i64 d.k, .int .i64 d.n, .int .i64 d.len, .int .i64 d.credit, .string d.has, .string d.body]
def Dg.val (d : Dg) : Value := .agg #[.int .i64 d.kind, .int .i64 d.stream, .int .u32 d.block, .int .i64 d.index, .int .i64 d.k, .int .i64 d.n, .int .i64 d.len, .int .i64 d.credit, .string d.has, .string d.body]

theorem within_yes (x a b : Int) (w : World) (h1 : a ≤ x) (h2 : x ≤ b) : Calls Tryz.prog 96 #[.int .i64 x, .int .i64 a, .int .i64 b] w fun e w' => e = .returned (.bool true) ∧ w = w' := by
  go_enter Tryz.func96, Tryz.ntmps96
  go_wp2_with fail
  go_ret
  exact ⟨rfl, rfl⟩
theorem within_no (x a b : Int) (w : World) (h : x < a ∨ b < x) : Calls Tryz.prog 96 #[.int .i64 x, .int .i64 a, .int .i64 b] w fun e w' => e = .returned (.bool false) ∧ w = w' := by
  by_cases h1 : x < a
  · clear h
    go_enter Tryz.func96, Tryz.ntmps96
    go_wp2_with fail
    go_ret
    exact ⟨rfl, rfl⟩
  · have h2 : a ≤ x := by omega
    have h3 : decide (x ≤ b) = false := decide_eq_false (by omega)
    clear h h1
    go_enter Tryz.func96, Tryz.ntmps96
    go_wp2_with fail
    go_ret
    exact ⟨rfl, rfl⟩
/-- are two datagrams the same? -/
def Dg.eqB (d d' : Dg) : Bool := d.kind == d'.kind && (d.stream == d'.stream && (d.block == d'.block && (d.index == d'.index && (d.k == d'.k && (d.n == d'.n && (d.len == d'.len && (d.credit == d'.credit && (decide (d.has = d'.has) && decide (d.body = d'.body)))))))))
theorem toList_iff (a b : ByteArray) : a.toList = b.toList ↔ a = b := by
  rw [ByteArray.toList_eq, ByteArray.toList_eq]
  exact ⟨fun h => ByteArray.ext (Array.toList_inj.1 h), fun h => by rw [h]⟩
theorem eqB_iff (d d' : Dg) : d.eqB d' = true ↔ d = d' := by
  obtain ⟨a0, a1, a2, a3, a4, a5, a6, a7, a8, a9⟩ := d
  obtain ⟨b0, b1, b2, b3, b4, b5, b6, b7, b8, b9⟩ := d'
  unfold Dg.eqB
  simp
theorem eqB_refl (d : Dg) : d.eqB d = true := (eqB_iff d d).2 rfl
theorem eq_dg (d d' : Dg) (w : World) : (binOp .eql 27 d.val d'.val).run Tryz.prog w = .ok (.bool (d.eqB d')) w := by
  unfold Dg.val Dg.eqB
  rw [run_eql_struct, run_equalIn_agg w _ 27 _ _ (by kernel_rfl) (by kernel_rfl)]
  simp [go_sem, Tryz.underlying27]
  simp only [toList_iff, Int.natCast_inj]
  repeat' (split <;> simp_all)
theorem neq_dg (d d' : Dg) (w : World) : (binOp .neq 27 d.val d'.val).run Tryz.prog w = .ok (.bool (!d.eqB d')) w := by
  unfold Dg.val Dg.eqB
  rw [run_neq_struct, run_equalIn_agg w _ 27 _ _ (by kernel_rfl) (by kernel_rfl)]
  simp [go_sem, Tryz.underlying27]
  simp only [toList_iff, Int.natCast_inj]
  repeat' (split <;> simp_all)
end Go.Proofs.YtodokgkchmpmnaaGreat

/- Plain lemmas on datagrams and their bytes: which may be, what their bytes are, what is read of any bytes, that each comes back from the other, and that one byte that is another one is found out. No condition beyond those that each lemma names. -/
namespace Go.Proofs.YtodokgkchmpmnaaGreat

/-! ### which may be -/
/-- the ways in which a kind is laid. -/
inductive Grp where
  | shard
  | hav
  | cred
  | bare
def grpOf (k : Int) : Grp := if k = 1 ∨ k = 2 then .shard else if k = 3 then .hav else if k = 4 then .cred else .bare
/-- the error of a shard's fields. -/
def shardE (d : Dg) : Int :=
  if ¬ (1 ≤ d.k ∧ d.k ≤ 32 ∧ d.k ≤ d.n ∧ d.n ≤ 255 ∧ 0 ≤ d.index ∧ d.index < d.n) then 2
  else if ¬ ((d.index < d.k ↔ d.kind = 1) ∧ 1 ≤ d.len ∧ d.len ≤ 32768) then 2
  else if ¬ ((d.body.size : Int) = sizeZ d.len d.k ∧ d.body.size ≤ 1024) then 3 else 0
/-- the error of what a kind asks of its fields. -/
def grpE (g : Grp) (d : Dg) : Int := match g with
  | .shard => shardE d
  | .hav => if d.has.size = 32 then 0 else 5
  | .cred => if 0 ≤ d.credit ∧ d.credit ≤ 65535 then 0 else 2
  | .bare => 0
/-- a datagram without the fields of its kind. -/
def Dg.without (g : Grp) (d : Dg) : Dg := match g with
  | .shard => ⟨d.kind, d.stream, d.block, 0, 0, 0, 0, d.credit, d.has, S0⟩
  | .hav => ⟨d.kind, d.stream, d.block, d.index, d.k, d.n, d.len, d.credit, S0, d.body⟩
  | .cred => ⟨d.kind, d.stream, d.block, d.index, d.k, d.n, d.len, 0, d.has, d.body⟩
  | .bare => d
/-- what all kinds have. -/
def Dg.common (d : Dg) : Dg := ⟨d.kind, d.stream, d.block, 0, 0, 0, 0, 0, S0, S0⟩
/-- a datagram with the fields of its kind alone. -/
def Dg.own (g : Grp) (d : Dg) : Dg := match g with
  | .shard => ⟨d.kind, d.stream, d.block, d.index, d.k, d.n, d.len, 0, S0, d.body⟩
  | .hav => ⟨d.kind, d.stream, d.block, 0, 0, 0, 0, 0, d.has, S0⟩
  | .cred => ⟨d.kind, d.stream, d.block, 0, 0, 0, 0, d.credit, S0, S0⟩
  | .bare => d.common
theorem own_iff (g : Grp) (d : Dg) : d.own g = d ↔ d.without g = d.common := by
  obtain ⟨a0, a1, a2, a3, a4, a5, a6, a7, a8, a9⟩ := d
  cases g <;> simp [Dg.own, Dg.without, Dg.common] <;> grind
/-- Check's error. -/
def dchk (d : Dg) : Int :=
  if ¬ (1 ≤ d.kind ∧ d.kind ≤ 6) then 1
  else if ¬ (0 ≤ d.stream ∧ d.stream ≤ 255) then 2
  else if grpE (grpOf d.kind) d ≠ 0 then grpE (grpOf d.kind) d
  else if (d.without (grpOf d.kind)).eqB d.common = true then 0 else 5
theorem chk_kind {d : Dg} (h : ¬ (1 ≤ d.kind ∧ d.kind ≤ 6)) : dchk d = 1 := if_pos h
theorem chk_stream {d : Dg} (h : 1 ≤ d.kind ∧ d.kind ≤ 6) (h2 : ¬ (0 ≤ d.stream ∧ d.stream ≤ 255)) : dchk d = 2 := by
  unfold dchk
  rw [if_neg (fun q => q h), if_pos h2]
theorem chk_grp {d : Dg} (h : 1 ≤ d.kind ∧ d.kind ≤ 6) (h2 : 0 ≤ d.stream ∧ d.stream ≤ 255) (h3 : grpE (grpOf d.kind) d ≠ 0) : dchk d = grpE (grpOf d.kind) d := by
  unfold dchk
  rw [if_neg (fun q => q h), if_neg (fun q => q h2), if_pos h3]
theorem chk_form {d : Dg} (h : 1 ≤ d.kind ∧ d.kind ≤ 6) (h2 : 0 ≤ d.stream ∧ d.stream ≤ 255) (h3 : grpE (grpOf d.kind) d = 0) (h4 : (d.without (grpOf d.kind)).eqB d.common = false) : dchk d = 5 := by
  unfold dchk
  rw [if_neg (fun q => q h), if_neg (fun q => q h2), if_neg (fun q => q h3), if_neg (by rw [h4]; decide)]
theorem dchk_ok {d : Dg} (h : 1 ≤ d.kind ∧ d.kind ≤ 6) (h2 : 0 ≤ d.stream ∧ d.stream ≤ 255) (h3 : grpE (grpOf d.kind) d = 0) (h4 : (d.without (grpOf d.kind)).eqB d.common = true) : dchk d = 0 := by
  unfold dchk
  rw [if_neg (fun q => q h), if_neg (fun q => q h2), if_neg (fun q => q h3), if_pos h4]
/-- all that Check asks. -/
theorem dchk_zero {d : Dg} (h : dchk d = 0) : (1 ≤ d.kind ∧ d.kind ≤ 6) ∧ (0 ≤ d.stream ∧ d.stream ≤ 255) ∧ grpE (grpOf d.kind) d = 0 ∧ d.own (grpOf d.kind) = d := by
  by_cases h1 : 1 ≤ d.kind ∧ d.kind ≤ 6
  · by_cases h2 : 0 ≤ d.stream ∧ d.stream ≤ 255
    · by_cases h3 : grpE (grpOf d.kind) d = 0
      · refine ⟨h1, h2, h3, (own_iff _ _).2 ?_⟩
        cases h4 : (d.without (grpOf d.kind)).eqB d.common with
        | true => exact (eqB_iff _ _).1 h4
        | false => rw [chk_form h1 h2 h3 h4] at h; exact absurd h (by decide)
      · rw [chk_grp h1 h2 h3] at h; exact absurd h h3
    · rw [chk_stream h1 h2] at h; exact absurd h (by decide)
  · rw [chk_kind h1] at h; exact absurd h (by decide)
theorem shardE_zero {d : Dg} (h : shardE d = 0) : (1 ≤ d.k ∧ d.k ≤ 32 ∧ d.k ≤ d.n ∧ d.n ≤ 255 ∧ 0 ≤ d.index ∧ d.index < d.n) ∧ 1 ≤ d.len ∧ d.len ≤ 32768 ∧ d.body.size ≤ 1024 := by
  unfold shardE at h
  split at h
  · exact absurd h (by decide)
  · split at h
    · exact absurd h (by decide)
    · split at h
      · exact absurd h (by decide)
      · rename_i a b c
        simp only [Decidable.not_not] at a b c
        exact ⟨a, b.2.1, b.2.2, c.2⟩

/-! ### texts in parts -/
/-! ### the bytes -/
abbrev xLS : ByteArray := ⟨#[76, 83]⟩
/-- the bytes of the fields of a kind. -/
def ownS (g : Grp) (d : Dg) : ByteArray := match g with
  | .shard => tx (byteL d.index.toNat 1) ++ tx (byteL d.k.toNat 1) ++ tx (byteL d.n.toNat 1) ++ tx (byteL (d.len - 1).toNat 2) ++ d.body
  | .hav => d.has
  | .cred => tx (byteL d.credit.toNat 2)
  | .bare => S0
/-- all but the sum. -/
def headS (d : Dg) : ByteArray := xLS ++ tx (byteL d.kind.toNat 1) ++ tx (byteL d.stream.toNat 1) ++ tx (byteL d.block 4) ++ ownS (grpOf d.kind) d
def fullS (d : Dg) : ByteArray := headS d ++ tx (byteL (crcS 0 (headS d)) 4)
/-- what Size answers. -/
def sizeT (d : Dg) : Int := if dchk d = 0 then (fullS d).size else 0
def grpSz (g : Grp) : Nat := match g with
  | .shard => 5
  | .hav => 32
  | .cred => 2
  | .bare => 0
theorem ownS_size {g : Grp} {d : Dg} (h : grpE g d = 0) (ho : d.own g = d) : (ownS g d).size = grpSz g + d.body.size := by
  cases g with
  | shard =>
    show (tx (byteL d.index.toNat 1) ++ tx (byteL d.k.toNat 1) ++ tx (byteL d.n.toNat 1) ++ tx (byteL (d.len - 1).toNat 2) ++ d.body).size = 5 + d.body.size
    simp only [ByteArray.size_append, tx_size, byteL_len]
  | hav =>
    have e : d.body = S0 := by rw [← ho]; rfl
    rw [e]
    unfold grpE at h
    simp only at h
    split at h
    · assumption
    · exact absurd h (by decide)
  | cred =>
    have e : d.body = S0 := by rw [← ho]; rfl
    rw [e]
    show (tx (byteL d.credit.toNat 2)).size = 2 + 0
    rw [tx_size, byteL_len]
  | bare =>
    have e : d.body = S0 := by rw [← ho]; rfl
    rw [e]; rfl
theorem headS_size (d : Dg) : (headS d).size = 8 + (ownS (grpOf d.kind) d).size := by
  unfold headS
  simp only [ByteArray.size_append, tx_size, byteL_len]
  have : xLS.size = 2 := rfl
  omega
theorem fullS_size (d : Dg) : (fullS d).size = (headS d).size + 4 := by
  unfold fullS
  rw [ByteArray.size_append, tx_size, byteL_len]
end Go.Proofs.YtodokgkchmpmnaaGreat

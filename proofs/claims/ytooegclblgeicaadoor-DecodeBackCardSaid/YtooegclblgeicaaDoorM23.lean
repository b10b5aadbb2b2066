/- Proved: lemmas of one statement's proof, merged by program: what each part proves stands ahead of it. Conditions: those that the lemmas name. -/
import Derived.Test.YtooegclblgeicaaDoorM1
import Derived.ArgAppend
import Derived.Below
import Derived.Deep.QuietTactic
import Derived.Test.YtooegclblgeicaaDoorM21
import Derived.Test.YtooegclblgeicaaDoorM22
import Derived.Shelf.Strings.Builder1
import Derived.Shelf.Strings.Builder2
import Derived.Shelf.Strings.Trim
import Derived.Test.YtooegclblgeicaaDoorProg

/- Plain lemmas on a block of memory that holds one value of some type (a struct behind a pointer): what its cells hold, what a store leaves, and that other calls leave it. No condition beyond those that each lemma names. -/
namespace Go.Proofs.YtooegclblgeicaaDoor
open Go.ChangeShapes Go.WideShapes Go.ChangeAt Go.RowKit

/-- Block b holds the cells xs, of type t; they may be written. -/
def At (w : World) (b : Nat) (t : TypeId) (xs : List Value) : Prop := w.heap[b]? = some (.cells xs.toArray t (0, 0))
theorem At.lt {w : World} {b : Nat} {t : TypeId} {xs : List Value} (h : At w b t xs) : b < w.heap.size := (Array.getElem?_eq_some_iff.1 h).1
theorem At.cell {w : World} {b : Nat} {t : TypeId} {xs : List Value} (h : At w b t xs) (j : Nat) {v : Value} (hj : xs[j]? = some v) : w.cell? ⟨b, j, none⟩ = some v := by
  rw [cell_of_row w b j _ _ (0, 0) h]
  simpa using hj
theorem At.free {w : World} {b : Nat} {t : TypeId} {xs : List Value} (h : At w b t xs) (j : Nat) : w.frozen? ⟨b, j, none⟩ = false := by
  simp [World.frozen?, show w.heap[b]? = some (.cells xs.toArray t (0, 0)) from h]
theorem At.new (w : World) (t : TypeId) (xs : List Value) : At (w.alloc (.cells xs.toArray t)) w.heap.size t xs := heap_alloc_new w _
theorem At.block {w w' : World} {b : Nat} {t : TypeId} {xs : List Value} (h : At w b t xs) (e : w'.heap[b]? = w.heap[b]?) : At w' b t xs := e.trans h
theorem At.below {w w' : World} {B b : Nat} {t : TypeId} {xs : List Value} (h : At w b t xs) (hb : Below B w w') (hlt : b < B) : At w' b t xs := h.block (hb.block b hlt)
theorem At.kept {w w' : World} {b : Nat} {t : TypeId} {xs : List Value} (h : At w b t xs) {row : Option Nat} (hg : w.grownBy w' row) (hr : row ≠ some b) : At w' b t xs := h.block (hg.block b h.lt (fun e => hr e.symm))
theorem At.alloc {w : World} {b : Nat} {t : TypeId} {xs : List Value} (h : At w b t xs) (o : Obj) : At (w.alloc o) b t xs := h.block (Below.heap_alloc w o b h.lt)
theorem At.far {w : World} {b : Nat} {t : TypeId} {xs : List Value} (h : At w b t xs) {p : Addr} (hp : b ≠ p.block) (v : Value) : At (w.setCell p v) b t xs := h.block (Below.heap_setCell w p v b hp)
theorem At.set_ {w : World} {b : Nat} {t : TypeId} {xs : List Value} (h : At w b t xs) (j : Nat) (v : Value) : At (w.setCell ⟨b, j, none⟩ v) b t (xs.set j v) := by
  unfold At at h ⊢
  simp [World.setCell, Array.getElem?_modify, h]

theorem grown_refl (w : World) (row : Option Nat) : w.grownBy w row := ⟨rfl, rfl, rfl, Nat.le_refl _, fun _ _ _ => rfl⟩
theorem grown_trans2 {w w1 w2 : World} {row : Option Nat} (h : w.grownBy w1 row) (k : w1.grownBy w2 row) : w.grownBy w2 row :=
  ⟨k.os.trans h.os, k.tape.trans h.tape, k.output.trans h.output, Nat.le_trans h.size k.size, fun i hi hn => (k.block i (Nat.lt_of_lt_of_le hi h.size) hn).trans (h.block i hi hn)⟩
theorem grown_set (w : World) (p : Addr) (v : Value) : w.grownBy (w.setCell p v) (some p.block) :=
  ⟨rfl, rfl, rfl, by simp [World.setCell], fun i _ hn => Below.heap_setCell w p v i (fun e => hn (by rw [e]))⟩
theorem grown_drew (w : World) (row : Option Nat) : w.grownBy w.drew row := ⟨rfl, rfl, rfl, Nat.le_refl _, fun _ _ _ => rfl⟩
theorem grown_drewN (w : World) (q : Nat) (row : Option Nat) : w.grownBy (w.drewN q) row := ⟨rfl, rfl, rfl, Nat.le_refl _, fun _ _ _ => rfl⟩
theorem grown_below {w w' : World} (h : Below w.heap.size w w') (row : Option Nat) : w.grownBy w' row := ⟨h.os, h.tape, h.output, h.size, fun i hi _ => h.block i hi⟩
theorem below_grown {w w' : World} {row : Option Nat} {B : Nat} (h : w.grownBy w' row) (hB : B ≤ w.heap.size) (hr : ∀ k, row = some k → B ≤ k) : Below B w w' := (Below.refl B w).grown h hB hr
end Go.Proofs.YtooegclblgeicaaDoor

/- Plain lemmas: what a job tells, by what its shards are decoded to. No condition beyond those that each lemma names. -/
namespace Go.Proofs.YtooegclblgeicaaDoor
open Go.ChangeShapes Go.WideShapes Go.ChangeAt Go.RowKit

/-- a job: its key, K, N and Len, and the slice of its shards. -/
structure Jo where
  s : Int
  b : Int
  k : Int
  n : Int
  l : Int
  A : Option Addr
  m : Nat
  c : Nat
def Jo.cells (x : Jo) : List Value := [.int .i64 x.s, .int .u32 x.b, .int .i64 x.k, .int .i64 x.n, .int .i64 x.l, .slice x.A x.m x.c]
abbrev Jo.val (x : Jo) : Value := .agg #[.int .i64 x.s, .int .u32 x.b, .int .i64 x.k, .int .i64 x.n, .int .i64 x.l, .slice x.A x.m x.c]
def rcells (s b : Int) (t : ByteArray) (z : Int) : List Value := [.int .i64 s, .int .u32 b, .string t, .int .i64 z]
abbrev rval (s b : Int) (t : ByteArray) (z : Int) : Value := .agg #[.int .i64 s, .int .u32 b, .string t, .int .i64 z]
/-- what a job tells: the text t, and the error z. -/
def DoIs (k n len : Int) (l : List Shd) (t : ByteArray) (z : Int) : Prop :=
  ∃ out, DcIs k n l out ∧ ((dcE k n l ≠ 0 ∧ z = (dcE k n l : Nat) ∧ t = S0) ∨ (dcE k n l = 0 ∧ z = jErr out len ∧ t = jOut out len))
theorem DoIs.only {k n len : Int} {l : List Shd} {t t' : ByteArray} {z z' : Int} (h : DoIs k n len l t z) (g : DoIs k n len l t' z') : t = t' ∧ z = z' := by
  obtain ⟨o, hd, h⟩ := h
  obtain ⟨o', gd, g⟩ := g
  obtain rfl := hd.only gd
  rcases h with ⟨h0, h1, h2⟩ | ⟨h0, h1, h2⟩
  · rcases g with ⟨_, g1, g2⟩ | ⟨g0, _⟩
    · exact ⟨h2.trans g2.symm, h1.trans g1.symm⟩
    · exact absurd g0 h0
  · rcases g with ⟨g0, _⟩ | ⟨_, g1, g2⟩
    · exact absurd h0 g0
    · exact ⟨h2.trans g2.symm, h1.trans g1.symm⟩
theorem DoIs.none {k n len : Int} {l : List Shd} {t : ByteArray} {z : Int} (h : DoIs k n len l t z) (hz : z ≠ 0) : t = S0 := by
  obtain ⟨o, _, h⟩ := h
  rcases h with ⟨_, _, h2⟩ | ⟨_, h1, h2⟩
  · exact h2
  · rw [h2]; exact jOut_err (by rw [← h1]; exact hz)
theorem dc_bounds {k n : Int} {l : List Shd} {out : List ByteArray} (h : DcIs k n l out) (e : dcE k n l = 0) : out.length ≤ 40 ∧ ∀ j, j < out.length → (st_ out j).size ≤ 1100 := by
  have hk : DArg k n := by
    by_cases g : DArg k n
    · exact g
    · rw [dcE_arg g] at e; exact absurd e (by decide)
  have hu : uErr n l = 0 := by
    by_cases g : uErr n l = 0
    · exact g
    · rw [dcE_u hk g] at e; exact absurd e g
  have hle : k ≤ ((accL l).length : Int) := by
    by_cases g : k ≤ ((accL l).length : Int)
    · exact g
    · rw [dcE_less hk hu g] at e; exact absurd e (by decide)
  unfold DcIs at h
  rw [if_pos e] at h
  obtain ⟨q, _, rfl⟩ := h
  unfold DArg at hk
  have hok := acc_all hu
  have hf := hok.fit 0 (by omega)
  rw [Fits, hok.siz 0 (by omega)] at hf
  generalize (sh_ l 0).2.size = s at *
  rw [mulL_mix, txS_mk]
  refine ⟨by rw [mkS_len]; omega, fun j hj => ?_⟩
  rw [mkS_len] at hj
  rw [mkS_at _ _ _ hj, tx_size]
  unfold mixR
  rw [mixP_len]
  omega
end Go.Proofs.YtooegclblgeicaaDoor

/- Proved: what some functions of Go's library do in this program, each by the kit's contract of it, laid by the kit's command in plain words. Conditions: those that each one names. -/
namespace Go.Proofs
open Go.Shelf
def Tryd.lays170_ren : Go.Shelf.Ren := ⟨fun | 170 => 42 | n => n, fun | 70 => 89 | 3 => 3 | 0 => 0 | 72 => 91 | 37 => 31 | 5 => 5 | n => n, fun | n => n⟩
theorem Tryd.lays170 : Go.Proofs.Lays.n170 Tryd.prog Tryd.lays170_ren := {
  mixed := by kernel_rfl
  f170 := Tryd.func42.trans (congrArg some (by kernel_rfl))
  t0 := Tryd.underlying0
  a0 := Tryd.isAgg0
  z0 := Tryd.sizeOf0
  v0 := Tryd.zeroValue0
  t3 := Tryd.underlying3
  a3 := Tryd.isAgg3
  z3 := Tryd.sizeOf3
  v3 := Tryd.zeroValue3
  t37 := Tryd.underlying31
  a37 := Tryd.isAgg31
  z37 := Tryd.sizeOf31
  v37 := Tryd.zeroValue31
  t70 := Tryd.underlying89
  a70 := Tryd.isAgg89
  z70 := Tryd.sizeOf89
  v70 := Tryd.zeroValue89
  t72 := Tryd.underlying91
  a72 := Tryd.isAgg91
  z72 := Tryd.sizeOf91
  v72 := Tryd.zeroValue91 }
open Go.RowKit in
theorem Tryd.Builder_Len (B b : Nat) (bs : List Value) (w : World) (h : Lib.IsBuilder 91 5 B b bs w) :
    Calls Tryd.prog 42 #[.pointer (some ⟨b, 0, none⟩)] w fun e w' => e = .returned (.int .i64 bs.length) ∧ w' = w := Any.Builder_Len Tryd.lays170 B b bs w h
def Tryd.lays169_ren : Go.Shelf.Ren := ⟨fun | 169 => 45 | n => n, fun | 70 => 89 | 9 => 9 | 0 => 0 | 72 => 91 | 37 => 31 | 127 => 107 | 3 => 3 | 5 => 5 | n => n, fun | n => n⟩
theorem Tryd.lays169 : Go.Proofs.Lays.n169 Tryd.prog Tryd.lays169_ren := {
  mixed := by kernel_rfl
  f169 := Tryd.func45.trans (congrArg some (by kernel_rfl))
  t0 := Tryd.underlying0
  a0 := Tryd.isAgg0
  z0 := Tryd.sizeOf0
  v0 := Tryd.zeroValue0
  t3 := Tryd.underlying3
  a3 := Tryd.isAgg3
  z3 := Tryd.sizeOf3
  v3 := Tryd.zeroValue3
  t9 := Tryd.underlying9
  a9 := Tryd.isAgg9
  z9 := Tryd.sizeOf9
  v9 := Tryd.zeroValue9
  t37 := Tryd.underlying31
  a37 := Tryd.isAgg31
  z37 := Tryd.sizeOf31
  v37 := Tryd.zeroValue31
  t70 := Tryd.underlying89
  a70 := Tryd.isAgg89
  z70 := Tryd.sizeOf89
  v70 := Tryd.zeroValue89
  t72 := Tryd.underlying91
  a72 := Tryd.isAgg91
  z72 := Tryd.sizeOf91
  v72 := Tryd.zeroValue91
  t127 := Tryd.underlying107
  a127 := Tryd.isAgg107
  z127 := Tryd.sizeOf107
  v127 := Tryd.zeroValue107 }
theorem Tryd.Builder_Extra_169 : Builder.Extra Tryd.prog Tryd.lays169_ren := {
  sizeBuilder := by kernel_rfl
  liesBuilder := by kernel_rfl
  t5 := Tryd.underlying5
  a5 := Tryd.isAgg5
  z5 := Tryd.sizeOf5
  v5 := Tryd.zeroValue5
  infoByte := by kernel_rfl
  cellsByte := by kernel_rfl
  sizeByte := by kernel_rfl
  neB5 := by decide }
open Go.RowKit in
theorem Tryd.Builder_String_any (B b : Nat) (l : List UInt8) (w : World) (h : Lib.IsBuilder 91 5 B b (Lib.byteCells l) w) (hBw : B ≤ w.heap.size) :
    Calls Tryd.prog 45 #[.pointer (some ⟨b, 0, none⟩)] w fun e w' => e = .returned (.string ⟨l.toArray⟩) ∧ Below B w w' := Any.Builder_String_any Tryd.lays169 Tryd.Builder_Extra_169 B b l w h hBw
def Tryd.lays165_ren : Go.Shelf.Ren := ⟨fun | 165 => 41 | 240 => 52 | 241 => 53 | 276 => 64 | 277 => 65 | n => n, fun | 70 => 89 | 3 => 3 | 0 => 0 | 4 => 4 | 9 => 9 | 20 => 20 | 72 => 91 | 37 => 31 | 164 => 116 | 5 => 5 | n => n, fun | n => n⟩
theorem Tryd.lays165 : Go.Proofs.Lays.n165 Tryd.prog Tryd.lays165_ren := {
  mixed := by kernel_rfl
  f165 := Tryd.func41.trans (congrArg some (by kernel_rfl))
  f240 := Tryd.func52.trans (congrArg some (by kernel_rfl))
  f241 := Tryd.func53.trans (congrArg some (by kernel_rfl))
  f276 := Tryd.func64.trans (congrArg some (by kernel_rfl))
  f277 := Tryd.func65.trans (congrArg some (by kernel_rfl))
  t0 := Tryd.underlying0
  a0 := Tryd.isAgg0
  z0 := Tryd.sizeOf0
  v0 := Tryd.zeroValue0
  t3 := Tryd.underlying3
  a3 := Tryd.isAgg3
  z3 := Tryd.sizeOf3
  v3 := Tryd.zeroValue3
  t4 := Tryd.underlying4
  a4 := Tryd.isAgg4
  z4 := Tryd.sizeOf4
  v4 := Tryd.zeroValue4
  t9 := Tryd.underlying9
  a9 := Tryd.isAgg9
  z9 := Tryd.sizeOf9
  v9 := Tryd.zeroValue9
  t20 := Tryd.underlying20
  a20 := Tryd.isAgg20
  z20 := Tryd.sizeOf20
  v20 := Tryd.zeroValue20
  t37 := Tryd.underlying31
  a37 := Tryd.isAgg31
  z37 := Tryd.sizeOf31
  v37 := Tryd.zeroValue31
  t70 := Tryd.underlying89
  a70 := Tryd.isAgg89
  z70 := Tryd.sizeOf89
  v70 := Tryd.zeroValue89
  t72 := Tryd.underlying91
  a72 := Tryd.isAgg91
  z72 := Tryd.sizeOf91
  v72 := Tryd.zeroValue91
  t164 := Tryd.underlying116
  a164 := Tryd.isAgg116
  z164 := Tryd.sizeOf116
  v164 := Tryd.zeroValue116 }
theorem Tryd.Builder_Extra_165 : Builder.Extra Tryd.prog Tryd.lays165_ren := {
  sizeBuilder := by kernel_rfl
  liesBuilder := by kernel_rfl
  t5 := Tryd.underlying5
  a5 := Tryd.isAgg5
  z5 := Tryd.sizeOf5
  v5 := Tryd.zeroValue5
  infoByte := by kernel_rfl
  cellsByte := by kernel_rfl
  sizeByte := by kernel_rfl
  neB5 := by decide }
open Go.RowKit in
theorem Tryd.Builder_Grow_fresh (B b n : Nat) (w : World) (hB : B ≤ b) (hbk : w.heap[b]? = some (.cells #[.pointer none, .slice none 0 0] 91 (0, 0))) (hBw : B ≤ w.heap.size) (hn : n ≤ 281474976710656) :
    Calls Tryd.prog 41 #[.pointer (some ⟨b, 0, none⟩), .int .i64 n] w fun e w' => e = .returned (.tuple #[]) ∧ (Lib.BuilderAt 91 5 B b (.pointer (some ⟨b, 0, none⟩)) [] w' ∧ Below B w w') := Any.Builder_Grow_fresh Tryd.lays165 Tryd.Builder_Extra_165 B b n w hB hbk hBw hn
def Tryd.lays160_ren : Go.Shelf.Ren := ⟨fun | 160 => 54 | 232 => 67 | 231 => 66 | 227 => 68 | 234 => 70 | 233 => 69 | 236 => 72 | 235 => 71 | 228 => 81 | 271 => 84 | 151 => 83 | 197 => 82 | 120 => 91 | 152 => 90 | 260 => 89 | 137 => 93 | 119 => 94 | 224 => 95 | 225 => 96 | 217 => 97 | 266 => 98 | n => n, fun | 9 => 9 | 4 => 4 | 3 => 3 | 5 => 5 | 117 => 121 | 116 => 120 | 0 => 0 | 124 => 124 | 21 => 21 | 105 => 133 | 46 => 104 | 119 => 142 | 139 => 146 | 138 => 145 | n => n, fun | 3 => 1 | 4 => 2 | n => n⟩
theorem Tryd.lays160 : Go.Proofs.Lays.n160 Tryd.prog Tryd.lays160_ren := {
  mixed := by kernel_rfl
  f119 := Tryd.func94.trans (congrArg some (by kernel_rfl))
  f120 := Tryd.func91.trans (congrArg some (by kernel_rfl))
  f137 := Tryd.func93.trans (congrArg some (by kernel_rfl))
  f151 := Tryd.func83.trans (congrArg some (by kernel_rfl))
  f152 := Tryd.func90.trans (congrArg some (by kernel_rfl))
  f160 := Tryd.func54.trans (congrArg some (by kernel_rfl))
  f197 := Tryd.func82.trans (congrArg some (by kernel_rfl))
  f217 := Tryd.func97.trans (congrArg some (by kernel_rfl))
  f224 := Tryd.func95.trans (congrArg some (by kernel_rfl))
  f225 := Tryd.func96.trans (congrArg some (by kernel_rfl))
  f227 := Tryd.func68.trans (congrArg some (by kernel_rfl))
  f228 := Tryd.func81.trans (congrArg some (by kernel_rfl))
  f231 := Tryd.func66.trans (congrArg some (by kernel_rfl))
  f232 := Tryd.func67.trans (congrArg some (by kernel_rfl))
  f233 := Tryd.func69.trans (congrArg some (by kernel_rfl))
  f234 := Tryd.func70.trans (congrArg some (by kernel_rfl))
  f235 := Tryd.func71.trans (congrArg some (by kernel_rfl))
  f236 := Tryd.func72.trans (congrArg some (by kernel_rfl))
  f260 := Tryd.func89.trans (congrArg some (by kernel_rfl))
  f266 := Tryd.func98.trans (congrArg some (by kernel_rfl))
  f271 := Tryd.func84.trans (congrArg some (by kernel_rfl))
  t0 := Tryd.underlying0
  a0 := Tryd.isAgg0
  z0 := Tryd.sizeOf0
  v0 := Tryd.zeroValue0
  t3 := Tryd.underlying3
  a3 := Tryd.isAgg3
  z3 := Tryd.sizeOf3
  v3 := Tryd.zeroValue3
  t4 := Tryd.underlying4
  a4 := Tryd.isAgg4
  z4 := Tryd.sizeOf4
  v4 := Tryd.zeroValue4
  t5 := Tryd.underlying5
  a5 := Tryd.isAgg5
  z5 := Tryd.sizeOf5
  v5 := Tryd.zeroValue5
  t9 := Tryd.underlying9
  a9 := Tryd.isAgg9
  z9 := Tryd.sizeOf9
  v9 := Tryd.zeroValue9
  t21 := Tryd.underlying21
  a21 := Tryd.isAgg21
  z21 := Tryd.sizeOf21
  v21 := Tryd.zeroValue21
  t46 := Tryd.underlying104
  a46 := Tryd.isAgg104
  z46 := Tryd.sizeOf104
  v46 := Tryd.zeroValue104
  t105 := Tryd.underlying133
  a105 := Tryd.isAgg133
  z105 := Tryd.sizeOf133
  v105 := Tryd.zeroValue133
  t116 := Tryd.underlying120
  a116 := Tryd.isAgg120
  z116 := Tryd.sizeOf120
  t117 := Tryd.underlying121
  a117 := Tryd.isAgg121
  z117 := Tryd.sizeOf121
  v117 := Tryd.zeroValue121
  t119 := Tryd.underlying142
  a119 := Tryd.isAgg142
  z119 := Tryd.sizeOf142
  t124 := Tryd.underlying124
  a124 := Tryd.isAgg124
  z124 := Tryd.sizeOf124
  v124 := Tryd.zeroValue124
  t138 := Tryd.underlying145
  a138 := Tryd.isAgg145
  z138 := Tryd.sizeOf145
  v138 := Tryd.zeroValue145
  t139 := Tryd.underlying146
  a139 := Tryd.isAgg146
  z139 := Tryd.sizeOf146
  v139 := Tryd.zeroValue146
  g3 := by kernel_rfl
  g4 := by kernel_rfl }
open Go.RowKit in
theorem Tryd.strings_Trim_one (s : ByteArray) (c : UInt8) (hc : c.toNat < 128) (w : World) (hs : s.size ≤ 9223372036854775807) :
    Calls Tryd.prog 54 #[.string s, .string ⟨#[c]⟩] w fun e w' => e = .returned (.string ⟨(Lib.trimB s.data.toList c).toArray⟩) ∧ (w' = w ∨ w' = w.drew) := Any.strings_Trim_one Tryd.lays160 s c hc w hs
def Tryd.lays166_ren : Go.Shelf.Ren := ⟨fun | 119 => 94 | 120 => 91 | 137 => 93 | 151 => 83 | 152 => 90 | 160 => 54 | 165 => 41 | 166 => 43 | 169 => 45 | 170 => 42 | 197 => 82 | 217 => 97 | 224 => 95 | 225 => 96 | 227 => 68 | 228 => 81 | 231 => 66 | 232 => 67 | 233 => 69 | 234 => 70 | 235 => 71 | 236 => 72 | 240 => 52 | 241 => 53 | 260 => 89 | 266 => 98 | 271 => 84 | 276 => 64 | 277 => 65 | 347 => 99 | 348 => 100 | 349 => 101 | 350 => 102 | 351 => 103 | 352 => 104 | 353 => 105 | 354 => 106 | 355 => 107 | 356 => 108 | 357 => 109 | 358 => 110 | 359 => 111 | 360 => 112 | 361 => 113 | 362 => 114 | 366 => 115 | 367 => 120 | n => n, fun | 23 => 106 | 27 => 150 | 28 => 78 | 31 => 23 | 37 => 31 | 40 => 148 | 41 => 132 | 43 => 66 | 46 => 104 | 51 => 38 | 55 => 147 | 63 => 135 | 64 => 141 | 70 => 89 | 71 => 90 | 72 => 91 | 73 => 92 | 74 => 94 | 75 => 95 | 76 => 96 | 77 => 97 | 80 => 98 | 81 => 93 | 99 => 115 | 101 => 29 | 104 => 76 | 105 => 133 | 106 => 134 | 111 => 127 | 112 => 77 | 114 => 149 | 115 => 35 | 116 => 120 | 117 => 121 | 118 => 122 | 119 => 142 | 122 => 119 | 127 => 107 | 137 => 144 | 138 => 145 | 139 => 146 | 164 => 116 | 165 => 117 | 166 => 118 | 179 => 140 | 214 => 139 | 229 => 129 | 238 => 151 | 239 => 152 | 240 => 153 | 241 => 154 | 242 => 155 | 243 => 156 | 244 => 157 | 245 => 158 | 246 => 159 | 247 => 160 | 248 => 161 | 249 => 162 | n => n, fun | 1 => 0 | 3 => 1 | 4 => 2 | n => n⟩
theorem Tryd.lays166 : Go.Proofs.Lays.n166 Tryd.prog Tryd.lays166_ren := {
  mixed := by kernel_rfl
  f166 := Tryd.func43.trans (congrArg some (by kernel_rfl))
  f240 := Tryd.func52.trans (congrArg some (by kernel_rfl))
  f276 := Tryd.func64.trans (congrArg some (by kernel_rfl))
  t0 := Tryd.underlying0
  a0 := Tryd.isAgg0
  z0 := Tryd.sizeOf0
  v0 := Tryd.zeroValue0
  t3 := Tryd.underlying3
  a3 := Tryd.isAgg3
  z3 := Tryd.sizeOf3
  v3 := Tryd.zeroValue3
  t4 := Tryd.underlying4
  a4 := Tryd.isAgg4
  z4 := Tryd.sizeOf4
  v4 := Tryd.zeroValue4
  t9 := Tryd.underlying9
  a9 := Tryd.isAgg9
  z9 := Tryd.sizeOf9
  v9 := Tryd.zeroValue9
  t20 := Tryd.underlying20
  a20 := Tryd.isAgg20
  z20 := Tryd.sizeOf20
  v20 := Tryd.zeroValue20
  t37 := Tryd.underlying31
  a37 := Tryd.isAgg31
  z37 := Tryd.sizeOf31
  v37 := Tryd.zeroValue31
  t70 := Tryd.underlying89
  a70 := Tryd.isAgg89
  z70 := Tryd.sizeOf89
  v70 := Tryd.zeroValue89
  t72 := Tryd.underlying91
  a72 := Tryd.isAgg91
  z72 := Tryd.sizeOf91
  v72 := Tryd.zeroValue91
  t75 := Tryd.underlying95
  a75 := Tryd.isAgg95
  z75 := Tryd.sizeOf95
  v75 := Tryd.zeroValue95
  t164 := Tryd.underlying116
  a164 := Tryd.isAgg116
  z164 := Tryd.sizeOf116
  v164 := Tryd.zeroValue116 }
theorem Tryd.Builder_Extra_166 : Builder.Extra Tryd.prog Tryd.lays166_ren := {
  sizeBuilder := by kernel_rfl
  liesBuilder := by kernel_rfl
  t5 := Tryd.underlying5
  a5 := Tryd.isAgg5
  z5 := Tryd.sizeOf5
  v5 := Tryd.zeroValue5
  infoByte := by kernel_rfl
  cellsByte := by kernel_rfl
  sizeByte := by kernel_rfl
  neB5 := by decide }
open Go.RowKit in
theorem Tryd.Builder_WriteString (B b : Nat) (bs : List Value) (s : ByteArray) (w : World) (h : Lib.IsBuilder 91 5 B b bs w) (hlen : bs.length + s.size ≤ 140737488355328) (hBw : B ≤ w.heap.size) :
    Calls Tryd.prog 43 #[.pointer (some ⟨b, 0, none⟩), .string s] w fun e w' => e = .returned (.tuple #[.int .i64 s.size, .nilIface]) ∧ (Lib.BuilderAt 91 5 B b (.pointer (some ⟨b, 0, none⟩)) (bs ++ Lib.strCells s) w' ∧ Below B w w') := Any.Builder_WriteString Tryd.lays166 Tryd.Builder_Extra_166 B b bs s w h hlen hBw
end Go.Proofs

/- Proved: lemmas of one statement's proof, merged by program: what each part proves stands ahead of it. Conditions: those that the lemmas name. -/
import Derived.Test.YtgclgmfmcgacdaaM2
import Derived.Test.YtgclgmfmcgacdaaM4
import Derived.Maps.Keyed
import Derived.Maps.RangeWalk

/- Plain lemmas on entries of shards by keys, as lists. No condition beyond those that each lemma names. -/
namespace Go.Proofs.Ytgclgmfmcgacdaa

/-- an entry: its key, how many shards it needs, its shards, and where it lies. -/
structure En where
  k : Ky
  need : Nat
  l : List Shd
  p : Nat
def En.ready (e : En) : Bool := decide (e.l.length = e.need)
/-- shards by rising Index. -/
structure ShOk (l : List Shd) : Prop where
  ix : ∀ x ∈ l, 0 ≤ x.1 ∧ x.1 ≤ 254
  up : l.Pairwise (fun a b => a.1 < b.1)
theorem ShOk.tail {x : Shd} {l : List Shd} (h : ShOk (x :: l)) : ShOk l := ⟨fun y hy => h.ix y (List.mem_cons_of_mem _ hy), (List.pairwise_cons.1 h.up).2⟩
structure EnOk (e : En) : Prop where
  key : KyOk e.k
  n0 : 1 ≤ e.need
  n1 : e.need ≤ 32
  l0 : 1 ≤ e.l.length
  l1 : e.l.length ≤ e.need
  sh : ShOk e.l
/-- how many shards are ahead of that Index. -/
def plS : List Shd → Int → Nat
  | [], _ => 0
  | y :: r, i => if y.1 < i then plS r i + 1 else 0
/-- has one of them that Index? -/
def anyS (l : List Shd) (i : Int) : Bool := l.any fun y => decide (y.1 = i)
theorem plS_le (l : List Shd) (i : Int) : plS l i ≤ l.length := by
  induction l with
  | nil => exact Nat.le_refl _
  | cons y r ih => unfold plS; split <;> simp <;> omega
theorem plS_low {l : List Shd} (h : ShOk l) : plS l 0 = 0 := by
  cases l with
  | nil => rfl
  | cons y r => unfold plS; rw [if_neg]; have := h.ix y (by simp); omega
theorem plS_top {l : List Shd} (h : ShOk l) : plS l 255 = l.length := by
  induction l with
  | nil => rfl
  | cons y r ih => unfold plS; rw [if_pos (by have := h.ix y (by simp); omega), ih h.tail]; rfl
theorem anyS_cons (y : Shd) (r : List Shd) (i : Int) : anyS (y :: r) i = (decide (y.1 = i) || anyS r i) := rfl
theorem anyS_none {y : Shd} {r : List Shd} (h : ShOk (y :: r)) {i : Int} (hi : i ≤ y.1) : anyS r i = false := by
  unfold anyS
  rw [List.any_eq_false]
  intro x hx
  have := (List.pairwise_cons.1 h.up).1 x hx
  simp; omega
theorem plS_next {l : List Shd} (h : ShOk l) (i : Int) : plS l (i + 1) = plS l i + if anyS l i = true then 1 else 0 := by
  induction l with
  | nil => rfl
  | cons y r ih =>
    unfold plS
    rw [anyS_cons]
    by_cases h1 : y.1 < i
    · rw [if_pos (by omega), if_pos h1, ih h.tail, show decide (y.1 = i) = false by simp; omega]
      simp only [Bool.false_or]; omega
    · by_cases h2 : y.1 = i
      · rw [if_pos (by omega), if_neg h1, ih h.tail, anyS_none h (by omega)]
        subst h2
        have : plS r y.1 = 0 := by
          cases r with
          | nil => rfl
          | cons z r => unfold plS; rw [if_neg]; have := (List.pairwise_cons.1 h.up).1 z (by simp); omega
        rw [this]; simp
      · rw [if_neg (by omega), if_neg h1, anyS_none h (by omega)]
        simp [h2]
/-- where it stands. -/
theorem plS_at {l : List Shd} (h : ShOk l) {i : Int} (hi : anyS l i = true) : plS l i < l.length ∧ (sh_ l (plS l i)).1 = i := by
  induction l with
  | nil => cases hi
  | cons y r ih =>
    rw [anyS_cons] at hi
    unfold plS
    by_cases h1 : y.1 < i
    · rw [if_pos h1]
      have h2 : anyS r i = true := by
        rcases Bool.or_eq_true _ _ ▸ hi with e | e
        · have := of_decide_eq_true e; omega
        · exact e
      obtain ⟨a, b⟩ := ih h.tail h2
      exact ⟨by rw [List.length_cons]; omega, b⟩
    · rw [if_neg h1]
      refine ⟨by simp, ?_⟩
      show y.1 = i
      rcases Bool.or_eq_true _ _ ▸ hi with e | e
      · exact of_decide_eq_true e
      · by_cases h2 : i ≤ y.1
        · rw [anyS_none h h2] at e; cases e
        · omega
theorem plS_take {l : List Shd} (h : ShOk l) {i : Int} (hi : anyS l i = true) : l.take (plS l (i + 1)) = l.take (plS l i) ++ [(i, (sh_ l (plS l i)).2)] := by
  obtain ⟨a, b⟩ := plS_at h hi
  rw [plS_next h, if_pos hi, List.take_add_one, List.getElem?_eq_getElem a, ← sh_at a]
  have e : sh_ l (plS l i) = (i, (sh_ l (plS l i)).2) := Prod.ext b rfl
  exact congrArg (fun z => List.take (plS l i) l ++ [z]) e
/-- one more among them. -/
def insS (l : List Shd) (x : Shd) : List Shd := l.take (plS l x.1) ++ x :: l.drop (plS l x.1)
theorem insS_len (l : List Shd) (x : Shd) : (insS l x).length = l.length + 1 := by
  unfold insS
  have := plS_le l x.1
  rw [List.length_append, List.length_cons, List.length_take, List.length_drop]; omega
theorem insS_nil (x : Shd) : insS [] x = [x] := rfl
theorem insS_low {y x : Shd} (r : List Shd) (h : y.1 < x.1) : insS (y :: r) x = y :: insS r x := by
  unfold insS
  rw [show plS (y :: r) x.1 = plS r x.1 + 1 by show (if _ then _ else _) = _; rw [if_pos h]]
  rfl
theorem insS_high {y x : Shd} (r : List Shd) (h : ¬ y.1 < x.1) : insS (y :: r) x = x :: y :: r := by
  unfold insS
  rw [show plS (y :: r) x.1 = 0 by show (if _ then _ else _) = _; rw [if_neg h]]
  rfl
theorem insS_mem {l : List Shd} {x y : Shd} : y ∈ insS l x ↔ y = x ∨ y ∈ l := by
  induction l with
  | nil => rw [insS_nil]; simp
  | cons z r ih =>
    by_cases h : z.1 < x.1
    · rw [insS_low r h, List.mem_cons, ih, List.mem_cons]
      exact ⟨fun e => by rcases e with e | e | e <;> simp [e], fun e => by rcases e with e | e | e <;> simp [e]⟩
    · rw [insS_high r h, List.mem_cons]
theorem insS_ok {l : List Shd} (h : ShOk l) {x : Shd} (hx : 0 ≤ x.1 ∧ x.1 ≤ 254) (hn : anyS l x.1 = false) : ShOk (insS l x) := by
  refine ⟨fun y hy => ?_, ?_⟩
  · rcases insS_mem.1 hy with rfl | hy
    · exact hx
    · exact h.ix y hy
  · induction l with
    | nil => rw [insS_nil]; exact List.pairwise_singleton ..
    | cons z r ih =>
      rw [anyS_cons, Bool.or_eq_false_iff] at hn
      have hz : z.1 ≠ x.1 := of_decide_eq_false hn.1
      obtain ⟨h1, h2⟩ := List.pairwise_cons.1 h.up
      by_cases hlt : z.1 < x.1
      · rw [insS_low r hlt]
        refine List.pairwise_cons.2 ⟨fun y hy => ?_, ih h.tail hn.2⟩
        rcases insS_mem.1 hy with rfl | hy
        · exact hlt
        · exact h1 y hy
      · rw [insS_high r hlt]
        refine List.pairwise_cons.2 ⟨fun y hy => ?_, h.up⟩
        rcases List.mem_cons.1 hy with rfl | hy
        · omega
        · have := h1 y hy; omega
theorem insS_any (l : List Shd) (x : Shd) (i : Int) : anyS (insS l x) i = (anyS l i || decide (x.1 = i)) := by
  rw [Bool.eq_iff_iff]
  unfold anyS
  simp only [List.any_eq_true, insS_mem, Bool.or_eq_true, decide_eq_true_eq]
  constructor
  · rintro ⟨y, rfl | hy, e⟩
    · exact .inr e
    · exact .inl ⟨y, hy, e⟩
  · rintro (⟨y, hy, e⟩ | e)
    · exact ⟨y, .inr hy, e⟩
    · exact ⟨x, .inl rfl, e⟩
theorem insS_body (l : List Shd) (x : Shd) : (insS l x).map (·.2) = (l.map (·.2)).take (plS l x.1) ++ x.2 :: (l.map (·.2)).drop (plS l x.1) := by
  unfold insS
  rw [List.map_append, List.map_cons, List.map_take, List.map_drop]
/-- marks that are those of these shards. -/
structure Idx (s : ByteArray) (l : List Shd) : Prop where
  size : s.size = 32
  has : ∀ n : Nat, n < 256 → hasB s (n : Int) = anyS l (n : Int)
theorem Idx.set {s : ByteArray} {l : List Shd} (h : Idx s l) (x : Shd) : Idx (tx (withB (bts s) x.1)) (insS l x) := by
  have hs : (tx (withB (bts s) x.1)).size = 32 := by rw [tx_size, withB_len, bts_len, h.size]
  refine ⟨hs, fun n hn => ?_⟩
  have := h.has n hn
  rw [hasB_at h.size hn] at this
  rw [hasB_at hs hn, bts_tx (withB_lt (bts_lt s) _), bitN_with (by rw [bts_len, h.size]) _ hn, this, insS_any]
theorem Idx.one (x : Shd) : Idx (ofS [x.1]) [x] := by
  refine ⟨ofS_size _, fun n hn => ?_⟩
  rw [ofS_has, inB_of (by omega) (by omega)]
  unfold anyS
  simp [anyK]
end Go.Proofs.Ytgclgmfmcgacdaa

/- Plain lemmas on keys of timers as keys of a map. No condition beyond those that each lemma names. -/
namespace Go.Proofs.Ytgclgmfmcgacdaa
open Go.ChangeShapes Go.WideShapes

/-- a key's value. -/
abbrev kyV (k : Ky) : Value := .agg #[.int .i64 k.1, .int .u32 k.2]
/-- .. and how it reads. -/
def kyL (k : Ky) : Lit := .string (keyBytes [.int .i64 k.1, .int .u32 k.2])
theorem KyOk.wf0 {k : Ky} (h : KyOk k) : (Lit.int .i64 k.1).wf = true := by
  have := h.s0
  have := h.s1
  simp [Lit.wf, IntKind.min, IntKind.max, IntKind.signed, IntKind.bits]
  omega
theorem KyOk.wf1 {k : Ky} (h : KyOk k) : (Lit.int .u32 k.2).wf = true := by
  have := h.b0
  have := h.b1
  simp [Lit.wf, IntKind.min, IntKind.max, IntKind.signed, IntKind.bits]
  omega
theorem ky_of_wf {k : Ky} (h : (Lit.int .i64 k.1).wf = true) (g : (Lit.int .u32 k.2).wf = true) : KyOk k := by
  simp [Lit.wf, IntKind.min, IntKind.max, IntKind.signed, IntKind.bits] at h g
  exact ⟨by omega, by omega, by omega, by omega⟩
theorem ky_row : (35 : TypeId) < Try.prog.types.size := of_decide_eq_true (by kernel_rfl)
theorem ky_type : Try.prog.keyType 35 = true := by kernel_rfl
theorem ky_cells : Try.prog.cellsOf 35 = 2 := by kernel_rfl
theorem ky_int : Try.prog.cellsOf 3 = 1 := by kernel_rfl
theorem ky_u32 : Try.prog.cellsOf 33 = 1 := by kernel_rfl
theorem ky_wide : (match Try.prog.underlying 35 with | some (.array _ _) | some (.struct _) => true | _ => false) = true := by kernel_rfl
theorem ky_laid : laidOutB Try.prog = true := by kernel_rfl
set_option maxRecDepth 100000 in
theorem ky_law : Maps.Keyed Try.prog 35 := Maps.Keyed.of_law (deep_law_laid ky_laid (m := 2) (by omega) ky_row (by kernel_rfl) ky_wide)
theorem ky_one {q : IntKind} {t : TypeId} (ht : Try.prog.underlying t = some (.int q)) {d : Nat} {a : Value} {L : List Lit} (h : Try.prog.keyLits (d + 1) t [a] = some L) : ∃ n, a = .int q n ∧ (Lit.int q n).wf = true ∧ L = [.int q n] := by
  unfold Program.keyLits at h
  rw [ht] at h
  cases a <;> simp at h
  obtain ⟨⟨rfl, hw⟩, rfl⟩ := h
  exact ⟨_, rfl, hw, rfl⟩
set_option maxRecDepth 100000 in
theorem ky_lits (d : Nat) (cs : List Value) (L : List Lit) (h : Try.prog.keyLits (d + 2) 35 cs = some L) : ∃ k : Ky, KyOk k ∧ cs = [.int .i64 k.1, .int .u32 k.2] ∧ L = [.int .i64 k.1, .int .u32 k.2] := by
  unfold Program.keyLits at h
  simp only [Try.underlying35] at h
  split at h
  · rename_i hl
    have hl := hl.1
    rw [ky_cells] at hl
    match cs, hl with
    | [a, b], _ =>
      simp only [Option.map_eq_some_iff] at h
      obtain ⟨us, ha, rfl⟩ := h
      simp only [List.mapM_cons, List.mapM_nil, ky_int, ky_u32, List.drop_zero, List.take_succ_cons, List.take_zero, List.drop_succ_cons, Option.bind_eq_bind, Option.bind_eq_some_iff, Option.pure_def, Option.some.injEq] at ha
      obtain ⟨L1, h1, L2, ⟨L3, h3, L4, rfl, rfl⟩, rfl⟩ := ha
      obtain ⟨n, rfl, hn, rfl⟩ := ky_one Try.underlying3 h1
      obtain ⟨m, rfl, hm, rfl⟩ := ky_one Try.underlying33 h3
      exact ⟨(n, m), ky_of_wf hn hm, rfl, rfl⟩
  · cases h
set_option maxRecDepth 100000 in
theorem ky_lits_mk (d : Nat) {k : Ky} (h : KyOk k) : Try.prog.keyLits (d + 2) 35 [.int .i64 k.1, .int .u32 k.2] = some [.int .i64 k.1, .int .u32 k.2] := by
  unfold Program.keyLits
  simp [Try.underlying35, ky_cells, List.mapM_cons, ky_int, ky_u32, Program.keyLits, Try.underlying3, Try.underlying33, h.wf0, h.wf1]
set_option maxRecDepth 100000 in
theorem ky_size : ∃ n, Try.prog.types.size + 1 = n + 2 := ⟨Try.prog.types.size - 1, by
  have h : 0 < Try.prog.types.size := Nat.lt_of_le_of_lt (Nat.zero_le _) ky_row
  omega⟩
set_option maxRecDepth 100000 in
theorem ky_key {k : Ky} (h : KyOk k) : keyOf Try.prog 35 (kyV k) = some (kyL k) := by
  unfold keyOf
  have hf : (kyV k).formed Try.prog 35 = true := by simp [Value.formed, Try.underlying35, ky_cells]
  simp only [Try.underlying35, ky_type, hf, Bool.and_true, if_true]
  obtain ⟨n, hn⟩ := ky_size
  rw [hn]
  have e : (kyV k).cells.toList = [.int .i64 k.1, .int .u32 k.2] := by simp [Value.cells]
  rw [e, ky_lits_mk n h]
  rfl
set_option maxRecDepth 100000 in
theorem ky_inv {v : Value} {l : Lit} (h : keyOf Try.prog 35 v = some l) : ∃ k : Ky, v = kyV k ∧ l = kyL k ∧ KyOk k := by
  obtain ⟨xs, L, rfl, h1, rfl⟩ := keyOf_top ky_wide h
  obtain ⟨n, hn⟩ := ky_size
  rw [hn] at h1
  obtain ⟨k, hk, e, rfl⟩ := ky_lits _ _ _ h1
  exact ⟨k, by rw [← Array.toArray_toList (xs := xs), e], rfl, hk⟩
theorem kyL_inj {k k' : Ky} (h : KyOk k) (g : KyOk k') (e : kyL k = kyL k') : k = k' := by
  have h1 := ky_key h
  rw [e] at h1
  have := ky_law.inj h1 (ky_key g)
  simp at this
  exact Prod.ext this.1 this.2
theorem kyL_lit {k : Ky} (h : KyOk k) : WideAt.IsKeyLit (kyL k) := ky_law.key (ky_key h)
theorem kyL_same {k k' : Ky} (h : KyOk k) (g : KyOk k') : (kyL k).sameKey (kyL k') = decide (k = k') := by
  by_cases e : k = k'
  · subst e
    rw [WideAt.sameKey_self (kyL_lit h)]; simp
  · rw [Maps.sameKey_ne (fun q => e (kyL_inj h g q))]; simp [e]
end Go.Proofs.Ytgclgmfmcgacdaa

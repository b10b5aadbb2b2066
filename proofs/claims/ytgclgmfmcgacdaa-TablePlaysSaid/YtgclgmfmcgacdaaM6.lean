/- Proved: lemmas of one statement's proof, merged by program: what each part proves stands ahead of it. Conditions: those that the lemmas name. -/
import Derived.Test.YtgclgmfmcgacdaaM1
import Derived.ArgAppend
import Derived.Below
import Derived.Deep.QuietTactic
import Derived.Test.YtgclgmfmcgacdaaM5
import Derived.Deep.OwnRows
import Derived.Deep.AppendLies
import Derived.Maps.AppendAt
import Derived.Maps.OwnSet
import Derived.Laws.AppendOwnNone

/- Plain lemmas on a block of memory that holds one value of some type (a struct behind a pointer): what its cells hold, what a store leaves, and that other calls leave it. No condition beyond those that each lemma names. -/
namespace Go.Proofs.Ytgclgmfmcgacdaa
open Go.ChangeShapes Go.WideShapes Go.ChangeAt Go.RowKit

/-- Block b holds the cells xs, of type t; they may be written. -/
def At (w : World) (b : Nat) (t : TypeId) (xs : List Value) : Prop := w.heap[b]? = some (.cells xs.toArray t (0, 0))
theorem At.lt {w : World} {b : Nat} {t : TypeId} {xs : List Value} (h : At w b t xs) : b < w.heap.size := (Array.getElem?_eq_some_iff.1 h).1
theorem At.cell {w : World} {b : Nat} {t : TypeId} {xs : List Value} (h : At w b t xs) (j : Nat) {v : Value} (hj : xs[j]? = some v) : w.cell? ⟨b, j, none⟩ = some v := by
  rw [cell_of_row w b j _ _ (0, 0) h]
  simpa using hj
theorem At.free {w : World} {b : Nat} {t : TypeId} {xs : List Value} (h : At w b t xs) (j : Nat) : w.frozen? ⟨b, j, none⟩ = false := by
  simp [World.frozen?, show w.heap[b]? = some (.cells xs.toArray t (0, 0)) from h]
theorem At.new (w : World) (t : TypeId) (xs : List Value) : At (w.alloc (.cells xs.toArray t)) w.heap.size t xs := heap_alloc_new w _
theorem At.block {w w' : World} {b : Nat} {t : TypeId} {xs : List Value} (h : At w b t xs) (e : w'.heap[b]? = w.heap[b]?) : At w' b t xs := e.trans h
theorem At.below {w w' : World} {B b : Nat} {t : TypeId} {xs : List Value} (h : At w b t xs) (hb : Below B w w') (hlt : b < B) : At w' b t xs := h.block (hb.block b hlt)
theorem At.kept {w w' : World} {b : Nat} {t : TypeId} {xs : List Value} (h : At w b t xs) {row : Option Nat} (hg : w.grownBy w' row) (hr : row ≠ some b) : At w' b t xs := h.block (hg.block b h.lt (fun e => hr e.symm))
theorem At.alloc {w : World} {b : Nat} {t : TypeId} {xs : List Value} (h : At w b t xs) (o : Obj) : At (w.alloc o) b t xs := h.block (Below.heap_alloc w o b h.lt)
theorem At.far {w : World} {b : Nat} {t : TypeId} {xs : List Value} (h : At w b t xs) {p : Addr} (hp : b ≠ p.block) (v : Value) : At (w.setCell p v) b t xs := h.block (Below.heap_setCell w p v b hp)
theorem At.set_ {w : World} {b : Nat} {t : TypeId} {xs : List Value} (h : At w b t xs) (j : Nat) (v : Value) : At (w.setCell ⟨b, j, none⟩ v) b t (xs.set j v) := by
  unfold At at h ⊢
  simp [World.setCell, Array.getElem?_modify, h]

theorem grown_refl (w : World) (row : Option Nat) : w.grownBy w row := ⟨rfl, rfl, rfl, Nat.le_refl _, fun _ _ _ => rfl⟩
theorem grown_trans2 {w w1 w2 : World} {row : Option Nat} (h : w.grownBy w1 row) (k : w1.grownBy w2 row) : w.grownBy w2 row :=
  ⟨k.os.trans h.os, k.tape.trans h.tape, k.output.trans h.output, Nat.le_trans h.size k.size, fun i hi hn => (k.block i (Nat.lt_of_lt_of_le hi h.size) hn).trans (h.block i hi hn)⟩
theorem grown_set (w : World) (p : Addr) (v : Value) : w.grownBy (w.setCell p v) (some p.block) :=
  ⟨rfl, rfl, rfl, by simp [World.setCell], fun i _ hn => Below.heap_setCell w p v i (fun e => hn (by rw [e]))⟩
theorem grown_drew (w : World) (row : Option Nat) : w.grownBy w.drew row := ⟨rfl, rfl, rfl, Nat.le_refl _, fun _ _ _ => rfl⟩
theorem grown_drewN (w : World) (q : Nat) (row : Option Nat) : w.grownBy (w.drewN q) row := ⟨rfl, rfl, rfl, Nat.le_refl _, fun _ _ _ => rfl⟩
theorem grown_below {w w' : World} (h : Below w.heap.size w w') (row : Option Nat) : w.grownBy w' row := ⟨h.os, h.tape, h.output, h.size, fun i hi _ => h.block i hi⟩
theorem below_grown {w w' : World} {row : Option Nat} {B : Nat} (h : w.grownBy w' row) (hB : B ≤ w.heap.size) (hr : ∀ k, row = some k → B ≤ k) : Below B w w' := (Below.refl B w).grown h hB hr
end Go.Proofs.Ytgclgmfmcgacdaa

/- Plain lemmas on memory that holds a table: what turns, rows of texts, a map from keys to pointers, a line of neighbours. No condition beyond those that each lemma names. -/
namespace Go.Proofs.Ytgclgmfmcgacdaa
open Go.ChangeShapes Go.WideShapes Go.ChangeAt Go.RowKit

/-! ### what turns -/
/-- Of what was there nothing has turned but blocks for which c holds. -/
structure Tn (c : Nat → Prop) (w w' : World) : Prop where
  os : w'.os = w.os
  tape : w'.tape = w.tape
  output : w'.output = w.output
  size : w.heap.size ≤ w'.heap.size
  block : ∀ i, i < w.heap.size → ¬ c i → w'.heap[i]? = w.heap[i]?
theorem Tn.refl (c : Nat → Prop) (w : World) : Tn c w w := ⟨rfl, rfl, rfl, Nat.le_refl _, fun _ _ _ => rfl⟩
theorem Tn.trans' {c d : Nat → Prop} {w w1 w2 : World} (h : Tn c w w1) (k : Tn d w1 w2) (hd : ∀ i, i < w.heap.size → d i → c i) : Tn c w w2 :=
  ⟨k.os.trans h.os, k.tape.trans h.tape, k.output.trans h.output, Nat.le_trans h.size k.size, fun i hi hn => (k.block i (Nat.lt_of_lt_of_le hi h.size) (fun e => hn (hd i hi e))).trans (h.block i hi hn)⟩
theorem Tn.trans {c : Nat → Prop} {w w1 w2 : World} (h : Tn c w w1) (k : Tn c w1 w2) : Tn c w w2 := h.trans' k fun _ _ e => e
theorem Tn.mono {c d : Nat → Prop} {w w' : World} (h : Tn c w w') (hd : ∀ i, i < w.heap.size → c i → d i) : Tn d w w' :=
  ⟨h.os, h.tape, h.output, h.size, fun i hi hn => h.block i hi (fun e => hn (hd i hi e))⟩
theorem tn_below {w w' : World} (c : Nat → Prop) (h : Below w.heap.size w w') : Tn c w w' := ⟨h.os, h.tape, h.output, h.size, fun i hi _ => h.block i hi⟩
theorem tn_grown {w w' : World} {c : Nat → Prop} {row : Option Nat} (h : w.grownBy w' row) (hr : ∀ g, row = some g → c g) : Tn c w w' := ⟨h.os, h.tape, h.output, h.size, fun i hi hn => h.block i hi (fun e => hn (hr i e.symm))⟩
theorem Tn.below {c : Nat → Prop} {w0 w w' : World} {B : Nat} (h : Tn c w w') (k : Below B w0 w) (hs : B ≤ w.heap.size) (hb : ∀ i, i < B → ¬ c i) : Below B w0 w' :=
  k.trans ⟨h.os, h.tape, h.output, by have := h.size; omega, fun i hi => h.block i (by omega) (hb i hi)⟩
theorem Tn.drew {c : Nat → Prop} {w w' : World} (h : Tn c w w') : Tn c w w'.drew := h.trans (tn_grown (grown_drew w' none) (by simp))
theorem Tn.drewN {c : Nat → Prop} {w w' : World} (h : Tn c w w') (q : Nat) : Tn c w (w'.drewN q) := h.trans (tn_grown (grown_drewN w' q none) (by simp))
theorem Tn.alloc {c : Nat → Prop} {w w' : World} (h : Tn c w w') (o : Obj) : Tn c w (w'.alloc o) := h.trans (tn_below c ((Below.refl _ _).alloc (Nat.le_refl _) o))
theorem Tn.set {c : Nat → Prop} {w w' : World} (h : Tn c w w') (p : Addr) (v : Value) (hp : p.block < w.heap.size → c p.block) : Tn c w (w'.setCell p v) :=
  h.trans' (tn_grown (c := fun i => i = p.block) (grown_set w' p v) (fun g e => by injection e with e; exact e.symm)) fun i hi e => by
    have e : i = p.block := e
    rw [e]; exact hp (by rw [← e]; exact hi)
theorem At.tn {c : Nat → Prop} {w w' : World} {b : Nat} {t : TypeId} {xs : List Value} (h : At w b t xs) (k : Tn c w w') (hc : ¬ c b) : At w' b t xs := h.block (k.block b h.lt hc)
/-- nothing at all. -/
abbrev Nil : Nat → Prop := fun _ => False

/-! ### rows of texts -/
theorem scells_one (l : List ByteArray) : ∀ u ∈ scells l, u.oneCell' = true := by
  intro u hu
  unfold scells at hu
  obtain ⟨x, _, rfl⟩ := List.mem_map.1 hu
  rfl
/-- The row v holds these texts; its block is one for which c holds. -/
def Sr (w : World) (c : Nat → Prop) (v : Value) (l : List ByteArray) : Prop := w.ownsRow 0 9 1 v l.length (scells l) ∧ ∀ g, v.ownBlock = some g → c g
theorem Sr.mono {w : World} {c d : Nat → Prop} {v : Value} {l : List ByteArray} (h : Sr w c v l) (hd : ∀ g, g < w.heap.size → c g → d g) : Sr w d v l := ⟨h.1, fun g e => hd g (h.1.lt g e).2 (h.2 g e)⟩
theorem Sr.tn {w w' : World} {c d : Nat → Prop} {v : Value} {l : List ByteArray} (h : Sr w c v l) (k : Tn d w w') (hd : ∀ g, g < w.heap.size → c g → ¬ d g) : Sr w' c v l := by
  refine ⟨⟨h.1.1, ?_⟩, h.2⟩
  rcases h.1.2 with hn | ⟨g, cap, cur, rfl, hb, hg, r⟩
  · exact .inl hn
  · have hl := (Array.getElem?_eq_some_iff.1 hg).1
    exact .inr ⟨g, cap, cur, rfl, hb, (k.block g hl (hd g hl (h.2 g rfl))).trans hg, r⟩
theorem Sr.form {w : World} {c : Nat → Prop} {v : Value} {l : List ByteArray} (h : Sr w c v l) (hn : 0 < l.length) :
    ∃ g cap cur, v = .slice (some ⟨g, 0, none⟩) l.length cap ∧ c g ∧ g < w.heap.size ∧ w.heap[g]? = some (.cells cur 9 (0, 0)) ∧ l.length ≤ cap ∧ cap ≤ maxLen ∧ cur.size = cap ∧ ∀ j, j < l.length → w.cell? ⟨g, j, none⟩ = some (.string (st_ l j)) := by
  rcases h.1.2 with ⟨_, h0⟩ | ⟨g, cap, cur, e, hb, hg, h1, h2, h3, h4⟩
  · omega
  · subst e
    refine ⟨g, cap, cur, rfl, h.2 g rfl, (Array.getElem?_eq_some_iff.1 hg).1, hg, h1, h2, by rw [h3]; omega, fun j hj => ?_⟩
    have := h.1.cells (g := g) rfl j (.string (st_ l j)) (scells_at l j hj)
    have e : (⟨g, 0, none⟩ : Addr).add j = ⟨g, j, none⟩ := by unfold Addr.add; split <;> simp_all
    rwa [e] at this
theorem Sr.cell {w : World} {c : Nat → Prop} {g n cap : Nat} {l : List ByteArray} (h : Sr w c (.slice (some ⟨g, 0, none⟩) n cap) l) {j : Nat} (hj : j < l.length) : w.cell? ⟨g, j, none⟩ = some (.string (st_ l j)) := by
  have := h.1.cells (g := g) rfl j (.string (st_ l j)) (scells_at l j hj)
  have e : (⟨g, 0, none⟩ : Addr).add j = ⟨g, j, none⟩ := by unfold Addr.add; split <;> simp_all
  rwa [e] at this
theorem sr_one (w : World) (x : ByteArray) : Sr (w.alloc (.cells #[.string x] 9)) (fun g => g = w.heap.size) (.slice (some ⟨w.heap.size, 0, none⟩) 1 1) [x] :=
  ⟨⟨rfl, .inr ⟨w.heap.size, 1, #[.string x], rfl, Nat.zero_le _, heap_alloc_new w _, Nat.le_refl _, by unfold maxLen; omega, rfl, rfl⟩⟩, fun g e => by simp [Value.ownBlock] at e; exact e.symm⟩

/-! ### the map -/
abbrev ptv (p : Nat) : Value := .pointer (some ⟨p, 0, none⟩)
abbrev PtD := DataW Unit
def ptD : Option Nat → PtD
  | none => .nil
  | some p => .lit (.int .i64 p)
def ptO : Option Nat → Value
  | none => .pointer none
  | some p => ptv p
def ptElem : Value → Option (PtD × List MemPlace)
  | .pointer none => some (.nil, [])
  | .pointer (some ⟨p, 0, none⟩) => some (.lit (.int .i64 p), [])
  | _ => none
theorem ptElem_mk (o : Option Nat) : ptElem (ptO o) = some (ptD o, []) := by cases o <;> rfl
theorem ptElem_form {v : Value} {y : PtD × List MemPlace} (h : ptElem v = some y) : ∃ o, v = ptO o := by
  unfold ptElem at h
  split at h
  · exact ⟨none, rfl⟩
  · rename_i p; exact ⟨some p, rfl⟩
  · cases h
theorem ptD_inj {a b : Option Nat} (h : ptD a = ptD b) : a = b := by
  cases a <;> cases b
  · rfl
  · simp [ptD] at h
  · simp [ptD] at h
  · rename_i x y
    simp [ptD] at h
    have : x = y := by omega
    rw [this]
theorem ptElem_inv {v : Value} {o : Option Nat} {ps : List MemPlace} (h : ptElem v = some (ptD o, ps)) : v = ptO o := by
  obtain ⟨o', rfl⟩ := ptElem_form h
  rw [ptElem_mk] at h
  injection h with h
  injection h with h _
  rw [ptD_inj h]
theorem pt_zero (w : World) : (zeroValue 60).run Try.prog w = .ok (.pointer none) w := by kernel_rfl
/-- What was read of the map is this function. -/
structure MqD (D : PtD) (f : Ky → Option Nat) (n : Nat) : Prop where
  has : ∀ k, KyOk k → Maps.has D (kyL k) = (f k).isSome
  val : ∀ k, KyOk k → D.atKey (kyL k) .nil = ptD (f k)
  num : Maps.size D = n
theorem MqD.congr {D : PtD} {f g : Ky → Option Nat} {n : Nat} (h : MqD D f n) (e : ∀ k, KyOk k → g k = f k) : MqD D g n :=
  ⟨fun k hk => by rw [e k hk]; exact h.has k hk, fun k hk => by rw [e k hk]; exact h.val k hk, h.num⟩
theorem MqD.del {D : PtD} {f : Ky → Option Nat} {n : Nat} (h : MqD D f (n + 1)) (hD : Maps.Tidy D) {k : Ky} (hk : KyOk k) (hf : (f k).isSome = true) : MqD (D.del (kyL k)) (fun i => if i = k then none else f i) n := by
  refine ⟨fun i hi => ?_, fun i hi => ?_, ?_⟩
  · by_cases e : i = k
    · subst e; rw [Maps.has_del_same, if_pos rfl]; rfl
    · rw [Maps.has_del_other (fun q => e (kyL_inj hi hk q)), h.has i hi, if_neg e]
  · by_cases e : i = k
    · subst e; rw [Maps.atKey_del_same, if_pos rfl]; rfl
    · rw [Maps.atKey_del_other (fun q => e (kyL_inj hi hk q)), h.val i hi, if_neg e]
  · have := Maps.size_del (k := kyL k) hD
    rw [h.has k hk, hf, h.num] at this
    simp at this
    omega
/-- Block m is a map from keys to pointers. -/
def Mq (w : World) (m : Nat) (f : Ky → Option Nat) (n : Nat) : Prop := ∃ D : PtD, w.ownsMap Try.prog 35 ptElem m n D ∧ MqD D f n
theorem Mq.lt {w : World} {m n : Nat} {f : Ky → Option Nat} (h : Mq w m f n) : m < w.heap.size := by
  obtain ⟨D, h, _⟩ := h
  exact h.lt
theorem Mq.congr {w : World} {m n : Nat} {f g : Ky → Option Nat} (h : Mq w m f n) (e : ∀ k, KyOk k → g k = f k) : Mq w m g n := by
  obtain ⟨D, h, hD⟩ := h
  exact ⟨D, h, hD.congr e⟩
theorem Mq.tn {w w' : World} {m n : Nat} {f : Ky → Option Nat} {c : Nat → Prop} (h : Mq w m f n) (k : Tn c w w') (hc : ¬ c m) : Mq w' m f n := by
  have hl := h.lt
  obtain ⟨D, ⟨es, clock, hb, r⟩, hD⟩ := h
  exact ⟨D, ⟨es, clock, (k.block m hl hc).trans hb, r⟩, hD⟩
theorem Mq.new (w : World) : Mq (w.alloc (.map #[] 0)) w.heap.size (fun _ => none) 0 := ⟨_, World.ownsMap_made w _ _ _, ⟨fun _ _ => rfl, fun _ _ => rfl, rfl⟩⟩
theorem mq_size {w : World} {m n : Nat} {D : PtD} (h : w.ownsMap Try.prog 35 ptElem m n D) : w.ownsMap Try.prog 35 ptElem m (Maps.size D) D := by
  obtain ⟨es, clock, hb, F, hs, rfl⟩ := h
  exact ⟨es, clock, hb, F, by simp [Maps.size, length_sorted], rfl⟩
theorem Mq.of {w : World} {m n n' : Nat} {f : Ky → Option Nat} {D : PtD} (h : w.ownsMap Try.prog 35 ptElem m n D) (hD : MqD D f n') : Mq w m f n' := ⟨D, by rw [← hD.num]; exact mq_size h, hD⟩
theorem mq_look {w : World} {m n : Nat} {f : Ky → Option Nat} (h : Mq w m f n) {k : Ky} (hk : KyOk k) :
    (Instr.lookup 66 (.map (some m)) (kyV k) false).run Try.prog w = .ok (ptO (f k)) w := by
  obtain ⟨D, h, hD⟩ := h
  obtain ⟨v, ps, hrun, hv⟩ := h.lookup ky_law Try.underlying66 (pt_zero w) (ptElem_mk none) (ky_key hk)
  rw [show ptD none = .nil from rfl, hD.val k hk] at hv
  rw [hrun, ptElem_inv hv]
theorem mq_put {w : World} {m n : Nat} {f : Ky → Option Nat} (h : Mq w m f n) (hn : n ≤ 65536) {k : Ky} (hk : KyOk k) (hf : f k = none) (p : Nat) :
    ∃ w', (Instr.mapUpdate 66 (.map (some m)) (kyV k) (ptv p)).run Try.prog w = .ok () w' ∧ Mq w' m (fun i => if i = k then some p else f i) (n + 1) ∧ w.grownBy w' (some m) := by
  obtain ⟨D, h, hD⟩ := h
  obtain ⟨w', hrun, ho, ht⟩ := h.store ky_law Try.underlying66 (by unfold maxLen; omega) (ky_key hk) (ptElem_mk (some p))
  have ht0 := h.tidy ky_law
  refine ⟨w', hrun, ⟨_, ho, fun i hi => ?_, fun i hi => ?_, ?_⟩, ht.grown⟩
  · by_cases e : i = k
    · subst e; rw [Maps.has_put_same ht0.isMap (kyL_lit hk), if_pos rfl]; rfl
    · rw [Maps.has_put_other (fun q => e (kyL_inj hi hk q)), hD.has i hi, if_neg e]
  · by_cases e : i = k
    · subst e; rw [Maps.atKey_put_same ht0.isMap (kyL_lit hk), if_pos rfl]
    · rw [Maps.atKey_put_other (fun q => e (kyL_inj hi hk q)), hD.val i hi, if_neg e]
  · rw [Maps.size_put ht0, hD.has k hk, hf, hD.num]; simp
theorem mq_del {w : World} {m n : Nat} {f : Ky → Option Nat} (h : Mq w m f (n + 1)) {k : Ky} (hk : KyOk k) (hf : (f k).isSome = true) (ty : TypeId) :
    ∃ w', (Builtin.delete_ #[66, 35] ty #[.map (some m), kyV k]).run Try.prog w = .ok (.tuple #[]) w' ∧ Mq w' m (fun i => if i = k then none else f i) n ∧ w.grownBy w' (some m) := by
  obtain ⟨D, h, hD⟩ := h
  obtain ⟨w', hrun, ho, ht⟩ := h.drop ky_law Try.underlying66 (ky_key hk) ty
  exact ⟨w', hrun, Mq.of ho (hD.del (h.tidy ky_law) hk hf), ht.grown⟩

/-! ### ranging over the map -/
/-- Block r goes through map m; p: those that are still to come; so many are. -/
def Rng (w : World) (m r : Nat) (f : Ky → Option Nat) (n : Nat) (p : Ky → Bool) (cnt : Nat) : Prop :=
  ∃ (D : PtD) (left : Lit → Bool) (n' : Nat), MqD D f n ∧ w.ranges Try.prog 35 ptElem m r n' D left cnt ∧ ∀ k, KyOk k → (f k).isSome = true → left (kyL k) = p k
theorem Rng.congr {w : World} {m r n : Nat} {f g : Ky → Option Nat} {p q : Ky → Bool} {cnt : Nat} (h : Rng w m r f n p cnt) (e : ∀ k, KyOk k → g k = f k) (e' : ∀ k, KyOk k → (f k).isSome = true → q k = p k) : Rng w m r g n q cnt := by
  obtain ⟨D, left, n', hD, hr, hl⟩ := h
  exact ⟨D, left, n', hD.congr e, hr, fun k hk hs => by rw [e k hk] at hs; rw [hl k hk hs, e' k hk hs]⟩
theorem Rng.mq {w : World} {m r n : Nat} {f : Ky → Option Nat} {p : Ky → Bool} {cnt : Nat} (h : Rng w m r f n p cnt) : Mq w m f n := by
  obtain ⟨D, left, n', hD, hr, _⟩ := h
  exact Mq.of hr.owns hD
theorem Rng.tn {w w' : World} {m r n : Nat} {f : Ky → Option Nat} {p : Ky → Bool} {cnt : Nat} {c : Nat → Prop} (h : Rng w m r f n p cnt) (k : Tn c w w') (hb : ¬ c m) (hr : ¬ c r) : Rng w' m r f n p cnt := by
  obtain ⟨D, left, n', hD, h, hp⟩ := h
  have hlm := h.owns.lt
  have hlr := h.lt
  obtain ⟨es, clock, since, seen, c0, hb', F, hs, e1, hr', rest⟩ := h
  exact ⟨D, left, n', hD, ⟨es, clock, since, seen, c0, (k.block m hlm hb).trans hb', F, hs, e1, (k.block r hlr hr).trans hr', rest⟩, hp⟩
theorem Rng.left_eq {w : World} {m r n : Nat} {f : Ky → Option Nat} {p : Ky → Bool} {cnt : Nat} (h : Rng w m r f n p cnt) : w.rangeLeft m r = cnt := by
  obtain ⟨D, left, n', hD, h, hp⟩ := h
  exact h.left_eq
theorem Rng.lt {w : World} {m r n : Nat} {f : Ky → Option Nat} {p : Ky → Bool} {cnt : Nat} (h : Rng w m r f n p cnt) : r < w.heap.size := by
  obtain ⟨D, left, n', hD, h, hp⟩ := h
  exact h.lt
theorem Rng.no_cell {w : World} {m r n : Nat} {f : Ky → Option Nat} {p : Ky → Bool} {cnt : Nat} (h : Rng w m r f n p cnt) {xs : Array Value} {t : TypeId} {z : Nat × Nat} {g : Nat} (hg : w.heap[g]? = some (.cells xs t z)) : g ≠ m ∧ g ≠ r := by
  obtain ⟨D, left, n', hD, ⟨es, clock, since, seen, c0, hb, _, _, _, hr, _⟩, hp⟩ := h
  constructor
  · intro e
    rw [e, hb] at hg
    cases hg
  · intro e
    rw [e, hr] at hg
    cases hg
section
variable (w : World) {ops : Array Oper} {rest : List Oper} {o : Oper} {a : Act} {Q : Exit → Act → World → Prop}
/-- 'range m'. -/
theorem rng_start (hg : o.guard = none) (m : Operand) (hop : o.op = Op.range 66 m) (b : Nat) (f : Ky → Option Nat) (n : Nat) (hm : a.eval m = .map (some b)) (hown : Mq w b f n)
    (hK : ∀ w', Rng w' b w.heap.size f n (fun _ => true) n → w.grownBy w' none → w'.heap.size = w.heap.size + 1 → wpList Try.prog ops Q rest (a.put o.dst (.pointer (some ⟨w.heap.size, 0, none⟩))) w') :
    wpList Try.prog ops Q (o :: rest) a w := by
  obtain ⟨D, ho, hD⟩ := hown
  refine wpList_range_own w hg m _ hop _ _ ky_law Try.underlying66 _ b _ D hm ho ?_
  intro w' hr hgr hs
  rw [hD.num] at hr
  exact hK w' ⟨D, _, _, hD, hr, fun k hk hs => by rw [hD.has _ hk, hs]⟩ hgr hs
/-- The step. -/
theorem rng_next (hg : o.guard = none) (it : Operand) (hop : o.op = Op.next it false) (b r n : Nat) (f : Ky → Option Nat) (p : Ky → Bool) (cnt : Nat) (hit : a.eval it = .pointer (some ⟨r, 0, none⟩)) (h : Rng w b r f n p cnt)
    (hDone : (∀ k, KyOk k → (f k).isSome = true → p k = false) → wpList Try.prog ops Q rest (a.put o.dst (.tuple #[.bool false])) w)
    (hMore : ∀ (k0 k1 : Int) (q : Nat) (w' : World) (cnt' : Nat), KyOk (k0, k1) → f (k0, k1) = some q → p (k0, k1) = true → Rng w' b r f n (fun y => p y && !decide (y = (k0, k1))) cnt' → cnt' < cnt → w.grownBy w' (some r) → w'.heap.size = w.heap.size →
      (Instr.entry (.pointer (some ⟨r, 0, none⟩))).run Try.prog w' = .ok (.tuple #[.agg #[.int .i64 k0, .int .u32 k1], ptv q]) w' → wpList Try.prog ops Q rest (a.put o.dst (.tuple #[.bool true, .agg #[.int .i64 k0, .int .u32 k1], ptv q])) w') :
    wpList Try.prog ops Q (o :: rest) a w := by
  obtain ⟨D, left, n', hD, hr, hp⟩ := h
  refine wpList_next_ranges w hg it hop 35 ky_law ptElem kyV ptO (fun key kl hk => by obtain ⟨k, e, _, _⟩ := ky_inv hk; exact ⟨k, e⟩) (fun v y hv => ptElem_form hv) b r n' D left cnt hit hr ?_ ?_
  · intro _ hd
    exact hDone fun k hk hs => by rw [← hp k hk hs]; exact hd _
  · intro k c kl y w' cnt' hkey hlk hv hat hrg hlt hgr hsz hen
    obtain ⟨k', e, rfl, hk⟩ := ky_inv hkey
    have e' : k = k' := by
      simp at e
      exact Prod.ext e.1 e.2
    subst e'
    have hh := hD.has k hk
    rw [Maps.has_true_of_atKey hat] at hh
    have hvv := hD.val k hk
    rw [hat] at hvv
    rw [ptElem_mk] at hv
    injection hv with hv
    rw [← hv] at hvv
    have hc : c = f k := ptD_inj hvv
    subst hc
    obtain ⟨q, hq⟩ := Option.isSome_iff_exists.1 hh.symm
    rw [hq] at hen ⊢
    refine hMore k.1 k.2 q w' cnt' hk hq (by rw [← hp k hk hh.symm]; exact hlk) ⟨D, _, n', hD, hrg, fun z hz hzs => ?_⟩ hlt hgr hsz hen
    show (left (kyL z) && !(kyL z).sameKey (kyL k)) = _
    rw [hp z hz hzs, kyL_same hz hk]
end
/-- 'delete(m, k)' of one that has come, as a run equation. -/
theorem rng_del {w : World} {b r n : Nat} {f : Ky → Option Nat} {p : Ky → Bool} {cnt : Nat} (h : Rng w b r f (n + 1) p cnt) {k : Ky} (hk : KyOk k) (hf : (f k).isSome = true) (ty : TypeId) :
    ∃ w' cnt', (Builtin.delete_ #[66, 35] ty #[.map (some b), kyV k]).run Try.prog w = .ok (.tuple #[]) w' ∧ Rng w' b r (fun i => if i = k then none else f i) n p cnt' ∧ cnt' ≤ cnt ∧ w.grownBy w' (some b) := by
  obtain ⟨D, left, n', hD, hr, hp⟩ := h
  obtain ⟨w', cnt', hrun, hr', hle, ht⟩ := hr.drop ky_law Try.underlying66 (ky_key hk) ty
  refine ⟨w', cnt', hrun, ⟨_, _, n', hD.del (hr.owns.tidy ky_law) hk hf, hr', fun z hz hs => ?_⟩, hle, ht.grown⟩
  have hne : z ≠ k := fun e => by subst e; simp at hs
  have hs : (f z).isSome = true := by simpa [hne] using hs
  show (left (kyL z) && !(kyL z).sameKey (kyL k)) = _
  rw [hp z hz hs, kyL_same hz hk]
  simp [hne]

/-! ### rows of pointers -/
theorem infoPt : (Try.prog.info? 60).map (fun i => (i.zero, i.size, i.bytes)) = some (some (.pointer none), 1, 8) := by kernel_rfl
theorem ptcells_one (l : List Nat) : ∀ u ∈ l.map ptv, u.oneCell' = true := by
  intro u hu
  obtain ⟨x, _, rfl⟩ := List.mem_map.1 hu
  rfl
/-- The row v holds pointers to these blocks; its block is one for which c holds. -/
def Rr (w : World) (c : Nat → Prop) (v : Value) (ps : List Nat) : Prop := w.ownsRow 0 60 1 v ps.length (ps.map ptv) ∧ ∀ g, v.ownBlock = some g → c g
theorem Rr.nil (w : World) (c : Nat → Prop) : Rr w c (.slice none 0 0) [] := ⟨World.ownsRow_nil _ _ _ _, fun g e => by simp [Value.ownBlock] at e⟩
theorem Rr.mono {w : World} {c d : Nat → Prop} {v : Value} {ps : List Nat} (h : Rr w c v ps) (hd : ∀ g, g < w.heap.size → c g → d g) : Rr w d v ps := ⟨h.1, fun g e => hd g (h.1.lt g e).2 (h.2 g e)⟩
theorem Rr.tn {w w' : World} {c d : Nat → Prop} {v : Value} {ps : List Nat} (h : Rr w c v ps) (k : Tn d w w') (hd : ∀ g, g < w.heap.size → c g → ¬ d g) : Rr w' c v ps := by
  refine ⟨⟨h.1.1, ?_⟩, h.2⟩
  rcases h.1.2 with hn | ⟨g, cap, cur, rfl, hb, hg, r⟩
  · exact .inl hn
  · have hl := (Array.getElem?_eq_some_iff.1 hg).1
    exact .inr ⟨g, cap, cur, rfl, hb, (k.block g hl (hd g hl (h.2 g rfl))).trans hg, r⟩
theorem Rr.len {w : World} {c : Nat → Prop} {v : Value} {ps : List Nat} (h : Rr w c v ps) : ∃ A cap, v = .slice A ps.length cap := by
  rcases h.1.2 with ⟨rfl, h0⟩ | ⟨g, cap, cur, rfl, _⟩
  · exact ⟨_, _, by rw [h0]⟩
  · exact ⟨_, _, rfl⟩
/-- its cells. -/
theorem Rr.cell {w : World} {c : Nat → Prop} {A : Option Addr} {n cap : Nat} {ps : List Nat} (h : Rr w c (.slice A n cap) ps) (hn : 0 < ps.length) : ∃ g, A = some ⟨g, 0, none⟩ ∧ c g ∧ n = ps.length ∧ n ≤ cap ∧ ∀ j, j < ps.length → w.cell? ⟨g, j, none⟩ = some (ptv (ps.getD j 0)) := by
  rcases h.1.2 with ⟨_, h0⟩ | ⟨g, cap', cur, e, hb, hg, h1, h2, h3, h4⟩
  · omega
  · injection e with e1 e2 e3
    subst e1; subst e2; subst e3
    refine ⟨g, rfl, h.2 g rfl, rfl, h1, fun j hj => ?_⟩
    have := h.1.cells (g := g) rfl j (ptv (ps.getD j 0)) (by rw [List.getElem?_map, List.getElem?_eq_getElem hj, List.getD_eq_getElem?_getD, List.getElem?_eq_getElem hj]; rfl)
    have e : (⟨g, 0, none⟩ : Addr).add j = ⟨g, j, none⟩ := by unfold Addr.add; split <;> simp_all
    rwa [e] at this
theorem rr_one (w : World) (p : Nat) : Rr (w.alloc (.cells #[ptv p] 60)) (fun g => g = w.heap.size) (.slice (some ⟨w.heap.size, 0, none⟩) 1 1) [p] :=
  ⟨⟨rfl, .inr ⟨w.heap.size, 1, #[ptv p], rfl, Nat.zero_le _, heap_alloc_new w _, Nat.le_refl _, by unfold maxLen; omega, rfl, rfl⟩⟩, fun g e => by simp [Value.ownBlock] at e; exact e.symm⟩
/-- more pointers. -/
theorem Rr.append {w : World} {c : Nat → Prop} {v : Value} {ps : List Nat} (h : Rr w c v ps) (qs : List Nat) (hq : 0 < qs.length) (hn : ps.length + qs.length ≤ 65536) (a : Addr) (hc : ∀ j, j < qs.length → w.cell? (a.add j) = some (ptv (qs.getD j 0))) (cp : Nat) (ty : TypeId) :
    ∃ v' w' g, (Builtin.append_ #[91, 91] ty #[v, .slice (some a) qs.length cp]).run Try.prog w = .ok v' w' ∧ Rr w' (fun i => i = g) v' (ps ++ qs) ∧ (c g ∨ w.heap.size ≤ g) ∧ Tn c w w' := by
  obtain ⟨i, hi, hz0, hz1, hz2⟩ := info_parts infoPt
  have ht := Try.underlying91
  have hnews : ∀ j u, (qs.map ptv)[j]? = some u → w.cell? (a.add j) = some u := fun j u hj => by
    have hl := (List.getElem?_eq_some_iff.1 hj).1
    rw [List.length_map] at hl
    rw [List.getElem?_map, List.getElem?_eq_getElem hl] at hj
    have := hc j hl
    rw [List.getD_eq_getElem?_getD, List.getElem?_eq_getElem hl] at this
    rw [this, ← hj]; rfl
  obtain ⟨g, cap, w', hr, h2, h3, h4, h5⟩ := run_append_lies (P := Try.prog) w _ ty 0 _ i _ 1 8 ht hi hz0 hz1 hz2 rfl (by omega) v ps.length _ h.1 a qs.length cp (qs.map ptv) (by simp) hnews (ptcells_one _) (by omega) (by unfold maxLen; omega) (by omega) (Nat.zero_le _) w.heap.size rfl
  rw [← List.map_append] at h2
  refine ⟨_, w', g, hr, ⟨by rw [List.length_append]; exact h2, fun g' e => by simp [Value.ownBlock] at e; exact e.symm⟩, ?_, tn_grown h3 h.2⟩
  rcases h4 with h4 | h4
  · exact .inl (h.2 g h4)
  · exact .inr (by omega)

/-! ### the line -/
/-- from a on through these up to z each is the other's neighbour. -/
def Ch (ah bh : Nat → Option Nat) : Nat → List Nat → Nat → Prop
  | a, [], z => bh a = some z ∧ ah z = some a
  | a, b :: r, z => (bh a = some b ∧ ah b = some a) ∧ Ch ah bh b r z
end Go.Proofs.Ytgclgmfmcgacdaa

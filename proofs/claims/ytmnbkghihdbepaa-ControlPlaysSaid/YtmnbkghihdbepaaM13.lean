/- Proved: lemmas of one statement's proof, merged by program: what each part proves stands ahead of it. Conditions: those that the lemmas name. -/
import Derived.Test.YtmnbkghihdbepaaM2
import Derived.Deep.OwnRows
import Derived.Deep.AppendLies
import Derived.Maps.AppendAt
import Derived.Laws.AppendOwnNone
import Derived.Test.YtmnbkghihdbepaaM12
import Derived.Maps.OwnSet

/- Plain lemmas on what turns in memory. No condition beyond those that each lemma names. -/
namespace Go.Proofs.Ytmnbkghihdbepaa
open Go.ChangeShapes Go.WideShapes Go.ChangeAt Go.RowKit

/-! ### what turns -/
/-- Of what was there nothing has turned but blocks for which c holds. -/
structure Tn (c : Nat → Prop) (w w' : World) : Prop where
  os : w'.os = w.os
  tape : w'.tape = w.tape
  output : w'.output = w.output
  size : w.heap.size ≤ w'.heap.size
  block : ∀ i, i < w.heap.size → ¬ c i → w'.heap[i]? = w.heap[i]?
theorem Tn.refl (c : Nat → Prop) (w : World) : Tn c w w := ⟨rfl, rfl, rfl, Nat.le_refl _, fun _ _ _ => rfl⟩
theorem Tn.trans' {c d : Nat → Prop} {w w1 w2 : World} (h : Tn c w w1) (k : Tn d w1 w2) (hd : ∀ i, i < w.heap.size → d i → c i) : Tn c w w2 :=
  ⟨k.os.trans h.os, k.tape.trans h.tape, k.output.trans h.output, Nat.le_trans h.size k.size, fun i hi hn => (k.block i (Nat.lt_of_lt_of_le hi h.size) (fun e => hn (hd i hi e))).trans (h.block i hi hn)⟩
theorem Tn.trans {c : Nat → Prop} {w w1 w2 : World} (h : Tn c w w1) (k : Tn c w1 w2) : Tn c w w2 := h.trans' k fun _ _ e => e
theorem Tn.mono {c d : Nat → Prop} {w w' : World} (h : Tn c w w') (hd : ∀ i, i < w.heap.size → c i → d i) : Tn d w w' :=
  ⟨h.os, h.tape, h.output, h.size, fun i hi hn => h.block i hi (fun e => hn (hd i hi e))⟩
theorem tn_below {w w' : World} (c : Nat → Prop) (h : Below w.heap.size w w') : Tn c w w' := ⟨h.os, h.tape, h.output, h.size, fun i hi _ => h.block i hi⟩
theorem tn_grown {w w' : World} {c : Nat → Prop} {row : Option Nat} (h : w.grownBy w' row) (hr : ∀ g, row = some g → c g) : Tn c w w' := ⟨h.os, h.tape, h.output, h.size, fun i hi hn => h.block i hi (fun e => hn (hr i e.symm))⟩
theorem Tn.below {c : Nat → Prop} {w0 w w' : World} {B : Nat} (h : Tn c w w') (k : Below B w0 w) (hs : B ≤ w.heap.size) (hb : ∀ i, i < B → ¬ c i) : Below B w0 w' :=
  k.trans ⟨h.os, h.tape, h.output, by have := h.size; omega, fun i hi => h.block i (by omega) (hb i hi)⟩
theorem Tn.drew {c : Nat → Prop} {w w' : World} (h : Tn c w w') : Tn c w w'.drew := h.trans (tn_grown (grown_drew w' none) (by simp))
theorem Tn.drewN {c : Nat → Prop} {w w' : World} (h : Tn c w w') (q : Nat) : Tn c w (w'.drewN q) := h.trans (tn_grown (grown_drewN w' q none) (by simp))
theorem Tn.alloc {c : Nat → Prop} {w w' : World} (h : Tn c w w') (o : Obj) : Tn c w (w'.alloc o) := h.trans (tn_below c ((Below.refl _ _).alloc (Nat.le_refl _) o))
theorem Tn.set {c : Nat → Prop} {w w' : World} (h : Tn c w w') (p : Addr) (v : Value) (hp : p.block < w.heap.size → c p.block) : Tn c w (w'.setCell p v) :=
  h.trans' (tn_grown (c := fun i => i = p.block) (grown_set w' p v) (fun g e => by injection e with e; exact e.symm)) fun i hi e => by
    have e : i = p.block := e
    rw [e]; exact hp (by rw [← e]; exact hi)
theorem At.tn {c : Nat → Prop} {w w' : World} {b : Nat} {t : TypeId} {xs : List Value} (h : At w b t xs) (k : Tn c w w') (hc : ¬ c b) : At w' b t xs := h.block (k.block b h.lt hc)
/-- nothing at all. -/
abbrev Nil : Nat → Prop := fun _ => False

theorem bel_drewN {B : Nat} {w w' : World} (h : Below B w w') (hs : B ≤ w.heap.size) (q : Nat) : Below B w (w'.drewN q) := h.grown (grown_drewN _ _ none) (Nat.le_trans hs h.size) (by simp)
end Go.Proofs.Ytmnbkghihdbepaa

/- Plain lemmas on a map from what datagrams speak of to pointers. No condition beyond those that each lemma names. -/
namespace Go.Proofs.Ytmnbkghihdbepaa
open Go.ChangeShapes Go.WideShapes Go.ChangeAt Go.RowKit

abbrev ptv (p : Nat) : Value := .pointer (some ⟨p, 0, none⟩)
abbrev PtD := DataW Unit
def ptD : Option Nat → PtD
  | none => .nil
  | some p => .lit (.int .i64 p)
def ptO : Option Nat → Value
  | none => .pointer none
  | some p => ptv p
def ptElem : Value → Option (PtD × List MemPlace)
  | .pointer none => some (.nil, [])
  | .pointer (some ⟨p, 0, none⟩) => some (.lit (.int .i64 p), [])
  | _ => none
theorem ptElem_mk (o : Option Nat) : ptElem (ptO o) = some (ptD o, []) := by cases o <;> rfl
theorem ptElem_inv {v : Value} {o : Option Nat} {ps : List MemPlace} (h : ptElem v = some (ptD o, ps)) : v = ptO o := by
  unfold ptElem at h
  split at h
  · cases o with
    | none => rfl
    | some p => simp [ptD] at h
  · rename_i p
    cases o with
    | none => simp [ptD] at h
    | some q =>
      simp [ptD] at h
      have : p = q := by omega
      subst this; rfl
  · cases h
theorem pt_zero (w : World) : (zeroValue 56).run Try.prog w = .ok (.pointer none) w := by kernel_rfl
/-- What was read of the map is this function. -/
structure MqD (D : PtD) (f : Sk → Option Nat) (n : Nat) : Prop where
  has : ∀ k, SkOk k → Maps.has D (skL k) = (f k).isSome
  val : ∀ k, SkOk k → D.atKey (skL k) .nil = ptD (f k)
  num : Maps.size D = n
theorem MqD.congr {D : PtD} {f g : Sk → Option Nat} {n : Nat} (h : MqD D f n) (e : ∀ k, SkOk k → g k = f k) : MqD D g n :=
  ⟨fun k hk => by rw [e k hk]; exact h.has k hk, fun k hk => by rw [e k hk]; exact h.val k hk, h.num⟩
/-- Block m is a map from keys to pointers. -/
def Mq (w : World) (m : Nat) (f : Sk → Option Nat) (n : Nat) : Prop := ∃ D : PtD, w.ownsMap Try.prog 54 ptElem m n D ∧ MqD D f n
theorem Mq.lt {w : World} {m n : Nat} {f : Sk → Option Nat} (h : Mq w m f n) : m < w.heap.size := by
  obtain ⟨D, h, _⟩ := h
  exact h.lt
theorem Mq.congr {w : World} {m n : Nat} {f g : Sk → Option Nat} (h : Mq w m f n) (e : ∀ k, SkOk k → g k = f k) : Mq w m g n := by
  obtain ⟨D, h, hD⟩ := h
  exact ⟨D, h, hD.congr e⟩
theorem Mq.tn {w w' : World} {m n : Nat} {f : Sk → Option Nat} {c : Nat → Prop} (h : Mq w m f n) (k : Tn c w w') (hc : ¬ c m) : Mq w' m f n := by
  have hl := h.lt
  obtain ⟨D, ⟨es, clock, hb, r⟩, hD⟩ := h
  exact ⟨D, ⟨es, clock, (k.block m hl hc).trans hb, r⟩, hD⟩
theorem Mq.no_cell {w : World} {m n : Nat} {f : Sk → Option Nat} (h : Mq w m f n) {b : Nat} {t : TypeId} {xs : List Value} (k : At w b t xs) : b ≠ m := by
  intro e
  subst e
  obtain ⟨D, ⟨es, clock, hb, r⟩, hD⟩ := h
  rw [show w.heap[b]? = some (.cells xs.toArray t (0, 0)) from k] at hb
  cases hb
theorem Mq.no_row {w : World} {m n : Nat} {f : Sk → Option Nat} (h : Mq w m f n) {b : Nat} {t : TypeId} {cur : Array Value} {z : Nat × Nat} (k : w.heap[b]? = some (.cells cur t z)) : b ≠ m := by
  intro e
  subst e
  obtain ⟨D, ⟨es, clock, hb, r⟩, hD⟩ := h
  rw [k] at hb
  cases hb
theorem Mq.new (w : World) : Mq (w.alloc (.map #[] 0)) w.heap.size (fun _ => none) 0 := ⟨_, World.ownsMap_made w _ _ _, ⟨fun _ _ => rfl, fun _ _ => rfl, rfl⟩⟩
theorem mq_size {w : World} {m n : Nat} {D : PtD} (h : w.ownsMap Try.prog 54 ptElem m n D) : w.ownsMap Try.prog 54 ptElem m (Maps.size D) D := by
  obtain ⟨es, clock, hb, F, hs, rfl⟩ := h
  exact ⟨es, clock, hb, F, by simp [Maps.size, length_sorted], rfl⟩
theorem Mq.of {w : World} {m n n' : Nat} {f : Sk → Option Nat} {D : PtD} (h : w.ownsMap Try.prog 54 ptElem m n D) (hD : MqD D f n') : Mq w m f n' := ⟨D, by rw [← hD.num]; exact mq_size h, hD⟩
theorem mq_look {w : World} {m n : Nat} {f : Sk → Option Nat} (h : Mq w m f n) {k : Sk} (hk : SkOk k) :
    (Instr.lookup 47 (.map (some m)) (skV k) false).run Try.prog w = .ok (ptO (f k)) w := by
  obtain ⟨D, h, hD⟩ := h
  obtain ⟨v, ps, hrun, hv⟩ := h.lookup sk_law Try.underlying47 (pt_zero w) (ptElem_mk none) (sk_key hk)
  rw [show ptD none = .nil from rfl, hD.val k hk] at hv
  rw [hrun, ptElem_inv hv]
theorem mq_put {w : World} {m n : Nat} {f : Sk → Option Nat} (h : Mq w m f n) (hn : n ≤ 65536) {k : Sk} (hk : SkOk k) (hf : f k = none) (p : Nat) :
    ∃ w', (Instr.mapUpdate 47 (.map (some m)) (skV k) (ptv p)).run Try.prog w = .ok () w' ∧ Mq w' m (fun i => if i = k then some p else f i) (n + 1) ∧ w.grownBy w' (some m) := by
  obtain ⟨D, h, hD⟩ := h
  obtain ⟨w', hrun, ho, ht⟩ := h.store sk_law Try.underlying47 (by unfold maxLen; omega) (sk_key hk) (ptElem_mk (some p))
  have ht0 := h.tidy sk_law
  refine ⟨w', hrun, ⟨_, ho, fun i hi => ?_, fun i hi => ?_, ?_⟩, ht.grown⟩
  · by_cases e : i = k
    · subst e; rw [Maps.has_put_same ht0.isMap (skL_lit hk), if_pos rfl]; rfl
    · rw [Maps.has_put_other (fun q => e (skL_inj hi hk q)), hD.has i hi, if_neg e]
  · by_cases e : i = k
    · subst e; rw [Maps.atKey_put_same ht0.isMap (skL_lit hk), if_pos rfl]
    · rw [Maps.atKey_put_other (fun q => e (skL_inj hi hk q)), hD.val i hi, if_neg e]
  · rw [Maps.size_put ht0, hD.has k hk, hf, hD.num]; simp
theorem mq_del {w : World} {m n : Nat} {f : Sk → Option Nat} (h : Mq w m f (n + 1)) {k : Sk} (hk : SkOk k) (hf : (f k).isSome = true) (ty : TypeId) :
    ∃ w', (Builtin.delete_ #[47, 54] ty #[.map (some m), skV k]).run Try.prog w = .ok (.tuple #[]) w' ∧ Mq w' m (fun i => if i = k then none else f i) n ∧ w.grownBy w' (some m) := by
  obtain ⟨D, h, hD⟩ := h
  obtain ⟨w', hrun, ho, ht⟩ := h.drop sk_law Try.underlying47 (sk_key hk) ty
  have hD0 := h.tidy sk_law
  refine ⟨w', hrun, Mq.of ho ⟨fun i hi => ?_, fun i hi => ?_, ?_⟩, ht.grown⟩
  · by_cases e : i = k
    · subst e; rw [Maps.has_del_same, if_pos rfl]; rfl
    · rw [Maps.has_del_other (fun q => e (skL_inj hi hk q)), hD.has i hi, if_neg e]
  · by_cases e : i = k
    · subst e; rw [Maps.atKey_del_same, if_pos rfl]; rfl
    · rw [Maps.atKey_del_other (fun q => e (skL_inj hi hk q)), hD.val i hi, if_neg e]
  · have := Maps.size_del (k := skL k) hD0
    rw [hD.has k hk, hf, hD.num] at this
    simp at this
    omega
end Go.Proofs.Ytmnbkghihdbepaa

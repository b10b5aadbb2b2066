/- Proved: lemmas of one statement's proof, merged by program: what each part proves stands ahead of it. Conditions: those that the lemmas name. -/
import Derived.Test.YtedecminaopgaaaM21
import Derived.Test.YtedecminaopgaaaM11
import Derived.Test.YtedecminaopgaaaM20
import Derived.Test.YtedecminaopgaaaM18
import Derived.Deep.MidRow

/- Plain lemmas on the document's state of what a stream takes, in memory. No condition beyond those that each lemma names. -/
namespace Go.Proofs.Ytedecminaopgaaa
open Go.ChangeShapes Go.WideShapes Go.ChangeAt Go.RowKit

/-- where its slices lie. -/
structure RiP where
  oA : Option Addr
  om : Nat
  oc : Nat
  sA : Option Addr
  sm : Nat
  sc : Nat
/-- the document's state, as cells. -/
def ri (c : Cf) (M : IbM) (p : RiP) : List Value := [.int .i64 c.k, .int .i64 c.r, .int .i64 c.s, .int .i64 c.w, .int .i64 c.b, .int .i64 c.q, .int .i64 c.u, .int .i64 c.t, .int .i64 c.o, .int .i64 c.x, .int .i64 c.i, .int .u32 M.B, .int .i64 M.n, .slice p.oA p.om p.oc, .slice p.sA p.sm p.sc, .string M.s, .int .u32 M.fi, .bool M.hf]
def riV (c : Cf) (M : IbM) (p : RiP) : Value := .agg (ri c M p).toArray
/-- nothing, as cells. -/
def riZ : List Value := [.int .i64 0, .int .i64 0, .int .i64 0, .int .i64 0, .int .i64 0, .int .i64 0, .int .i64 0, .int .i64 0, .int .i64 0, .int .i64 0, .int .i64 0, .int .u32 0, .int .i64 0, .slice none 0 0, .slice none 0 0, .string S0, .int .u32 0, .bool false]
theorem ri_len (c : Cf) (M : IbM) (p : RiP) : (ri c M p).length = 18 := rfl
theorem ri_one (c : Cf) (M : IbM) (p : RiP) : ∀ v ∈ ri c M p, v.oneCell' = true := by
  intro v hv
  unfold ri at hv
  simp only [List.mem_cons, List.not_mem_nil, or_false] at hv
  rcases hv with rfl | rfl | rfl | rfl | rfl | rfl | rfl | rfl | rfl | rfl | rfl | rfl | rfl | rfl | rfl | rfl | rfl | rfl <;> rfl
/-- the box's type. -/
abbrev tI : TypeId := 38
theorem tI_size : (Try.prog.info? tI).map (·.size) = some 18 := by kernel_rfl
/-- cells, stored behind one another. -/
theorem At.sets {w : World} {b : Nat} {t : TypeId} {pre old post vs : List Value} (h : At w b t (pre ++ old ++ post)) (hl : old.length = vs.length) : At (w.setCells b pre.length vs) b t (pre ++ vs ++ post) := by
  induction vs generalizing w pre old with
  | nil =>
    have : old = [] := List.eq_nil_of_length_eq_zero hl
    subst this
    exact h
  | cons v vs ih =>
    cases old with
    | nil => simp at hl
    | cons u old =>
      rw [World.setCells]
      have h1 := h.set_ pre.length v
      have e1 : (pre ++ u :: old ++ post).set pre.length v = (pre ++ [v]) ++ old ++ post := by
        rw [List.append_assoc, List.set_append_right _ _ (Nat.le_refl _), Nat.sub_self]
        simp
      rw [e1] at h1
      have h2 := ih (pre := pre ++ [v]) h1 (by simpa using hl)
      rw [List.length_append] at h2
      have e2 : pre ++ v :: vs ++ post = pre ++ [v] ++ vs ++ post := by simp
      rw [e2]
      exact h2
theorem tn_sets (w : World) (b : Nat) (vs : List Value) (o : Nat) : Tn (fun i => i = b) w (w.setCells b o vs) := by
  induction vs generalizing w o with
  | nil => exact Tn.refl _ _
  | cons v vs ih =>
    rw [World.setCells]
    exact ((Tn.refl (fun i => i = b) w).set ⟨b, o, none⟩ v (fun _ => rfl)).trans (ih _ _)
theorem At.all_ {w : World} {b : Nat} {t : TypeId} {old : List Value} (h : At w b t old) (vs : List Value) (hl : old.length = vs.length) : At (w.setCells b 0 vs) b t vs := by
  have := At.sets (pre := []) (post := []) (vs := vs) (old := old) (by simpa using h) hl
  simpa using this
theorem At.there {w : World} {b : Nat} {t : TypeId} {xs : List Value} (h : At w b t xs) {n : Nat} (hn : xs.length = n) : w.there b 0 n := fun j hj => by
  refine ⟨?_, ?_⟩
  · rw [Nat.zero_add, h.cell j (List.getElem?_eq_getElem (by omega))]; rfl
  · rw [Nat.zero_add]; exact h.free j
theorem At.range {w : World} {b : Nat} {t : TypeId} {xs : List Value} (h : At w b t xs) : w.rangeAt b 0 xs := fun j v hj => by
  rw [Nat.zero_add]; exact h.cell j hj

/-! ### its operations -/
section
variable {ops : Array Oper} {rest : List Oper} {op : Oper} {a : Act} {w : World} {Q : Exit → Act → World → Prop} {c : Cf} {M : IbM} {p : RiP} {b : Nat}
/-- AT THE OPERATION: the state is loaded. -/
theorem wpi_load (hgd : op.guard = none) (x : Operand) (ho : op.op = .load tI x) (hx : a.eval x = .pointer (some ⟨b, 0, none⟩)) (hA : At w b tI (ri c M p))
    (h : wpList Try.prog ops Q rest (a.put op.dst (riV c M p)) w) : wpList Try.prog ops Q (op :: rest) a w :=
  wpList_load_mid hgd tI x ho b 0 hx (ri c M p) _ hA.range Try.underlying38 rfl (by rw [ri_len]; exact tI_size) h
/-- AT THE OPERATION: a state is stored. -/
theorem wpi_store (hgd : op.guard = none) (x y : Operand) (ho : op.op = .store tI x y) (hx : a.eval x = .pointer (some ⟨b, 0, none⟩)) (hy : a.eval y = riV c M p) {old : List Value} (hA : At w b tI old) (hl : old.length = 18)
    (h : ∀ w', At w' b tI (ri c M p) → Tn (fun i => i = b) w w' → wpList Try.prog ops Q rest (a.put op.dst undef) w') : wpList Try.prog ops Q (op :: rest) a w :=
  wpList_store_mid hgd tI x y ho b 0 (ri c M p).toArray hx hy (hA.there (by rw [hl]; rfl)) (by rw [show (ri c M p).toArray.size = 18 from rfl]; exact tI_size) (all_oneCell_toArray (ri_one c M p)) (h _ (hA.all_ _ (by rw [hl]; rfl)) (tn_sets _ _ _ _))
end
/-- the result's box is read. -/
theorem ri_out {w : World} {b : Nat} {c : Cf} {M : IbM} {p : RiP} (h : At w b tI (ri c M p)) : (loadVar tI ⟨b, 0, none⟩).run Try.prog w = .ok (riV c M p) w :=
  run_loadVar_mid w b 0 tI (ri c M p) _ h.range Try.underlying38 rfl (by rw [ri_len]; exact tI_size)

/-! ### its parts in memory -/
structure RiM (w : World) (M : IbM) (p : RiP) (S : List Int) (X : List Xb) : Prop where
  o : Bw w p.oA X
  om : p.om = X.length
  oc : p.om ≤ p.oc
  on : p.oA = none → p.oc = 0
  s : Uw w p.sA p.sm S
  sc : p.sm ≤ p.sc
  sn : p.sA = none → p.sc = 0
  rel : Rel M.B M.L X
theorem RiM.below {w w' : World} {M : IbM} {p : RiP} {S : List Int} {X : List Xb} (h : RiM w M p S X) (k : Below w.heap.size w w') : RiM w' M p S X :=
  ⟨h.o.below k, h.om, h.oc, h.on, h.s.below k, h.sc, h.sn, h.rel⟩
theorem tI_ne_B : tI ≠ 82 := by decide
theorem tI_ne_u : tI ≠ 32 := by decide
/-- a block of the state's type turns. -/
theorem RiM.tn {w w' : World} {M : IbM} {p : RiP} {S : List Int} {X : List Xb} (h : RiM w M p S X) {b : Nat} {xs : List Value} (k : At w b tI xs) (t : Tn (fun i => i = b) w w') : RiM w' M p S X := by
  have no : ∀ (g : Nat) (cur : Array Value) (ty : TypeId) (f : Nat × Nat), ty ≠ tI → w.heap[g]? = some (Obj.cells cur ty f) → w'.heap[g]? = w.heap[g]? := fun g cur ty f hne hg => t.block g (Array.getElem?_eq_some_iff.1 hg).1 fun e => by
    subst e
    rw [show w.heap[g]? = some (.cells xs.toArray tI (0, 0)) from k] at hg
    injection hg with hg
    injection hg with _ hg _
    exact hne hg.symm
  exact ⟨Tw.move h.o fun g cur f hg => no g cur _ f (Ne.symm tI_ne_B) hg, h.om, h.oc, h.on, h.s.move fun g cur f hg => no g cur _ f (Ne.symm tI_ne_u) hg, h.sc, h.sn, h.rel⟩
/-- A state in a box. -/
theorem ribox (c : Cf) (M : IbM) (p : RiP) (w : World) : ∃ W, W = w.alloc (.cells (ri c M p).toArray tI) ∧ At W w.heap.size tI (ri c M p) ∧ Below w.heap.size w W ∧ W.heap.size = w.heap.size + 1 :=
  ⟨_, rfl, At.new w tI (ri c M p), (Below.refl _ _).alloc (Nat.le_refl _) _, by simp⟩
/-- A state in a box, and an empty result behind it. -/
theorem riboxes (c : Cf) (M : IbM) (p : RiP) (w : World) : ∃ W, W = (w.alloc (.cells (ri c M p).toArray tI)).alloc (.cells riZ.toArray tI) ∧ At W w.heap.size tI (ri c M p) ∧ At W (w.heap.size + 1) tI riZ ∧ Below w.heap.size w W ∧ W.heap.size = w.heap.size + 2 := by
  refine ⟨_, rfl, ?_, ?_, ?_, by simp⟩
  · exact (At.new w tI (ri c M p)).alloc _
  · have h := At.new (w.alloc (.cells (ri c M p).toArray tI)) tI riZ
    simpa using h
  · exact ((Below.refl _ _).alloc (Nat.le_refl _) _).alloc (by simp) _
end Go.Proofs.Ytedecminaopgaaa

/- Proved: what the document's behind, Ended, Ack, saw, New, Numbers of what a stream takes answer. Conditions: those that the theorems name. -/
namespace Go.Proofs.Ytedecminaopgaaa
open Go.ChangeShapes Go.WideShapes Go.ChangeAt Go.RowKit

theorem ri_behind (c : Cf) (M : IbM) (p : RiP) (x : Int) (w : World) (hx : U32 x) (hf : U32 M.fi) :
    Calls Try.prog 55 #[riV c M p, .int .u32 x] w fun e w' => e = .returned (.bool (bfZ M x)) ∧ Below w.heap.size w w' := by
  have HL := Lib.hid (fun W => rless_any x M.fi hx hf W)
  obtain ⟨W1, HW, A1, B1, _⟩ := ribox c M p w
  have HB1 := Lib.hid B1
  have c4 := A1.cell 16 rfl
  have c5 := A1.cell 17 rfl
  unfold bfZ
  clear hx hf A1 B1
  cases hq : M.hf
  · rw [hq] at c5
    clear hq
    go_enter Try.func55, Try.ntmps55
    go_upto_region 1 with fail
    change Code.wp _ _ _ _ (w.alloc (.cells (ri c M p).toArray tI))
    rw [← HW]; clear HW
    go_wp2_with fail
    go_ret
    exact ⟨rfl, HB1.out⟩
  · rw [hq] at c5
    clear hq
    go_enter Try.func55, Try.ntmps55
    go_upto_region 1 with fail
    change Code.wp _ _ _ _ (w.alloc (.cells (ri c M p).toArray tI))
    rw [← HW]; clear HW
    go_wp2_with fail
    refine (HL.out _).mono ?_; rintro e w1 ⟨rfl, rfl⟩
    go_wp2_with fail
    go_ret
    exact ⟨rfl, HB1.out⟩
theorem ri_ended (c : Cf) (M : IbM) (p : RiP) (w : World) :
    Calls Try.prog 14 #[riV c M p] w fun e w' => e = .returned (.bool (endZ M)) ∧ Below w.heap.size w w' := by
  obtain ⟨W1, HW, A1, B1, _⟩ := ribox c M p w
  have HB1 := Lib.hid B1
  have c0 := A1.cell 11 rfl
  have c4 := A1.cell 16 rfl
  have c5 := A1.cell 17 rfl
  unfold endZ
  clear A1 B1
  cases hq : M.hf
  · rw [hq] at c5
    clear hq
    go_enter Try.func14, Try.ntmps14
    go_upto_region 1 with fail
    change Code.wp _ _ _ _ (w.alloc (.cells (ri c M p).toArray tI))
    rw [← HW]; clear HW
    go_wp2_with fail
    go_ret
    exact ⟨rfl, HB1.out⟩
  · rw [hq] at c5
    clear hq
    go_enter Try.func14, Try.ntmps14
    go_upto_region 1 with fail
    change Code.wp _ _ _ _ (w.alloc (.cells (ri c M p).toArray tI))
    rw [← HW]; clear HW
    go_wp2_with fail
    go_ret
    exact ⟨rfl, HB1.out⟩
theorem ri_ack (c : Cf) (M : IbM) (p : RiP) (w : World) :
    Calls Try.prog 12 #[riV c M p] w fun e w' => e = .returned (.int .u32 (ackZ M)) ∧ Below w.heap.size w w' := by
  obtain ⟨W1, HW, A1, B1, _⟩ := ribox c M p w
  have HB1 := Lib.hid B1
  have HA1 := Lib.hid A1
  have HE := Lib.hid (ri_ended c M p W1)
  have hw : (M.B + 1) % 4294967296 = wpl M.B 1 := rfl
  unfold ackZ
  clear A1 B1
  cases hq : endZ M
  all_goals
    rw [hq] at HE
    clear hq
    go_enter Try.func12, Try.ntmps12
    go_upto_region 1 with fail
    change Code.wp _ _ _ _ (w.alloc (.cells (ri c M p).toArray tI))
    rw [← HW]; clear HW
    go_wp2_with (refine wpi_load rfl _ rfl rfl HA1.out ?_)
    refine HE.out.mono ?_; rintro e w2 ⟨rfl, g2⟩
    have HA2 := Lib.hid (HA1.out.below g2 HA1.out.lt)
    have HB2 := Lib.hid (HB1.out.trans (g2.mono HB1.out.size))
    have c0 := HA2.out.cell 11 rfl
    clear g2
    go_wp2_with fail
    go_ret
    exact ⟨rfl, HB2.out⟩
end Go.Proofs.Ytedecminaopgaaa

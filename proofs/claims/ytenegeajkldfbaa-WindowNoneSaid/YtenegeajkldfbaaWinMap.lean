/- Plain lemmas on a map in memory that holds a set of uint32s. No condition beyond those that each lemma names. -/
import Derived.Test.YtenegeajkldfbaaWinMem
import Derived.Maps.OwnSet
import Derived.Maps.RangeWalk
namespace Go.Proofs.Ytenegeajkldfbaa
open Go.ChangeShapes Go.WideShapes Go.ChangeAt Go.RowKit

abbrev WnD := DataW Unit
theorem wn_law : Maps.Keyed Try.prog 22 := Maps.int_keyed Try.underlying22
theorem u32_wf {x : Int} (h : U32 x) : (Lit.int .u32 x).wf = true := by
  unfold U32 at h
  simp [Lit.wf, IntKind.min, IntKind.max, IntKind.signed, IntKind.bits]
  omega
theorem wn_key {x : Int} (h : U32 x) : keyOf Try.prog 22 (.int .u32 x) = some (.int .u32 x) := Maps.keyOf_int_mk Try.underlying22 (u32_wf h)
theorem wn_lit {x : Int} (h : U32 x) : WideAt.IsKeyLit (.int .u32 x) := wn_law.key (wn_key h)
theorem wn_ne {x y : Int} (h : x ≠ y) : (Lit.int .u32 x) ≠ .int .u32 y := fun e => h (by injection e)
theorem wn_same {x y : Int} (hx : U32 x) : (Lit.int .u32 x).sameKey (.int .u32 y) = decide (x = y) := by
  by_cases e : x = y
  · subst e
    rw [WideAt.sameKey_self (wn_lit hx)]; simp
  · rw [Maps.sameKey_ne (wn_ne e)]; simp [e]
theorem wn_zero (w : World) : (zeroValue 53).run Try.prog w = .ok (.agg #[]) w := by kernel_rfl

/-- What was read of the map is just this set. -/
structure SetD (D : WnD) (l : List Int) : Prop where
  has : ∀ x, U32 x → Maps.has D (.int .u32 x) = decide (x ∈ l)
  num : Maps.size D = l.length
theorem SetD.empty : SetD (.map []) [] := ⟨fun _ _ => by simp; rfl, rfl⟩
theorem SetD.del {D : WnD} {l : List Int} (h : SetD D l) (hl : l.Nodup) (hD : Maps.Tidy D) {x : Int} (hx : U32 x) : SetD (D.del (.int .u32 x)) (dropX l x) := by
  refine ⟨fun y hy => ?_, ?_⟩
  · by_cases e : y = x
    · subst e; rw [Maps.has_del_same]; simp [drop_mem]
    · rw [Maps.has_del_other (wn_ne e), h.has y hy]; simp [drop_mem, e]
  · have h1 := Maps.size_del (k := .int .u32 x) hD
    have h2 := drop_len hl x
    rw [h.has x hx, h.num] at h1
    omega
theorem SetD.put {D : WnD} {l : List Int} (h : SetD D l) (hD : Maps.Tidy D) {x : Int} (hx : U32 x) (hn : x ∉ l) : SetD (D.put (.int .u32 x) (.agg [])) (l ++ [x]) := by
  refine ⟨fun y hy => ?_, ?_⟩
  · by_cases e : y = x
    · subst e; rw [Maps.has_put_same hD.isMap (wn_lit hx)]; simp
    · rw [Maps.has_put_other (wn_ne e), h.has y hy]; simp [e]
  · rw [Maps.size_put hD, h.has x hx, decide_eq_false hn, h.num]
    simp

abbrev wnOwns (w : World) (b n : Nat) (D : WnD) : Prop := w.ownsMap Try.prog 22 (unitElem (H := Unit)) b n D
/-- Block b is a map that holds just these numbers. -/
def Wm (w : World) (b : Nat) (l : List Int) : Prop := l.Nodup ∧ ∃ D : WnD, wnOwns w b l.length D ∧ SetD D l
theorem Wm.one {w : World} {b : Nat} {l : List Int} (h : Wm w b l) : l.Nodup := h.1
theorem Wm.lt {w : World} {b : Nat} {l : List Int} (h : Wm w b l) : b < w.heap.size := by
  obtain ⟨_, D, h, _⟩ := h
  exact h.lt
theorem Wm.kept {w w' : World} {b : Nat} {l : List Int} {row : Option Nat} (h : Wm w b l) (hg : w.grownBy w' row) (hr : row ≠ some b) : Wm w' b l := by
  obtain ⟨hl, D, h, hD⟩ := h
  exact ⟨hl, D, h.kept hg (fun e => hr e.symm), hD⟩
theorem Wm.below {w w' : World} {b B : Nat} {l : List Int} (h : Wm w b l) (hg : Below B w w') (hlt : b < B) : Wm w' b l := by
  obtain ⟨hl, D, ⟨es, clock, hb, r⟩, hD⟩ := h
  exact ⟨hl, D, ⟨es, clock, (hg.block b hlt).trans hb, r⟩, hD⟩
theorem Wm.new (w : World) : Wm (w.alloc (.map #[] 0)) w.heap.size [] := ⟨List.nodup_nil, _, World.ownsMap_made w _ _ _, SetD.empty⟩
theorem wn_size {w : World} {b n : Nat} {D : WnD} (h : wnOwns w b n D) : wnOwns w b (Maps.size D) D := by
  obtain ⟨es, clock, hb, F, hs, rfl⟩ := h
  exact ⟨es, clock, hb, F, by simp [Maps.size, length_sorted], rfl⟩
theorem Wm.of {w : World} {b n : Nat} {l : List Int} {D : WnD} (hl : l.Nodup) (h : wnOwns w b n D) (hD : SetD D l) : Wm w b l := ⟨hl, D, by rw [← hD.num]; exact wn_size h, hD⟩
/-- a map is no row of cells. -/
theorem Wm.no_row {w : World} {b : Nat} {l : List Int} (h : Wm w b l) {xs : Array Value} {t : TypeId} {f : Nat × Nat} : w.heap[b]? ≠ some (.cells xs t f) := by
  obtain ⟨_, D, ⟨es, clock, hb, _⟩, _⟩ := h
  intro e
  rw [hb] at e
  cases e
theorem Wm.ne {w : World} {b m : Nat} {l : List Int} {t : TypeId} {vs : List Value} (h : Wm w m l) (k : At w b t vs) : b ≠ m := by
  intro e
  subst e
  exact h.no_row k

/-! ### the map's operations, as run equations -/
theorem wm_look {w : World} {b : Nat} {l : List Int} (h : Wm w b l) {x : Int} (hx : U32 x) :
    (Instr.lookup 48 (.map (some b)) (.int .u32 x) true).run Try.prog w = .ok (.tuple #[.agg #[], .bool (decide (x ∈ l))]) w := by
  obtain ⟨_, D, h, hD⟩ := h
  obtain ⟨v, ps, hrun, hv⟩ := h.look_ok wn_law Try.underlying48 (wn_zero w) unitElem_mk (wn_key hx)
  obtain ⟨rfl, _⟩ := unitElem_inv hv
  rw [hrun, hD.has x hx]
theorem wm_put {w : World} {b : Nat} {l : List Int} (h : Wm w b l) (hn : l.length < 1000) {x : Int} (hx : U32 x) (hnew : x ∉ l) :
    ∃ w', (Instr.mapUpdate 48 (.map (some b)) (.int .u32 x) (.agg #[])).run Try.prog w = .ok () w' ∧ Wm w' b (l ++ [x]) ∧ w.grownBy w' (some b) := by
  obtain ⟨hl, D, h, hD⟩ := h
  obtain ⟨w', hrun, ho, ht⟩ := h.store wn_law Try.underlying48 (by unfold maxLen; omega) (wn_key hx) (unitElem_mk (H := Unit))
  refine ⟨w', hrun, Wm.of ?_ ho (hD.put (h.tidy wn_law) hx hnew), ht.grown⟩
  rw [List.nodup_append]
  exact ⟨hl, by simp, fun a ha c hc q => by
    have hc : c = x := by simpa using hc
    rw [hc] at q
    rw [q] at ha
    exact hnew ha⟩
theorem wm_del {w : World} {b : Nat} {l : List Int} (h : Wm w b l) {x : Int} (hx : U32 x) (ty : TypeId) :
    ∃ w', (Builtin.delete_ #[48, 22] ty #[.map (some b), .int .u32 x]).run Try.prog w = .ok (.tuple #[]) w' ∧ Wm w' b (dropX l x) ∧ w.grownBy w' (some b) := by
  obtain ⟨hl, D, h, hD⟩ := h
  obtain ⟨w', hrun, ho, ht⟩ := h.drop wn_law Try.underlying48 (wn_key hx) ty
  exact ⟨w', hrun, Wm.of (hl.sublist List.filter_sublist) ho (hD.del hl (h.tidy wn_law) hx), ht.grown⟩

/-! ### ranging over it -/
/-- Block b is a map of the numbers l; block r goes through it; p: those that are still to come; so many are. -/
def WRng (w : World) (b r : Nat) (l : List Int) (p : Int → Bool) (cnt : Nat) : Prop :=
  l.Nodup ∧ (∀ x ∈ l, U32 x) ∧ ∃ (D : WnD) (left : Lit → Bool) (n : Nat), SetD D l ∧ w.ranges Try.prog 22 (unitElem (H := Unit)) b r n D left cnt ∧ ∀ x ∈ l, left (.int .u32 x) = p x
theorem WRng.kept {w w' : World} {b r : Nat} {l : List Int} {p : Int → Bool} {cnt : Nat} {row : Option Nat} (h : WRng w b r l p cnt) (hg : w.grownBy w' row) (hb : row ≠ some b) (hr : row ≠ some r) : WRng w' b r l p cnt := by
  obtain ⟨hl, hu, D, left, n, hD, h, hp⟩ := h
  exact ⟨hl, hu, D, left, n, hD, h.kept hg (fun e => hb e.symm) (fun e => hr e.symm), hp⟩
theorem WRng.left_eq {w : World} {b r : Nat} {l : List Int} {p : Int → Bool} {cnt : Nat} (h : WRng w b r l p cnt) : w.rangeLeft b r = cnt := by
  obtain ⟨_, _, D, left, n, hD, h, hp⟩ := h
  exact h.left_eq
section
variable (w : World) {ops : Array Oper} {rest : List Oper} {o : Oper} {a : Act} {Q : Exit → Act → World → Prop}
/-- 'range m'. -/
theorem wrng_start (hg : o.guard = none) (m : Operand) (hop : o.op = Op.range 48 m) (b : Nat) (l : List Int) (hm : a.eval m = .map (some b)) (hown : Wm w b l) (hu : ∀ x ∈ l, U32 x)
    (hK : ∀ w', WRng w' b w.heap.size l (fun _ => true) l.length → w.grownBy w' none → w'.heap.size = w.heap.size + 1 → wpList Try.prog ops Q rest (a.put o.dst (.pointer (some ⟨w.heap.size, 0, none⟩))) w') :
    wpList Try.prog ops Q (o :: rest) a w := by
  obtain ⟨hl, D, ho, hD⟩ := hown
  refine wpList_range_own w hg m _ hop _ _ wn_law Try.underlying48 _ b _ D hm ho ?_
  intro w' hr hgr hs
  rw [hD.num] at hr
  exact hK w' ⟨hl, hu, D, _, _, hD, hr, fun x hx => by rw [hD.has _ (hu x hx), decide_eq_true hx]⟩ hgr hs
/-- The step. -/
theorem wrng_next (hg : o.guard = none) (it : Operand) (hop : o.op = Op.next it false) (b r : Nat) (l : List Int) (p : Int → Bool) (cnt : Nat) (hit : a.eval it = .pointer (some ⟨r, 0, none⟩)) (h : WRng w b r l p cnt)
    (hDone : (∀ x ∈ l, p x = false) → wpList Try.prog ops Q rest (a.put o.dst (.tuple #[.bool false])) w)
    (hMore : ∀ (x : Int) (w' : World) (cnt' : Nat), x ∈ l → p x = true → WRng w' b r l (fun y => p y && !decide (y = x)) cnt' → cnt' < cnt → w.grownBy w' (some r) → w'.heap.size = w.heap.size →
      (Instr.entry (.pointer (some ⟨r, 0, none⟩))).run Try.prog w' = .ok (.tuple #[.int .u32 x, .agg #[]]) w' → wpList Try.prog ops Q rest (a.put o.dst (.tuple #[.bool true, .int .u32 x, .agg #[]])) w') :
    wpList Try.prog ops Q (o :: rest) a w := by
  obtain ⟨hl, hu, D, left, n, hD, hr, hp⟩ := h
  refine wpList_next_ranges w hg it hop 22 wn_law unitElem (Value.int .u32) (fun _ : Unit => .agg #[]) (fun key kl hk => by obtain ⟨x, e, _⟩ := Maps.keyOf_int_inv Try.underlying22 hk; exact ⟨x, e⟩) (fun v y hv => ⟨(), (unitElem_inv hv).1⟩) b r n D left cnt hit hr ?_ ?_
  · intro _ hd
    exact hDone fun x hx => by rw [← hp x hx]; exact hd _
  · intro x _ kl y w' cnt' hkey hlk hv hat hrg hlt hgr hsz hen
    obtain ⟨x', ex, rfl, hwx⟩ := Maps.keyOf_int_inv Try.underlying22 hkey
    cases ex
    have hh := hD.has x (u32_of hwx)
    rw [Maps.has_true_of_atKey hat] at hh
    have hx : x ∈ l := of_decide_eq_true hh.symm
    refine hMore x w' cnt' hx (by rw [← hp x hx]; exact hlk) ⟨hl, hu, D, _, n, hD, hrg, fun z hz => ?_⟩ hlt hgr hsz hen
    show (left (.int .u32 z) && !(Lit.int .u32 z).sameKey (.int .u32 x)) = _
    rw [hp z hz, wn_same (hu z hz)]
end
end Go.Proofs.Ytenegeajkldfbaa

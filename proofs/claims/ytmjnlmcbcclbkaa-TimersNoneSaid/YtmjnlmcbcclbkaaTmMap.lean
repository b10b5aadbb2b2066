/- Plain lemmas on a map in memory that holds the times of keys. No condition beyond those that each lemma names. -/
import Derived.Test.YtmjnlmcbcclbkaaTmKey
import Derived.Test.YtmjnlmcbcclbkaaObj
namespace Go.Proofs.Ytmjnlmcbcclbkaa
open Go.ChangeShapes Go.WideShapes Go.ChangeAt Go.RowKit

abbrev TmD := DataW Unit
theorem tm_wf {z : Int} (h0 : 0 ≤ z) (h1 : z ≤ 1099511627776) : (Lit.int .i64 z).wf = true := by
  simp [Lit.wf, IntKind.min, IntKind.max, IntKind.signed, IntKind.bits]
  omega
theorem tm_elem {z : Int} (h : (Lit.int .i64 z).wf = true) : plainElem (H := Unit) Try.prog 3 (.int .i64 z) = some (.lit (.int .i64 z), []) := plainElem_int Try.underlying3 h
theorem tm_zero (w : World) : (zeroValue 3).run Try.prog w = .ok (.int .i64 0) w := by kernel_rfl
abbrev zD : TmD := .lit (.int .i64 0)

/-- What was read of the map is just these keys, each with its time. -/
structure MapD (D : TmD) (l : List Tm) : Prop where
  has : ∀ k, KyOk k → Maps.has D (kyL k) = wasT l k
  val : ∀ k, KyOk k → D.atKey (kyL k) zD = .lit (.int .i64 (atT l k))
  num : Maps.size D = l.length
theorem MapD.empty : MapD (.map []) [] := ⟨fun _ _ => rfl, fun _ _ => rfl, rfl⟩
theorem MapD.perm {D : TmD} {l r : List Tm} (h : MapD D l) (hw : ∀ k, KyOk k → wasT r k = wasT l k) (ha : ∀ k, KyOk k → atT r k = atT l k) (hn : r.length = l.length) : MapD D r :=
  ⟨fun k hk => by rw [hw k hk]; exact h.has k hk, fun k hk => by rw [ha k hk]; exact h.val k hk, by rw [hn]; exact h.num⟩
theorem put_at (l : List Tm) (x : Tm) (h : Good (putT l x)) (hl : Good l) (k : Ky) : atT (putT l x) k = if k = x.1 then x.2 else atT l k := by
  split
  · rename_i e
    subst e
    exact atT_mem h (put_mem.2 (Or.inl rfl))
  · rename_i e
    cases hw : wasT l k
    · rw [atT_none hw, atT_none]
      rw [put_was, hw]
      simp [Ne.symm e]
    · obtain ⟨y, hy, rfl⟩ := wasT_iff.1 hw
      rw [atT_mem hl hy, atT_mem h (put_mem.2 (Or.inr hy))]
theorem drop_at {l : List Tm} (h : Good l) (k k' : Ky) : atT (dropT l k) k' = if k' = k then 0 else atT l k' := by
  split
  · rename_i e
    exact atT_none (by rw [drop_was]; simp [e])
  · rename_i e
    cases hw : wasT l k'
    · rw [atT_none hw, atT_none (by rw [drop_was, hw]; rfl)]
    · obtain ⟨y, hy, rfl⟩ := wasT_iff.1 hw
      rw [atT_mem h hy, atT_mem (h.drop k) (drop_mem.2 ⟨hy, e⟩)]
theorem MapD.del {D : TmD} {l : List Tm} (h : MapD D l) (hl : Good l) (hD : Maps.Tidy D) {k : Ky} (hk : KyOk k) : MapD (D.del (kyL k)) (dropT l k) := by
  refine ⟨fun k' hk' => ?_, fun k' hk' => ?_, ?_⟩
  · rw [drop_was]
    by_cases e : k' = k
    · subst e; rw [Maps.has_del_same]; simp
    · rw [Maps.has_del_other (fun q => e (kyL_inj hk' hk q)), h.has k' hk']; simp [e]
  · rw [drop_at hl]
    by_cases e : k' = k
    · subst e; rw [Maps.atKey_del_same, if_pos rfl]
    · rw [Maps.atKey_del_other (fun q => e (kyL_inj hk' hk q)), h.val k' hk', if_neg e]
  · have h1 := Maps.size_del (k := kyL k) hD
    have h2 := drop_len hl k
    rw [h.has k hk, h.num] at h1
    omega
theorem MapD.put {D : TmD} {l : List Tm} (h : MapD D l) (hl : Good l) (hD : Maps.Tidy D) {k : Ky} (hk : KyOk k) {z : Int} (hz : ¬ BadAt z) : MapD (D.put (kyL k) (.lit (.int .i64 z))) (setT l k z) := by
  have hs := hl.set hk z
  unfold setT at hs ⊢
  rw [if_neg hz] at hs ⊢
  refine ⟨fun k' hk' => ?_, fun k' hk' => ?_, ?_⟩
  · rw [put_was, drop_was]
    by_cases e : k' = k
    · subst e; rw [Maps.has_put_same hD.isMap (kyL_lit hk)]; simp
    · rw [Maps.has_put_other (fun q => e (kyL_inj hk' hk q)), h.has k' hk']; simp [e, Ne.symm e]
  · rw [put_at _ _ hs (hl.drop k), drop_at hl]
    by_cases e : k' = k
    · subst e; rw [Maps.atKey_put_same hD.isMap (kyL_lit hk), if_pos rfl]
    · rw [Maps.atKey_put_other (fun q => e (kyL_inj hk' hk q)), h.val k' hk']; simp [e]
  · have h1 := Maps.size_put (k := kyL k) hD (.lit (.int .i64 z))
    have h2 := drop_len hl k
    rw [h.has k hk, h.num] at h1
    rw [put_len, h1]
    split <;> rename_i e <;> simp only [e, if_true, if_false, Bool.false_eq_true] at h2 <;> omega

/-- Block b is a map that holds just these keys, each with its time. -/
def Mp (w : World) (b : Nat) (l : List Tm) : Prop := Good l ∧ ∃ D : TmD, w.ownsMap Try.prog 32 (plainElem Try.prog 3) b l.length D ∧ MapD D l
theorem Mp.good {w : World} {b : Nat} {l : List Tm} (h : Mp w b l) : Good l := h.1
theorem Mp.lt {w : World} {b : Nat} {l : List Tm} (h : Mp w b l) : b < w.heap.size := by
  obtain ⟨_, D, h, _⟩ := h
  exact h.lt
theorem Mp.kept {w w' : World} {b : Nat} {l : List Tm} {row : Option Nat} (h : Mp w b l) (hg : w.grownBy w' row) (hr : row ≠ some b) : Mp w' b l := by
  obtain ⟨hl, D, h, hD⟩ := h
  exact ⟨hl, D, h.kept hg (fun e => hr e.symm), hD⟩
theorem Mp.below {w w' : World} {b B : Nat} {l : List Tm} (h : Mp w b l) (hg : Below B w w') (hlt : b < B) : Mp w' b l := by
  obtain ⟨hl, D, ⟨es, clock, hb, r⟩, hD⟩ := h
  exact ⟨hl, D, ⟨es, clock, (hg.block b hlt).trans hb, r⟩, hD⟩
theorem Mp.new (w : World) : Mp (w.alloc (.map #[] 0)) w.heap.size [] := ⟨Good.nil, _, World.ownsMap_made w _ _ _, MapD.empty⟩
theorem own_size {w : World} {b n : Nat} {D : TmD} (h : w.ownsMap Try.prog 32 (plainElem Try.prog 3) b n D) : w.ownsMap Try.prog 32 (plainElem Try.prog 3) b (Maps.size D) D := by
  obtain ⟨es, clock, hb, F, hs, rfl⟩ := h
  exact ⟨es, clock, hb, F, by simp [Maps.size, length_sorted], rfl⟩
theorem Mp.of {w : World} {b n : Nat} {l : List Tm} {D : TmD} (hl : Good l) (h : w.ownsMap Try.prog 32 (plainElem Try.prog 3) b n D) (hD : MapD D l) : Mp w b l := ⟨hl, D, by rw [← hD.num]; exact own_size h, hD⟩
/-- a map is no row of cells. -/
theorem Mp.cell {w : World} {b : Nat} {l : List Tm} (h : Mp w b l) {a : Addr} (e : a.block = b) : w.cell? a = none := by
  obtain ⟨_, D, ⟨es, clock, hb, _⟩, _⟩ := h
  simp [World.cell?, e, hb]

/-! ### the map's operations, as run equations -/
theorem mp_look {w : World} {b : Nat} {l : List Tm} (h : Mp w b l) {k : Ky} (hk : KyOk k) :
    (Instr.lookup 49 (.map (some b)) (kyV k) true).run Try.prog w = .ok (.tuple #[.int .i64 (atT l k), .bool (wasT l k)]) w := by
  obtain ⟨_, D, h, hD⟩ := h
  obtain ⟨v, ps, hrun, hv⟩ := h.look_ok ky_law Try.underlying49 (tm_zero w) (tm_elem (by decide)) (ky_key hk)
  obtain ⟨c, rfl, hc, _⟩ := plainElem_int_inv Try.underlying3 hv
  rw [hD.val k hk] at hc
  simp only [Prod.mk.injEq, DataW.lit.injEq, Lit.int.injEq, true_and] at hc
  rw [hrun, hD.has k hk, hc.1]
theorem mp_len {w : World} {b : Nat} {l : List Tm} (h : Mp w b l) (ty : TypeId) : (Builtin.len_ #[49] ty #[.map (some b)]).run Try.prog w = .ok (.int .i64 (l.length : Nat)) w := by
  obtain ⟨_, D, h, hD⟩ := h
  rw [h.len Try.underlying49 ty, hD.num]
theorem mp_put {w : World} {b : Nat} {l : List Tm} (h : Mp w b l) (hn : l.length < maxLen) {k : Ky} (hk : KyOk k) {z : Int} (hz : ¬ BadAt z) :
    ∃ w', (Instr.mapUpdate 49 (.map (some b)) (kyV k) (.int .i64 z)).run Try.prog w = .ok () w' ∧ Mp w' b (setT l k z) ∧ w.grownBy w' (some b) := by
  obtain ⟨hl, D, h, hD⟩ := h
  obtain ⟨w', hrun, ho, ht⟩ := h.store ky_law Try.underlying49 hn (ky_key hk) (tm_elem (z := z) (by unfold BadAt at hz; exact tm_wf (by omega) (by omega)))
  exact ⟨w', hrun, Mp.of (hl.set hk z) ho (hD.put hl (h.tidy ky_law) hk hz), ht.grown⟩
theorem mp_del {w : World} {b : Nat} {l : List Tm} (h : Mp w b l) {k : Ky} (hk : KyOk k) (ty : TypeId) :
    ∃ w', (Builtin.delete_ #[49, 32] ty #[.map (some b), kyV k]).run Try.prog w = .ok (.tuple #[]) w' ∧ Mp w' b (dropT l k) ∧ w.grownBy w' (some b) := by
  obtain ⟨hl, D, h, hD⟩ := h
  obtain ⟨w', hrun, ho, ht⟩ := h.drop ky_law Try.underlying49 (ky_key hk) ty
  exact ⟨w', hrun, Mp.of (hl.drop k) ho (hD.del hl (h.tidy ky_law) hk), ht.grown⟩
end Go.Proofs.Ytmjnlmcbcclbkaa

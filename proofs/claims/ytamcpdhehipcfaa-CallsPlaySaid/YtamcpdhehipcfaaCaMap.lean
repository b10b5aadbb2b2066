/- Plain lemmas on a map in memory that holds the calls at places. No condition beyond those that each lemma names. -/
import Derived.Test.YtamcpdhehipcfaaCaKey
import Derived.Test.YtamcpdhehipcfaaObj
namespace Go.Proofs.Ytamcpdhehipcfaa
open Go.ChangeShapes Go.WideShapes Go.ChangeAt Go.RowKit

/-- a call's cells, and its value. -/
def wtC (x : Wt) : List Value := [.int .i64 x.id, .int .i64 x.kind, .int .i64 x.str, .int .i64 x.num, .string x.body]
def wtV (x : Wt) : Value := .agg #[.int .i64 x.id, .int .i64 x.kind, .int .i64 x.str, .int .i64 x.num, .string x.body]
abbrev WtD := DataW Wt
/-- how a call in a map reads: it is just itself. -/
def wtR (v : Value) : Option (WtD × List MemPlace) :=
  match v with
  | .agg cs => match cs.toList with
    | [.int .i64 a, .int .i64 b, .int .i64 c, .int .i64 d, .string s] => some (.held ⟨a, b, c, d, s⟩, [])
    | _ => none
  | _ => none
theorem wtR_is (x : Wt) : wtR (wtV x) = some (.held x, []) := rfl
theorem wtR_inv {v : Value} {z : WtD × List MemPlace} (h : wtR v = some z) : ∃ x : Wt, v = wtV x ∧ z = (.held x, []) := by
  unfold wtR at h
  split at h
  · split at h
    · rename_i cs _ a b c d s hcs
      injection h with h
      refine ⟨⟨a, b, c, d, s⟩, ?_, h.symm⟩
      have e : cs = [Value.int .i64 a, .int .i64 b, .int .i64 c, .int .i64 d, .string s].toArray := by rw [← hcs]
      rw [e]; rfl
    · cases h
  · cases h
theorem wtV_inj {x y : Wt} (h : wtV x = wtV y) : x = y := by
  obtain ⟨a, b, c, d, s⟩ := x
  obtain ⟨a', b', c', d', s'⟩ := y
  simp [wtV] at h
  obtain ⟨rfl, rfl, rfl, rfl, rfl⟩ := h
  rfl
theorem wt_zero (w : World) : (zeroValue 30).run Try.prog w = .ok (wtV wt0) w := by kernel_rfl
abbrev wD : WtD := .held wt0

/-- What was read of the map is just these keys, each with its call. -/
structure MapW (D : WtD) (l : List Wt) : Prop where
  has : ∀ k, PkOk k → Maps.has D (pkL k) = wasW l k
  val : ∀ k, PkOk k → D.atKey (pkL k) wD = .held (atW l k)
  num : Maps.size D = l.length
theorem MapW.empty : MapW (.map []) [] := ⟨fun _ _ => rfl, fun _ _ => rfl, rfl⟩
theorem MapW.perm {D : WtD} {l r : List Wt} (h : MapW D l) (hw : ∀ k, PkOk k → wasW r k = wasW l k) (ha : ∀ k, PkOk k → atW r k = atW l k) (hn : r.length = l.length) : MapW D r :=
  ⟨fun k hk => by rw [hw k hk]; exact h.has k hk, fun k hk => by rw [ha k hk]; exact h.val k hk, by rw [hn]; exact h.num⟩
theorem putW_at (l : List Wt) (x : Wt) (h : GoodW (putW l x)) (hl : GoodW l) (k : Pk) : atW (putW l x) k = if k = x.key then x else atW l k := by
  split
  · rename_i e
    subst e
    exact atW_mem h (putW_mem.2 (Or.inl rfl))
  · rename_i e
    cases hw : wasW l k
    · rw [atW_none hw, atW_none]
      rw [putW_was, hw]
      simp [Ne.symm e]
    · obtain ⟨y, hy, rfl⟩ := wasW_iff.1 hw
      rw [atW_mem hl hy, atW_mem h (putW_mem.2 (Or.inr hy))]
theorem dropW_at {l : List Wt} (h : GoodW l) (k k' : Pk) : atW (dropW l k) k' = if k' = k then wt0 else atW l k' := by
  split
  · rename_i e
    exact atW_none (by rw [dropW_was]; simp [e])
  · rename_i e
    cases hw : wasW l k'
    · rw [atW_none hw, atW_none (by rw [dropW_was, hw]; rfl)]
    · obtain ⟨y, hy, rfl⟩ := wasW_iff.1 hw
      rw [atW_mem h hy, atW_mem (h.drop k) (dropW_mem.2 ⟨hy, e⟩)]
theorem MapW.del {D : WtD} {l : List Wt} (h : MapW D l) (hl : GoodW l) (hD : Maps.Tidy D) {k : Pk} (hk : PkOk k) : MapW (D.del (pkL k)) (dropW l k) := by
  refine ⟨fun k' hk' => ?_, fun k' hk' => ?_, ?_⟩
  · rw [dropW_was]
    by_cases e : k' = k
    · subst e; rw [Maps.has_del_same]; simp
    · rw [Maps.has_del_other (fun q => e (pkL_inj hk' hk q)), h.has k' hk']; simp [e]
  · rw [dropW_at hl]
    by_cases e : k' = k
    · subst e; rw [Maps.atKey_del_same, if_pos rfl]
    · rw [Maps.atKey_del_other (fun q => e (pkL_inj hk' hk q)), h.val k' hk', if_neg e]
  · have h1 := Maps.size_del (k := pkL k) hD
    have h2 := dropW_len hl k
    rw [h.has k hk, h.num] at h1
    omega
theorem MapW.put {D : WtD} {l : List Wt} (h : MapW D l) (hl : GoodW l) (hD : Maps.Tidy D) {x : Wt} (hm : x.May) (hw : wasW l x.key = false) : MapW (D.put (pkL x.key) (.held x)) (putW l x) := by
  have hs := hl.put hw hm
  have hk := hm.ok
  refine ⟨fun k' hk' => ?_, fun k' hk' => ?_, ?_⟩
  · rw [putW_was]
    by_cases e : k' = x.key
    · subst e; rw [Maps.has_put_same hD.isMap (pkL_lit hk)]; simp
    · rw [Maps.has_put_other (fun q => e (pkL_inj hk' hk q)), h.has k' hk']; simp [Ne.symm e]
  · rw [putW_at _ _ hs hl]
    by_cases e : k' = x.key
    · subst e; rw [Maps.atKey_put_same hD.isMap (pkL_lit hk), if_pos rfl]
    · rw [Maps.atKey_put_other (fun q => e (pkL_inj hk' hk q)), h.val k' hk']; simp [e]
  · have h1 := Maps.size_put (k := pkL x.key) hD (.held x)
    rw [h.has _ hk, h.num, hw] at h1
    rw [putW_len, h1]
    simp

/-- Block b is a map that holds just these keys, each with its call. -/
def Mw (w : World) (b : Nat) (l : List Wt) : Prop := GoodW l ∧ ∃ D : WtD, w.ownsMap Try.prog 52 wtR b l.length D ∧ MapW D l
theorem Mw.good {w : World} {b : Nat} {l : List Wt} (h : Mw w b l) : GoodW l := h.1
theorem Mw.lt {w : World} {b : Nat} {l : List Wt} (h : Mw w b l) : b < w.heap.size := by
  obtain ⟨_, D, h, _⟩ := h
  exact h.lt
theorem Mw.kept {w w' : World} {b : Nat} {l : List Wt} {row : Option Nat} (h : Mw w b l) (hg : w.grownBy w' row) (hr : row ≠ some b) : Mw w' b l := by
  obtain ⟨hl, D, h, hD⟩ := h
  exact ⟨hl, D, h.kept hg (fun e => hr e.symm), hD⟩
theorem Mw.below {w w' : World} {b B : Nat} {l : List Wt} (h : Mw w b l) (hg : Below B w w') (hlt : b < B) : Mw w' b l := by
  obtain ⟨hl, D, ⟨es, clock, hb, r⟩, hD⟩ := h
  exact ⟨hl, D, ⟨es, clock, (hg.block b hlt).trans hb, r⟩, hD⟩
theorem Mw.new (w : World) : Mw (w.alloc (.map #[] 0)) w.heap.size [] := ⟨GoodW.nil, _, World.ownsMap_made w _ _ _, MapW.empty⟩
theorem ownW_size {w : World} {b n : Nat} {D : WtD} (h : w.ownsMap Try.prog 52 wtR b n D) : w.ownsMap Try.prog 52 wtR b (Maps.size D) D := by
  obtain ⟨es, clock, hb, F, hs, rfl⟩ := h
  exact ⟨es, clock, hb, F, by simp [Maps.size, length_sorted], rfl⟩
theorem Mw.of {w : World} {b n : Nat} {l : List Wt} {D : WtD} (hl : GoodW l) (h : w.ownsMap Try.prog 52 wtR b n D) (hD : MapW D l) : Mw w b l := ⟨hl, D, by rw [← hD.num]; exact ownW_size h, hD⟩
/-- a map is no row of cells. -/
theorem Mw.cell {w : World} {b : Nat} {l : List Wt} (h : Mw w b l) {a : Addr} (e : a.block = b) : w.cell? a = none := by
  obtain ⟨_, D, ⟨es, clock, hb, _⟩, _⟩ := h
  simp [World.cell?, e, hb]

/-! ### the map's operations, as run equations -/
theorem mw_look {w : World} {b : Nat} {l : List Wt} (h : Mw w b l) {k : Pk} (hk : PkOk k) :
    (Instr.lookup 48 (.map (some b)) (pkV k) true).run Try.prog w = .ok (.tuple #[wtV (atW l k), .bool (wasW l k)]) w := by
  obtain ⟨_, D, h, hD⟩ := h
  obtain ⟨v, ps, hrun, hv⟩ := h.look_ok pk_law Try.underlying48 (wt_zero w) (wtR_is wt0) (pk_key hk)
  obtain ⟨x, rfl, hx⟩ := wtR_inv hv
  rw [hD.val k hk] at hx
  simp only [Prod.mk.injEq, DataW.held.injEq] at hx
  rw [hrun, hD.has k hk, hx.1]
theorem mw_len {w : World} {b : Nat} {l : List Wt} (h : Mw w b l) (ty : TypeId) : (Builtin.len_ #[48] ty #[.map (some b)]).run Try.prog w = .ok (.int .i64 (l.length : Nat)) w := by
  obtain ⟨_, D, h, hD⟩ := h
  rw [h.len Try.underlying48 ty, hD.num]
theorem mw_put {w : World} {b : Nat} {l : List Wt} (h : Mw w b l) (hn : l.length < maxLen) {x : Wt} (hm : x.May) (hw : wasW l x.key = false) :
    ∃ w', (Instr.mapUpdate 48 (.map (some b)) (pkV x.key) (wtV x)).run Try.prog w = .ok () w' ∧ Mw w' b (putW l x) ∧ w.grownBy w' (some b) := by
  obtain ⟨hl, D, h, hD⟩ := h
  obtain ⟨w', hrun, ho, ht⟩ := h.store pk_law Try.underlying48 hn (pk_key hm.ok) (wtR_is x)
  exact ⟨w', hrun, Mw.of (hl.put hw hm) ho (hD.put hl (h.tidy pk_law) hm hw), ht.grown⟩
theorem mw_del {w : World} {b : Nat} {l : List Wt} (h : Mw w b l) {k : Pk} (hk : PkOk k) (ty : TypeId) :
    ∃ w', (Builtin.delete_ #[48, 52] ty #[.map (some b), pkV k]).run Try.prog w = .ok (.tuple #[]) w' ∧ Mw w' b (dropW l k) ∧ w.grownBy w' (some b) := by
  obtain ⟨hl, D, h, hD⟩ := h
  obtain ⟨w', hrun, ho, ht⟩ := h.drop pk_law Try.underlying48 (pk_key hk) ty
  exact ⟨w', hrun, Mw.of (hl.drop k) ho (hD.del hl (h.tidy pk_law) hk), ht.grown⟩
end Go.Proofs.Ytamcpdhehipcfaa

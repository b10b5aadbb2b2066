/- Proved: lemmas of one statement's proof, merged by program: what each part proves stands ahead of it. Conditions: those that the lemmas name. -/
import Derived.Test.YtnabhaehfmbkpaaM12
import Derived.Laws.BytesArg
import Derived.Laws.IdiomStrings

/- Proved: what the law's own with leaves of a slice of ints. Conditions: those that the theorems name. -/
namespace Go.Proofs.Ytnabhaehfmbkpaa
open Go.ChangeShapes Go.WideShapes Go.ChangeAt Go.RowKit

/-- a number more, if it is not there. -/
def withL (l : List Int) (x : Int) : List Int := if x ∈ l then l else l ++ [x]
theorem withL_in {l : List Int} {x : Int} (h : x ∈ l) : withL l x = l := if_pos h
theorem withL_out {l : List Int} {x : Int} (h : ¬ x ∈ l) : withL l x = l ++ [x] := if_neg h
theorem withL_mem (l : List Int) (x y : Int) : y ∈ withL l x ↔ y ∈ l ∨ y = x := by
  unfold withL
  split
  · rename_i h
    constructor
    · exact Or.inl
    · rintro (h1 | rfl)
      · exact h1
      · exact h
  · simp
theorem withL_len (l : List Int) (x : Int) : l.length ≤ (withL l x).length ∧ (withL l x).length ≤ l.length + 1 := by
  unfold withL
  split <;> simp
theorem mem_at {l : List Int} {x : Int} (h : x ∈ l) : ∃ j, j < l.length ∧ l.getD j 0 = x := by
  obtain ⟨j, hj, e⟩ := List.getElem_of_mem h
  exact ⟨j, hj, by rw [List.getD_eq_getElem?_getD, List.getElem?_eq_getElem hj]; exact e⟩
theorem at_mem {l : List Int} {j : Nat} (h : j < l.length) : l.getD j 0 ∈ l := by
  rw [List.getD_eq_getElem?_getD, List.getElem?_eq_getElem h]
  exact List.getElem_mem h

/-- A slice of ints with l comes back; nothing that was there has turned. -/
def GivesI (W : World) (l : List Int) (e : Ending) (w' : World) : Prop :=
  ∃ A n c, e = .returned (.slice A n c) ∧ n ≤ c ∧ (A = none → n = 0 ∧ c = 0) ∧ Is w' A n l ∧ Below W.heap.size W w'
theorem is_of_none {w : World} {base n : Nat} {v : Value} {l : List Int} (h : w.ownsRow base 3 1 v n (icells l)) : ∃ A c, v = .slice A n c ∧ n ≤ c ∧ (A = none → n = 0 ∧ c = 0) ∧ Is w A n l := by
  obtain ⟨A, c, e, h1, h2⟩ := is_of h
  subst e
  refine ⟨A, c, rfl, h1, fun q => ?_, h2⟩
  subst q
  rcases h.2 with ⟨e, _⟩ | ⟨g, cap, cur, e, _⟩
  · injection e with e1 e2 e3
    exact ⟨e2, e3⟩
  · injection e with e1
    exact absurd e1 (by simp)
theorem icells_one (l : List Int) : ∀ u ∈ icells l, u.oneCell' = true := by
  intro u hu
  unfold icells at hu
  obtain ⟨x, _, rfl⟩ := List.mem_map.1 hu
  rfl
theorem Is.source {w : World} {ad : Addr} {n : Nat} {l : List Int} (h : Is w (some ad) n l) : ∀ j u, (icells l)[j]? = some u → w.cell? (ad.add j) = some u := by
  intro j u hu
  have hj : j < l.length := by
    have := (List.getElem?_eq_some_iff.1 hu).1
    rwa [icells_len] at this
  obtain ⟨ad', e, _, hc⟩ := h.2 (by rw [← h.1]; omega)
  injection e with e
  subst e
  rw [icells_at l j hj] at hu
  rw [← hu]
  exact hc j (by rw [← h.1]; exact hj)

end Go.Proofs.Ytnabhaehfmbkpaa

/- Proved: the walk of the law that any k unlike rows have an inverse, for every two bytes and every row of bytes. Conditions: those that the theorems name. -/
namespace Go.Proofs.Ytnabhaehfmbkpaa
open Go.ChangeShapes Go.WideShapes Go.ChangeAt Go.RowKit

/-- at most k unlike numbers from 0 to m - 1. -/
structure Sel (k m : Nat) (l : List Int) : Prop where
  ne : l.Pairwise (· ≠ ·)
  rng : ∀ x ∈ l, 0 ≤ x ∧ x < m
  len : l.length ≤ k
theorem Sel.nil (k m : Nat) : Sel k m [] := ⟨List.Pairwise.nil, fun _ h => by simp at h, Nat.zero_le _⟩
theorem Sel.with {k m : Nat} {l : List Int} (h : Sel k m l) {x : Int} (hx : 0 ≤ x ∧ x < m) (hk : l.length < k) : Sel k m (withL l x) := by
  refine ⟨?_, fun y hy => ?_, by have := (withL_len l x).2; omega⟩
  · unfold withL
    split
    · exact h.ne
    · rename_i hn
      refine List.pairwise_append.2 ⟨h.ne, List.pairwise_singleton _ _, fun a ha b hb => ?_⟩
      rw [List.mem_singleton] at hb
      rintro rfl
      exact hn (hb ▸ ha)
  · rcases (withL_mem l x y).1 hy with h1 | rfl
    · exact h.rng y h1
    · exact hx
/-- the numbers up to j stand in it. -/
def Has (l : List Int) (j : Nat) : Prop := ∀ i : Nat, i < j → (i : Int) ∈ l
theorem Has.with {l : List Int} {j : Nat} (h : Has l j) : Has (withL l j) (j + 1) := fun i hi => by
  rw [withL_mem]
  rcases Nat.lt_or_ge i j with hlt | hge
  · exact Or.inl (h i hlt)
  · exact Or.inr (by rw [show i = j by omega])
theorem Has.le {l : List Int} {m : Nat} (h : Has l m) : m ≤ l.length := by
  have := nodup_le (List.range m) (l.map Int.toNat) (List.nodup_range) (fun x hx => by
    rw [List.mem_map]
    exact ⟨x, h x (List.mem_range.1 hx), by simp⟩)
  rwa [List.length_range, List.length_map] at this
theorem Sel.inj {k m : Nat} {l : List Int} (h : Sel k m l) (s t : Nat) (hs : s < l.length) (ht : t < l.length) (e : (l.getD s 0).toNat = (l.getD t 0).toNat) : s = t := by
  have h1 := h.rng _ (at_mem hs)
  have h2 := h.rng _ (at_mem ht)
  have e' : l.getD s 0 = l.getD t 0 := by omega
  rw [List.getD_eq_getElem?_getD, List.getD_eq_getElem?_getD, List.getElem?_eq_getElem hs, List.getElem?_eq_getElem ht] at e'
  have hp := List.pairwise_iff_getElem.1 h.ne
  rcases Nat.lt_trichotomy s t with hlt | heq | hgt
  · exact absurd e' (hp s t hs ht hlt)
  · exact heq
  · exact absurd e'.symm (hp t s ht hs hgt)
theorem Sel.err {k m : Nat} {l : List Int} (h : Sel k m l) (hk1 : 1 ≤ k) (hkm : k ≤ m) (hm : m ≤ 255) (hl : l.length = k) : pErr k m l = 0 := by
  rw [pErr_len (by omega)]
  refine fErr_end fun i hi => cErr_in (by unfold NoTab; omega) (h.rng _ (at_mem hi))
/-- what Invert must answer of k unlike rows: no error, and k rows. -/
theorem Sel.inv {k m k' : Nat} {l : List Int} {q : List (List Nat)} (h : Sel k m l) (hk1 : 1 ≤ k) (hk : k ≤ 255) (hm : m ≤ 256) (hl : l.length = k) (hi : InvIs (rowsC k l) q k') : k' = 0 ∧ q.length = k := by
  have g : Good k k (rowsC k l) := hl ▸ rowsC_good k l
  have hlt : ∀ j, j < l.length → 0 ≤ l.getD j 0 ∧ l.getD j 0 < 256 := fun j hj => by
    have := h.rng _ (at_mem hj)
    omega
  have c : chk (rowsC k l) = 0 := g.chk hk1 hk hk1 hk
  rcases hi with ⟨h1, _⟩ | ⟨_, h2, _⟩ | ⟨_, _, ⟨r, hr, h3⟩, _⟩ | ⟨_, _, h3, _, h5⟩
  · exact absurd c h1
  · exact absurd ((g.row 0 hk1).trans g.len.symm) h2
  · rw [g.len] at hr h3
    have e : EqT k k (tabT (rowsC k l)) (fun i j => cauT k ((l.getD i 0).toNat) j) := fun i hi j hj => tab_rowsC (by omega) hlt (by omega) hj
    have := pick_rank (k := k) (a := fun i => (l.getD i 0).toNat) (by omega) (fun t ht => by
      have := hlt t (by omega)
      show (l.getD t 0).toNat < 256
      omega) (fun s hs t ht e => h.inj s t (by omega) (by omega) e) (h3.congr e)
    omega
  · exact ⟨h5, h3.len.trans g.len⟩
end Go.Proofs.Ytnabhaehfmbkpaa

/- Plain lemmas on strings as lists of numbers below 256, on slices of strings and of shards in memory, and on mixtures of rows. No condition beyond those that each lemma names. -/
namespace Go.Proofs.Ytnabhaehfmbkpaa
open Go.ChangeShapes Go.WideShapes Go.ChangeAt Go.RowKit

/-! ### strings -/
def bts (s : ByteArray) : List Nat := s.data.toList.map UInt8.toNat
def tx (l : List Nat) : ByteArray := ⟨(l.map UInt8.ofNat).toArray⟩
theorem bts_len (s : ByteArray) : (bts s).length = s.size := by unfold bts; rw [List.length_map]; rfl
theorem bts_lt (s : ByteArray) : ∀ j, (bts s).getD j 0 < 256 := getD_lt fun x hx => by
  unfold bts at hx
  obtain ⟨b, _, rfl⟩ := List.mem_map.1 hx
  exact b.toNat_lt
theorem tx_size (l : List Nat) : (tx l).size = l.length := by
  show (l.map UInt8.ofNat).toArray.size = _
  simp
theorem tx_bts (s : ByteArray) : tx (bts s) = s := by
  unfold tx bts
  rw [List.map_map]
  have : (UInt8.ofNat ∘ UInt8.toNat) = id := by funext b; simp
  rw [this, List.map_id]
theorem bts_tx {l : List Nat} (h : ∀ j, l.getD j 0 < 256) : bts (tx l) = l := by
  have h' := mem_lt h
  unfold bts tx
  rw [List.map_map]
  conv => rhs; rw [← List.map_id l]
  refine List.map_congr_left fun x hx => ?_
  have := h' x hx
  show (UInt8.ofNat x).toNat = x
  simp; omega
theorem bts_inj {s s' : ByteArray} (h : bts s = bts s') : s = s' := by rw [← tx_bts s, h, tx_bts]

abbrev S0 : ByteArray := ByteArray.empty
theorem size_ne {s : ByteArray} (h : 1 ≤ s.size) : s ≠ S0 := fun e => by rw [e] at h; exact absurd h (by decide)
theorem size_zero {s : ByteArray} (h : s.size = 0) : s = S0 := by
  have : bts s = bts S0 := by rw [List.eq_nil_of_length_eq_zero ((bts_len s).trans h)]; rfl
  exact bts_inj this

/-- text j of some. -/
def st_ (l : List ByteArray) (j : Nat) : ByteArray := l.getD j S0
theorem st_at {l : List ByteArray} {j : Nat} (h : j < l.length) : st_ l j = l[j] := by
  unfold st_
  rw [List.getD_eq_getElem?_getD, List.getElem?_eq_getElem h]; rfl
theorem st_set (l : List ByteArray) (k : Nat) (x : ByteArray) (j : Nat) (hk : k < l.length) : st_ (l.set k x) j = if k = j then x else st_ l j := by
  unfold st_
  rw [List.getD_eq_getElem?_getD, List.getElem?_set]
  by_cases e : k = j
  · rw [if_pos e, if_pos e, if_pos (by omega)]; rfl
  · rw [if_neg e, if_neg e, ← List.getD_eq_getElem?_getD]
theorem ext_st {l l' : List ByteArray} {n : Nat} (h1 : l.length = n) (h2 : l'.length = n) (h : ∀ j, j < n → st_ l j = st_ l' j) : l = l' := by
  apply List.ext_getElem
  · rw [h1, h2]
  · intro j hj hj'
    have := h j (by omega)
    rwa [st_at hj, st_at hj'] at this
/-- the texts f 0 .. f (n - 1). -/
def mkS (n : Nat) (f : Nat → ByteArray) : List ByteArray := (List.range n).map f
theorem mkS_len (n : Nat) (f : Nat → ByteArray) : (mkS n f).length = n := by unfold mkS; rw [List.length_map, List.length_range]
theorem mkS_at (n : Nat) (f : Nat → ByteArray) (j : Nat) (h : j < n) : st_ (mkS n f) j = f j := by
  unfold mkS st_
  rw [List.getD_eq_getElem?_getD, List.getElem?_map, List.getElem?_range h]; rfl
theorem mkS_succ (n : Nat) (f : Nat → ByteArray) : mkS n f ++ [f n] = mkS (n + 1) f := by
  unfold mkS
  rw [List.range_succ, List.map_append]; rfl
theorem eq_mkS {l : List ByteArray} {n : Nat} {f : Nat → ByteArray} (h1 : l.length = n) (h : ∀ j, j < n → st_ l j = f j) : l = mkS n f :=
  ext_st h1 (mkS_len n f) fun j hj => by rw [mkS_at n f j hj]; exact h j hj

/-- texts as rows, and rows as texts. -/
def tabS (l : List ByteArray) : List (List Nat) := mkR l.length fun i => bts (st_ l i)
def txS (t : List (List Nat)) : List ByteArray := mkS t.length fun i => tx (rw_ t i)
theorem tabS_len (l : List ByteArray) : (tabS l).length = l.length := mkR_len _ _
theorem tabS_at {l : List ByteArray} {i : Nat} (h : i < l.length) : rw_ (tabS l) i = bts (st_ l i) := mkR_at _ _ _ h
theorem txS_len (t : List (List Nat)) : (txS t).length = t.length := mkS_len _ _
theorem txS_at {t : List (List Nat)} {i : Nat} (h : i < t.length) : st_ (txS t) i = tx (rw_ t i) := mkS_at _ _ _ h
theorem tabS_good {l : List ByteArray} {n m : Nat} (h1 : l.length = n) (h : ∀ i, i < n → (st_ l i).size = m) : Good n m (tabS l) := by
  subst h1
  exact ⟨tabS_len l, fun r hr => by rw [tabS_at hr, bts_len]; exact h r hr, fun r hr j => by rw [tabS_at hr]; exact bts_lt _ j⟩
theorem txS_tabS (l : List ByteArray) : txS (tabS l) = l :=
  (eq_mkS (tabS_len l).symm fun j hj => by rw [tabS_len] at hj; rw [tabS_at hj, tx_bts]).symm
theorem tabS_txS {n m : Nat} {t : List (List Nat)} (h : Good n m t) : tabS (txS t) = t :=
  (eq_mkR ((txS_len t).symm) fun j hj => by rw [txS_len] at hj; rw [txS_at hj, bts_tx (h.lt j (by rw [← h.len]; exact hj))]).symm
theorem txS_mk (n : Nat) (f : Nat → List Nat) : txS (mkR n f) = mkS n fun i => tx (f i) :=
  eq_mkS (by rw [txS_len, mkR_len]) fun j hj => by rw [txS_at (by rw [mkR_len]; exact hj), mkR_at _ _ _ hj]

/-! ### slices of strings -/
/-- The slice value with address A and length n holds the texts l, in memory that is there. -/
def Ss (w : World) (A : Option Addr) (n : Nat) (l : List ByteArray) : Prop :=
  l.length = n ∧ (0 < n → ∃ ad, A = some ad ∧ ad.block < w.heap.size ∧ ∀ j, j < n → w.cell? (ad.add j) = some (.string (st_ l j)))
theorem Ss.nil (w : World) (A : Option Addr) : Ss w A 0 [] := ⟨rfl, fun h => absurd h (by omega)⟩
theorem Ss.len {w : World} {A : Option Addr} {n : Nat} {l : List ByteArray} (h : Ss w A n l) : l.length = n := h.1
theorem Ss.at_ {w : World} {A : Option Addr} {n : Nat} {l : List ByteArray} (h : Ss w A n l) {k : Nat} (hk : k < n) :
    ∃ ad, A = some ad ∧ ad.block < w.heap.size ∧ w.cell? (ad.add k) = some (.string (st_ l k)) := by
  obtain ⟨ad, e, hb, hc⟩ := h.2 (by omega)
  exact ⟨ad, e, hb, hc k hk⟩
theorem Ss.below {w w' : World} {A : Option Addr} {n : Nat} {l : List ByteArray} (h : Ss w A n l) (hb : Below w.heap.size w w') : Ss w' A n l := by
  refine ⟨h.1, fun hn => ?_⟩
  obtain ⟨ad, e, hlt, hc⟩ := h.2 hn
  exact ⟨ad, e, Nat.lt_of_lt_of_le hlt hb.size, fun j hj => (hb.cell (p := ad.add j) (by rw [add_block]; exact hlt)).trans (hc j hj)⟩
/-- texts as cells. -/
def scells (l : List ByteArray) : List Value := l.map Value.string
theorem scells_len (l : List ByteArray) : (scells l).length = l.length := by unfold scells; rw [List.length_map]
theorem scells_at (l : List ByteArray) (j : Nat) (hj : j < l.length) : (scells l)[j]? = some (.string (st_ l j)) := by
  unfold scells
  rw [List.getElem?_map, List.getElem?_eq_getElem hj, st_at hj]; rfl
theorem scells_snoc (l : List ByteArray) (x : ByteArray) : scells l ++ [Value.string x] = scells (l ++ [x]) := by unfold scells; rw [List.map_append]; rfl
/-- What was gathered, as a slice that reads as texts. -/
theorem ss_of {w : World} {base n : Nat} {v : Value} {l : List ByteArray} (h : w.ownsRow base 9 1 v n (scells l)) : ∃ A c, v = .slice A n c ∧ n ≤ c ∧ Ss w A n l := by
  obtain ⟨hl, hv⟩ := h
  rw [scells_len, Nat.mul_one] at hl
  rcases hv with ⟨rfl, h0⟩ | ⟨g, cap, cur, rfl, hg, hc, h1, h2, h3, h4⟩
  · have h0' : n = 0 := by simpa using h0
    subst h0'
    exact ⟨_, _, rfl, Nat.le_refl _, ⟨hl, fun h => absurd h (by omega)⟩⟩
  · refine ⟨_, _, rfl, h1, hl, fun _ => ⟨_, rfl, (Array.getElem?_eq_some_iff.1 hc).1, fun j hj => ?_⟩⟩
    have e : (⟨g, 0, none⟩ : Addr).add j = ⟨g, j, none⟩ := by unfold Addr.add; split <;> simp_all
    rw [Nat.mul_one] at h4
    have h5 := scells_at l j (by omega)
    rw [← h4, List.getElem?_take, if_pos hj] at h5
    rw [e, cell_of_row w g j cur _ (0, 0) hc]
    simpa using h5
/-- Block g is a row of strings of the call's own: its first n are l. -/
def OwnS (w : World) (g n : Nat) (l : List ByteArray) : Prop :=
  l.length = n ∧ ∃ cur, w.heap[g]? = some (.cells cur 9 (0, 0)) ∧ ∀ i, i < n → cur[i]? = some (.string (st_ l i))
theorem OwnS.block_lt {w : World} {g n : Nat} {l : List ByteArray} (h : OwnS w g n l) : g < w.heap.size := by
  obtain ⟨_, cur, hc, _⟩ := h
  exact (Array.getElem?_eq_some_iff.1 hc).1
theorem OwnS.cell {w : World} {g n : Nat} {l : List ByteArray} (h : OwnS w g n l) {j : Nat} (hj : j < n) : w.cell? ⟨g, j, none⟩ = some (.string (st_ l j)) := by
  obtain ⟨_, cur, hc, hr⟩ := h
  rw [cell_of_row w g j cur _ (0, 0) hc]
  exact hr j hj
theorem OwnS.frozen {w : World} {g n : Nat} {l : List ByteArray} (h : OwnS w g n l) (j : Nat) : w.frozen? ⟨g, j, none⟩ = false := by
  obtain ⟨_, cur, hc, _⟩ := h
  simp [World.frozen?, hc]
theorem OwnS.below {w w' : World} {g n : Nat} {l : List ByteArray} (h : OwnS w g n l) (hb : Below w.heap.size w w') : OwnS w' g n l := by
  have hlt := h.block_lt
  obtain ⟨h0, cur, hc, h1⟩ := h
  exact ⟨h0, cur, (hb.block g hlt).trans hc, h1⟩
theorem OwnS.set_ {w : World} {g n : Nat} {l : List ByteArray} (h : OwnS w g n l) {r : Nat} (hr : r < n) (x : ByteArray) : OwnS (w.setCell ⟨g, r, none⟩ (.string x)) g n (l.set r x) := by
  obtain ⟨h0, cur, hc, h1⟩ := h
  refine ⟨by rw [List.length_set, h0], cur.setIfInBounds r (.string x), by simp [World.setCell, Array.getElem?_modify, hc], fun i hi => ?_⟩
  rw [st_set _ _ _ _ (by omega), Array.getElem?_setIfInBounds]
  have h2 := h1 i hi
  have hsz : i < cur.size := (Array.getElem?_eq_some_iff.1 h2).1
  by_cases e : r = i
  · rw [if_pos e, if_pos e, if_pos (by omega)]
  · rw [if_neg e, if_neg e]; exact h2
theorem OwnS.far {w : World} {g n : Nat} {l : List ByteArray} (h : OwnS w g n l) {p : Addr} (hp : g ≠ p.block) (v : Value) : OwnS (w.setCell p v) g n l := by
  obtain ⟨h0, cur, hc, h1⟩ := h
  exact ⟨h0, cur, (Below.heap_setCell w p v g hp).trans hc, h1⟩
theorem OwnS.ss {w : World} {g n : Nat} {l : List ByteArray} (h : OwnS w g n l) : Ss w (some ⟨g, 0, none⟩) n l :=
  ⟨h.1, fun _ => ⟨_, rfl, h.block_lt, fun r hr => by
    have e : (⟨g, 0, none⟩ : Addr).add r = ⟨g, r, none⟩ := by unfold Addr.add; split <;> simp_all
    rw [e]; exact h.cell hr⟩⟩
theorem rep_st (n r : Nat) : st_ (List.replicate n S0) r = S0 := by
  unfold st_
  rw [List.getD_eq_getElem?_getD, List.getElem?_replicate]
  split <;> rfl
theorem ownS_new (w : World) (n : Nat) : OwnS (w.alloc (.cells (madeCells #[.string S0] n) 9)) w.heap.size n (List.replicate n S0) :=
  ⟨by simp, _, heap_alloc_new w _, fun r hr => by rw [rep_st]; simp [madeCells, hr, Nat.mod_one]⟩
/-- the first k texts are f's. -/
def UptoS (n k : Nat) (f : Nat → ByteArray) (l : List ByteArray) : Prop := l.length = n ∧ ∀ r, r < k → st_ l r = f r
theorem UptoS.start {n : Nat} {f : Nat → ByteArray} {l : List ByteArray} (h : l.length = n) : UptoS n 0 f l := ⟨h, fun _ h => absurd h (by omega)⟩
theorem UptoS.next {n k : Nat} {f : Nat → ByteArray} {l : List ByteArray} (h : UptoS n k f l) (hk : k < n) : UptoS n (k + 1) f (l.set k (f k)) := by
  refine ⟨by rw [List.length_set]; exact h.1, fun r hr => ?_⟩
  rw [st_set _ _ _ _ (by rw [h.1]; exact hk)]
  by_cases e : k = r
  · rw [if_pos e, e]
  · rw [if_neg e]; exact h.2 r (by omega)
theorem UptoS.done {n : Nat} {f : Nat → ByteArray} {l : List ByteArray} (h : UptoS n n f l) : l = mkS n f := eq_mkS h.1 h.2

/-! ### shards -/
abbrev Shd := Int × ByteArray
/-- shard j of some. -/
def sh_ (l : List Shd) (j : Nat) : Shd := l.getD j (0, S0)
theorem sh_at {l : List Shd} {j : Nat} (h : j < l.length) : sh_ l j = l[j] := by
  unfold sh_
  rw [List.getD_eq_getElem?_getD, List.getElem?_eq_getElem h]; rfl
theorem sh_app (l r : List Shd) (j : Nat) : sh_ (l ++ r) j = if j < l.length then sh_ l j else sh_ r (j - l.length) := by
  unfold sh_
  rw [List.getD_eq_getElem?_getD, List.getElem?_append]
  split <;> rw [List.getD_eq_getElem?_getD]
theorem sh_snoc (l : List Shd) (x : Shd) (j : Nat) (h : j < l.length + 1) : sh_ (l ++ [x]) j = if j < l.length then sh_ l j else x := by
  rw [sh_app]
  split
  · rfl
  · rw [show j - l.length = 0 by omega]; rfl
theorem sh_take {l : List Shd} {k j : Nat} (h : j < k) : sh_ (l.take k) j = sh_ l j := by
  unfold sh_
  rw [List.getD_eq_getElem?_getD, List.getElem?_take, if_pos h, ← List.getD_eq_getElem?_getD]
/-- The slice value with address A and length n holds the shards l, in memory that is there. -/
def Sh (w : World) (A : Option Addr) (n : Nat) (l : List Shd) : Prop :=
  l.length = n ∧ (0 < n → ∃ ad, A = some ad ∧ ad.block < w.heap.size ∧ ∀ j, j < n → w.cell? (ad.add (j * 2)) = some (.int .i64 (sh_ l j).1) ∧ w.cell? ⟨(ad.add (j * 2)).block, (ad.add (j * 2)).off + 1, none⟩ = some (.string (sh_ l j).2))
theorem Sh.nil (w : World) (A : Option Addr) : Sh w A 0 [] := ⟨rfl, fun h => absurd h (by omega)⟩
theorem Sh.len {w : World} {A : Option Addr} {n : Nat} {l : List Shd} (h : Sh w A n l) : l.length = n := h.1
theorem Sh.at_ {w : World} {A : Option Addr} {n : Nat} {l : List Shd} (h : Sh w A n l) {k : Nat} (hk : k < n) :
    ∃ ad, A = some ad ∧ ad.block < w.heap.size ∧ w.cell? (ad.add (k * 2)) = some (.int .i64 (sh_ l k).1) ∧ w.cell? ⟨(ad.add (k * 2)).block, (ad.add (k * 2)).off + 1, none⟩ = some (.string (sh_ l k).2) := by
  obtain ⟨ad, e, hb, hc⟩ := h.2 (by omega)
  exact ⟨ad, e, hb, hc k hk⟩
theorem Sh.below {w w' : World} {A : Option Addr} {n : Nat} {l : List Shd} (h : Sh w A n l) (hb : Below w.heap.size w w') : Sh w' A n l := by
  refine ⟨h.1, fun hn => ?_⟩
  obtain ⟨ad, e, hlt, hc⟩ := h.2 hn
  exact ⟨ad, e, Nat.lt_of_lt_of_le hlt hb.size, fun j hj => ⟨(hb.cell (p := ad.add (j * 2)) (by rw [add_block]; exact hlt)).trans (hc j hj).1, (hb.cell (p := ⟨(ad.add (j * 2)).block, (ad.add (j * 2)).off + 1, none⟩) (by show (ad.add (j * 2)).block < _; rw [add_block]; exact hlt)).trans (hc j hj).2⟩⟩
theorem Sh.cut {w : World} {A : Option Addr} {n : Nat} {l : List Shd} (h : Sh w A n l) {k : Nat} (hk : k ≤ n) : Sh w A k (l.take k) := by
  refine ⟨by rw [List.length_take, h.1]; omega, fun h0 => ?_⟩
  obtain ⟨ad, e, hlt, hc⟩ := h.2 (by omega)
  exact ⟨ad, e, hlt, fun j hj => by rw [sh_take hj]; exact hc j (by omega)⟩
/-- shards as cells. -/
def hcells : List Shd → List Value
  | [] => []
  | x :: r => .int .i64 x.1 :: .string x.2 :: hcells r
theorem hcells_len (l : List Shd) : (hcells l).length = l.length * 2 := by
  induction l with
  | nil => rfl
  | cons x r ih => show (hcells r).length + 1 + 1 = _; rw [ih, List.length_cons]; omega
theorem hcells_app (l r : List Shd) : hcells (l ++ r) = hcells l ++ hcells r := by
  induction l with
  | nil => rfl
  | cons x l ih => show _ :: _ :: hcells (l ++ r) = _; rw [ih]; rfl
theorem hcells_snoc (l : List Shd) (i : Int) (s : ByteArray) : hcells l ++ [.int .i64 i, .string s] = hcells (l ++ [(i, s)]) := by rw [hcells_app]; rfl
theorem hcells_at (l : List Shd) (j : Nat) (hj : j < l.length) : (hcells l)[j * 2]? = some (.int .i64 (sh_ l j).1) ∧ (hcells l)[j * 2 + 1]? = some (.string (sh_ l j).2) := by
  induction l generalizing j with
  | nil => exact absurd hj (by simp)
  | cons x r ih =>
    rcases j with _ | j
    · exact ⟨rfl, rfl⟩
    · have := ih j (by simpa using hj)
      rw [Nat.succ_mul]
      exact this
/-- What was gathered, as a slice that reads as shards. -/
theorem sh_of {w : World} {base n : Nat} {v : Value} {l : List Shd} (h : w.ownsRow base 38 2 v n (hcells l)) : ∃ A c, v = .slice A n c ∧ n ≤ c ∧ Sh w A n l := by
  obtain ⟨hl, hv⟩ := h
  rw [hcells_len] at hl
  have hl : l.length = n := by omega
  rcases hv with ⟨rfl, h0⟩ | ⟨g, cap, cur, rfl, hg, hc, h1, h2, h3, h4⟩
  · have h0' : n = 0 := by simpa using h0
    subst h0'
    exact ⟨_, _, rfl, Nat.le_refl _, ⟨hl, fun h => absurd h (by omega)⟩⟩
  · refine ⟨_, _, rfl, h1, hl, fun _ => ⟨_, rfl, (Array.getElem?_eq_some_iff.1 hc).1, fun j hj => ?_⟩⟩
    have e : ∀ i, (⟨g, 0, none⟩ : Addr).add i = ⟨g, i, none⟩ := fun i => by unfold Addr.add; split <;> simp_all
    have h5 := hcells_at l j (by omega)
    rw [← h4, List.getElem?_take, if_pos (by omega), List.getElem?_take, if_pos (by omega)] at h5
    rw [e, cell_of_row w g _ cur _ (0, 0) hc, cell_of_row w g _ cur _ (0, 0) hc]
    simpa using h5
end Go.Proofs.Ytnabhaehfmbkpaa

/- Proved: what the mixtures of package rs answer for every row and all texts. Conditions: those that the theorems name. -/
namespace Go.Proofs.Ytnabhaehfmbkpaa
open Go.ChangeShapes Go.WideShapes Go.ChangeAt Go.RowKit

/-! ### mixtures of rows -/
/-- the sum of the first q rows of b, each times its place of c. -/
def mixP (k m q : Nat) (c : List Nat) (b : List (List Nat)) : List Nat := mk m fun j => dotN q c (colL k b j)
def mixR (k m : Nat) (c : List Nat) (b : List (List Nat)) : List Nat := mixP k m k c b
theorem mulL_mix (n k m : Nat) (a b : List (List Nat)) : mulL n k m a b = mkR n fun i => mixR k m (rw_ a i) b := rfl
theorem mixP_len (k m q : Nat) (c : List Nat) (b : List (List Nat)) : (mixP k m q c b).length = m := mk_len _ _
theorem mixP_lt (k m q : Nat) {c : List Nat} (b : List (List Nat)) (hc : ∀ j, c.getD j 0 < 256) : ∀ j, (mixP k m q c b).getD j 0 < 256 := mk_lt m _ fun _ => dotN_lt q _ _ hc
theorem mixP_zero (k m : Nat) (c : List Nat) (b : List (List Nat)) : mixP k m 0 c b = List.replicate m 0 :=
  (eq_mk (by simp) fun j _ => rep_at m j).symm
theorem mixP_at {k m q : Nat} {c : List Nat} {b : List (List Nat)} {j : Nat} (hj : j < m) : (mixP k m q c b).getD j 0 = dotN q c (colL k b j) := mk_at _ _ _ hj
theorem col_at {k : Nat} {b : List (List Nat)} {q j : Nat} (hq : q < k) : (colL k b j).getD q 0 = (rw_ b q).getD j 0 := by unfold colL; exact mk_at _ _ _ hq
theorem mixP_next {k m q : Nat} {c : List Nat} {b : List (List Nat)} (hq : q < k) :
    mixP k m (q + 1) c b = addL m (mixP k m q c b) (scaleL m (c.getD q 0) (rw_ b q)) := by
  refine (eq_mk (by unfold addL; rw [mk_len]) fun j hj => ?_).symm
  unfold addL
  rw [mk_at _ _ _ hj, mixP_at hj, dotN_succ, col_at hq]
  unfold scaleL
  rw [mk_at _ _ _ hj]
theorem mixP_skip {k m q : Nat} {c : List Nat} {b : List (List Nat)} (hq : q < k) (hb : ∀ j, (rw_ b q).getD j 0 < 256) (h0 : c.getD q 0 = 0) : mixP k m (q + 1) c b = mixP k m q c b := by
  refine (eq_mk (mixP_len _ _ _ _ _) fun j hj => ?_).symm
  rw [mixP_at hj, dotN_succ, col_at hq, h0, gmul_zero_left _ (hb j), Nat.xor_zero]

/-! ### strings and their bytes in memory -/
theorem convert_back (w : World) (A : Option Addr) (m c : Nat) (l : List Nat) (h : Bs w A m l) (h0 : 0 < m) :
    (convert 33 9 (.slice A m c)).run Try.prog w = .ok (.string (tx l)) w := by
  obtain ⟨ad, rfl, _⟩ := h.at_ h0
  have hl := h.len
  have e : m = (l.map UInt8.ofNat).length := by rw [List.length_map, hl]
  rw [e]
  refine run_convert_bytes_back w 33 9 5 ad c (l.map UInt8.ofNat) Try.underlying33 Try.underlying5 Try.underlying9 fun j hj => ?_
  rw [List.length_map] at hj
  obtain ⟨ad', e', _, hc⟩ := h.at_ (k := j) (by omega)
  injection e' with e'
  subst e'
  have hb := h.lt j
  rw [hc]
  have : (l.map UInt8.ofNat)[j].toNat = l.getD j 0 := by
    rw [List.getElem_map, List.getD_eq_getElem?_getD, List.getElem?_eq_getElem hj]
    rw [List.getD_eq_getElem?_getD, List.getElem?_eq_getElem hj] at hb
    have hb' : l[j] < 256 := hb
    simp; omega
  rw [this]
/-- what a string's bytes leave, laid in a new row. -/
theorem convert_to (w : World) (s : ByteArray) : ∃ cap C, s.size ≤ cap ∧ (convert 9 33 (.string s)).run Try.prog w = .ok (.slice (some ⟨w.heap.size, 0, none⟩) s.size cap) (w.drew.alloc (.cells C 5 (C.size, C.size + 1))) ∧
    Bs (w.drew.alloc (.cells C 5 (C.size, C.size + 1))) (some ⟨w.heap.size, 0, none⟩) s.size (bts s) := by
  refine ⟨_, _, grownCap_ge w s.size 0 5, run_bytes_of_string w 9 33 5 s Try.underlying9 Try.underlying33 Try.underlying5, bts_len s, bts_lt s, fun _ => ⟨_, rfl, by simp, fun j hj => ?_⟩⟩
  have e : (⟨w.heap.size, 0, none⟩ : Addr).add j = ⟨w.heap.size, j, none⟩ := by unfold Addr.add; split <;> simp_all
  rw [e]
  have h1 := World.cell?_alloc_mark w.drew (bytesRow s (grownCap w s.size 0 5)) 5 ((bytesRow s (grownCap w s.size 0 5)).size, (bytesRow s (grownCap w s.size 0 5)).size + 1) j
  refine h1.trans ?_
  have hj' : j < s.data.size := hj
  unfold bytesRow bts
  rw [Array.getElem?_append_left (by simpa using hj'), Array.getElem?_map, Array.getElem?_eq_getElem hj', List.getD_eq_getElem?_getD, List.getElem?_map, Array.getElem?_toList, Array.getElem?_eq_getElem hj']
  rfl

/-! ### the closure -/
set_option maxRecDepth 100000 in
set_option maxHeartbeats 1600000 in
theorem mix_any (R A : Option Addr) (k c a B m : Nat) (r : List Nat) (t : List (List Nat)) (w : World) (hr : Bs w R k r) (ht : Rows w A k t) (hB : w.cell? ⟨B, 0, none⟩ = some (.slice A k a)) (hBl : B < w.heap.size)
    (hl : ∀ i, i < k → (rw_ t i).length = m) (h1 : 1 ≤ k) (hm1 : 1 ≤ m) (hm : m ≤ 1024) (hk : k ≤ 255) :
    Calls Try.prog 35 #[.slice R k c, .pointer (some ⟨B, 0, none⟩)] w fun e w' => e = .returned (.string (tx (mixR k m r t))) ∧ Below w.heap.size w w' := by
  have hmR := run_make_row' (P := Try.prog) 33 5 (.int .u8 0) 1 Try.underlying33 Try.infoByte rfl .i64 .i64 m (by omega) (by omega)
  have HR := Lib.hid hr
  have HT := Lib.hid ht
  have HL := Lib.hid hl
  have HB := Lib.hid hB
  obtain ⟨ad, B0, c0, rfl, had, hc0, hb0⟩ := ht.at_ (k := 0) (by omega)
  rw [Addr.add_zero' ad, hl 0 (by omega)] at hc0
  clear hr ht hl hb0
  have hpos : (0 : Int) ≤ (m : Int) := by omega
  have hk0 : (0 : Int) < (k : Int) := by omega
  go_enter Try.func35, Try.ntmps35
  go_wp2_with fail
  have HO := Lib.hid (own_new w m)
  have HW := Lib.hid ((Below.refl w.heap.size w).alloc (Nat.le_refl _) (.cells (madeCells #[.int .u8 0] m) 5))
  clear hc0 hB
  go_loopw [4, 14] (fun v i wr => ∃ q : Nat, q ≤ k ∧ i = .int .i64 q ∧ ∃ S d, v = .slice S m d ∧ Bs wr S m (mixP k m q r t) ∧ Below w.heap.size w wr) (fun _ i _ => k - (intOf i).toNat)
  case atStart => exact ⟨0, by omega, rfl, _, _, rfl, by rw [mixP_zero]; exact HO.out.bs, HW.out⟩
  case round =>
    obtain ⟨q, hq, rfl, S, d, rfl, hs, hbel⟩ := hrel
    have HS := Lib.hid hs
    have HW' := Lib.hid hbel
    clear hs hbel HO HW
    by_cases hlt : q < k
    · have hlt' : (q : Int) < (k : Int) := by omega
      have hq0 : (0 : Int) ≤ (q : Int) := Int.natCast_nonneg _
      obtain ⟨rd, rfl, hrd, hrc⟩ := HR.out.at_ hlt
      have hrc' : wr.cell? (rd.add q) = some (.int .u8 (r.getD q 0 : Nat)) := (HW'.out.cell (by rw [add_block]; exact hrd)).trans hrc
      clear hrc
      have hx := HR.out.lt q
      obtain ⟨ad', Bq, cq, e', _, hac, hbq⟩ := (HT.out.below HW'.out).at_ hlt
      cases e'
      rw [HL.out q hlt] at hac hbq
      have hB' : wr.cell? ⟨B, 0, none⟩ = some (.slice (some ad) k a) := (HW'.out.cell (p := ⟨B, 0, none⟩) hBl).trans HB.out
      have HBq := Lib.hid hbq
      clear hbq
      have HN := Lib.hid (mixP_next (m := m) (c := r) (b := t) hlt)
      have HZ := Lib.hid (fun h => mixP_skip (m := m) (c := r) (b := t) hlt HBq.out.lt h)
      generalize r.getD q 0 = x at *
      by_cases h0 : x = 0
      · subst h0
        clear hac hB'
        go_wp2_with fail
        go_roundw
        case rel => exact ⟨q + 1, by omega, by go_num, _, _, rfl, by rw [HZ.out rfl]; exact HS.out, HW'.out⟩
        case measure => simp [intOf]; omega
      · have hx' : ((x : Int) != 0) = true := by simp; omega
        have hx2 : ¬ (x : Int) = 0 := by omega
        clear h0
        go_wp2_with (go_at_call 36; refine (muladd_cap S Bq x m d cq _ _ _ hx HS.out HBq.out (by omega)).mono ?_; rintro e w2 ⟨A2, c2, rfl, hc2, h2, g2⟩; have H2 := Lib.hid h2; have HW2 := Lib.hid (HW'.out.trans (g2.mono HW'.out.size)); clear h2 g2 hc2)
        go_roundw
        case rel => exact ⟨q + 1, by omega, by go_num, _, _, rfl, by rw [HN.out]; exact H2.out, HW2.out⟩
        case measure => simp [intOf]; omega
    · obtain rfl : q = k := by omega
      have hcv := convert_back wr S m d _ HS.out (by omega)
      go_wp2_with fail
      go_ret
      exact ⟨rfl, HW'.out⟩
end Go.Proofs.Ytnabhaehfmbkpaa

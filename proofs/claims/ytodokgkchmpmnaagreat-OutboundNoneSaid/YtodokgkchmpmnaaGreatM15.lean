/- Proved: lemmas of one statement's proof, merged by program: what each part proves stands ahead of it. Conditions: those that the lemmas name. -/
import Derived.Test.YtodokgkchmpmnaaGreatM2
import Derived.Laws.World
import Derived.Deep.OwnRows
import Derived.Laws.BytesArg
import Derived.Laws.IdiomStrings
import Derived.Deep.QuietTactic
import Derived.Test.YtodokgkchmpmnaaGreatM13
import Derived.Test.YtodokgkchmpmnaaGreatM10
import Derived.Test.YtodokgkchmpmnaaGreatM7
import Derived.Test.YtodokgkchmpmnaaGreatM14

/- Plain lemmas on strings as lists of numbers below 256, on slices of strings in memory, and on strings turned into bytes and back. No condition beyond those that each lemma names. -/
namespace Go.Proofs.YtodokgkchmpmnaaGreat
open Go.ChangeShapes Go.WideShapes Go.ChangeAt Go.RowKit

/-! ### strings -/
def bts (s : ByteArray) : List Nat := s.data.toList.map UInt8.toNat
def tx (l : List Nat) : ByteArray := ⟨(l.map UInt8.ofNat).toArray⟩
theorem bts_len (s : ByteArray) : (bts s).length = s.size := by unfold bts; rw [List.length_map]; rfl
theorem bts_lt (s : ByteArray) : ∀ j, (bts s).getD j 0 < 256 := getD_lt fun x hx => by
  unfold bts at hx
  obtain ⟨b, _, rfl⟩ := List.mem_map.1 hx
  exact b.toNat_lt
theorem tx_size (l : List Nat) : (tx l).size = l.length := by
  show (l.map UInt8.ofNat).toArray.size = _
  simp
theorem tx_bts (s : ByteArray) : tx (bts s) = s := by
  unfold tx bts
  rw [List.map_map]
  have : (UInt8.ofNat ∘ UInt8.toNat) = id := by funext b; simp
  rw [this, List.map_id]
theorem bts_tx {l : List Nat} (h : ∀ j, l.getD j 0 < 256) : bts (tx l) = l := by
  have h' := mem_lt h
  unfold bts tx
  rw [List.map_map]
  conv => rhs; rw [← List.map_id l]
  refine List.map_congr_left fun x hx => ?_
  have := h' x hx
  show (UInt8.ofNat x).toNat = x
  simp; omega
theorem bts_inj {s s' : ByteArray} (h : bts s = bts s') : s = s' := by rw [← tx_bts s, h, tx_bts]

abbrev S0 : ByteArray := ByteArray.empty
theorem size_ne {s : ByteArray} (h : 1 ≤ s.size) : s ≠ S0 := fun e => by rw [e] at h; exact absurd h (by decide)
theorem size_zero {s : ByteArray} (h : s.size = 0) : s = S0 := by
  have : bts s = bts S0 := by rw [List.eq_nil_of_length_eq_zero ((bts_len s).trans h)]; rfl
  exact bts_inj this

/-- text j of some. -/
def st_ (l : List ByteArray) (j : Nat) : ByteArray := l.getD j S0
theorem st_at {l : List ByteArray} {j : Nat} (h : j < l.length) : st_ l j = l[j] := by
  unfold st_
  rw [List.getD_eq_getElem?_getD, List.getElem?_eq_getElem h]; rfl
theorem st_set (l : List ByteArray) (k : Nat) (x : ByteArray) (j : Nat) (hk : k < l.length) : st_ (l.set k x) j = if k = j then x else st_ l j := by
  unfold st_
  rw [List.getD_eq_getElem?_getD, List.getElem?_set]
  by_cases e : k = j
  · rw [if_pos e, if_pos e, if_pos (by omega)]; rfl
  · rw [if_neg e, if_neg e, ← List.getD_eq_getElem?_getD]
theorem ext_st {l l' : List ByteArray} {n : Nat} (h1 : l.length = n) (h2 : l'.length = n) (h : ∀ j, j < n → st_ l j = st_ l' j) : l = l' := by
  apply List.ext_getElem
  · rw [h1, h2]
  · intro j hj hj'
    have := h j (by omega)
    rwa [st_at hj, st_at hj'] at this
/-- the texts f 0 .. f (n - 1). -/
def mkS (n : Nat) (f : Nat → ByteArray) : List ByteArray := (List.range n).map f
theorem mkS_len (n : Nat) (f : Nat → ByteArray) : (mkS n f).length = n := by unfold mkS; rw [List.length_map, List.length_range]
theorem mkS_at (n : Nat) (f : Nat → ByteArray) (j : Nat) (h : j < n) : st_ (mkS n f) j = f j := by
  unfold mkS st_
  rw [List.getD_eq_getElem?_getD, List.getElem?_map, List.getElem?_range h]; rfl
theorem mkS_succ (n : Nat) (f : Nat → ByteArray) : mkS n f ++ [f n] = mkS (n + 1) f := by
  unfold mkS
  rw [List.range_succ, List.map_append]; rfl
theorem eq_mkS {l : List ByteArray} {n : Nat} {f : Nat → ByteArray} (h1 : l.length = n) (h : ∀ j, j < n → st_ l j = f j) : l = mkS n f :=
  ext_st h1 (mkS_len n f) fun j hj => by rw [mkS_at n f j hj]; exact h j hj

/-! ### slices of strings -/
/-- The slice value with address A and length n holds the texts l, in memory that is there. -/
def Ss (w : World) (A : Option Addr) (n : Nat) (l : List ByteArray) : Prop :=
  l.length = n ∧ (0 < n → ∃ ad, A = some ad ∧ ad.block < w.heap.size ∧ ∀ j, j < n → w.cell? (ad.add j) = some (.string (st_ l j)))
theorem Ss.nil (w : World) (A : Option Addr) : Ss w A 0 [] := ⟨rfl, fun h => absurd h (by omega)⟩
theorem Ss.len {w : World} {A : Option Addr} {n : Nat} {l : List ByteArray} (h : Ss w A n l) : l.length = n := h.1
theorem Ss.at_ {w : World} {A : Option Addr} {n : Nat} {l : List ByteArray} (h : Ss w A n l) {k : Nat} (hk : k < n) :
    ∃ ad, A = some ad ∧ ad.block < w.heap.size ∧ w.cell? (ad.add k) = some (.string (st_ l k)) := by
  obtain ⟨ad, e, hb, hc⟩ := h.2 (by omega)
  exact ⟨ad, e, hb, hc k hk⟩
theorem Ss.below {w w' : World} {A : Option Addr} {n : Nat} {l : List ByteArray} (h : Ss w A n l) (hb : Below w.heap.size w w') : Ss w' A n l := by
  refine ⟨h.1, fun hn => ?_⟩
  obtain ⟨ad, e, hlt, hc⟩ := h.2 hn
  exact ⟨ad, e, Nat.lt_of_lt_of_le hlt hb.size, fun j hj => (hb.cell (p := ad.add j) (by rw [add_block]; exact hlt)).trans (hc j hj)⟩
/-- texts as cells. -/
def scells (l : List ByteArray) : List Value := l.map Value.string
theorem scells_len (l : List ByteArray) : (scells l).length = l.length := by unfold scells; rw [List.length_map]
theorem scells_at (l : List ByteArray) (j : Nat) (hj : j < l.length) : (scells l)[j]? = some (.string (st_ l j)) := by
  unfold scells
  rw [List.getElem?_map, List.getElem?_eq_getElem hj, st_at hj]; rfl
theorem scells_snoc (l : List ByteArray) (x : ByteArray) : scells l ++ [Value.string x] = scells (l ++ [x]) := by unfold scells; rw [List.map_append]; rfl
/-- What was gathered, as a slice that reads as texts. -/
theorem ss_of {w : World} {base n : Nat} {v : Value} {l : List ByteArray} (h : w.ownsRow base 9 1 v n (scells l)) : ∃ A c, v = .slice A n c ∧ n ≤ c ∧ Ss w A n l := by
  obtain ⟨hl, hv⟩ := h
  rw [scells_len, Nat.mul_one] at hl
  rcases hv with ⟨rfl, h0⟩ | ⟨g, cap, cur, rfl, hg, hc, h1, h2, h3, h4⟩
  · have h0' : n = 0 := by simpa using h0
    subst h0'
    exact ⟨_, _, rfl, Nat.le_refl _, ⟨hl, fun h => absurd h (by omega)⟩⟩
  · refine ⟨_, _, rfl, h1, hl, fun _ => ⟨_, rfl, (Array.getElem?_eq_some_iff.1 hc).1, fun j hj => ?_⟩⟩
    have e : (⟨g, 0, none⟩ : Addr).add j = ⟨g, j, none⟩ := by unfold Addr.add; split <;> simp_all
    rw [Nat.mul_one] at h4
    have h5 := scells_at l j (by omega)
    rw [← h4, List.getElem?_take, if_pos hj] at h5
    rw [e, cell_of_row w g j cur _ (0, 0) hc]
    simpa using h5
/-- Block g is a row of strings of the call's own: its first n are l. -/
def OwnS (w : World) (g n : Nat) (l : List ByteArray) : Prop :=
  l.length = n ∧ ∃ cur, w.heap[g]? = some (.cells cur 9 (0, 0)) ∧ ∀ i, i < n → cur[i]? = some (.string (st_ l i))
theorem OwnS.block_lt {w : World} {g n : Nat} {l : List ByteArray} (h : OwnS w g n l) : g < w.heap.size := by
  obtain ⟨_, cur, hc, _⟩ := h
  exact (Array.getElem?_eq_some_iff.1 hc).1
theorem OwnS.cell {w : World} {g n : Nat} {l : List ByteArray} (h : OwnS w g n l) {j : Nat} (hj : j < n) : w.cell? ⟨g, j, none⟩ = some (.string (st_ l j)) := by
  obtain ⟨_, cur, hc, hr⟩ := h
  rw [cell_of_row w g j cur _ (0, 0) hc]
  exact hr j hj
theorem OwnS.frozen {w : World} {g n : Nat} {l : List ByteArray} (h : OwnS w g n l) (j : Nat) : w.frozen? ⟨g, j, none⟩ = false := by
  obtain ⟨_, cur, hc, _⟩ := h
  simp [World.frozen?, hc]
theorem OwnS.below {w w' : World} {g n : Nat} {l : List ByteArray} (h : OwnS w g n l) (hb : Below w.heap.size w w') : OwnS w' g n l := by
  have hlt := h.block_lt
  obtain ⟨h0, cur, hc, h1⟩ := h
  exact ⟨h0, cur, (hb.block g hlt).trans hc, h1⟩
theorem OwnS.set_ {w : World} {g n : Nat} {l : List ByteArray} (h : OwnS w g n l) {r : Nat} (hr : r < n) (x : ByteArray) : OwnS (w.setCell ⟨g, r, none⟩ (.string x)) g n (l.set r x) := by
  obtain ⟨h0, cur, hc, h1⟩ := h
  refine ⟨by rw [List.length_set, h0], cur.setIfInBounds r (.string x), by simp [World.setCell, Array.getElem?_modify, hc], fun i hi => ?_⟩
  rw [st_set _ _ _ _ (by omega), Array.getElem?_setIfInBounds]
  have h2 := h1 i hi
  have hsz : i < cur.size := (Array.getElem?_eq_some_iff.1 h2).1
  by_cases e : r = i
  · rw [if_pos e, if_pos e, if_pos (by omega)]
  · rw [if_neg e, if_neg e]; exact h2
theorem rep_st (n r : Nat) : st_ (List.replicate n S0) r = S0 := by
  unfold st_
  rw [List.getD_eq_getElem?_getD, List.getElem?_replicate]
  split <;> rfl
theorem ownS_new (w : World) (n : Nat) : OwnS (w.alloc (.cells (madeCells #[.string S0] n) 9)) w.heap.size n (List.replicate n S0) :=
  ⟨by simp, _, heap_alloc_new w _, fun r hr => by rw [rep_st]; simp [madeCells, hr, Nat.mod_one]⟩
/-- the first k texts are f's. -/
def UptoS (n k : Nat) (f : Nat → ByteArray) (l : List ByteArray) : Prop := l.length = n ∧ ∀ r, r < k → st_ l r = f r
theorem UptoS.start {n : Nat} {f : Nat → ByteArray} {l : List ByteArray} (h : l.length = n) : UptoS n 0 f l := ⟨h, fun _ h => absurd h (by omega)⟩
theorem UptoS.next {n k : Nat} {f : Nat → ByteArray} {l : List ByteArray} (h : UptoS n k f l) (hk : k < n) : UptoS n (k + 1) f (l.set k (f k)) := by
  refine ⟨by rw [List.length_set]; exact h.1, fun r hr => ?_⟩
  rw [st_set _ _ _ _ (by rw [h.1]; exact hk)]
  by_cases e : k = r
  · rw [if_pos e, e]
  · rw [if_neg e]; exact h.2 r (by omega)
theorem UptoS.done {n : Nat} {f : Nat → ByteArray} {l : List ByteArray} (h : UptoS n n f l) : l = mkS n f := eq_mkS h.1 h.2

/-! ### strings and their bytes in memory -/
theorem convert_back (w : World) (A : Option Addr) (m c : Nat) (l : List Nat) (h : Bs w A m l) (h0 : 0 < m) :
    (convert 128 9 (.slice A m c)).run Tryz.prog w = .ok (.string (tx l)) w := by
  obtain ⟨ad, rfl, _⟩ := h.at_ h0
  have hl := h.len
  have e : m = (l.map UInt8.ofNat).length := by rw [List.length_map, hl]
  rw [e]
  refine run_convert_bytes_back w 128 9 5 ad c (l.map UInt8.ofNat) Tryz.underlying128 Tryz.underlying5 Tryz.underlying9 fun j hj => ?_
  rw [List.length_map] at hj
  obtain ⟨ad', e', _, hc⟩ := h.at_ (k := j) (by omega)
  injection e' with e'
  subst e'
  have hb := h.lt j
  rw [hc]
  have : (l.map UInt8.ofNat)[j].toNat = l.getD j 0 := by
    rw [List.getElem_map, List.getD_eq_getElem?_getD, List.getElem?_eq_getElem hj]
    rw [List.getD_eq_getElem?_getD, List.getElem?_eq_getElem hj] at hb
    have hb' : l[j] < 256 := hb
    simp; omega
  rw [this]
/-- what a string's bytes leave, laid in a new row. -/
theorem convert_to (w : World) (s : ByteArray) : ∃ cap C, s.size ≤ cap ∧ (convert 9 128 (.string s)).run Tryz.prog w = .ok (.slice (some ⟨w.heap.size, 0, none⟩) s.size cap) (w.drew.alloc (.cells C 5 (C.size, C.size + 1))) ∧
    Bs (w.drew.alloc (.cells C 5 (C.size, C.size + 1))) (some ⟨w.heap.size, 0, none⟩) s.size (bts s) := by
  refine ⟨_, _, grownCap_ge w s.size 0 5, run_bytes_of_string w 9 128 5 s Tryz.underlying9 Tryz.underlying128 Tryz.underlying5, bts_len s, bts_lt s, fun _ => ⟨_, rfl, by simp, fun j hj => ?_⟩⟩
  have e : (⟨w.heap.size, 0, none⟩ : Addr).add j = ⟨w.heap.size, j, none⟩ := by unfold Addr.add; split <;> simp_all
  rw [e]
  have h1 := World.cell?_alloc_mark w.drew (bytesRow s (grownCap w s.size 0 5)) 5 ((bytesRow s (grownCap w s.size 0 5)).size, (bytesRow s (grownCap w s.size 0 5)).size + 1) j
  refine h1.trans ?_
  have hj' : j < s.data.size := hj
  unfold bytesRow bts
  rw [Array.getElem?_append_left (by simpa using hj'), Array.getElem?_map, Array.getElem?_eq_getElem hj', List.getD_eq_getElem?_getD, List.getElem?_map, Array.getElem?_toList, Array.getElem?_eq_getElem hj']
  rfl

/-! ### more on memory -/
theorem Tryz.infoString : (Tryz.prog.info? 9).map (fun i => (i.zero, i.size, i.bytes)) = some (some (.string S0), 1, 16) := by kernel_rfl
theorem list_ne {s t : ByteArray} (h : s ≠ t) : (s.toList == t.toList) = false := by
  rw [Bool.eq_false_iff]
  intro e
  have e := eq_of_beq e
  rw [ByteArray.toList_eq, ByteArray.toList_eq] at e
  refine h (bts_inj ?_)
  unfold bts
  rw [e]

theorem below_drawn_of {B : Nat} {w w' : World} (h : Below B w w') (q : Nat) : Below B w (w'.drewN q) := ⟨h.os, h.tape, h.output, h.size, h.block⟩
theorem two_drawn {w w' : World} {B : Nat} (h : ∃ q, w' = w.drewN q) : Below B w w' := by
  obtain ⟨q, rfl⟩ := h
  exact ⟨rfl, rfl, rfl, Nat.le_refl _, fun _ _ => rfl⟩
end Go.Proofs.YtodokgkchmpmnaaGreat

/- Plain lemmas on texts as tables, and on slices of shards in memory. No condition beyond those that each lemma names. -/
namespace Go.Proofs.YtodokgkchmpmnaaGreat
open Go.ChangeShapes Go.WideShapes Go.ChangeAt Go.RowKit

/-- texts as rows, and rows as texts. -/
def tabS (l : List ByteArray) : List (List Nat) := mkR l.length fun i => bts (st_ l i)
def txS (t : List (List Nat)) : List ByteArray := mkS t.length fun i => tx (rw_ t i)
theorem tabS_len (l : List ByteArray) : (tabS l).length = l.length := mkR_len _ _
theorem tabS_at {l : List ByteArray} {i : Nat} (h : i < l.length) : rw_ (tabS l) i = bts (st_ l i) := mkR_at _ _ _ h
theorem txS_len (t : List (List Nat)) : (txS t).length = t.length := mkS_len _ _
theorem txS_at {t : List (List Nat)} {i : Nat} (h : i < t.length) : st_ (txS t) i = tx (rw_ t i) := mkS_at _ _ _ h
theorem tabS_good {l : List ByteArray} {n m : Nat} (h1 : l.length = n) (h : ∀ i, i < n → (st_ l i).size = m) : Good n m (tabS l) := by
  subst h1
  exact ⟨tabS_len l, fun r hr => by rw [tabS_at hr, bts_len]; exact h r hr, fun r hr j => by rw [tabS_at hr]; exact bts_lt _ j⟩
theorem txS_mk (n : Nat) (f : Nat → List Nat) : txS (mkR n f) = mkS n fun i => tx (f i) :=
  eq_mkS (by rw [txS_len, mkR_len]) fun j hj => by rw [txS_at (by rw [mkR_len]; exact hj), mkR_at _ _ _ hj]
end Go.Proofs.YtodokgkchmpmnaaGreat

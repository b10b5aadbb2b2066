/- Proved: lemmas of one statement's proof, merged by program: what each part proves stands ahead of it. Conditions: those that the lemmas name. -/
import Derived.Test.YtgclgmfmcgacdaaM1
import Derived.ArgAppend
import Derived.Below

/- Plain lemmas on lists of keys and their times, in the order in which they are due. No condition beyond those that each lemma names. -/
namespace Go.Proofs.Ytgclgmfmcgacdaa

abbrev Ky := Int × Int
abbrev Tm := Ky × Int
/-- a key that may be: a stream's number and a block's. -/
structure KyOk (k : Ky) : Prop where
  s0 : -9223372036854775808 ≤ k.1
  s1 : k.1 ≤ 9223372036854775807
  b0 : 0 ≤ k.2
  b1 : k.2 ≤ 4294967295
/-- is a due ahead of b? -/
def lessT (a b : Tm) : Bool := if a.2 ≠ b.2 then decide (a.2 < b.2) else if a.1.1 ≠ b.1.1 then decide (a.1.1 < b.1.1) else decide (a.1.2 < b.1.2)
theorem lessT_iff (a b : Tm) : lessT a b = true ↔ a.2 < b.2 ∨ a.2 = b.2 ∧ (a.1.1 < b.1.1 ∨ a.1.1 = b.1.1 ∧ a.1.2 < b.1.2) := by
  unfold lessT
  by_cases h : a.2 = b.2
  · by_cases g : a.1.1 = b.1.1
    · simp [h, g]
    · simp [h, g]
  · simp [h]
theorem lessT_neg (a b : Tm) : lessT a b = false ↔ ¬ (a.2 < b.2 ∨ a.2 = b.2 ∧ (a.1.1 < b.1.1 ∨ a.1.1 = b.1.1 ∧ a.1.2 < b.1.2)) := by
  rw [← lessT_iff]; simp
theorem lessT_irr (a : Tm) : lessT a a = false := by rw [lessT_neg]; omega
theorem lessT_trans {a b c : Tm} (h : lessT a b = true) (g : lessT b c = true) : lessT a c = true := by rw [lessT_iff] at *; omega
theorem tm_ext {a b : Tm} (h0 : a.1.1 = b.1.1) (h1 : a.1.2 = b.1.2) (h2 : a.2 = b.2) : a = b := by
  obtain ⟨⟨s, k⟩, t⟩ := a
  obtain ⟨⟨s', k'⟩, t'⟩ := b
  simp_all
theorem lessT_same {a b : Tm} (h : lessT a b = false) (g : lessT b a = false) : a = b := by
  rw [lessT_neg] at h g
  exact tm_ext (by omega) (by omega) (by omega)
/-- timers that are in order, no key twice, each time within its bounds. -/
structure Good (l : List Tm) : Prop where
  srt : l.Pairwise (fun a b => lessT a b = true)
  key : l.Pairwise (fun a b => a.1 ≠ b.1)
  ok : ∀ x ∈ l, KyOk x.1 ∧ 0 ≤ x.2 ∧ x.2 ≤ 1099511627776
theorem Good.nil : Good [] := ⟨List.Pairwise.nil, List.Pairwise.nil, fun _ h => by simp at h⟩
theorem Good.sub {l r : List Tm} (h : Good l) (g : r.Sublist l) : Good r := ⟨h.srt.sublist g, h.key.sublist g, fun x hx => h.ok x (g.subset hx)⟩
theorem Good.one {l : List Tm} (h : Good l) {x y : Tm} (hx : x ∈ l) (hy : y ∈ l) (e : x.1 = y.1) : x = y := by
  have hk := h.key
  clear h
  induction l with
  | nil => simp at hx
  | cons a r ih =>
    obtain ⟨h1, h2⟩ := List.pairwise_cons.1 hk
    rcases List.mem_cons.1 hx with ex | hx'
    · rcases List.mem_cons.1 hy with ey | hy'
      · rw [ex, ey]
      · exact absurd (ex ▸ e) (h1 y hy')
    · rcases List.mem_cons.1 hy with ey | hy'
      · exact absurd (ey ▸ e).symm (h1 x hx')
      · exact ih hx' hy' h2
theorem Good.nodup {l : List Tm} (h : Good l) : l.Nodup := h.key.imp fun g e => g (by rw [e])

/-! ### a key's time -/
def wasT (l : List Tm) (k : Ky) : Bool := l.any fun x => decide (x.1 = k)
def atT (l : List Tm) (k : Ky) : Int := match l.find? (fun x => decide (x.1 = k)) with | some x => x.2 | none => 0
def dropT (l : List Tm) (k : Ky) : List Tm := l.filter fun x => decide (x.1 ≠ k)
theorem wasT_iff {l : List Tm} {k : Ky} : wasT l k = true ↔ ∃ x ∈ l, x.1 = k := by simp [wasT]
theorem wasT_neg {l : List Tm} {k : Ky} : wasT l k = false ↔ ∀ x ∈ l, x.1 ≠ k := by simp [wasT]
theorem wasT_mem {l : List Tm} {x : Tm} (h : x ∈ l) : wasT l x.1 = true := wasT_iff.2 ⟨x, h, rfl⟩
theorem atT_none {l : List Tm} {k : Ky} (h : wasT l k = false) : atT l k = 0 := by
  unfold atT
  rw [List.find?_eq_none.2 (fun x hx => by simpa using wasT_neg.1 h x hx)]
theorem atT_mem {l : List Tm} (h : Good l) {x : Tm} (hx : x ∈ l) : atT l x.1 = x.2 := by
  unfold atT
  cases e : l.find? (fun y => decide (y.1 = x.1)) with
  | none => exact absurd (List.find?_eq_none.1 e x hx) (by simp)
  | some y =>
    have hy := List.mem_of_find?_eq_some e
    have hk := List.find?_some e
    rw [h.one hy hx (by simpa using hk)]
theorem drop_mem {l : List Tm} {k : Ky} {x : Tm} : x ∈ dropT l k ↔ x ∈ l ∧ x.1 ≠ k := by simp [dropT]
theorem Good.drop {l : List Tm} (h : Good l) (k : Ky) : Good (dropT l k) := h.sub List.filter_sublist
theorem drop_was {l : List Tm} (k k' : Ky) : wasT (dropT l k) k' = (wasT l k' && decide (k' ≠ k)) := by
  rw [Bool.eq_iff_iff, Bool.and_eq_true, wasT_iff, wasT_iff]
  constructor
  · rintro ⟨x, hx, rfl⟩
    rw [drop_mem] at hx
    exact ⟨⟨x, hx.1, rfl⟩, by simpa using hx.2⟩
  · rintro ⟨⟨x, hx, rfl⟩, h⟩
    exact ⟨x, drop_mem.2 ⟨hx, by simpa using h⟩, rfl⟩
theorem drop_len {l : List Tm} (h : Good l) (k : Ky) : (dropT l k).length + (if wasT l k then 1 else 0) = l.length := by
  have hk := h.key
  clear h
  induction l with
  | nil => rfl
  | cons a r ih =>
    obtain ⟨h1, h2⟩ := List.pairwise_cons.1 hk
    have ih := ih h2
    by_cases e : a.1 = k
    · have e1 : dropT (a :: r) k = dropT r k := by simp [dropT, e]
      have e2 : wasT (a :: r) k = true := wasT_iff.2 ⟨a, by simp, e⟩
      have e3 : wasT r k = false := wasT_neg.2 fun x hx hk => h1 x hx (by rw [e, hk])
      rw [e3] at ih
      rw [e1, e2]
      simpa using ih
    · have e1 : dropT (a :: r) k = a :: dropT r k := by simp [dropT, e]
      have e2 : wasT (a :: r) k = wasT r k := by simp [wasT, e]
      rw [e1, e2, List.length_cons, List.length_cons]
      omega
theorem drop_le (l : List Tm) (k : Ky) : (dropT l k).length ≤ l.length := List.length_filter_le _ _
theorem drop_none {l : List Tm} {k : Ky} (h : wasT l k = false) : dropT l k = l := List.filter_eq_self.2 fun x hx => by simpa using wasT_neg.1 h x hx

/-! ### a key gets a time -/
def putT (l : List Tm) (x : Tm) : List Tm := l.takeWhile (fun y => lessT y x) ++ x :: l.dropWhile (fun y => lessT y x)
theorem put_perm (l : List Tm) (x : Tm) : (putT l x).Perm (x :: l) := by
  unfold putT
  refine List.perm_middle.trans ?_
  rw [List.takeWhile_append_dropWhile]
theorem put_mem {l : List Tm} {x y : Tm} : y ∈ putT l x ↔ y = x ∨ y ∈ l := by rw [(put_perm l x).mem_iff, List.mem_cons]
theorem put_len (l : List Tm) (x : Tm) : (putT l x).length = l.length + 1 := by rw [(put_perm l x).length_eq, List.length_cons]
theorem take_less {l : List Tm} {p : Tm → Bool} : ∀ {y}, y ∈ l.takeWhile p → p y = true := by
  induction l with
  | nil => intro y h; simp at h
  | cons a r ih =>
    intro y h
    rw [List.takeWhile_cons] at h
    split at h
    · rename_i ha
      rcases List.mem_cons.1 h with rfl | h
      · exact ha
      · exact ih h
    · simp at h
theorem drop_less {l : List Tm} (h : l.Pairwise (fun a b => lessT a b = true)) {p : Tm → Bool} (hp : ∀ a b, lessT a b = true → p b = true → p a = true) : ∀ {y}, y ∈ l.dropWhile p → p y = false := by
  induction l with
  | nil => intro y h; simp at h
  | cons a r ih =>
    obtain ⟨h1, h2⟩ := List.pairwise_cons.1 h
    intro y hy
    rw [List.dropWhile_cons] at hy
    split at hy
    · exact ih h2 hy
    · rename_i ha
      rcases List.mem_cons.1 hy with rfl | hy
      · simpa using ha
      · cases e : p y
        · rfl
        · exact absurd (hp a y (h1 y hy) e) ha
theorem Good.put {l : List Tm} (h : Good l) {x : Tm} (hx : wasT l x.1 = false) (hk : KyOk x.1) (h0 : 0 ≤ x.2) (h1 : x.2 ≤ 1099511627776) : Good (putT l x) := by
  have hne := wasT_neg.1 hx
  refine ⟨?_, ?_, fun y hy => ?_⟩
  · unfold putT
    have hd : ∀ {y}, y ∈ l.dropWhile (fun y => lessT y x) → lessT x y = true := fun {y} hy => by
      have h1 := drop_less h.srt (fun a b g e => lessT_trans g e) hy
      have h2 : y ∈ l := (List.dropWhile_sublist _).subset hy
      cases e : lessT x y
      · exact absurd (by rw [lessT_same e h1]) (hne y h2)
      · rfl
    rw [List.pairwise_append]
    refine ⟨h.srt.sublist (List.takeWhile_sublist _), List.pairwise_cons.2 ⟨fun y hy => hd hy, h.srt.sublist (List.dropWhile_sublist _)⟩, fun a ha b hb => ?_⟩
    have h3 := take_less ha
    rcases List.mem_cons.1 hb with rfl | hb
    · exact h3
    · exact lessT_trans h3 (hd hb)
  · refine ((put_perm l x).pairwise_iff (fun {_ _} g => Ne.symm g)).2 (List.pairwise_cons.2 ⟨fun y hy e => hne y hy e.symm, h.key⟩)
  · rcases put_mem.1 hy with rfl | hy
    · exact ⟨hk, h0, h1⟩
    · exact h.ok y hy
theorem put_was (l : List Tm) (x : Tm) (k : Ky) : wasT (putT l x) k = (decide (x.1 = k) || wasT l k) := by
  rw [Bool.eq_iff_iff, Bool.or_eq_true, wasT_iff, wasT_iff, decide_eq_true_eq]
  constructor
  · rintro ⟨y, hy, rfl⟩
    rcases put_mem.1 hy with rfl | hy
    · exact Or.inl rfl
    · exact Or.inr ⟨y, hy, rfl⟩
  · rintro (h | ⟨y, hy, rfl⟩)
    · exact ⟨x, put_mem.2 (Or.inl rfl), h⟩
    · exact ⟨y, put_mem.2 (Or.inr hy), rfl⟩
def BadAt (z : Int) : Prop := z < 0 ∨ 1099511627776 < z
instance (z : Int) : Decidable (BadAt z) := by unfold BadAt; infer_instance
def setT (l : List Tm) (k : Ky) (z : Int) : List Tm := if BadAt z then l else putT (dropT l k) (k, z)
def setTE (z : Int) : Int := if BadAt z then 2 else 0
theorem Good.set {l : List Tm} (h : Good l) {k : Ky} (hk : KyOk k) (z : Int) : Good (setT l k z) := by
  unfold setT
  split
  · exact h
  · rename_i hz
    unfold BadAt at hz
    exact (h.drop k).put (by rw [drop_was]; simp) hk (by show 0 ≤ z; omega) (by show z ≤ _; omega)
theorem set_len (l : List Tm) (k : Ky) (z : Int) : (setT l k z).length ≤ l.length + 1 := by
  unfold setT
  split
  · omega
  · rw [put_len]
    have := drop_le l k
    omega

/-! ### what is due -/
def dueT (l : List Tm) (z : Int) : List Tm := l.takeWhile fun x => decide (x.2 ≤ z)
def stayT (l : List Tm) (z : Int) : List Tm := l.dropWhile fun x => decide (x.2 ≤ z)
theorem due_stay (l : List Tm) (z : Int) : dueT l z ++ stayT l z = l := List.takeWhile_append_dropWhile
theorem Good.due {l : List Tm} (h : Good l) (z : Int) : Good (dueT l z) := h.sub (List.takeWhile_sublist _)
theorem Good.stay {l : List Tm} (h : Good l) (z : Int) : Good (stayT l z) := h.sub (List.dropWhile_sublist _)
theorem due_le {l : List Tm} {z : Int} {x : Tm} (h : x ∈ dueT l z) : x.2 ≤ z := by simpa using take_less h
theorem stay_gt {l : List Tm} (h : Good l) {z : Int} {x : Tm} (hx : x ∈ stayT l z) : z < x.2 := by
  have := drop_less h.srt (p := fun x => decide (x.2 ≤ z)) (fun a b g e => by rw [lessT_iff] at g; simp at e ⊢; omega) hx
  simpa using this
theorem due_filter {l : List Tm} (h : Good l) (z : Int) : l.filter (fun x => decide (x.2 ≤ z)) = dueT l z := by
  conv => lhs; rw [← due_stay l z]
  rw [List.filter_append, List.filter_eq_self.2 (fun x hx => by simpa using due_le hx), List.filter_eq_nil_iff.2 (fun x hx => by simpa using stay_gt h hx), List.append_nil]
theorem stay_filter {l : List Tm} (h : Good l) (z : Int) : l.filter (fun x => !decide (x.2 ≤ z)) = stayT l z := by
  conv => lhs; rw [← due_stay l z]
  rw [List.filter_append, List.filter_eq_nil_iff.2 (fun x hx => by simpa using due_le hx), List.nil_append, List.filter_eq_self.2 (fun x hx => by simpa using stay_gt h hx)]
/-- one more is let through. -/
theorem filter_more {l : List Tm} (h : Good l) {x : Tm} (hx : x ∈ l) {p q : Tm → Bool} (hp : p x = false) (hq : ∀ y ∈ l, q y = (p y || decide (y = x))) : (l.filter q).Perm (x :: l.filter p) := by
  have hk := h.nodup
  clear h
  induction l with
  | nil => simp at hx
  | cons a r ih =>
    obtain ⟨h1, h2⟩ := List.nodup_cons.1 hk
    have hqa := hq a (by simp)
    by_cases e : a = x
    · subst e
      have e1 : r.filter q = r.filter p := List.filter_congr fun y hy => by
        rw [hq y (by simp [hy])]
        have : y ≠ a := fun e => h1 (e ▸ hy)
        simp [this]
      rw [List.filter_cons, List.filter_cons, hqa, hp, e1]
      simp
    · have hx' : x ∈ r := by
        rcases List.mem_cons.1 hx with e' | h
        · exact absurd e'.symm e
        · exact h
      have ih := ih hx' (fun y hy => hq y (by simp [hy])) h2
      rw [List.filter_cons, List.filter_cons, hqa]
      simp only [e, decide_false, Bool.or_false]
      split
      · exact (ih.cons a).trans (List.Perm.swap x a _)
      · exact ih

/-! ### places -/
def tm_ (l : List Tm) (j : Nat) : Tm := l.getD j ((0, 0), 0)
theorem tm_at {l : List Tm} {j : Nat} (h : j < l.length) : tm_ l j = l[j] := by
  unfold tm_
  rw [List.getD_eq_getElem?_getD, List.getElem?_eq_getElem h]; rfl
theorem tm_mem {l : List Tm} {j : Nat} (h : j < l.length) : tm_ l j ∈ l := by rw [tm_at h]; exact List.getElem_mem h
theorem tm_less {l : List Tm} (h : Good l) {i j : Nat} (hij : i < j) (hj : j < l.length) : lessT (tm_ l i) (tm_ l j) = true := by
  rw [tm_at hj, tm_at (by omega : i < l.length)]
  exact List.pairwise_iff_getElem.1 h.srt i j (by omega) hj hij
theorem tm_take {l : List Tm} {k j : Nat} (h : j < k) : tm_ (l.take k) j = tm_ l j := by
  unfold tm_
  rw [List.getD_eq_getElem?_getD, List.getElem?_take, if_pos h, ← List.getD_eq_getElem?_getD]
theorem tm_drop (l : List Tm) (k j : Nat) : tm_ (l.drop k) j = tm_ l (k + j) := by
  unfold tm_
  rw [List.getD_eq_getElem?_getD, List.getElem?_drop, ← List.getD_eq_getElem?_getD]
/-- the first k have it, and the next one has not: so many are taken. -/
theorem take_is {l : List Tm} {p : Tm → Bool} {k : Nat} (hk : k ≤ l.length) (h : ∀ j, j < k → p (tm_ l j) = true) (g : k < l.length → p (tm_ l k) = false) : l.takeWhile p = l.take k ∧ l.dropWhile p = l.drop k := by
  induction l generalizing k with
  | nil => simp
  | cons a r ih =>
    rcases k with _ | k
    · have := g (by simp)
      have ha : p a = false := this
      simp [ha]
    · have ha : p a = true := h 0 (by omega)
      have := ih (k := k) (by simpa using hk) (fun j hj => h (j + 1) (by omega)) (fun hl => g (by simpa using hl))
      simp [ha, this.1, this.2]
end Go.Proofs.Ytgclgmfmcgacdaa

/- Plain lemmas on memory that holds a row of bytes: a slice that reads as a list of numbers below 256, and a block of the call's own that holds one. No condition beyond those that each lemma names. -/
namespace Go.Proofs.Ytgclgmfmcgacdaa
open Go.ChangeShapes Go.WideShapes Go.ChangeAt Go.RowKit

theorem add_block (a : Addr) (n : Nat) : (a.add n).block = a.block := by unfold Addr.add; split <;> rfl

/-- The slice value with address A and length n holds the bytes l, in memory that is there. -/
def Bs (w : World) (A : Option Addr) (n : Nat) (l : List Nat) : Prop :=
  l.length = n ∧ (∀ j, l.getD j 0 < 256) ∧ (0 < n → ∃ ad, A = some ad ∧ ad.block < w.heap.size ∧ ∀ j, j < n → w.cell? (ad.add j) = some (.int .u8 (l.getD j 0 : Nat)))

theorem getD_lt {l : List Nat} (h : ∀ x ∈ l, x < 256) (j : Nat) : l.getD j 0 < 256 := by
  rw [List.getD_eq_getElem?_getD]
  cases e : l[j]? with
  | none => exact (by decide : 0 < 256)
  | some x => exact h x (List.mem_of_getElem? e)
theorem mem_lt {l : List Nat} (h : ∀ j, l.getD j 0 < 256) : ∀ x ∈ l, x < 256 := by
  intro x hx
  obtain ⟨j, hj, rfl⟩ := List.getElem_of_mem hx
  have := h j
  rwa [List.getD_eq_getElem?_getD, List.getElem?_eq_getElem hj] at this

theorem Bs.nil (w : World) (A : Option Addr) : Bs w A 0 [] := ⟨rfl, fun j => by simp, fun h => absurd h (by omega)⟩
theorem Bs.len {w : World} {A : Option Addr} {n : Nat} {l : List Nat} (h : Bs w A n l) : l.length = n := h.1
theorem Bs.lt {w : World} {A : Option Addr} {n : Nat} {l : List Nat} (h : Bs w A n l) (j : Nat) : l.getD j 0 < 256 := h.2.1 j
theorem Bs.at_ {w : World} {A : Option Addr} {n : Nat} {l : List Nat} (h : Bs w A n l) {k : Nat} (hk : k < n) :
    ∃ ad, A = some ad ∧ ad.block < w.heap.size ∧ w.cell? (ad.add k) = some (.int .u8 (l.getD k 0 : Nat)) := by
  obtain ⟨ad, e, hb, hc⟩ := h.2.2 (by omega)
  exact ⟨ad, e, hb, hc k hk⟩
theorem Bs.below {w w' : World} {A : Option Addr} {n : Nat} {l : List Nat} (h : Bs w A n l) (hb : Below w.heap.size w w') : Bs w' A n l := by
  refine ⟨h.1, h.2.1, fun hn => ?_⟩
  obtain ⟨ad, e, hlt, hc⟩ := h.2.2 hn
  exact ⟨ad, e, Nat.lt_of_lt_of_le hlt hb.size, fun j hj => (hb.cell (p := ad.add j) (by rw [add_block]; exact hlt)).trans (hc j hj)⟩

/-- Block g is a row of the call's own, whose first n cells are the bytes l. -/
def Own (w : World) (g n : Nat) (l : List Nat) : Prop :=
  l.length = n ∧ (∀ j, l.getD j 0 < 256) ∧ ∃ cur, w.heap[g]? = some (.cells cur 5 (0, 0)) ∧ ∀ j, j < n → cur[j]? = some (.int .u8 (l.getD j 0 : Nat))

theorem Own.block_lt {w : World} {g n : Nat} {l : List Nat} (h : Own w g n l) : g < w.heap.size := by
  obtain ⟨_, _, cur, hc, _⟩ := h
  exact (Array.getElem?_eq_some_iff.1 hc).1
theorem Own.cell {w : World} {g n : Nat} {l : List Nat} (h : Own w g n l) {j : Nat} (hj : j < n) : w.cell? ⟨g, j, none⟩ = some (.int .u8 (l.getD j 0 : Nat)) := by
  obtain ⟨_, _, cur, hc, hr⟩ := h
  rw [cell_of_row w g j cur _ (0, 0) hc]
  exact hr j hj
theorem Own.frozen {w : World} {g n : Nat} {l : List Nat} (h : Own w g n l) (j : Nat) : w.frozen? ⟨g, j, none⟩ = false := by
  obtain ⟨_, _, cur, hc, _⟩ := h
  simp [World.frozen?, hc]
theorem Own.set_ {w : World} {g n : Nat} {l : List Nat} (h : Own w g n l) {j x : Nat} (hj : j < n) (hx : x < 256) : Own (w.setCell ⟨g, j, none⟩ (.int .u8 (x : Nat))) g n (l.set j x) := by
  obtain ⟨hl, hb, cur, hc, hr⟩ := h
  have hget : ∀ i, (l.set j x).getD i 0 = if j = i then x else l.getD i 0 := by
    intro i
    rw [List.getD_eq_getElem?_getD, List.getElem?_set]
    by_cases e : j = i
    · rw [if_pos e, if_pos e, if_pos (by omega)]; rfl
    · rw [if_neg e, if_neg e, ← List.getD_eq_getElem?_getD]
  refine ⟨by rw [List.length_set, hl], fun i => ?_, cur.setIfInBounds j (.int .u8 (x : Nat)), ?_, fun i hi => ?_⟩
  · rw [hget]; split
    · exact hx
    · exact hb i
  · simp [World.setCell, Array.getElem?_modify, hc]
  · rw [hget, Array.getElem?_setIfInBounds]
    have hsz : i < cur.size := (Array.getElem?_eq_some_iff.1 (hr i hi)).1
    by_cases e : j = i
    · rw [if_pos e, if_pos e, if_pos (by omega)]
    · rw [if_neg e, if_neg e]; exact hr i hi
theorem Own.bs {w : World} {g n : Nat} {l : List Nat} (h : Own w g n l) : Bs w (some ⟨g, 0, none⟩) n l :=
  ⟨h.1, h.2.1, fun _ => ⟨_, rfl, h.block_lt, fun j hj => by
    have e : (⟨g, 0, none⟩ : Addr).add j = ⟨g, j, none⟩ := by unfold Addr.add; split <;> simp_all
    rw [e]; exact h.cell hj⟩⟩

def cells (l : List Nat) : List Value := l.map fun x => Value.int .u8 (x : Nat)
theorem cells_at (l : List Nat) (j : Nat) (hj : j < l.length) : (cells l)[j]? = some (.int .u8 (l.getD j 0 : Nat)) := by
  unfold cells
  rw [List.getElem?_map, List.getElem?_eq_getElem hj, List.getD_eq_getElem?_getD, List.getElem?_eq_getElem hj]; rfl
theorem cells_len (l : List Nat) : (cells l).length = l.length := by unfold cells; rw [List.length_map]
theorem cells_one (l : List Nat) : ∀ u ∈ cells l, u.oneCell' = true := by
  intro u hu
  unfold cells at hu
  obtain ⟨x, _, rfl⟩ := List.mem_map.1 hu
  rfl
/-- What an append of a whole row asks of its source. -/
theorem Bs.source {w : World} {ad : Addr} {n : Nat} {l : List Nat} (h : Bs w (some ad) n l) : ∀ j u, (cells l)[j]? = some u → w.cell? (ad.add j) = some u := by
  intro j u hu
  have hj : j < l.length := by
    have := (List.getElem?_eq_some_iff.1 hu).1
    rwa [cells_len] at this
  obtain ⟨ad', e, _, hc⟩ := h.2.2 (by rw [← h.1]; omega)
  injection e with e
  subst e
  rw [cells_at l j hj] at hu
  rw [← hu]
  exact hc j (by rw [← h.1]; exact hj)
/-- What an append onto nothing leaves, as a row of the call's own. -/
theorem own_of {w : World} {base n : Nat} {v : Value} {l : List Nat} (h : w.ownsRow base 5 1 v n (cells l)) (hb : ∀ j, l.getD j 0 < 256) (hn : 0 < n) :
    ∃ g cap, v = .slice (some ⟨g, 0, none⟩) n cap ∧ base ≤ g ∧ n ≤ cap ∧ cap ≤ maxLen ∧ Own w g n l := by
  obtain ⟨hl, hv⟩ := h
  rw [cells_len, Nat.mul_one] at hl
  rcases hv with ⟨_, h0⟩ | ⟨g, cap, cur, rfl, hg, hc, h1, h2, h3, h4⟩
  · omega
  · refine ⟨g, cap, rfl, hg, h1, h2, hl, hb, cur, hc, fun j hj => ?_⟩
    rw [Nat.mul_one] at h4
    have h5 := cells_at l j (by omega)
    rw [← h4, List.getElem?_take, if_pos hj] at h5
    simpa using h5
end Go.Proofs.Ytgclgmfmcgacdaa

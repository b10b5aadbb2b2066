/- Plain lemmas on calls that wait, in the order of their streams and kinds. No condition beyond those that each lemma names. -/
import Derived.Test.YtamcpdhehipcfaaGfBase
namespace Go.Proofs.Ytamcpdhehipcfaa

/-- a call that waits: its number, its kind, its stream, how many, and bytes. -/
structure Wt where
  id : Int
  kind : Int
  str : Int
  num : Int
  body : ByteArray
  deriving DecidableEq
abbrev wt0 : Wt := ⟨0, 0, 0, 0, ByteArray.empty⟩
instance : Inhabited Wt := ⟨wt0⟩
/-- a place: a stream, a kind. -/
abbrev Pk := Int × Int
abbrev Wt.key (x : Wt) : Pk := (x.str, x.kind)
/-- a place that an integer of 64 bits can say. -/
structure PkOk (k : Pk) : Prop where
  s0 : -9223372036854775808 ≤ k.1
  s1 : k.1 ≤ 9223372036854775807
  b0 : -9223372036854775808 ≤ k.2
  b1 : k.2 ≤ 9223372036854775807
/-- may it wait? -/
def Wt.May (x : Wt) : Prop := 2 ≤ x.kind ∧ x.kind ≤ 4 ∧ 0 ≤ x.str ∧ x.str < 256
instance (x : Wt) : Decidable x.May := by unfold Wt.May; infer_instance
theorem Wt.May.ok {x : Wt} (h : x.May) : PkOk x.key := by
  obtain ⟨h0, h1, h2, h3⟩ := h
  exact ⟨by show _ ≤ x.str; omega, by show x.str ≤ _; omega, by show _ ≤ x.kind; omega, by show x.kind ≤ _; omega⟩
/-- does a stand ahead of b? -/
def lessW (a b : Wt) : Bool := if a.str ≠ b.str then decide (a.str < b.str) else decide (a.kind < b.kind)
theorem lessW_iff (a b : Wt) : lessW a b = true ↔ a.str < b.str ∨ a.str = b.str ∧ a.kind < b.kind := by
  unfold lessW
  by_cases h : a.str = b.str
  · simp [h]
  · simp [h]
theorem lessW_neg (a b : Wt) : lessW a b = false ↔ ¬ (a.str < b.str ∨ a.str = b.str ∧ a.kind < b.kind) := by
  rw [← lessW_iff]; simp
theorem lessW_irr (a : Wt) : lessW a a = false := by rw [lessW_neg]; omega
theorem lessW_trans {a b c : Wt} (h : lessW a b = true) (g : lessW b c = true) : lessW a c = true := by rw [lessW_iff] at *; omega
theorem lessW_key {a b : Wt} (h : lessW a b = false) (g : lessW b a = false) : a.key = b.key := by
  rw [lessW_neg] at h g
  exact Prod.ext (by show a.str = b.str; omega) (by show a.kind = b.kind; omega)
/-- calls that are in order, each of which may wait. -/
structure GoodW (l : List Wt) : Prop where
  srt : l.Pairwise (fun a b => lessW a b = true)
  ok : ∀ x ∈ l, x.May
theorem GoodW.nil : GoodW [] := ⟨List.Pairwise.nil, fun _ h => by simp at h⟩
theorem GoodW.sub {l r : List Wt} (h : GoodW l) (g : r.Sublist l) : GoodW r := ⟨h.srt.sublist g, fun x hx => h.ok x (g.subset hx)⟩
theorem GoodW.apart {l : List Wt} (h : GoodW l) : l.Pairwise (fun a b => a.key ≠ b.key) := h.srt.imp fun {a b} g e => by
  have e1 : a.str = b.str := congrArg Prod.fst e
  have e2 : a.kind = b.kind := congrArg Prod.snd e
  rw [lessW_iff] at g
  omega
theorem one_key {l : List Wt} (hk : l.Pairwise (fun a b => a.key ≠ b.key)) {x y : Wt} (hx : x ∈ l) (hy : y ∈ l) (e : x.key = y.key) : x = y := by
  induction l with
  | nil => simp at hx
  | cons a r ih =>
    obtain ⟨h1, h2⟩ := List.pairwise_cons.1 hk
    rcases List.mem_cons.1 hx with ex | hx'
    · rcases List.mem_cons.1 hy with ey | hy'
      · rw [ex, ey]
      · exact absurd (ex ▸ e) (h1 y hy')
    · rcases List.mem_cons.1 hy with ey | hy'
      · exact absurd (ey ▸ e).symm (h1 x hx')
      · exact ih h2 hx' hy'
theorem GoodW.one {l : List Wt} (h : GoodW l) {x y : Wt} (hx : x ∈ l) (hy : y ∈ l) (e : x.key = y.key) : x = y := one_key h.apart hx hy e
theorem GoodW.nodup {l : List Wt} (h : GoodW l) : l.Nodup := h.apart.imp fun g e => g (by rw [e])

/-! ### the call at a place -/
def wasW (l : List Wt) (k : Pk) : Bool := l.any fun x => decide (x.key = k)
def atW (l : List Wt) (k : Pk) : Wt := match l.find? (fun x => decide (x.key = k)) with | some x => x | none => wt0
def dropW (l : List Wt) (k : Pk) : List Wt := l.filter fun x => decide (x.key ≠ k)
theorem wasW_iff {l : List Wt} {k : Pk} : wasW l k = true ↔ ∃ x ∈ l, x.key = k := by simp [wasW]
theorem wasW_neg {l : List Wt} {k : Pk} : wasW l k = false ↔ ∀ x ∈ l, x.key ≠ k := by simp [wasW]
theorem wasW_mem {l : List Wt} {x : Wt} (h : x ∈ l) : wasW l x.key = true := wasW_iff.2 ⟨x, h, rfl⟩
theorem atW_none {l : List Wt} {k : Pk} (h : wasW l k = false) : atW l k = wt0 := by
  unfold atW
  rw [List.find?_eq_none.2 (fun x hx => by simpa using wasW_neg.1 h x hx)]
theorem atW_mem {l : List Wt} (h : GoodW l) {x : Wt} (hx : x ∈ l) : atW l x.key = x := by
  unfold atW
  cases e : l.find? (fun y => decide (y.key = x.key)) with
  | none => exact absurd (List.find?_eq_none.1 e x hx) (by simp)
  | some y =>
    have hy := List.mem_of_find?_eq_some e
    have hk := List.find?_some e
    exact h.one hy hx (by simpa using hk)
theorem dropW_mem {l : List Wt} {k : Pk} {x : Wt} : x ∈ dropW l k ↔ x ∈ l ∧ x.key ≠ k := by simp [dropW]
theorem GoodW.drop {l : List Wt} (h : GoodW l) (k : Pk) : GoodW (dropW l k) := h.sub List.filter_sublist
theorem dropW_was {l : List Wt} (k k' : Pk) : wasW (dropW l k) k' = (wasW l k' && decide (k' ≠ k)) := by
  rw [Bool.eq_iff_iff, Bool.and_eq_true, wasW_iff, wasW_iff]
  constructor
  · rintro ⟨x, hx, rfl⟩
    rw [dropW_mem] at hx
    exact ⟨⟨x, hx.1, rfl⟩, by simpa using hx.2⟩
  · rintro ⟨⟨x, hx, rfl⟩, h⟩
    exact ⟨x, dropW_mem.2 ⟨hx, by simpa using h⟩, rfl⟩
theorem dropW_len {l : List Wt} (h : GoodW l) (k : Pk) : (dropW l k).length + (if wasW l k then 1 else 0) = l.length := by
  have hk := h.apart
  clear h
  induction l with
  | nil => rfl
  | cons a r ih =>
    obtain ⟨h1, h2⟩ := List.pairwise_cons.1 hk
    have ih := ih h2
    by_cases e : a.key = k
    · have e1 : dropW (a :: r) k = dropW r k := by simp [dropW, e]
      have e2 : wasW (a :: r) k = true := wasW_iff.2 ⟨a, by simp, e⟩
      have e3 : wasW r k = false := wasW_neg.2 fun x hx hk => h1 x hx (by rw [e, hk])
      rw [e3] at ih
      rw [e1, e2]
      simpa using ih
    · have e1 : dropW (a :: r) k = a :: dropW r k := by simp [dropW, e]
      have e2 : wasW (a :: r) k = wasW r k := by simp [wasW, e]
      rw [e1, e2, List.length_cons, List.length_cons]
      omega
theorem dropW_le (l : List Wt) (k : Pk) : (dropW l k).length ≤ l.length := List.length_filter_le _ _
theorem dropW_none {l : List Wt} {k : Pk} (h : wasW l k = false) : dropW l k = l := List.filter_eq_self.2 fun x hx => by simpa using wasW_neg.1 h x hx

/-! ### one more waits -/
def putW (l : List Wt) (x : Wt) : List Wt := l.takeWhile (fun y => lessW y x) ++ x :: l.dropWhile (fun y => lessW y x)
theorem putW_perm (l : List Wt) (x : Wt) : (putW l x).Perm (x :: l) := by
  unfold putW
  refine List.perm_middle.trans ?_
  rw [List.takeWhile_append_dropWhile]
theorem putW_mem {l : List Wt} {x y : Wt} : y ∈ putW l x ↔ y = x ∨ y ∈ l := by rw [(putW_perm l x).mem_iff, List.mem_cons]
theorem putW_len (l : List Wt) (x : Wt) : (putW l x).length = l.length + 1 := by rw [(putW_perm l x).length_eq, List.length_cons]
theorem takeW_less {l : List Wt} {p : Wt → Bool} : ∀ {y}, y ∈ l.takeWhile p → p y = true := by
  induction l with
  | nil => intro y h; simp at h
  | cons a r ih =>
    intro y h
    rw [List.takeWhile_cons] at h
    split at h
    · rename_i ha
      rcases List.mem_cons.1 h with rfl | h
      · exact ha
      · exact ih h
    · simp at h
theorem restW_less {l : List Wt} (h : l.Pairwise (fun a b => lessW a b = true)) {p : Wt → Bool} (hp : ∀ a b, lessW a b = true → p b = true → p a = true) : ∀ {y}, y ∈ l.dropWhile p → p y = false := by
  induction l with
  | nil => intro y h; simp at h
  | cons a r ih =>
    obtain ⟨h1, h2⟩ := List.pairwise_cons.1 h
    intro y hy
    rw [List.dropWhile_cons] at hy
    split at hy
    · exact ih h2 hy
    · rename_i ha
      rcases List.mem_cons.1 hy with rfl | hy
      · simpa using ha
      · cases e : p y
        · rfl
        · exact absurd (hp a y (h1 y hy) e) ha
theorem GoodW.put {l : List Wt} (h : GoodW l) {x : Wt} (hx : wasW l x.key = false) (hm : x.May) : GoodW (putW l x) := by
  have hne := wasW_neg.1 hx
  refine ⟨?_, fun y hy => ?_⟩
  · unfold putW
    have hd : ∀ {y}, y ∈ l.dropWhile (fun y => lessW y x) → lessW x y = true := fun {y} hy => by
      have h1 := restW_less h.srt (fun a b g e => lessW_trans g e) hy
      have h2 : y ∈ l := (List.dropWhile_sublist _).subset hy
      cases e : lessW x y
      · exact absurd (lessW_key h1 e) (hne y h2)
      · rfl
    rw [List.pairwise_append]
    refine ⟨h.srt.sublist (List.takeWhile_sublist _), List.pairwise_cons.2 ⟨fun y hy => hd hy, h.srt.sublist (List.dropWhile_sublist _)⟩, fun a ha b hb => ?_⟩
    have h3 := takeW_less ha
    rcases List.mem_cons.1 hb with rfl | hb
    · exact h3
    · exact lessW_trans h3 (hd hb)
  · rcases putW_mem.1 hy with rfl | hy
    · exact hm
    · exact h.ok y hy
theorem putW_was (l : List Wt) (x : Wt) (k : Pk) : wasW (putW l x) k = (decide (x.key = k) || wasW l k) := by
  rw [Bool.eq_iff_iff, Bool.or_eq_true, wasW_iff, wasW_iff, decide_eq_true_eq]
  constructor
  · rintro ⟨y, hy, rfl⟩
    rcases putW_mem.1 hy with rfl | hy
    · exact Or.inl rfl
    · exact Or.inr ⟨y, hy, rfl⟩
  · rintro (h | ⟨y, hy, rfl⟩)
    · exact ⟨x, putW_mem.2 (Or.inl rfl), h⟩
    · exact ⟨y, putW_mem.2 (Or.inr hy), rfl⟩
/-- what Ask answers, and what it leaves. -/
def askE (l : List Wt) (x : Wt) : Int := if ¬ x.May then 1 else if wasW l x.key then 18 else 0
def askM (l : List Wt) (x : Wt) : List Wt := if ¬ x.May then l else if wasW l x.key then l else putW l x
theorem GoodW.ask {l : List Wt} (h : GoodW l) (x : Wt) : GoodW (askM l x) := by
  unfold askM
  split
  · exact h
  · rename_i hm
    split
    · exact h
    · rename_i hw
      exact h.put (by simpa using hw) (Decidable.not_not.1 hm)
theorem askM_len (l : List Wt) (x : Wt) : (askM l x).length ≤ l.length + 1 := by
  unfold askM
  split
  · omega
  · split
    · omega
    · rw [putW_len]; exact Nat.le_refl _

/-! ### the calls of a stream -/
def hitW (s k : Int) (x : Wt) : Bool := decide (x.str = s) && (decide (k = 0) || decide (x.kind = k))
def goneW (l : List Wt) (s k : Int) : List Wt := l.filter (hitW s k)
def leftW (l : List Wt) (s k : Int) : List Wt := l.filter fun x => !hitW s k x
theorem GoodW.gone {l : List Wt} (h : GoodW l) (s k : Int) : GoodW (goneW l s k) := h.sub List.filter_sublist
theorem GoodW.left {l : List Wt} (h : GoodW l) (s k : Int) : GoodW (leftW l s k) := h.sub List.filter_sublist
theorem leftW_le (l : List Wt) (s k : Int) : (leftW l s k).length ≤ l.length := List.length_filter_le _ _
theorem goneW_le (l : List Wt) (s k : Int) : (goneW l s k).length ≤ l.length := List.length_filter_le _ _
/-- of one kind: just the one at that place. -/
theorem leftW_one (l : List Wt) {s k : Int} (h : k ≠ 0) : leftW l s k = dropW l (s, k) := by
  refine List.filter_congr fun x _ => ?_
  by_cases e : x.str = s <;> by_cases g : x.kind = k <;> simp [hitW, e, g, h]
/-- those of a stream whose kind is below k; and what stays without these. -/
def belowW (l : List Wt) (s k : Int) : List Wt := l.filter fun x => decide (x.str = s) && decide (x.kind < k)
def aboveW (l : List Wt) (s k : Int) : List Wt := l.filter fun x => !(decide (x.str = s) && decide (x.kind < k))
theorem aboveW_le (l : List Wt) (s k : Int) : (aboveW l s k).length ≤ l.length := List.length_filter_le _ _
theorem belowW_le (l : List Wt) (s k : Int) : (belowW l s k).length ≤ l.length := List.length_filter_le _ _
theorem GoodW.above {l : List Wt} (h : GoodW l) (s k : Int) : GoodW (aboveW l s k) := h.sub List.filter_sublist
theorem aboveW_start {l : List Wt} (h : GoodW l) (s : Int) : aboveW l s 2 = l := List.filter_eq_self.2 fun x hx => by
  have := (h.ok x hx).1
  simp; omega
theorem belowW_start {l : List Wt} (h : GoodW l) (s : Int) : belowW l s 2 = [] := List.filter_eq_nil_iff.2 fun x hx => by
  have := (h.ok x hx).1
  simp; omega
theorem aboveW_end {l : List Wt} (h : GoodW l) (s : Int) : aboveW l s 5 = leftW l s 0 := List.filter_congr fun x hx => by
  have := (h.ok x hx).2.1
  have : x.kind < 5 := by omega
  simp [hitW, this]
theorem belowW_end {l : List Wt} (h : GoodW l) (s : Int) : belowW l s 5 = goneW l s 0 := List.filter_congr fun x hx => by
  have := (h.ok x hx).2.1
  have : x.kind < 5 := by omega
  simp [hitW, this]
theorem aboveW_next (l : List Wt) (s k : Int) : dropW (aboveW l s k) (s, k) = aboveW l s (k + 1) := by
  unfold dropW aboveW
  rw [List.filter_filter]
  refine List.filter_congr fun x _ => ?_
  by_cases e : x.str = s
  · have e1 : (x.kind < k + 1) ↔ (x.kind < k ∨ x.kind = k) := by omega
    by_cases g : x.kind = k
    · have : x.kind < k + 1 := by omega
      simp [e, g]; omega
    · by_cases g2 : x.kind < k
      · have : x.kind < k + 1 := by omega
        simp [e, g, g2, this]
      · have : ¬ x.kind < k + 1 := by omega
        simp [e, g, g2, this]
  · simp [e]
theorem aboveW_was (l : List Wt) (s k : Int) : wasW (aboveW l s k) (s, k) = wasW l (s, k) := by
  rw [Bool.eq_iff_iff, wasW_iff, wasW_iff]
  constructor
  · rintro ⟨x, hx, h⟩
    exact ⟨x, (List.mem_filter.1 hx).1, h⟩
  · rintro ⟨x, hx, h⟩
    have e2 : x.kind = k := congrArg Prod.snd h
    exact ⟨x, List.mem_filter.2 ⟨hx, by simp; omega⟩, h⟩
theorem belowW_miss {l : List Wt} {s k : Int} (h : wasW l (s, k) = false) : belowW l s (k + 1) = belowW l s k := List.filter_congr fun x hx => by
  by_cases e : x.str = s
  · have g : x.kind ≠ k := fun g => wasW_neg.1 h x hx (Prod.ext e g)
    have : (x.kind < k + 1) ↔ (x.kind < k) := by omega
    simp [e, this]
  · simp [e]
theorem belowW_hit {l : List Wt} (hg : GoodW l) {s k : Int} (h : wasW l (s, k) = true) : belowW l s (k + 1) = belowW l s k ++ [atW (aboveW l s k) (s, k)] := by
  obtain ⟨x, hx, e⟩ := wasW_iff.1 h
  have es : x.str = s := congrArg Prod.fst e
  have ek : x.kind = k := congrArg Prod.snd e
  have hxa : x ∈ aboveW l s k := List.mem_filter.2 ⟨hx, by simp; omega⟩
  have hat : atW (aboveW l s k) (s, k) = x := by rw [← e]; exact atW_mem (hg.above s k) hxa
  rw [hat]
  clear hat hxa h
  have hs := hg.srt
  clear hg
  induction l with
  | nil => simp at hx
  | cons a r ih =>
    obtain ⟨h1, h2⟩ := List.pairwise_cons.1 hs
    rcases List.mem_cons.1 hx with rfl | hx'
    · have n1 : belowW r s (k + 1) = [] := List.filter_eq_nil_iff.2 fun y hy => by
        have := (lessW_iff _ _).1 (h1 y hy)
        simp; omega
      have n2 : belowW r s k = [] := List.filter_eq_nil_iff.2 fun y hy => by
        have := (lessW_iff _ _).1 (h1 y hy)
        simp; omega
      have q1 : belowW (x :: r) s (k + 1) = x :: belowW r s (k + 1) := by
        unfold belowW
        rw [List.filter_cons, if_pos (by simp; omega)]
      have q2 : belowW (x :: r) s k = belowW r s k := by
        unfold belowW
        rw [List.filter_cons, if_neg (by simp; omega)]
      rw [q1, q2, n1, n2]; rfl
    · have hax := (lessW_iff _ _).1 (h1 x hx')
      have ih := ih hx' h2
      by_cases e : a.str = s
      · have q1 : belowW (a :: r) s (k + 1) = a :: belowW r s (k + 1) := by
          unfold belowW
          rw [List.filter_cons, if_pos (by simp; omega)]
        have q2 : belowW (a :: r) s k = a :: belowW r s k := by
          unfold belowW
          rw [List.filter_cons, if_pos (by simp; omega)]
        rw [q1, q2, ih]; rfl
      · have q1 : belowW (a :: r) s (k + 1) = belowW r s (k + 1) := by
          unfold belowW
          rw [List.filter_cons, if_neg (by simp [e])]
        have q2 : belowW (a :: r) s k = belowW r s k := by
          unfold belowW
          rw [List.filter_cons, if_neg (by simp [e])]
        rw [q1, q2, ih]

/-! ### places in a list -/
def wt_ (l : List Wt) (j : Nat) : Wt := l.getD j wt0
theorem wt_at {l : List Wt} {j : Nat} (h : j < l.length) : wt_ l j = l[j] := by
  unfold wt_
  rw [List.getD_eq_getElem?_getD, List.getElem?_eq_getElem h]; rfl
theorem wt_mem {l : List Wt} {j : Nat} (h : j < l.length) : wt_ l j ∈ l := by rw [wt_at h]; exact List.getElem_mem h
theorem wt_take {l : List Wt} {k j : Nat} (h : j < k) : wt_ (l.take k) j = wt_ l j := by
  unfold wt_
  rw [List.getD_eq_getElem?_getD, List.getElem?_take, if_pos h, ← List.getD_eq_getElem?_getD]
theorem wt_drop (l : List Wt) (k j : Nat) : wt_ (l.drop k) j = wt_ l (k + j) := by
  unfold wt_
  rw [List.getD_eq_getElem?_getD, List.getElem?_drop, ← List.getD_eq_getElem?_getD]
theorem takeW_one {l : List Wt} {j : Nat} (h : j < l.length) : l.take (j + 1) = l.take j ++ [wt_ l j] := by
  rw [wt_at h, List.take_add_one, List.getElem?_eq_getElem h]; rfl
/-- the first k have it, and the next one has not: so many are taken. -/
theorem takeW_is {l : List Wt} {p : Wt → Bool} {k : Nat} (hk : k ≤ l.length) (h : ∀ j, j < k → p (wt_ l j) = true) (g : k < l.length → p (wt_ l k) = false) : l.takeWhile p = l.take k ∧ l.dropWhile p = l.drop k := by
  induction l generalizing k with
  | nil => simp
  | cons a r ih =>
    rcases k with _ | k
    · have := g (by simp)
      have ha : p a = false := this
      simp [ha]
    · have ha : p a = true := h 0 (by omega)
      have := ih (k := k) (by simpa using hk) (fun j hj => h (j + 1) (by omega)) (fun hl => g (by simpa using hl))
      simp [ha, this.1, this.2]
theorem notW_was {l : List Wt} {k : Pk} {n : Nat} (hn : l.length = n) (h : ∀ j, j < n → (wt_ l j).key ≠ k) : wasW l k = false := by
  rw [wasW_neg]
  intro x hx
  obtain ⟨j, hj, rfl⟩ := List.getElem_of_mem hx
  rw [← wt_at hj]
  exact h j (by omega)
/-- one more is let through. -/
theorem filterW_more {l : List Wt} (h : GoodW l) {x : Wt} (hx : x ∈ l) {p q : Wt → Bool} (hp : p x = false) (hq : ∀ y ∈ l, q y = (p y || decide (y = x))) : (l.filter q).Perm (x :: l.filter p) := by
  have hk := h.nodup
  clear h
  induction l with
  | nil => simp at hx
  | cons a r ih =>
    obtain ⟨h1, h2⟩ := List.nodup_cons.1 hk
    have hqa := hq a (by simp)
    by_cases e : a = x
    · subst e
      have e1 : r.filter q = r.filter p := List.filter_congr fun y hy => by
        rw [hq y (by simp [hy])]
        have : y ≠ a := fun e => h1 (e ▸ hy)
        simp [this]
      rw [List.filter_cons, List.filter_cons, hqa, hp, e1]
      simp
    · have hx' : x ∈ r := by
        rcases List.mem_cons.1 hx with e' | h
        · exact absurd e'.symm e
        · exact h
      have ih := ih hx' (fun y hy => hq y (by simp [hy])) h2
      rw [List.filter_cons, List.filter_cons, hqa]
      simp only [e, decide_false, Bool.or_false]
      split
      · exact (ih.cons a).trans (List.Perm.swap x a _)
      · exact ih
end Go.Proofs.Ytamcpdhehipcfaa

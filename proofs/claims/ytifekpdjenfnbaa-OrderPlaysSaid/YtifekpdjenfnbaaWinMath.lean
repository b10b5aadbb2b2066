/- Plain lemmas on windows of numbers that go round. No condition beyond those that each lemma names. -/
import Derived.Test.YtifekpdjenfnbaaSerMath
namespace Go.Proofs.Ytifekpdjenfnbaa
open Go.ChangeShapes Go.WideShapes Go.ChangeAt Go.RowKit

/-- how far x is from base B on. -/
def off (B x : Int) : Int := (x - B) % 4294967296
/-- the number that is so far from base B on. -/
def wpl (B : Int) (i : Nat) : Int := (B + (i : Int)) % 4294967296
theorem wpl_u32 (B : Int) (i : Nat) : U32 (wpl B i) := by unfold wpl U32; omega
theorem off_wpl {B : Int} {i : Nat} (h : i < 4294967296) : off B (wpl B i) = i := by unfold off wpl; omega
theorem off_low (B x : Int) : 0 ≤ off B x ∧ off B x < 4294967296 := by unfold off; omega
theorem wpl_off {B x : Int} (hx : U32 x) : wpl B (off B x).toNat = x := by
  have := off_low B x
  unfold wpl
  rw [Int.toNat_of_nonneg this.1]
  unfold off U32 at *
  omega
theorem wpl_zero {B : Int} (h : U32 B) : wpl B 0 = B := by unfold wpl U32 at *; omega
theorem wpl_next (B : Int) (i : Nat) : (wpl B i + 1) % 4294967296 = wpl B (i + 1) := by unfold wpl; omega
theorem wpl_wpl (B : Int) (i j : Nat) : wpl (wpl B i) j = wpl B (i + j) := by unfold wpl; omega
theorem wpl_inj {B : Int} {i j : Nat} (hi : i < 4294967296) (hj : j < 4294967296) (h : wpl B i = wpl B j) : i = j := by unfold wpl at h; omega
theorem ah_wpl {B : Int} {i j : Nat} (hi : i < 1000) (hj : j < 1000) : ah (wpl B i) (wpl B j) = (j : Int) - i := by unfold ah wpl; omega
theorem max_wpl {B : Int} {i j : Nat} (hi : i < 1000) (hj : j < 1000) : maxZ (wpl B i) (wpl B j) = wpl B (max i j) := by
  unfold maxZ
  rw [ah_wpl hi hj]
  split
  · rw [Nat.max_eq_right (by omega)]
  · rw [Nat.max_eq_left (by omega)]
theorem in_off {B x : Int} {n : Nat} (hB : U32 B) (hx : U32 x) (hn : n ≤ 64) : inZ x B n = decide (off B x < n) := by
  unfold inZ
  rw [← Bool.decide_and]
  congr 1
  apply propext
  unfold U32 at hB hx
  unfold ah off
  omega
theorem off_moved {B x : Int} {k : Nat} (hk : (k : Int) ≤ off B x) : off (wpl B k) x = off B x - k := by unfold off wpl at *; omega

/-- A window that may be: its base, how many numbers, and those that are marked. -/
structure WOk (B : Int) (n : Nat) (L : List Int) : Prop where
  base : U32 B
  low : 1 ≤ n
  high : n ≤ 64
  one : L.Nodup
  ins : ∀ x ∈ L, U32 x ∧ off B x < n
theorem WOk.new {B : Int} {n : Nat} (h : U32 B) (h1 : 1 ≤ n) (h2 : n ≤ 64) : WOk B n [] := ⟨h, h1, h2, List.nodup_nil, fun _ h => absurd h (by simp)⟩
theorem WOk.u32 {B : Int} {n : Nat} {L : List Int} (h : WOk B n L) : ∀ x ∈ L, U32 x := fun x hx => (h.ins x hx).1
theorem WOk.at_ {B : Int} {n : Nat} {L : List Int} (h : WOk B n L) {i : Nat} (hi : i < 4294967296) (hm : wpl B i ∈ L) : i < n := by
  have := (h.ins _ hm).2
  rw [off_wpl hi] at this
  omega
theorem WOk.has {B : Int} {n : Nat} {L : List Int} (h : WOk B n L) {x : Int} (hx : x ∈ L) : ∃ i, i < n ∧ x = wpl B i := by
  obtain ⟨h1, h2⟩ := h.ins x hx
  have h3 := (off_low B x).1
  exact ⟨(off B x).toNat, by omega, (wpl_off h1).symm⟩

/-! ### a mark -/
def mkE (B : Int) (n : Nat) (L : List Int) (x : Int) : Int := if 0 < ah x B then 0 else if inZ x B n = false then 1 else if x ∈ L then 2 else 3
def mkL (B : Int) (n : Nat) (L : List Int) (x : Int) : List Int := if mkE B n L x = 3 then L ++ [x] else L
theorem mkE_3 {B : Int} {n : Nat} {L : List Int} {x : Int} : mkE B n L x = 3 ↔ ¬ 0 < ah x B ∧ inZ x B n = true ∧ x ∉ L := by
  unfold mkE
  split <;> rename_i h1
  · simp [h1]
  · split <;> rename_i h2
    · simp [h2]
    · split <;> rename_i h3
      · simp [h3]
      · simp [h1, h3]
        simpa using h2
theorem mk_less {B : Int} {n : Nat} {L : List Int} {x : Int} (h : 0 < ah x B) : mkE B n L x = 0 ∧ mkL B n L x = L := by
  have e : mkE B n L x = 0 := if_pos h
  exact ⟨e, if_neg (by rw [e]; decide)⟩
theorem mk_past {B : Int} {n : Nat} {L : List Int} {x : Int} (h : ¬ 0 < ah x B) (h2 : inZ x B n = false) : mkE B n L x = 1 ∧ mkL B n L x = L := by
  have e : mkE B n L x = 1 := by unfold mkE; rw [if_neg h, if_pos h2]
  exact ⟨e, if_neg (by rw [e]; decide)⟩
theorem mk_old {B : Int} {n : Nat} {L : List Int} {x : Int} (h : ¬ 0 < ah x B) (h2 : inZ x B n = true) (h3 : x ∈ L) : mkE B n L x = 2 ∧ mkL B n L x = L := by
  have e : mkE B n L x = 2 := by unfold mkE; rw [if_neg h, if_neg (by simp [h2]), if_pos h3]
  exact ⟨e, if_neg (by rw [e]; decide)⟩
theorem mk_new {B : Int} {n : Nat} {L : List Int} {x : Int} (h : ¬ 0 < ah x B) (h2 : inZ x B n = true) (h3 : x ∉ L) : mkE B n L x = 3 ∧ mkL B n L x = L ++ [x] := by
  have e : mkE B n L x = 3 := mkE_3.2 ⟨h, h2, h3⟩
  exact ⟨e, if_pos e⟩
theorem WOk.mark {B : Int} {n : Nat} {L : List Int} (h : WOk B n L) {x : Int} (hx : U32 x) : WOk B n (mkL B n L x) := by
  unfold mkL
  split
  · rename_i e
    obtain ⟨_, h2, h3⟩ := mkE_3.1 e
    rw [in_off h.base hx h.high] at h2
    refine ⟨h.base, h.low, h.high, ?_, fun y hy => ?_⟩
    · rw [List.nodup_append]
      exact ⟨h.one, by simp, fun a ha b hb q => by
        have hb : b = x := by simpa using hb
        rw [hb] at q
        rw [q] at ha
        exact h3 ha⟩
    · rcases List.mem_append.1 hy with hy | hy
      · exact h.ins y hy
      · obtain rfl : y = x := by simpa using hy
        exact ⟨hx, of_decide_eq_true h2⟩
  · exact h
theorem mkL_len (B : Int) (n : Nat) (L : List Int) (x : Int) : (mkL B n L x).length ≤ L.length + 1 := by
  unfold mkL
  split
  · simp
  · omega

/-! ### a slide -/
/-- It slides just so far. -/
def Sl (B : Int) (L : List Int) (most : Int) (k : Nat) : Prop := (∀ i, i < k → (i : Int) < most ∧ wpl B i ∈ L) ∧ ¬ ((k : Int) < most ∧ wpl B k ∈ L)
theorem Sl.only {B : Int} {L : List Int} {most : Int} {k j : Nat} (h : Sl B L most k) (g : Sl B L most j) : k = j := by
  rcases Nat.lt_trichotomy k j with e | e | e
  · exact absurd (g.1 k e) h.2
  · exact e
  · exact absurd (h.1 j e) g.2
def slW (B : Int) (L : List Int) (most : Int) : Nat → Nat → Nat
  | 0, j => j
  | f + 1, j => if (j : Int) < most ∧ wpl B j ∈ L then slW B L most f (j + 1) else j
theorem slW_is (B : Int) (L : List Int) (most : Int) : ∀ (f j : Nat), (∀ i, i < j → (i : Int) < most ∧ wpl B i ∈ L) → (∀ i, i < slW B L most f j → (i : Int) < most ∧ wpl B i ∈ L) ∧ (slW B L most f j = j + f ∨ ¬ ((slW B L most f j : Int) < most ∧ wpl B (slW B L most f j) ∈ L))
  | 0, j, h => ⟨h, Or.inl rfl⟩
  | f + 1, j, h => by
    unfold slW
    split
    · rename_i hj
      have := slW_is B L most f (j + 1) fun i hi => by
        rcases Nat.lt_or_ge i j with q | q
        · exact h i q
        · obtain rfl : i = j := by omega
          exact hj
      exact ⟨this.1, this.2.imp (fun e => by omega) id⟩
    · rename_i hj
      exact ⟨h, Or.inr hj⟩
/-- how far it slides. -/
def slK (B : Int) (L : List Int) (most : Int) : Nat := slW B L most 65 0
theorem WOk.sl {B : Int} {n : Nat} {L : List Int} (h : WOk B n L) (most : Int) : Sl B L most (slK B L most) := by
  obtain ⟨h1, h2⟩ := slW_is B L most 65 0 (fun i hi => absurd hi (by omega))
  refine ⟨h1, ?_⟩
  rcases h2 with e | e
  · exfalso
    have := h.at_ (i := 64) (by omega) (h1 64 (by omega)).2
    have := h.high
    omega
  · exact e
theorem WOk.sl_low {B : Int} {n : Nat} {L : List Int} (h : WOk B n L) {k : Nat} (hk : ∀ i, i < k → wpl B i ∈ L) : k ≤ n := by
  rcases Nat.lt_or_ge n k with e | e
  · exfalso
    have := h.high
    have := h.at_ (i := n) (by omega) (hk n e)
    omega
  · exact e
/-- those that stay. -/
def keepL (B : Int) (L : List Int) (k : Nat) : List Int := L.filter fun x => decide ((k : Int) ≤ off B x)
def dropX (L : List Int) (x : Int) : List Int := L.filter fun y => !decide (y = x)
theorem keep_zero (B : Int) (L : List Int) : keepL B L 0 = L := by
  unfold keepL
  rw [List.filter_eq_self]
  intro x _
  simpa using (off_low B x).1
theorem keep_step {B : Int} {L : List Int} {k : Nat} (hL : ∀ x ∈ L, U32 x) (hk : k < 4294967296) : dropX (keepL B L k) (wpl B k) = keepL B L (k + 1) := by
  unfold dropX keepL
  rw [List.filter_filter]
  refine List.filter_congr fun x hx => ?_
  have h1 : x = wpl B k ↔ off B x = k := ⟨fun e => by rw [e]; exact off_wpl hk, fun e => by rw [← wpl_off (hL x hx), e]; rfl⟩
  rw [Bool.eq_iff_iff]
  simp [h1]
  omega
theorem keep_mem {B : Int} {L : List Int} {k : Nat} (hk : k < 4294967296) : wpl B k ∈ keepL B L k ↔ wpl B k ∈ L := by
  unfold keepL
  rw [List.mem_filter, off_wpl hk]
  simp
theorem keep_len (B : Int) (L : List Int) (k : Nat) : (keepL B L k).length ≤ L.length := List.length_filter_le _ _
theorem drop_len1 (L : List Int) (x : Int) : (dropX L x).length ≤ L.length := List.length_filter_le _ _
theorem drop_len {L : List Int} (h : L.Nodup) (x : Int) : (dropX L x).length + (if decide (x ∈ L) = true then 1 else 0) = L.length := by
  induction L with
  | nil => rfl
  | cons y r ih =>
    obtain ⟨h1, h2⟩ := List.nodup_cons.1 h
    have ih := ih h2
    unfold dropX at ih ⊢
    rw [List.filter_cons]
    by_cases e : y = x
    · subst e
      have h3 : decide (y ∈ r) = false := decide_eq_false h1
      rw [h3] at ih
      simp at ih ⊢
      exact ih
    · have h3 : decide (x ∈ y :: r) = decide (x ∈ r) := by simp [Ne.symm e]
      rw [h3]
      simp only [e, decide_false, Bool.not_false, if_true, List.length_cons]
      omega
theorem drop_mem {L : List Int} {x y : Int} : y ∈ dropX L x ↔ y ∈ L ∧ y ≠ x := by unfold dropX; simp
theorem WOk.slide {B : Int} {n : Nat} {L : List Int} (h : WOk B n L) (k : Nat) : WOk (wpl B k) n (keepL B L k) := by
  refine ⟨wpl_u32 _ _, h.low, h.high, h.one.sublist List.filter_sublist, fun x hx => ?_⟩
  obtain ⟨h1, h2⟩ := List.mem_filter.1 hx
  obtain ⟨h3, h4⟩ := h.ins x h1
  have h2 := of_decide_eq_true h2
  rw [off_moved h2]
  exact ⟨h3, by omega⟩

/-! ### those that are missing -/
def topN (B : Int) (L : List Int) : Nat → Nat
  | 0 => 0
  | m + 1 => if wpl B m ∈ L then m else topN B L m
theorem topN_lt (B : Int) (L : List Int) : ∀ m, topN B L m = 0 ∨ topN B L m < m
  | 0 => Or.inl rfl
  | m + 1 => by
    unfold topN
    split
    · right; omega
    · have := topN_lt B L m; omega
theorem topN_mem (B : Int) (L : List Int) : ∀ m, topN B L m = 0 ∨ wpl B (topN B L m) ∈ L
  | 0 => Or.inl rfl
  | m + 1 => by
    unfold topN
    split
    · right; assumption
    · exact topN_mem B L m
theorem topN_max {B : Int} {L : List Int} : ∀ {m i : Nat}, i < m → wpl B i ∈ L → i ≤ topN B L m
  | m + 1, i, h, hi => by
    unfold topN
    split
    · omega
    · rename_i q
      rcases Nat.lt_or_ge i m with e | e
      · exact topN_max e hi
      · obtain rfl : i = m := by omega
        exact absurd hi q
theorem WOk.top {B : Int} {n : Nat} {L : List Int} (h : WOk B n L) : topN B L n < n := by
  have := topN_lt B L n
  have := h.low
  omega
/-- the last one that is marked, among those that have come. -/
def LastOk (B : Int) (L : List Int) (p : Int → Bool) (t : Nat) : Prop := t < 64 ∧ (t = 0 ∨ wpl B t ∈ L) ∧ ∀ x ∈ L, p x = false → off B x ≤ t
theorem LastOk.step {B : Int} {n : Nat} {L : List Int} (hw : WOk B n L) {p : Int → Bool} {t : Nat} (h : LastOk B L p t) {x : Int} (hx : x ∈ L) : ∃ s, LastOk B L (fun y => p y && !decide (y = x)) s ∧ maxZ (wpl B t) x = wpl B s := by
  obtain ⟨h1, h2, h3⟩ := h
  obtain ⟨i, hi, e⟩ := hw.has hx
  have hh := hw.high
  have ho : off B x = i := by rw [e]; exact off_wpl (by omega)
  refine ⟨max t i, ⟨by omega, ?_, fun y hy hp => ?_⟩, by rw [e]; exact max_wpl (by omega) (by omega)⟩
  · rcases Nat.le_total t i with q | q
    · rw [Nat.max_eq_right q]; exact Or.inr (e ▸ hx)
    · rw [Nat.max_eq_left q]; exact h2
  · by_cases q : y = x
    · subst q; omega
    · have := h3 y hy (by simpa [q] using hp)
      omega
theorem LastOk.is {B : Int} {n : Nat} {L : List Int} (hw : WOk B n L) {p : Int → Bool} {t : Nat} (h : LastOk B L p t) (hp : ∀ x ∈ L, p x = false) : t = topN B L n := by
  obtain ⟨h1, h2, h3⟩ := h
  have hh := hw.high
  have a : t ≤ topN B L n := by
    rcases h2 with e | e
    · omega
    · exact topN_max (hw.at_ (by omega) e) e
  have b : topN B L n ≤ t := by
    rcases topN_mem B L n with e | e
    · omega
    · have := h3 _ e (hp _ e)
      have ht := hw.top
      rw [off_wpl (by omega)] at this
      omega
  omega
/-- those up to so far that are not marked. -/
def wmisL (B : Int) (L : List Int) : Nat → List Int
  | 0 => []
  | t + 1 => if wpl B t ∈ L then wmisL B L t else wmisL B L t ++ [wpl B t]
theorem wmisL_len (B : Int) (L : List Int) : ∀ t, (wmisL B L t).length ≤ t
  | 0 => Nat.le_refl _
  | t + 1 => by
    have := wmisL_len B L t
    unfold wmisL
    split
    · omega
    · rw [List.length_append, List.length_singleton]; omega
theorem wmisL_in {B : Int} {L : List Int} {t : Nat} (h : wpl B t ∈ L) : wmisL B L (t + 1) = wmisL B L t := if_pos h
theorem wmisL_out {B : Int} {L : List Int} {t : Nat} (h : wpl B t ∉ L) : wmisL B L (t + 1) = wmisL B L t ++ [wpl B t] := if_neg h
/-- is one marked of those behind i, ahead of k? -/
def lat (B : Int) (L : List Int) (i : Nat) : Nat → Bool
  | 0 => false
  | k + 1 => lat B L i k || (decide (i < k) && decide (wpl B k ∈ L))
theorem lat_start {B : Int} {L : List Int} {i : Nat} : ∀ {k : Nat}, k ≤ i + 1 → lat B L i k = false
  | 0, _ => rfl
  | k + 1, h => by
    show (lat B L i k || _) = false
    rw [lat_start (by omega), decide_eq_false (by omega)]; rfl
theorem lat_next {B : Int} {L : List Int} {i k : Nat} (h : i < k) : lat B L i (k + 1) = (lat B L i k || decide (wpl B k ∈ L)) := by
  show (lat B L i k || _) = _
  rw [decide_eq_true h, Bool.true_and]
theorem lat_iff {B : Int} {L : List Int} {i : Nat} : ∀ {k : Nat}, lat B L i k = true ↔ ∃ j, i < j ∧ j < k ∧ wpl B j ∈ L
  | 0 => by
    constructor
    · intro h; cases h
    · rintro ⟨j, _, h, _⟩; omega
  | k + 1 => by
    show (lat B L i k || (decide (i < k) && decide (wpl B k ∈ L))) = true ↔ _
    rw [Bool.or_eq_true, lat_iff, Bool.and_eq_true, decide_eq_true_eq, decide_eq_true_eq]
    constructor
    · rintro (⟨j, h1, h2, h3⟩ | ⟨h1, h2⟩)
      · exact ⟨j, h1, by omega, h3⟩
      · exact ⟨k, h1, by omega, h2⟩
    · rintro ⟨j, h1, h2, h3⟩
      rcases Nat.lt_or_ge j k with q | q
      · exact Or.inl ⟨j, h1, q, h3⟩
      · obtain rfl : j = k := by omega
        exact Or.inr ⟨h1, h3⟩
theorem lat_top {B : Int} {L : List Int} {i n : Nat} : lat B L i n = decide (i < topN B L n) := by
  rw [Bool.eq_iff_iff, lat_iff, decide_eq_true_eq]
  constructor
  · rintro ⟨j, h1, h2, h3⟩
    have := topN_max h2 h3
    omega
  · intro h
    rcases topN_mem B L n with e | e
    · omega
    · refine ⟨_, h, ?_, e⟩
      have := topN_lt B L n
      omega
theorem wmisL_min {B : Int} {L : List Int} {t i : Nat} (h : ¬ i < t) : wmisL B L (min (i + 1) t) = wmisL B L (min i t) := by
  rw [Nat.min_eq_right (by omega), Nat.min_eq_right (by omega)]
theorem wmisL_min_in {B : Int} {L : List Int} {t i : Nat} (h : i < t) (hm : wpl B i ∈ L) : wmisL B L (min (i + 1) t) = wmisL B L (min i t) := by
  rw [Nat.min_eq_left (by omega), Nat.min_eq_left (by omega), wmisL_in hm]
theorem wmisL_min_out {B : Int} {L : List Int} {t i : Nat} (h : i < t) (hm : wpl B i ∉ L) : wmisL B L (min (i + 1) t) = wmisL B L (min i t) ++ [wpl B i] := by
  rw [Nat.min_eq_left (by omega), Nat.min_eq_left (by omega), wmisL_out hm]
end Go.Proofs.Ytifekpdjenfnbaa

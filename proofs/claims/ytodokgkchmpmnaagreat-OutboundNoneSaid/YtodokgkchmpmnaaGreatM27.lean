/- Proved: lemmas of one statement's proof, merged by program: what each part proves stands ahead of it. Conditions: those that the lemmas name. -/
import Derived.Test.YtodokgkchmpmnaaGreatM22
import Derived.Test.YtodokgkchmpmnaaGreatRows
import Derived.WalkKit
import Derived.ProofKit
import Derived.LoopTactic
import Derived.Laws.BitsAllLaws
import Derived.Lib.Hide

/- Plain lemmas on slices that lie anywhere in a block of the call's own: items are taken at their head, and come in at their end. No condition beyond those that each lemma names. -/
namespace Go.Proofs.YtodokgkchmpmnaaGreat
open Go.ChangeShapes Go.WideShapes Go.ChangeAt Go.RowKit
set_option maxRecDepth 100000

/-- The slice v, of n elements of k cells each, holds these cells; r is its block, if it has one. -/
def Qu (w : World) (r : Option Nat) (e : TypeId) (k : Nat) (v : Value) (n : Nat) (xs : List Value) : Prop :=
  xs.length = n * k ∧ ((v = .slice none 0 0 ∧ n = 0 ∧ r = none) ∨
  ∃ g o cap cur, r = some g ∧ v = .slice (some ⟨g, o, none⟩) n cap ∧ w.heap[g]? = some (.cells cur e (0, 0)) ∧ n ≤ cap ∧ cap ≤ maxLen ∧ o + cap * k ≤ cur.size ∧ (cur.toList.drop o).take (n * k) = xs)
section
variable {w w' : World} {r : Option Nat} {e : TypeId} {k n : Nat} {v : Value} {xs : List Value}
theorem Qu.nil (w : World) (e : TypeId) (k : Nat) : Qu w none e k (.slice none 0 0) 0 [] := ⟨by simp, .inl ⟨rfl, rfl, rfl⟩⟩
theorem Qu.form (h : Qu w r e k v n xs) : ∃ A cap, v = .slice A n cap := by
  rcases h.2 with ⟨rfl, rfl, _⟩ | ⟨g, o, cap, cur, _, rfl, _⟩
  · exact ⟨_, _, rfl⟩
  · exact ⟨_, _, rfl⟩
theorem Qu.lt (h : Qu w r e k v n xs) {g : Nat} (hg : r = some g) : g < w.heap.size := by
  rcases h.2 with ⟨_, _, e⟩ | ⟨g', o, cap, cur, e, _, hb, _⟩
  · rw [hg] at e; cases e
  · rw [hg] at e; injection e with e; rw [e]; exact (Array.getElem?_eq_some_iff.1 hb).1
theorem Qu.tn {c : Nat → Prop} (h : Qu w r e k v n xs) (t : Tn c w w') (hc : ∀ g, r = some g → ¬ c g) : Qu w' r e k v n xs := by
  refine ⟨h.1, ?_⟩
  rcases h.2 with h | ⟨g, o, cap, cur, hr, rfl, hb, q⟩
  · exact .inl h
  · exact .inr ⟨g, o, cap, cur, hr, rfl, (t.block g (Array.getElem?_eq_some_iff.1 hb).1 (hc g hr)).trans hb, q⟩
/-- what lies there. -/
theorem Qu.head (h : Qu w r e k v n xs) (hn : 0 < n) :
    ∃ g o cap, r = some g ∧ v = .slice (some ⟨g, o, none⟩) n cap ∧ g < w.heap.size ∧ n ≤ cap ∧ (∀ j u, xs[j]? = some u → w.cell? ⟨g, o + j, none⟩ = some u) ∧ ∀ j, w.frozen? ⟨g, j, none⟩ = false := by
  rcases h.2 with ⟨_, h0, _⟩ | ⟨g, o, cap, cur, hr, rfl, hb, h1, h2, h3, h4⟩
  · omega
  · refine ⟨g, o, cap, hr, rfl, (Array.getElem?_eq_some_iff.1 hb).1, h1, fun j u hj => ?_, fun j => by simp [World.frozen?, hb]⟩
    rw [cell_of_row w g (o + j) cur _ (0, 0) hb]
    rw [← h4, List.getElem?_take] at hj
    split at hj
    · simpa using hj
    · cases hj
/-- without its first element. -/
theorem Qu.rest {t : TypeId} {z : Value} {bytes : Nat} (ht : Tryz.prog.underlying t = some (.slice e)) (info : (Tryz.prog.info? e).map (fun i => (i.zero, i.size, i.bytes)) = some (some z, k, bytes)) (hk : 0 < k) (h : Qu w r e k v (n + 1) xs) :
    ∃ v', (∀ W : World, (Instr.slice t v (some (.int .i64 1)) none none).run Tryz.prog W = .ok v' W) ∧ Qu w r e k v' n (xs.drop k) ∧ ∃ A cap, v' = .slice A n cap := by
  obtain ⟨i, hi, hz0, hz1, hz2⟩ := info_parts info
  rcases h.2 with ⟨_, h0, _⟩ | ⟨g, o, cap, cur, hr, rfl, hb, h1, h2, h3, h4⟩
  · omega
  · have he : Tryz.prog.elem t = e := by unfold Program.elem; rw [ht]
    have ht' : Tryz.prog.underlying t = some (.slice (Tryz.prog.elem t)) := by rw [he]; exact ht
    have hrun : ∀ W : World, (Instr.slice t (.slice (some ⟨g, o, none⟩) (n + 1) cap) (some (.int .i64 1)) none none).run Tryz.prog W = .ok (.slice (if cap = 1 then some ⟨g, o, none⟩ else some ⟨g, o + k, none⟩) n (cap - 1)) W := fun W => by
      rw [run_slice_l W t (some ⟨g, o, none⟩) (n + 1) cap ht' .i64 1 (by omega) (by omega), he]
      simp [sizeOf, typeInfo, hi, hz1, sliced, Addr.add, Nat.ne_of_gt hk]
    refine ⟨_, hrun, ?_, _, _, rfl⟩
    have hx : xs.length = n * k + k := by rw [h.1, Nat.succ_mul]
    refine ⟨by rw [List.length_drop, hx]; omega, .inr ?_⟩
    by_cases h5 : cap = 1
    · subst h5
      have hn : n = 0 := by omega
      subst hn
      refine ⟨g, o, 0, cur, hr, by simp, hb, Nat.le_refl _, Nat.zero_le _, by omega, ?_⟩
      rw [Nat.zero_mul, List.take_zero, List.drop_eq_nil_of_le (by omega)]
    · rw [if_neg h5]
      refine ⟨g, o + k, cap - 1, cur, hr, rfl, hb, by omega, Nat.le_trans (Nat.sub_le _ _) h2, ?_, ?_⟩
      · have : cap * k = (cap - 1) * k + k := by
          obtain ⟨m, rfl⟩ : ∃ m, cap = m + 1 := ⟨cap - 1, by omega⟩
          rw [Nat.add_sub_cancel, Nat.succ_mul]
        omega
      · rw [← h4, List.drop_take, List.drop_drop, show (n + 1) * k - k = n * k by rw [Nat.succ_mul]; omega]
theorem run_append_room_off {P : Program} (w : World) (t ty e : TypeId) (i : TypeInfo) (ht : P.underlying t = some (.slice e)) (hi : P.info? e = some i)
    (g o sLen sCap : Nat) (cur : Array Value) (hg : w.heap[g]? = some (.cells cur e (0, 0)))
    (a : Addr) (m c : Nat) (news : List Value) (hl : news.length = m * i.size) (hnews : ∀ j u, news[j]? = some u → w.cell? (a.add j) = some u) (h1 : ∀ u ∈ news, u.oneCell' = true)
    (hroom : sLen + m ≤ sCap) (hfit : o + sLen * i.size + news.length ≤ cur.size) :
    (Builtin.append_ #[t, t] ty #[.slice (some ⟨g, o, none⟩) sLen sCap, .slice (some a) m c]).run P w =
      .ok (.slice (some ⟨g, o, none⟩) (sLen + m) sCap) (w.setRow g (cur.toList.take (o + sLen * i.size) ++ news ++ cur.toList.drop (o + sLen * i.size + news.length)).toArray) := by
  have hf := run_firstCells_some (P := P) w i.size m a m c news hl hnews
  have hst := run_storeCells_at P g (o + sLen * i.size) e news 0 cur w hg (by simpa using hfit) h1
  simp only [Nat.add_zero] at hst
  simp [Builtin.append_, run_underlying ht, sizeOf, typeInfo, hi, Builtin.lenOf, hroom, hf, Addr.add_lit, hst]
theorem qu_of_own {base : Nat} (h : w.ownsRow base e k v n xs) (hn : 0 < n) : ∃ g, base ≤ g ∧ Qu w (some g) e k v n xs := by
  obtain ⟨hl, hv⟩ := h
  rcases hv with ⟨_, h0⟩ | ⟨g, cap, cur, rfl, hb, hg, h1, h2, h3, h4⟩
  · omega
  · exact ⟨g, hb, hl, .inr ⟨g, 0, cap, cur, rfl, rfl, hg, h1, h2, by omega, by rw [List.drop_zero]; exact h4⟩⟩
/-- one element more. -/
theorem Qu.append {t ty : TypeId} {z : Value} {bytes : Nat} (ht : Tryz.prog.underlying t = some (.slice e)) (info : (Tryz.prog.info? e).map (fun i => (i.zero, i.size, i.bytes)) = some (some z, k, bytes)) (hzs : z.cells.size = k) (hk : 0 < k) (hby : bytes ≤ 1000)
    (h : Qu w r e k v n xs) (hn : n ≤ 65536) {a : Addr} {cp : Nat} {news : List Value} (hl : news.length = k) (hnews : ∀ j u, news[j]? = some u → w.cell? (a.add j) = some u) (one : ∀ u ∈ news, u.oneCell' = true) (hxs : ∀ u ∈ xs, u.oneCell' = true) :
    ∃ v' w' r', (Builtin.append_ #[t, t] ty #[v, .slice (some a) 1 cp]).run Tryz.prog w = .ok v' w' ∧ Qu w' r' e k v' (n + 1) (xs ++ news) ∧ (r' = r ∨ ∃ g, r' = some g ∧ w.heap.size ≤ g) ∧ Tn (fun i => r = some i) w w' := by
  obtain ⟨i, hi, hz0, hz1, hz2⟩ := info_parts info
  have hnl : news.length = 1 * k := by rw [hl, Nat.one_mul]
  have hb1 : (n + 1) * bytes ≤ 140737488355328 := Nat.le_trans (Nat.mul_le_mul (by omega : n + 1 ≤ 70000) hby) (by decide)
  have hb2 : 1 * bytes ≤ 140737488355328 := by omega
  have hkb : n + 1 ≤ maxLen := by unfold maxLen; omega
  rcases h.2 with ⟨rfl, rfl, rfl⟩ | ⟨g, o, cap, cur, rfl, rfl, hg, q1, q2, q3, q4⟩
  · have hx : xs = [] := List.eq_nil_of_length_eq_zero (by rw [h.1, Nat.zero_mul])
    subst hx
    obtain ⟨v', w', hrun, r1, r2, _⟩ := run_append_own (P := Tryz.prog) w w.heap.size _ ty _ i _ k bytes ht hi hz0 hz1 hz2 hzs hk (.slice none 0 0) 0 [] (World.ownsRow_nil w _ _ k) a 1 cp news hnl hnews one hkb (by simpa using hb2) (Nat.le_refl _)
    obtain ⟨g, hb, hq⟩ := qu_of_own r1 (by omega)
    exact ⟨v', w', some g, hrun, hq, .inr ⟨g, rfl, hb⟩, tn_grown r2 (by simp [Value.ownBlock])⟩
  · have hcl : cur.toList.length = cur.size := Array.length_toList
    by_cases hr : n + 1 ≤ cap
    · have hck : (n + 1) * k ≤ cap * k := Nat.mul_le_mul_right k hr
      rw [Nat.succ_mul] at hck
      have hfit : o + n * i.size + news.length ≤ cur.size := by rw [hz1, hl]; omega
      have hrun := run_append_room_off (P := Tryz.prog) w _ ty _ i ht hi g o n cap cur hg a 1 cp news (by rw [hnl, hz1]) hnews one hr hfit
      refine ⟨_, _, some g, hrun, ⟨by rw [List.length_append, h.1, hl, Nat.succ_mul], .inr ⟨g, o, cap, _, rfl, rfl, setRow_heap w g cur _ _ _ hg, hr, q2, ?_, ?_⟩⟩, .inl rfl, ⟨rfl, rfl, rfl, by simp [World.setRow], fun j hj hn => setRow_other w g j _ (fun e => hn (by rw [e]))⟩⟩
      · rw [hz1]
        simp only [List.size_toArray, List.length_append, List.length_take, List.length_drop, hl, hcl]
        omega
      · rw [hz1, ← q4]
        have e1 : (cur.toList.take (o + n * k)).length = o + n * k := by rw [List.length_take, hcl]; omega
        rw [List.append_assoc, List.drop_append_of_le_length (by rw [e1]; omega), List.drop_take, show o + n * k - o = n * k by omega, ← List.append_assoc]
        have e2 : (List.take (n * k) (List.drop o cur.toList) ++ news).length = (n + 1) * k := by
          rw [List.length_append, List.length_take, List.length_drop, hcl, hl, Nat.succ_mul]; omega
        rw [← e2, List.take_left]
    · obtain ⟨v', w', hrun, r1, r2⟩ := run_append_arg_grows (P := Tryz.prog) w _ ty _ i _ k bytes ht hi hz0 hz1 hz2 hzs hk ⟨g, o, none⟩ n cap xs h.1 (fun j u hu => by
          rw [Addr.add_lit, cell_of_row w g (o + j) cur _ (0, 0) hg]
          rw [← q4, List.getElem?_take] at hu
          split at hu
          · simpa using hu
          · cases hu) a 1 cp news hnl hnews (by omega) hkb hb1
      obtain ⟨g', hb, hq⟩ := qu_of_own r1 (by omega)
      exact ⟨v', w', some g', hrun, hq, .inr ⟨g', rfl, hb⟩, tn_grown r2 (by simp)⟩
end
end Go.Proofs.YtodokgkchmpmnaaGreat

/- Proved: what each function of package serial, and its twin of the document, answers for all numbers. Conditions: the bounds that the theorems name. -/
namespace Go.Proofs.YtodokgkchmpmnaaGreat
open Go.ChangeShapes Go.WideShapes Go.ChangeAt Go.RowKit

/-- how far b is ahead of a. -/
def ah (a b : Int) : Int := if b - a < -2147483648 then b - a + 4294967296 else if b - a ≥ 2147483648 then b - a - 4294967296 else b - a
def U32 (a : Int) : Prop := 0 ≤ a ∧ a ≤ 4294967295
theorem ser_int {k : IntKind} {a b : Int} (h : a = b) : Ending.returned (.int k a) = .returned (.int k b) := by rw [h]
theorem ah_wraps {a b : Int} (ha : U32 a) (hb : U32 b) : wrap64 (wrap32 ((b - a) % 4294967296)) = ah a b := by
  unfold U32 at ha hb
  unfold wrap64 wrap32 ah
  omega
set_option maxHeartbeats 400000 in
theorem nahead_any (a b : Int) (ha : U32 a) (hb : U32 b) (w : World) :
    Calls Tryz.prog 67 #[.int .u32 a, .int .u32 b] w fun e w' => e = .returned (.int .i64 (ah a b)) ∧ w = w' := by
  have HA := Lib.hid ha
  have HB := Lib.hid hb
  clear ha hb
  go_enter Tryz.func67, Tryz.ntmps67
  go_wp2_with fail
  go_ret
  exact ⟨ser_int (ah_wraps HA.out HB.out), rfl⟩
theorem ahead_any (a b : Int) (ha : U32 a) (hb : U32 b) (w : World) :
    Calls Tryz.prog 41 #[.int .u32 a, .int .u32 b] w fun e w' => e = .returned (.int .i64 (ah a b)) ∧ w = w' := by
  have HH := Lib.hid (fun w => nahead_any a b ha hb w)
  clear ha hb
  go_enter Tryz.func41, Tryz.ntmps41
  go_wp2_with fail
  refine (HH.out _).mono ?_; rintro e w1 ⟨rfl, rfl⟩
  go_wp2_with fail
  go_ret
  exact ⟨rfl, rfl⟩
theorem less_any (a b : Int) (ha : U32 a) (hb : U32 b) (w : World) :
    Calls Tryz.prog 31 #[.int .u32 a, .int .u32 b] w fun e w' => e = .returned (.bool (decide (0 < ah a b))) ∧ w = w' := by
  have HH := Lib.hid (fun w => ahead_any a b ha hb w)
  clear ha hb
  go_enter Tryz.func31, Tryz.ntmps31
  go_wp2_with fail
  refine (HH.out _).mono ?_; rintro e w1 ⟨rfl, rfl⟩
  go_wp2_with fail
  go_ret
  exact ⟨rfl, rfl⟩
/-- is x one of the n from base on? -/
def inZ (x base n : Int) : Bool := decide (0 ≤ ah base x) && decide (ah base x < n)
theorem within_any (x base n : Int) (hx : U32 x) (hb : U32 base) (w : World) :
    Calls Tryz.prog 40 #[.int .u32 x, .int .u32 base, .int .i64 n] w fun e w' => e = .returned (.bool (inZ x base n)) ∧ w = w' := by
  have HH := Lib.hid (fun w => ahead_any base x hb hx w)
  clear hx hb
  unfold inZ
  generalize ah base x = d at *
  by_cases h : 0 ≤ d
  · rw [decide_eq_true h, Bool.true_and]
    go_enter Tryz.func40, Tryz.ntmps40
    go_wp2_with fail
    refine (HH.out _).mono ?_; rintro e w1 ⟨rfl, rfl⟩
    go_wp2_with fail
    go_ret
    exact ⟨rfl, rfl⟩
  · rw [decide_eq_false h, Bool.false_and]
    go_enter Tryz.func40, Tryz.ntmps40
    go_wp2_with fail
    refine (HH.out _).mono ?_; rintro e w1 ⟨rfl, rfl⟩
    go_wp2_with fail
    go_ret
    exact ⟨rfl, rfl⟩
/-- the greater one. -/
def maxZ (a b : Int) : Int := if 0 < ah a b then b else a
theorem smax_any (a b : Int) (ha : U32 a) (hb : U32 b) (w : World) :
    Calls Tryz.prog 77 #[.int .u32 a, .int .u32 b] w fun e w' => e = .returned (.int .u32 (maxZ a b)) ∧ w = w' := by
  have HH := Lib.hid (fun w => less_any a b ha hb w)
  clear ha hb
  unfold maxZ
  generalize ah a b = d at *
  by_cases h : 0 < d
  · rw [if_pos h]
    rw [decide_eq_true h] at HH
    go_enter Tryz.func77, Tryz.ntmps77
    go_wp2_with fail
    refine (HH.out _).mono ?_; rintro e w1 ⟨rfl, rfl⟩
    go_wp2_with fail
    go_ret
    exact ⟨rfl, rfl⟩
  · rw [if_neg h]
    rw [decide_eq_false h] at HH
    go_enter Tryz.func77, Tryz.ntmps77
    go_wp2_with fail
    refine (HH.out _).mono ?_; rintro e w1 ⟨rfl, rfl⟩
    go_wp2_with fail
    go_ret
    exact ⟨rfl, rfl⟩
end Go.Proofs.YtodokgkchmpmnaaGreat

/- Proved: lemmas of one statement's proof, merged by program: what each part proves stands ahead of it. Conditions: those that the lemmas name. -/
import Derived.Test.YtgclgmfmcgacdaaM7
import Derived.Test.YtgclgmfmcgacdaaM11
import Derived.Test.YtgclgmfmcgacdaaM3

/- Proved: what slices.Insert leaves of a row of texts that is the call's own. Conditions: those that the theorems name. -/
namespace Go.Proofs.Ytgclgmfmcgacdaa
open Go.ChangeShapes Go.WideShapes Go.ChangeAt Go.RowKit

theorem setCells_row (b : Nat) (t : TypeId) : ∀ (vs : List Value) (o : Nat) (w : World) (cur : Array Value), w.heap[b]? = some (.cells cur t (0, 0)) → ∃ cur', (w.setCells b o vs).heap[b]? = some (.cells cur' t (0, 0)) ∧ cur'.size = cur.size
  | [], _, _, cur, h => ⟨cur, h, rfl⟩
  | v :: r, o, w, cur, h => by
    have : (w.setCell ⟨b, o, none⟩ v).heap[b]? = some (.cells (cur.setIfInBounds o v) t (0, 0)) := by simp [World.setCell, Array.getElem?_modify, h]
    obtain ⟨cur', h1, h2⟩ := setCells_row b t r (o + 1) _ _ this
    exact ⟨cur', h1, by rw [h2]; simp⟩
theorem setCells_tn (b : Nat) : ∀ (vs : List Value) (o : Nat) (w : World), Tn (fun i => i = b) w (w.setCells b o vs)
  | [], _, w => Tn.refl _ w
  | v :: r, o, w => ((Tn.refl (fun i => i = b) w).set ⟨b, o, none⟩ v (fun _ => rfl)).trans (setCells_tn b r (o + 1) _)
theorem sr_of_cells {w : World} {g cap : Nat} {cur : Array Value} {l : List ByteArray} (h : w.heap[g]? = some (.cells cur 9 (0, 0))) (h1 : cur.size = cap) (h2 : l.length ≤ cap) (h3 : cap ≤ maxLen) (hc : ∀ j, j < l.length → w.cell? ⟨g, j, none⟩ = some (.string (st_ l j))) :
    Sr w (fun i => i = g) (.slice (some ⟨g, 0, none⟩) l.length cap) l := by
  refine ⟨⟨by rw [scells_len, Nat.mul_one], .inr ⟨g, cap, cur, rfl, Nat.zero_le _, h, h2, h3, by omega, ?_⟩⟩, fun g' e => by simp [Value.ownBlock] at e; exact e.symm⟩
  rw [Nat.mul_one]
  refine List.ext_getElem? fun j => ?_
  rw [List.getElem?_take]
  by_cases hj : j < l.length
  · have := hc j hj
    rw [cell_of_row w g j cur _ (0, 0) h] at this
    rw [if_pos hj, scells_at l j hj, ← this]
    simp
  · rw [if_neg hj, List.getElem?_eq_none (by rw [scells_len]; omega)]
theorem st_ins (l : List ByteArray) (x : ByteArray) {i : Nat} (hi : i ≤ l.length) (j : Nat) : st_ (l.take i ++ x :: l.drop i) j = if j < i then st_ l j else if j = i then x else st_ l (j - 1) := by
  unfold st_
  rw [List.getD_eq_getElem?_getD, List.getElem?_append, List.length_take, Nat.min_eq_left hi]
  by_cases h1 : j < i
  · rw [if_pos h1, if_pos h1, List.getElem?_take, if_pos h1, ← List.getD_eq_getElem?_getD]
  · rw [if_neg h1, if_neg h1]
    by_cases h2 : j = i
    · rw [if_pos h2, h2, Nat.sub_self]; rfl
    · rw [if_neg h2, show j - i = (j - 1 - i) + 1 by omega, List.getElem?_cons_succ, List.getElem?_drop, show i + (j - 1 - i) = j - 1 by omega, ← List.getD_eq_getElem?_getD]
theorem ins_len (l : List ByteArray) (x : ByteArray) {i : Nat} (hi : i ≤ l.length) : (l.take i ++ x :: l.drop i).length = l.length + 1 := by
  rw [List.length_append, List.length_cons, List.length_take, List.length_drop]; omega
theorem scells_get {l : List ByteArray} {j : Nat} {v : Value} (h : (scells l)[j]? = some v) : j < l.length ∧ v = .string (st_ l j) := by
  have hj : j < l.length := by
    have := (List.getElem?_eq_some_iff.1 h).1
    rwa [scells_len] at this
  refine ⟨hj, ?_⟩
  rw [scells_at l j hj] at h
  exact (Option.some.inj h).symm
theorem scells_drop (l : List ByteArray) (i j : Nat) (hj : j < ((scells l).drop i).length) : ((scells l).drop i)[j] = .string (st_ l (i + j)) := by
  rw [List.length_drop, scells_len] at hj
  rw [List.getElem_drop]
  have := scells_at l (i + j) (by omega)
  rw [List.getElem?_eq_getElem (by rw [scells_len]; omega)] at this
  exact Option.some.inj this
/-- what a row of texts becomes. -/
def Insd (w : World) (c : Nat → Prop) (l : List ByteArray) (e : Ending) (w' : World) : Prop :=
  ∃ g cap, e = .returned (.slice (some ⟨g, 0, none⟩) l.length cap) ∧ Sr w' (fun i => i = g) (.slice (some ⟨g, 0, none⟩) l.length cap) l ∧ (c g ∨ w.heap.size ≤ g) ∧ Tn c w w'
/-- .. in place. -/
theorem ins_place {w w' : World} {c : Nat → Prop} {g cap : Nat} {cur cur' : Array Value} {r : List ByteArray} (hc : c g) (h : w'.heap[g]? = some (.cells cur' 9 (0, 0))) (h1 : cur'.size = cur.size) (h2 : cur.size = cap) (h3 : r.length ≤ cap) (h4 : cap ≤ maxLen) (hcell : ∀ j, j < r.length → w'.cell? ⟨g, j, none⟩ = some (.string (st_ r j))) (ht : Tn (fun i => i = g) w w') :
    Insd w c r (.returned (.slice (some ⟨g, 0, none⟩) r.length cap)) w' :=
  ⟨g, cap, rfl, sr_of_cells h (by omega) h3 h4 hcell, .inl hc, ht.mono fun i _ e => by rw [show i = g from e]; exact hc⟩
theorem zc_size (n : Nat) : (Builtin.zeroCells (Value.string ⟨#[]⟩).cells n).size = n := by simp [Builtin.zeroCells, Value.cells]
section
variable {w : World} {c : Nat → Prop} {l : List ByteArray} {v : Value} {x : ByteArray} {vb : Nat}
theorem tb_insert (h : Sr w c v l) (hl : 1 ≤ l.length ∧ l.length ≤ 32) {i : Nat} (hi : i ≤ l.length) (hx : At w vb 9 [.string x]) (hvb : ¬ c vb) :
    Calls Try.prog 61 #[v, .int .i64 i, .slice (some ⟨vb, 0, none⟩) 1 1] w (Insd w c (l.take i ++ x :: l.drop i)) := by
  obtain ⟨g, cap, cur, rfl, hcg, hg, hgc, q1, q2, q3, hcell⟩ := h.form (by omega)
  have hxc : ∀ j u, [Value.string x][j]? = some u → w.cell? ⟨vb, 0 + j, none⟩ = some u := fun j u hj => by
    match j, hj with
    | 0, hj => simp at hj; subst hj; exact hx.cell 0 rfl
    | j + 1, hj => simp at hj
  have h1c := scells_one l
  have h1v : ∀ u ∈ [Value.string x], u.oneCell' = true := fun u hu => by simp at hu; subst hu; rfl
  have hcs : ∀ j u, (scells l)[j]? = some u → w.cell? ⟨g, 0 + j, none⟩ = some u := fun j u hj => by
    obtain ⟨a, rfl⟩ := scells_get hj
    rw [Nat.zero_add]; exact hcell j a
  have hvg : vb ≠ g := fun e => hvb (e ▸ hcg)
  have hsome : ∀ j, j < cap → (w.cell? ⟨g, 0 + j, none⟩).isSome = true := fun j hj => by
    rw [Nat.zero_add, cell_of_row w g j cur _ (0, 0) hgc, Array.getElem?_eq_getElem (by omega)]; rfl
  have hfz : ∀ j, w.frozen? ⟨g, j, none⟩ = false := fun j => by simp [World.frozen?, hgc]
  have hlen := ins_len l x hi
  have hml : maxLen = 9223372036854775807 := rfl
  by_cases hin : i = l.length
  · subst hin
    by_cases hroom : l.length + 1 ≤ cap
    · refine (Any2.slices_Insert_string_end_room Try.ins g 0 l.length cap vb 0 1 1 [.string x] w (by omega) hroom (by omega) rfl (fun j hj => ?_) (fun j _ => hfz _) hxc h1v).mono ?_
      · have := hsome (l.length + j) (by omega)
        rwa [show 0 + l.length + j = 0 + (l.length + j) by omega]
      rintro e w' ⟨rfl, rfl⟩
      obtain ⟨cur', r1, r2⟩ := setCells_row g 9 [.string x] (0 + l.length) w cur hgc
      rw [← hlen]
      refine ins_place hcg r1 r2 q3 (by omega) q2 (fun j hj => ?_) (setCells_tn ..)
      rw [hlen] at hj
      rw [st_ins l x (Nat.le_refl _)]
      by_cases e : j = l.length
      · subst e
        rw [if_neg (by omega), if_pos rfl]
        have := World.cell?_setCells_in g [Value.string x] (0 + l.length) w (fun j hj => by
          rw [List.length_singleton] at hj
          have := hsome (l.length + j) (by omega)
          rwa [show 0 + l.length + j = 0 + (l.length + j) by omega]) 0 (by simp)
        simpa using this
      · rw [if_pos (by omega), World.cell?_setCells_out g _ _ _ _ (fun _ _ => .inl (by show j < 0 + l.length; omega))]
        exact hcell j (by omega)
    · refine (Any2.slices_Insert_string_end_grow Try.ins (some ⟨g, 0, none⟩) l.length cap vb 0 1 1 (scells l) [.string x] w (by omega) q1 (by omega) (by omega) (scells_len l) rfl (fun e => by cases e) (fun a e j u hj => ?_) hxc h1v).mono ?_
      · injection e with e
        subst e
        have e2 : (⟨g, 0, none⟩ : Addr).add j = ⟨g, 0 + j, none⟩ := by unfold Addr.add; split <;> simp_all
        rw [e2]
        exact hcs j u hj
      rintro e w' ⟨rfl, rfl⟩
      have hge := grownCap_ge w (l.length + 1) cap 9
      have hle := grownCap_le_maxLen w (l.length + 1) cap 9 (by omega)
      show Insd w c _ (.returned (.slice (some ⟨w.heap.size, 0, none⟩) (l.length + 1) (grownCap w (l.length + 1) cap 9))) (w.drew.alloc (.cells ((scells l ++ [Value.string x]).toArray ++ Builtin.zeroCells (Value.string ⟨#[]⟩).cells (grownCap w (l.length + 1) cap 9 - (l.length + 1))) 9))
      generalize grownCap w (l.length + 1) cap 9 = G at *
      generalize hC : (scells l ++ [Value.string x]).toArray ++ Builtin.zeroCells (Value.string ⟨#[]⟩).cells (G - (l.length + 1)) = C
      have hCs : C.size = G := by
        rw [← hC, Array.size_append, zc_size, List.size_toArray, List.length_append, scells_len, List.length_singleton]
        omega
      have ha : (w.drew.alloc (.cells C 9)).heap[w.heap.size]? = some (.cells C 9 (0, 0)) := heap_alloc_new w.drew _
      have hfin : ∀ j, j < l.length + 1 → (w.drew.alloc (.cells C 9)).cell? ⟨w.heap.size, j, none⟩ = some (.string (st_ (l.take l.length ++ x :: l.drop l.length) j)) := fun j hj => by
        rw [cell_of_row _ w.heap.size j C _ (0, 0) ha, ← hC, Array.getElem?_append_left (by rw [List.size_toArray, List.length_append, scells_len]; simpa using hj), List.getElem?_toArray, scells_snoc, scells_at _ _ (by rw [List.length_append]; simpa using hj), List.take_length, List.drop_length]
      refine ⟨w.heap.size, G, by rw [hlen], ?_, .inr (Nat.le_refl _), (Tn.refl c w).drew.alloc _⟩
      exact sr_of_cells ha hCs (by rw [hlen]; exact hge) hle (fun j hj => hfin j (by rw [hlen] at hj; exact hj))
  · have hin' : i < l.length := by omega
    by_cases hroom : l.length + 1 ≤ cap
    · refine (Any2.slices_Insert_string_shift Try.ins g 0 l.length cap i vb 0 1 1 (scells l) [.string x] w hin' (by omega) hroom (by omega) hvg (scells_len l) rfl hcs (fun j hj => hsome j (by omega)) (fun j _ => hfz _) hxc h1c h1v 9 9 1 cap ?_ ?_ (by omega) (hx.free 0) (hx.free 1)).mono ?_
      · simp [World.shape?, show w.heap[vb]? = some (.cells #[.string x] 9 (0, 0)) from hx]
      · simp [World.shape?, hgc, q3]
      rintro e w' ⟨rfl, rfl⟩
      rw [← hlen]
      obtain ⟨c1, r1, r2⟩ := setCells_row g 9 ((scells l).drop i) (0 + (i + 1)) w.drew cur hgc
      obtain ⟨c2, r3, r4⟩ := setCells_row g 9 [.string x] (0 + i) _ c1 r1
      refine ins_place hcg r3 (r4.trans r2) q3 (by omega) q2 (fun j hj => ?_) (((Tn.refl _ w).drew.trans (setCells_tn ..)).trans (setCells_tn ..))
      rw [hlen] at hj
      rw [st_ins l x hi]
      have hdl : ((scells l).drop i).length = l.length - i := by rw [List.length_drop, scells_len]
      have hs1 : ∀ k, k < cap → ((w.drew.setCells g (0 + (i + 1)) ((scells l).drop i)).cell? ⟨g, k, none⟩).isSome = true := fun k hk => by
        rw [cell_of_row _ g k c1 _ (0, 0) r1, Array.getElem?_eq_getElem (by omega)]; rfl
      by_cases h1 : j = i
      · subst h1
        rw [if_neg (by omega), if_pos rfl]
        have := World.cell?_setCells_in g [Value.string x] (0 + j) (w.drew.setCells g (0 + (j + 1)) ((scells l).drop j)) (fun k hk => by
          rw [List.length_singleton] at hk
          exact hs1 _ (by omega)) 0 (by simp)
        simpa using this
      · rw [World.cell?_setCells_out g _ _ _ _ (fun _ _ => by show j < 0 + i ∨ 0 + i + 1 ≤ j; omega)]
        by_cases h2 : j < i
        · rw [if_pos h2, World.cell?_setCells_out g _ _ _ _ (fun _ _ => .inl (by show j < 0 + (i + 1); omega))]
          exact hcell j (by omega)
        · rw [if_neg h2, if_neg h1]
          have hk : j - i - 1 < ((scells l).drop i).length := by rw [hdl]; omega
          have := World.cell?_setCells_in g ((scells l).drop i) (0 + (i + 1)) w.drew (fun k hk => by
            rw [hdl] at hk
            have := hsome (i + 1 + k) (by omega)
            show (w.cell? _).isSome = true
            rwa [show 0 + (i + 1) + k = 0 + (i + 1 + k) by omega]) (j - i - 1) hk
          rw [scells_drop, show 0 + (i + 1) + (j - i - 1) = j by omega, show i + (j - i - 1) = j - 1 by omega] at this
          exact this
    · refine (Any2.slices_Insert_string_grow Try.ins g 0 l.length cap i vb 0 1 1 (scells l) [.string x] w hin' (by omega) q1 (by omega) (by omega) (scells_len l) rfl hcs hxc h1c h1v).mono ?_
      rintro e w' ⟨rfl, rfl⟩
      rw [← hlen]
      have hge := grownCap_ge w (l.take i ++ x :: l.drop i).length cap 9
      have hle := grownCap_le_maxLen w (l.take i ++ x :: l.drop i).length cap 9 (by omega)
      show Insd w c _ (.returned (.slice (some ⟨w.heap.size, 0, none⟩) _ (grownCap w (l.take i ++ x :: l.drop i).length cap 9))) _
      generalize hG : grownCap w (l.take i ++ x :: l.drop i).length cap 9 = G at *
      have hG2 : grownCap w (l.length + 1) cap (Try.ins_ren.t 9) = G := by rw [← hlen]; exact hG
      have hdl : ((scells l).drop i).length = l.length - i := by rw [List.length_drop, scells_len]
      rw [hlen] at hge ⊢
      rw [hG2]
      generalize hC : ((scells l).take i).toArray ++ Builtin.zeroCells (Value.string ⟨#[]⟩).cells (l.length + 1 - i) ++ Builtin.zeroCells (Value.string ⟨#[]⟩).cells (G - (l.length + 1)) = C
      have hCs : C.size = G := by
        rw [← hC, Array.size_append, Array.size_append, zc_size, zc_size, List.size_toArray, List.length_take, scells_len]
        omega
      have ha : (w.alloc (.cells C (Try.ins_ren.t 9))).drew.heap[w.heap.size]? = some (.cells C 9 (0, 0)) := heap_alloc_new w _
      obtain ⟨c1, r1, r2⟩ := setCells_row w.heap.size 9 [.string x] i _ C ha
      obtain ⟨c2, r3, r4⟩ := setCells_row w.heap.size 9 ((scells l).drop i) (i + 1) ((w.alloc (.cells C (Try.ins_ren.t 9))).drew.setCells w.heap.size i [.string x]).drew c1 r1
      have tn0 : Tn Nil w (w.alloc (.cells C (Try.ins_ren.t 9))).drew := ((Tn.refl _ w).alloc _).drew
      have tn1 : Tn Nil w ((((w.alloc (.cells C (Try.ins_ren.t 9))).drew.setCells w.heap.size i [.string x]).drew).setCells w.heap.size (i + 1) ((scells l).drop i)) :=
        (tn0.trans' ((setCells_tn w.heap.size [.string x] i _).drew.trans (setCells_tn ..)) fun k hk e => by
          have e : k = w.heap.size := e
          omega)
      have hfin : ∀ j, j < l.length + 1 → ((((w.alloc (.cells C (Try.ins_ren.t 9))).drew.setCells w.heap.size i [.string x]).drew).setCells w.heap.size (i + 1) ((scells l).drop i)).cell? ⟨w.heap.size, j, none⟩ = some (.string (st_ (l.take i ++ x :: l.drop i) j)) := fun j hj => by
        rw [st_ins l x hi]
        have hs0 : ∀ k, k < G → ((w.alloc (.cells C (Try.ins_ren.t 9))).drew.cell? ⟨w.heap.size, k, none⟩).isSome = true := fun k hk => by
          rw [cell_of_row _ w.heap.size k C _ (0, 0) ha, Array.getElem?_eq_getElem (by omega)]; rfl
        have hs1 : ∀ k, k < G → (((w.alloc (.cells C (Try.ins_ren.t 9))).drew.setCells w.heap.size i [.string x]).drew.cell? ⟨w.heap.size, k, none⟩).isSome = true := fun k hk => by
          show (((w.alloc (.cells C (Try.ins_ren.t 9))).drew.setCells w.heap.size i [.string x]).cell? ⟨w.heap.size, k, none⟩).isSome = true
          rw [cell_of_row _ w.heap.size k c1 _ (0, 0) r1, Array.getElem?_eq_getElem (by omega)]; rfl
        by_cases h2 : j ≤ i
        · rw [World.cell?_setCells_out w.heap.size _ _ _ _ (fun _ _ => .inl (by show j < i + 1; omega))]
          show ((w.alloc (.cells C (Try.ins_ren.t 9))).drew.setCells w.heap.size i [.string x]).cell? _ = _
          by_cases h1 : j = i
          · subst h1
            rw [if_neg (by omega), if_pos rfl]
            have := World.cell?_setCells_in w.heap.size [Value.string x] j (w.alloc (.cells C (Try.ins_ren.t 9))).drew (fun k hk => by
              rw [List.length_singleton] at hk
              exact hs0 _ (by omega)) 0 (by simp)
            simpa using this
          · rw [if_pos (by omega), World.cell?_setCells_out w.heap.size _ _ _ _ (fun _ _ => .inl (by show j < i; omega)), cell_of_row _ w.heap.size j C _ (0, 0) ha, ← hC, Array.append_assoc, Array.getElem?_append_left (by rw [List.size_toArray, List.length_take, scells_len]; omega), List.getElem?_toArray, List.getElem?_take, if_pos (by omega), scells_at l j (by omega)]
        · rw [if_neg (by omega), if_neg (by omega)]
          have hk : j - i - 1 < ((scells l).drop i).length := by rw [hdl]; omega
          have := World.cell?_setCells_in w.heap.size ((scells l).drop i) (i + 1) ((w.alloc (.cells C (Try.ins_ren.t 9))).drew.setCells w.heap.size i [.string x]).drew (fun k hk => by
            rw [hdl] at hk
            exact hs1 _ (by omega)) (j - i - 1) hk
          rw [scells_drop, show i + 1 + (j - i - 1) = j by omega, show i + (j - i - 1) = j - 1 by omega] at this
          exact this
      refine ⟨w.heap.size, G, by rw [hlen], ?_, .inr (Nat.le_refl _), tn1.mono fun _ _ e => e.elim⟩
      exact sr_of_cells r3 (by rw [r4, r2, hCs]) (by rw [hlen]; exact hge) hle (fun j hj => hfin j (by rw [hlen] at hj; exact hj))
end
end Go.Proofs.Ytgclgmfmcgacdaa

/- Plain lemmas on a row of bytes that a call made of a text: what it holds, what a store leaves, and what it reads as. No condition beyond those that each lemma names. -/
namespace Go.Proofs.Ytgclgmfmcgacdaa
open Go.ChangeShapes Go.WideShapes Go.ChangeAt Go.RowKit

/-- Block g is a row of the call's own, made of a text, whose first n cells are the bytes l. -/
def OwnC (w : World) (g n : Nat) (l : List Nat) : Prop :=
  l.length = n ∧ (∀ j, l.getD j 0 < 256) ∧ ∃ (cur : Array Value) (m : Nat), w.heap[g]? = some (.cells cur 5 (m, m + 1)) ∧ n ≤ m ∧ ∀ j, j < n → cur[j]? = some (.int .u8 (l.getD j 0 : Nat))
theorem OwnC.lt {w : World} {g n : Nat} {l : List Nat} (h : OwnC w g n l) : g < w.heap.size := by
  obtain ⟨_, _, cur, m, hc, _⟩ := h
  exact (Array.getElem?_eq_some_iff.1 hc).1
theorem OwnC.cell {w : World} {g n : Nat} {l : List Nat} (h : OwnC w g n l) {j : Nat} (hj : j < n) : w.cell? ⟨g, j, none⟩ = some (.int .u8 (l.getD j 0 : Nat)) := by
  obtain ⟨_, _, cur, m, hc, _, hr⟩ := h
  rw [cell_of_row w g j cur _ (m, m + 1) hc]
  exact hr j hj
theorem OwnC.frozen {w : World} {g n : Nat} {l : List Nat} (h : OwnC w g n l) {j : Nat} (hj : j < n) : w.frozen? ⟨g, j, none⟩ = false := by
  obtain ⟨_, _, cur, m, hc, hm, _⟩ := h
  simp [World.frozen?, hc]
  omega
theorem OwnC.set_ {w : World} {g n : Nat} {l : List Nat} (h : OwnC w g n l) {j x : Nat} (hj : j < n) (hx : x < 256) : OwnC (w.setCell ⟨g, j, none⟩ (.int .u8 (x : Nat))) g n (l.set j x) := by
  obtain ⟨hl, hb, cur, m, hc, hm, hr⟩ := h
  have hget : ∀ i, (l.set j x).getD i 0 = if j = i then x else l.getD i 0 := by
    intro i
    rw [List.getD_eq_getElem?_getD, List.getElem?_set]
    by_cases e : j = i
    · rw [if_pos e, if_pos e, if_pos (by omega)]; rfl
    · rw [if_neg e, if_neg e, ← List.getD_eq_getElem?_getD]
  refine ⟨by rw [List.length_set, hl], fun i => ?_, cur.setIfInBounds j (.int .u8 (x : Nat)), m, ?_, hm, fun i hi => ?_⟩
  · rw [hget]; split
    · exact hx
    · exact hb i
  · simp [World.setCell, Array.getElem?_modify, hc]
  · rw [hget, Array.getElem?_setIfInBounds]
    have hsz : i < cur.size := (Array.getElem?_eq_some_iff.1 (hr i hi)).1
    by_cases e : j = i
    · rw [if_pos e, if_pos e, if_pos (by omega)]
    · rw [if_neg e, if_neg e]; exact hr i hi
theorem OwnC.bs {w : World} {g n : Nat} {l : List Nat} (h : OwnC w g n l) : Bs w (some ⟨g, 0, none⟩) n l :=
  ⟨h.1, h.2.1, fun _ => ⟨_, rfl, h.lt, fun j hj => by
    have e : (⟨g, 0, none⟩ : Addr).add j = ⟨g, j, none⟩ := by unfold Addr.add; split <;> simp_all
    rw [e]; exact h.cell hj⟩⟩
theorem OwnC.below {w w' : World} {B g n : Nat} {l : List Nat} (h : OwnC w g n l) (hb : Below B w w') (hg : g < B) : OwnC w' g n l := by
  obtain ⟨hl, hx, cur, m, hc, hm, hr⟩ := h
  exact ⟨hl, hx, cur, m, (hb.block g hg).trans hc, hm, hr⟩
/-- a text turned into bytes: a new row of the call's own. -/
theorem convert_own (w : World) (s : ByteArray) : ∃ cap W', s.size ≤ cap ∧ (convert 9 128 (.string s)).run Try.prog w = .ok (.slice (some ⟨w.heap.size, 0, none⟩) s.size cap) W' ∧ OwnC W' w.heap.size s.size (bts s) ∧ Below w.heap.size w W' := by
  refine ⟨_, _, grownCap_ge w s.size 0 5, run_bytes_of_string w 9 128 5 s Try.underlying9 Try.underlying128 Try.underlying5, ⟨bts_len s, bts_lt s, _, _, heap_alloc_new w.drew _, ?_, fun j hj => ?_⟩, ((Below.refl _ _).drew).alloc (by simp) _⟩
  · unfold bytesRow
    rw [Array.size_append, Array.size_map]
    show s.size ≤ s.data.size + _
    have : s.data.size = s.size := rfl
    omega
  · have hj' : j < s.data.size := hj
    unfold bytesRow bts
    rw [Array.getElem?_append_left (by simpa using hj'), Array.getElem?_map, Array.getElem?_eq_getElem hj', List.getD_eq_getElem?_getD, List.getElem?_map, Array.getElem?_toList, Array.getElem?_eq_getElem hj']
    rfl
end Go.Proofs.Ytgclgmfmcgacdaa

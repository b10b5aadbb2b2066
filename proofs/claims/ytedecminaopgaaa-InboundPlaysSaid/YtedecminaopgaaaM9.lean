/- Proved: lemmas of one statement's proof, merged by program: what each part proves stands ahead of it. Conditions: those that the lemmas name. -/
import Derived.Test.YtedecminaopgaaaM2
import Derived.Test.YtedecminaopgaaaM8
import Derived.Lib.Hide
import Derived.Deep.DeepCutAuto

/- Plain lemmas on cells that lie in memory, from an address on, and on stores into a box. No condition beyond those that each lemma names. -/
namespace Go.Proofs.Ytedecminaopgaaa
open Go.ChangeShapes Go.WideShapes Go.ChangeAt Go.RowKit

/-- These cells lie from address A on; their block is one for which c holds. -/
def Cl (w : World) (c : Nat → Prop) (A : Option Addr) (xs : List Value) : Prop :=
  0 < xs.length → ∃ g o, A = some ⟨g, o, none⟩ ∧ c g ∧ g < w.heap.size ∧ ∀ j u, xs[j]? = some u → w.cell? ⟨g, o + j, none⟩ = some u
theorem Cl.tn {w w' : World} {c d : Nat → Prop} {A : Option Addr} {xs : List Value} (h : Cl w c A xs) (k : Tn d w w') (hd : ∀ g, g < w.heap.size → c g → ¬ d g) : Cl w' c A xs := fun h0 => by
  obtain ⟨g, o, e, hc, hl, hx⟩ := h h0
  refine ⟨g, o, e, hc, Nat.lt_of_lt_of_le hl k.size, fun j u hj => ?_⟩
  rw [← hx j u hj]
  exact World.cell?_of_block (a := ⟨g, o + j, none⟩) (k.block _ hl (hd _ hl hc))
theorem Cl.below {w w' : World} {c : Nat → Prop} {A : Option Addr} {xs : List Value} (h : Cl w c A xs) (k : Below w.heap.size w w') : Cl w' c A xs := h.tn (tn_below Nil k) fun _ _ _ f => f
set_option maxRecDepth 100000 in
/-- slices of k cells each are appended to an own row, whatever they lie in, none too. -/
theorem run_copy {w : World} {base : Nat} {t ty e : TypeId} {z : Value} {k bytes : Nat} (ht : Try.prog.underlying t = some (.slice e)) (info : (Try.prog.info? e).map (fun i => (i.zero, i.size, i.bytes)) = some (some z, k, bytes)) (hzs : z.cells.size = k) (hk : 0 < k)
    {v : Value} {n : Nat} {xs : List Value} (hown : w.ownsRow base e k v n xs) {c : Nat → Prop} {A : Option Addr} {m cp : Nat} {ys : List Value} (hl : ys.length = m * k) (hy : Cl w c A ys) (hA : A = none → cp = 0) (one : ∀ u ∈ ys, u.oneCell' = true)
    (h63 : n + m ≤ 70000) (hby : bytes ≤ 1000) (hbase : base ≤ w.heap.size) :
    ∃ v' w', (Builtin.append_ #[t, t] ty #[v, .slice A m cp]).run Try.prog w = .ok v' w' ∧ w'.ownsRow base e k v' (n + m) (xs ++ ys) ∧ w.grownBy w' v.ownBlock := by
  obtain ⟨i, hi, hz0, hz1, hz2⟩ := info_parts info
  have hb : (n + m) * bytes ≤ 140737488355328 := Nat.le_trans (Nat.mul_le_mul h63 hby) (by decide)
  cases A with
  | none =>
    obtain rfl := hA rfl
    have hm : m = 0 := by
      rcases Nat.eq_zero_or_pos m with e | e
      · exact e
      · obtain ⟨g, o, e2, _⟩ := hy (by rw [hl]; exact Nat.mul_pos e hk)
        cases e2
    subst hm
    have hys : ys = [] := List.eq_nil_of_length_eq_zero (by rw [hl, Nat.zero_mul])
    subst hys
    refine ⟨v, w, run_append_owned_none (P := Try.prog) (w := w) base t ty e i k ht hi v n xs hown, by rw [List.append_nil]; exact hown, grown_refl _ _⟩
  | some a =>
    obtain ⟨v', w', hr, h2, h3, _⟩ := run_append_own_at (P := Try.prog) w base t ty e i z k bytes ht hi hz0 hz1 hz2 hzs hk v n xs hown a m cp ys hl (fun j u hj => by
      obtain ⟨g, o, e', _, _, hx⟩ := hy (by have := (List.getElem?_eq_some_iff.1 hj).1; omega)
      injection e' with e'
      subst e'
      rw [Addr.add_lit]
      exact hx j u hj) one (by unfold maxLen; omega) hb hbase
    exact ⟨v', w', hr, h2, h3⟩

theorem cl_at {w : World} {c : Nat → Prop} {g n : Nat} {t : TypeId} {L xs : List Value} (h : At w g t L) (hc : c g) (e : L.take n = xs) : Cl w c (some ⟨g, 0, none⟩) xs := fun _ => ⟨g, 0, rfl, hc, h.lt, fun j u hj => by
  rw [Nat.zero_add]
  rw [← e, List.getElem?_take] at hj
  split at hj
  · exact h.cell j hj
  · cases hj⟩
theorem Cl.take {w : World} {c : Nat → Prop} {A : Option Addr} {xs : List Value} (h : Cl w c A xs) (n : Nat) : Cl w c A (xs.take n) := fun h0 => by
  obtain ⟨g, o, e, hc, hl, hx⟩ := h (by rw [List.length_take] at h0; omega)
  refine ⟨g, o, e, hc, hl, fun j u hj => hx j u ?_⟩
  rw [List.getElem?_take] at hj
  split at hj
  · exact hj
  · cases hj
theorem Cl.drop {w : World} {c : Nat → Prop} {g o : Nat} {xs : List Value} (h : Cl w c (some ⟨g, o, none⟩) xs) (n : Nat) : Cl w c (some ⟨g, o + n, none⟩) (xs.drop n) := fun h0 => by
  obtain ⟨g', o', e, hc, hl, hx⟩ := h (by rw [List.length_drop] at h0; omega)
  injection e with e
  injection e with e1 e2
  subst e1; subst e2
  refine ⟨g, o + n, rfl, hc, hl, fun j u hj => ?_⟩
  rw [List.getElem?_drop] at hj
  rw [Nat.add_assoc]
  exact hx _ u hj
theorem pset_below {W w : World} {B b j : Nat} {v : Value} (h : Below B w W) (hw : B ≤ w.heap.size) (hb : B ≤ b) : Below B w (W.setCell ⟨b, j, none⟩ v) := h.grown (grown_set W ⟨b, j, none⟩ v) (Nat.le_trans hw h.size) (fun k e => by injection e with e; show B ≤ k; rw [← e]; exact hb)

end Go.Proofs.Ytedecminaopgaaa

/- Plain lemmas on cells that lie in memory, from an address on, in a block of a type; and on parts of slices. No condition beyond those that each lemma names. -/
namespace Go.Proofs.Ytedecminaopgaaa
open Go.ChangeShapes Go.WideShapes Go.ChangeAt Go.RowKit

/-- These cells lie from address A on; their block is one of type t. -/
def Tw (w : World) (t : TypeId) (A : Option Addr) (xs : List Value) : Prop :=
  0 < xs.length → ∃ g o cur f, A = some ⟨g, o, none⟩ ∧ w.heap[g]? = some (.cells cur t f) ∧ ∀ j u, xs[j]? = some u → w.cell? ⟨g, o + j, none⟩ = some u
section
variable {w w' : World} {t : TypeId} {A : Option Addr} {xs : List Value}
theorem Tw.nil (w : World) (t : TypeId) (A : Option Addr) : Tw w t A [] := fun h => absurd h (Nat.lt_irrefl 0)
theorem Tw.move (h : Tw w t A xs) (hb : ∀ (g : Nat) (cur : Array Value) (f : Nat × Nat), w.heap[g]? = some (Obj.cells cur t f) → w'.heap[g]? = w.heap[g]?) : Tw w' t A xs := fun h0 => by
  obtain ⟨g, o, cur, f, e, hg, hx⟩ := h h0
  have hk := hb g cur f hg
  exact ⟨g, o, cur, f, e, hk.trans hg, fun j u hj => (World.cell?_of_block (a := ⟨g, o + j, none⟩) hk).trans (hx j u hj)⟩
theorem Tw.below (h : Tw w t A xs) (k : Below w.heap.size w w') : Tw w' t A xs := h.move fun g _ _ hg => k.block g (Array.getElem?_eq_some_iff.1 hg).1
/-- a store into a block of another type. -/
theorem Tw.set_ (h : Tw w t A xs) {b : Nat} {ty : TypeId} {vs : List Value} (k : At w b ty vs) (ht : ty ≠ t) (j : Nat) (v : Value) : Tw (w.setCell ⟨b, j, none⟩ v) t A xs :=
  h.move fun g cur f hg => Below.heap_setCell w ⟨b, j, none⟩ v g fun e => by
    have e : g = b := e
    subst e
    rw [show w.heap[g]? = some (.cells vs.toArray ty (0, 0)) from k] at hg
    injection hg with hg
    injection hg with _ hg _
    exact ht hg
theorem Tw.cl (h : Tw w t A xs) : Cl w (fun _ => True) A xs := fun h0 => by
  obtain ⟨g, o, cur, f, e, hg, hx⟩ := h h0
  exact ⟨g, o, e, trivial, (Array.getElem?_eq_some_iff.1 hg).1, hx⟩
theorem Tw.own {base k n : Nat} {v : Value} (h : w.ownsRow base t k v n xs) : ∃ A cap, v = .slice A n cap ∧ n ≤ cap ∧ (A = none → cap = 0) ∧ Tw w t A xs := by
  obtain ⟨hl, hv⟩ := h
  rcases hv with ⟨rfl, h0⟩ | ⟨g, cap, cur, rfl, hb, hg, h1, h2, h3, h4⟩
  · subst h0
    refine ⟨none, 0, rfl, Nat.le_refl _, fun _ => rfl, ?_⟩
    have : xs = [] := List.eq_nil_of_length_eq_zero (by rw [hl, Nat.zero_mul])
    subst this
    exact Tw.nil _ _ _
  · refine ⟨_, cap, rfl, h1, (fun e => nomatch e), fun _ => ⟨g, 0, cur, _, rfl, hg, fun j u hj => ?_⟩⟩
    rw [Nat.zero_add, cell_of_row w g j cur _ (0, 0) hg]
    rw [← h4, List.getElem?_take] at hj
    split at hj
    · simpa using hj
    · cases hj
end

/-! ### parts of slices -/
section
variable {t e : TypeId} {z : Value} {k bytes : Nat}
theorem head_part (ht : Try.prog.underlying t = some (.slice e)) (info : (Try.prog.info? e).map (fun i => (i.zero, i.size, i.bytes)) = some (some z, k, bytes)) (A : Option Addr) (n c i : Nat) (h : i ≤ c) (W : World) :
    (Instr.slice t (.slice A n c) none (some (.int .i64 (i : Nat))) none).run Try.prog W = .ok (.slice A i c) W := by
  obtain ⟨q, hi, hz0, hz1, hz2⟩ := info_parts info
  have he : Try.prog.elem t = e := by unfold Program.elem; rw [ht]
  have ht' : Try.prog.underlying t = some (.slice (Try.prog.elem t)) := by rw [he]; exact ht
  rw [run_slice_h W t A n c ht' .i64 (i : Int) (by omega) (by omega), he]
  have e0 : ∀ a : Addr, a.add 0 = a := fun a => rfl
  have e1 : A.map (fun a => a) = A := by cases A <;> rfl
  simp [sizeOf, typeInfo, hi, hz1, sliced, e0, e1]
theorem rest_part (ht : Try.prog.underlying t = some (.slice e)) (info : (Try.prog.info? e).map (fun i => (i.zero, i.size, i.bytes)) = some (some z, k, bytes)) (hk : 0 < k) (g o n c i : Nat) (h : i ≤ n) :
    ∃ A', (∀ W : World, (Instr.slice t (.slice (some ⟨g, o, none⟩) n c) (some (.int .i64 (i : Int))) none none).run Try.prog W = .ok (.slice A' (n - i) (c - i)) W) ∧ (A' = none → False) ∧ (i < c → A' = some ⟨g, o + i * k, none⟩) := by
  obtain ⟨q, hi, hz0, hz1, hz2⟩ := info_parts info
  have he : Try.prog.elem t = e := by unfold Program.elem; rw [ht]
  have ht' : Try.prog.underlying t = some (.slice (Try.prog.elem t)) := by rw [he]; exact ht
  refine ⟨if c = i then some ⟨g, o, none⟩ else some ⟨g, o + i * k, none⟩, fun W => ?_, ?_, ?_⟩
  · rw [run_slice_l W t (some ⟨g, o, none⟩) n c ht' .i64 (i : Int) (by omega) (by omega), he]
    simp [sizeOf, typeInfo, hi, hz1, sliced, Addr.add]
    rcases Nat.eq_zero_or_pos i with rfl | h0
    · simp
    · rw [if_neg (Nat.ne_of_gt (Nat.mul_pos h0 hk))]
  · split <;> intro e <;> cases e
  · intro hc
    rw [if_neg (by omega)]
end
end Go.Proofs.Ytedecminaopgaaa

/- Proved: what the document's at and Has of orders answer. Conditions: those that the theorems name. -/
namespace Go.Proofs.Ytedecminaopgaaa
open Go.ChangeShapes Go.WideShapes Go.ChangeAt Go.RowKit

/-! ### bodies in memory -/
def bcl : List Xb → List Value
  | [] => []
  | y :: r => .int .u32 y.1 :: .string y.2 :: bcl r
theorem bcl_len (M : List Xb) : (bcl M).length = M.length * 2 := by
  induction M with
  | nil => rfl
  | cons y r ih => show (bcl r).length + 1 + 1 = (r.length + 1) * 2; rw [ih]; omega
theorem bcl_app (M R : List Xb) : bcl (M ++ R) = bcl M ++ bcl R := by
  induction M with
  | nil => rfl
  | cons y r ih => show .int .u32 y.1 :: .string y.2 :: bcl (r ++ R) = _; rw [ih]; rfl
theorem bcl_one (M : List Xb) : ∀ u ∈ bcl M, u.oneCell' = true := by
  induction M with
  | nil => intro u hu; simp [bcl] at hu
  | cons y r ih =>
    intro u hu
    rcases List.mem_cons.1 (show u ∈ .int .u32 y.1 :: .string y.2 :: bcl r from hu) with rfl | hu
    · rfl
    · rcases List.mem_cons.1 hu with rfl | hu
      · rfl
      · exact ih u hu
theorem bcl_at {M : List Xb} {i : Nat} {y : Xb} (h : M[i]? = some y) : (bcl M)[i * 2]? = some (.int .u32 y.1) ∧ (bcl M)[i * 2 + 1]? = some (.string y.2) := by
  induction M generalizing i with
  | nil => simp at h
  | cons z r ih =>
    cases i with
    | zero =>
      have h : z = y := by simpa using h
      subst h
      exact ⟨rfl, rfl⟩
    | succ i =>
      have := ih (i := i) (by simpa using h)
      rw [show (i + 1) * 2 = i * 2 + 1 + 1 by omega]
      exact this
theorem bcl_take (M : List Xb) (i : Nat) : bcl (M.take i) = (bcl M).take (i * 2) := by
  induction M generalizing i with
  | nil => simp [bcl]
  | cons y r ih =>
    cases i with
    | zero => simp [bcl]
    | succ i =>
      rw [List.take_succ_cons]
      show .int .u32 y.1 :: .string y.2 :: bcl (r.take i) = (.int .u32 y.1 :: .string y.2 :: bcl r).take _
      rw [ih, show (i + 1) * 2 = i * 2 + 1 + 1 by omega]; rfl
theorem bcl_drop (M : List Xb) (i : Nat) : bcl (M.drop i) = (bcl M).drop (i * 2) := by
  induction M generalizing i with
  | nil => simp [bcl]
  | cons y r ih =>
    cases i with
    | zero => simp
    | succ i =>
      rw [List.drop_succ_cons]
      show bcl (r.drop i) = (.int .u32 y.1 :: .string y.2 :: bcl r).drop _
      rw [ih, show (i + 1) * 2 = i * 2 + 1 + 1 by omega]; rfl
theorem infoXb : (Try.prog.info? 82).map (fun i => (i.zero, i.size, i.bytes)) = some (some (.agg #[.int .u32 0, .string S0]), 2, 24) := by kernel_rfl
/-- these bodies lie in memory. -/
abbrev Bw (w : World) (A : Option Addr) (M : List Xb) : Prop := Tw w 82 A (bcl M)
theorem Bw.at_ {w : World} {A : Option Addr} {M : List Xb} (h : Bw w A M) {i : Nat} {y : Xb} (hy : M[i]? = some y) :
    ∃ g o, A = some ⟨g, o, none⟩ ∧ g < w.heap.size ∧ w.cell? ⟨g, o + i * 2, none⟩ = some (.int .u32 y.1) ∧ w.cell? ⟨g, o + i * 2 + 1, none⟩ = some (.string y.2) := by
  have hi := (List.getElem?_eq_some_iff.1 hy).1
  obtain ⟨g, o, cur, f, e, hg, hx⟩ := h (by rw [bcl_len]; omega)
  obtain ⟨e0, e1⟩ := bcl_at hy
  exact ⟨g, o, e, (Array.getElem?_eq_some_iff.1 hg).1, hx _ _ e0, by rw [Nat.add_assoc]; exact hx _ _ e1⟩

/-! ### at, Has -/
/-- the document's order, as a value. -/
abbrev roV (B n : Int) (A : Option Addr) (k c : Nat) : Value := .agg #[.int .u32 B, .int .i64 n, .slice A k c]
abbrev roC (B n : Int) (A : Option Addr) (k c : Nat) : List Value := [.int .u32 B, .int .i64 n, .slice A k c]
theorem robox (B n : Int) (A : Option Addr) (k c : Nat) (w : World) : ∃ W, W = w.alloc (.cells #[.int .u32 B, .int .i64 n, .slice A k c] 35) ∧ At W w.heap.size 35 (roC B n A k c) ∧ Below w.heap.size w W ∧ W.heap.size = w.heap.size + 1 :=
  ⟨_, rfl, At.new w 35 (roC B n A k c), (Below.refl _ _).alloc (Nat.le_refl _) _, by simp⟩
set_option maxRecDepth 100000 in
set_option maxHeartbeats 800000 in
theorem rat_any (B n : Int) (A : Option Addr) (c : Nat) (M : List Xb) (x : Int) (w : World) (h : Bw w A M) (hb : M.length ≤ 200) :
    Calls Try.prog 60 #[roV B n A M.length c, .int .u32 x] w fun e w' => ∃ z, e = .returned (.int .i64 z) ∧ AtB M x z ∧ Below w.heap.size w w' := by
  obtain ⟨W1, HW, A1, B1, _⟩ := robox B n A M.length c w
  have HG := Lib.hid (h.below B1)
  have HB1 := Lib.hid B1
  have c2 := A1.cell 2 rfl
  have hb' : (M.length : Int) ≤ 200 := by omega
  clear h hb A1 B1
  generalize hm : M.length = m at *
  have HM := Lib.hid hm
  clear hm
  go_enter Try.func60, Try.ntmps60
  go_upto_region 1 with fail
  rw [← HW]; clear HW
  go_wp2_with fail
  go_loopw [5] (fun i wr => ∃ j : Nat, j ≤ m ∧ i = .int .i64 j ∧ (∀ p y, p < j → M[p]? = some y → y.1 ≠ x) ∧ wr = W1) (fun i _ => m - (intOf i).toNat)
  case atStart => exact ⟨0, by omega, rfl, fun p _ hp => absurd hp (by omega), rfl⟩
  case round =>
    obtain ⟨j, hj, rfl, hne, rfl⟩ := hrel
    have HN := Lib.hid hne
    clear hne
    have hj0 : (0 : Int) ≤ (j : Int) := Int.natCast_nonneg _
    by_cases hlt : j < m
    · obtain ⟨y, hy⟩ : ∃ y, M[j]? = some y := ⟨_, List.getElem?_eq_getElem (by rw [HM.out]; exact hlt)⟩
      obtain ⟨g, o, rfl, _, d0, d1⟩ := Bw.at_ HG.out hy
      have HY := Lib.hid hy
      have hlt' : (j : Int) < (m : Int) := by omega
      clear hy
      obtain ⟨y0, y1⟩ := y
      dsimp only at d0 d1 HY
      by_cases e : y0 = x
      · subst e
        go_wp2_with fail
        go_ret
        exact ⟨(j : Int), rfl, .inr ⟨j, y1, rfl, HY.out⟩, HB1.out⟩
      · have e2 : (y0 == x) = false := by simpa using e
        have HE := Lib.hid e
        clear e
        go_wp2_with fail
        go_roundw
        case rel =>
          refine ⟨j + 1, by omega, by go_num, fun p y hp hy => ?_, trivial⟩
          rcases Nat.lt_or_ge p j with q | q
          · exact HN.out p y q hy
          · obtain rfl : p = j := by omega
            rw [HY.out] at hy
            injection hy with hy
            rw [← hy]; exact HE.out
        case measure => simp [intOf]; omega
    · obtain rfl : j = m := by omega
      go_wp2_with fail
      go_ret
      refine ⟨-1, rfl, .inl ⟨rfl, fun s hs => ?_⟩, HB1.out⟩
      obtain ⟨p, hp, e⟩ := List.getElem_of_mem hs
      exact HN.out p _ (by have := HM.out; omega) ((List.getElem?_eq_getElem hp).trans (by rw [e])) rfl
set_option maxRecDepth 100000 in
set_option maxHeartbeats 800000 in
theorem rhas23_any (B n : Int) (A : Option Addr) (c : Nat) (L : List ByteArray) (M : List Xb) (x : Int) (w : World) (h : Bw w A M) (hR : Rel B L M) (hB : U32 B) (hx : U32 x) (hl : L.length ≤ 64) :
    Calls Try.prog 40 #[roV B n A M.length c, .int .u32 x] w fun e w' => e = .returned (.bool (hasO B L x)) ∧ Below w.heap.size w w' := by
  obtain ⟨W1, HW, A1, B1, _⟩ := robox B n A M.length c w
  have HA := Lib.hid (rat_any B n A c M x W1 (h.below B1) (by have := hR.few hl; omega))
  have HD := Lib.hid (fun z (hz : AtB M x z) => hR.at_has hB hx hl hz)
  have HB1 := Lib.hid B1
  have c0 := A1.cell 0 rfl
  have c1 := A1.cell 1 rfl
  have c2 := A1.cell 2 rfl
  clear h hR hB hx hl A1 B1
  go_enter Try.func40, Try.ntmps40
  go_wp2_with fail
  rw [← HW]; clear HW
  refine HA.out.mono ?_; rintro e w2 ⟨z, rfl, hz, k⟩
  have HE := Lib.hid (HD.out z hz)
  have HB2 := Lib.hid (HB1.out.trans (k.mono HB1.out.size))
  clear hz k
  go_wp2_with fail
  go_ret
  rw [← HE.out]
  exact ⟨rfl, HB2.out⟩
end Go.Proofs.Ytedecminaopgaaa

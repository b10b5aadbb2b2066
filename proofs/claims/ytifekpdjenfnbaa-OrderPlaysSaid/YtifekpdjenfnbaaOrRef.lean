/- Proved: what the document's at and Has of orders answer. Conditions: those that the theorems name. -/
import Derived.Test.YtifekpdjenfnbaaOrRel
import Derived.Test.YtifekpdjenfnbaaTw
import Derived.Lib.Hide
import Derived.Deep.DeepCutAuto
namespace Go.Proofs.Ytifekpdjenfnbaa
open Go.ChangeShapes Go.WideShapes Go.ChangeAt Go.RowKit

/-! ### bodies in memory -/
def bcl : List Xb → List Value
  | [] => []
  | y :: r => .int .u32 y.1 :: .string y.2 :: bcl r
theorem bcl_len (M : List Xb) : (bcl M).length = M.length * 2 := by
  induction M with
  | nil => rfl
  | cons y r ih => show (bcl r).length + 1 + 1 = (r.length + 1) * 2; rw [ih]; omega
theorem bcl_app (M R : List Xb) : bcl (M ++ R) = bcl M ++ bcl R := by
  induction M with
  | nil => rfl
  | cons y r ih => show .int .u32 y.1 :: .string y.2 :: bcl (r ++ R) = _; rw [ih]; rfl
theorem bcl_one (M : List Xb) : ∀ u ∈ bcl M, u.oneCell' = true := by
  induction M with
  | nil => intro u hu; simp [bcl] at hu
  | cons y r ih =>
    intro u hu
    rcases List.mem_cons.1 (show u ∈ .int .u32 y.1 :: .string y.2 :: bcl r from hu) with rfl | hu
    · rfl
    · rcases List.mem_cons.1 hu with rfl | hu
      · rfl
      · exact ih u hu
theorem bcl_at {M : List Xb} {i : Nat} {y : Xb} (h : M[i]? = some y) : (bcl M)[i * 2]? = some (.int .u32 y.1) ∧ (bcl M)[i * 2 + 1]? = some (.string y.2) := by
  induction M generalizing i with
  | nil => simp at h
  | cons z r ih =>
    cases i with
    | zero =>
      have h : z = y := by simpa using h
      subst h
      exact ⟨rfl, rfl⟩
    | succ i =>
      have := ih (i := i) (by simpa using h)
      rw [show (i + 1) * 2 = i * 2 + 1 + 1 by omega]
      exact this
theorem bcl_take (M : List Xb) (i : Nat) : bcl (M.take i) = (bcl M).take (i * 2) := by
  induction M generalizing i with
  | nil => simp [bcl]
  | cons y r ih =>
    cases i with
    | zero => simp [bcl]
    | succ i =>
      rw [List.take_succ_cons]
      show .int .u32 y.1 :: .string y.2 :: bcl (r.take i) = (.int .u32 y.1 :: .string y.2 :: bcl r).take _
      rw [ih, show (i + 1) * 2 = i * 2 + 1 + 1 by omega]; rfl
theorem bcl_drop (M : List Xb) (i : Nat) : bcl (M.drop i) = (bcl M).drop (i * 2) := by
  induction M generalizing i with
  | nil => simp [bcl]
  | cons y r ih =>
    cases i with
    | zero => simp
    | succ i =>
      rw [List.drop_succ_cons]
      show bcl (r.drop i) = (.int .u32 y.1 :: .string y.2 :: bcl r).drop _
      rw [ih, show (i + 1) * 2 = i * 2 + 1 + 1 by omega]; rfl
theorem infoXb : (Try.prog.info? 56).map (fun i => (i.zero, i.size, i.bytes)) = some (some (.agg #[.int .u32 0, .string S0]), 2, 24) := by kernel_rfl
/-- these bodies lie in memory. -/
abbrev Bw (w : World) (A : Option Addr) (M : List Xb) : Prop := Tw w 56 A (bcl M)
theorem Bw.at_ {w : World} {A : Option Addr} {M : List Xb} (h : Bw w A M) {i : Nat} {y : Xb} (hy : M[i]? = some y) :
    ∃ g o, A = some ⟨g, o, none⟩ ∧ g < w.heap.size ∧ w.cell? ⟨g, o + i * 2, none⟩ = some (.int .u32 y.1) ∧ w.cell? ⟨g, o + i * 2 + 1, none⟩ = some (.string y.2) := by
  have hi := (List.getElem?_eq_some_iff.1 hy).1
  obtain ⟨g, o, cur, f, e, hg, hx⟩ := h (by rw [bcl_len]; omega)
  obtain ⟨e0, e1⟩ := bcl_at hy
  exact ⟨g, o, e, (Array.getElem?_eq_some_iff.1 hg).1, hx _ _ e0, by rw [Nat.add_assoc]; exact hx _ _ e1⟩

/-! ### at, Has -/
/-- the document's order, as a value. -/
abbrev roV (B n : Int) (A : Option Addr) (k c : Nat) : Value := .agg #[.int .u32 B, .int .i64 n, .slice A k c]
abbrev roC (B n : Int) (A : Option Addr) (k c : Nat) : List Value := [.int .u32 B, .int .i64 n, .slice A k c]
theorem robox (B n : Int) (A : Option Addr) (k c : Nat) (w : World) : ∃ W, W = w.alloc (.cells #[.int .u32 B, .int .i64 n, .slice A k c] 31) ∧ At W w.heap.size 31 (roC B n A k c) ∧ Below w.heap.size w W ∧ W.heap.size = w.heap.size + 1 :=
  ⟨_, rfl, At.new w 31 (roC B n A k c), (Below.refl _ _).alloc (Nat.le_refl _) _, by simp⟩
set_option maxRecDepth 100000 in
set_option maxHeartbeats 800000 in
theorem rat_any (B n : Int) (A : Option Addr) (c : Nat) (M : List Xb) (x : Int) (w : World) (h : Bw w A M) (hb : M.length ≤ 200) :
    Calls Try.prog 22 #[roV B n A M.length c, .int .u32 x] w fun e w' => ∃ z, e = .returned (.int .i64 z) ∧ AtB M x z ∧ Below w.heap.size w w' := by
  obtain ⟨W1, HW, A1, B1, _⟩ := robox B n A M.length c w
  have HG := Lib.hid (h.below B1)
  have HB1 := Lib.hid B1
  have c2 := A1.cell 2 rfl
  have hb' : (M.length : Int) ≤ 200 := by omega
  clear h hb A1 B1
  generalize hm : M.length = m at *
  have HM := Lib.hid hm
  clear hm
  go_enter Try.func22, Try.ntmps22
  go_upto_region 1 with fail
  rw [← HW]; clear HW
  go_wp2_with fail
  go_loopw [5] (fun i wr => ∃ j : Nat, j ≤ m ∧ i = .int .i64 j ∧ (∀ p y, p < j → M[p]? = some y → y.1 ≠ x) ∧ wr = W1) (fun i _ => m - (intOf i).toNat)
  case atStart => exact ⟨0, by omega, rfl, fun p _ hp => absurd hp (by omega), rfl⟩
  case round =>
    obtain ⟨j, hj, rfl, hne, rfl⟩ := hrel
    have HN := Lib.hid hne
    clear hne
    have hj0 : (0 : Int) ≤ (j : Int) := Int.natCast_nonneg _
    by_cases hlt : j < m
    · obtain ⟨y, hy⟩ : ∃ y, M[j]? = some y := ⟨_, List.getElem?_eq_getElem (by rw [HM.out]; exact hlt)⟩
      obtain ⟨g, o, rfl, _, d0, d1⟩ := Bw.at_ HG.out hy
      have HY := Lib.hid hy
      have hlt' : (j : Int) < (m : Int) := by omega
      clear hy
      obtain ⟨y0, y1⟩ := y
      dsimp only at d0 d1 HY
      by_cases e : y0 = x
      · subst e
        go_wp2_with fail
        go_ret
        exact ⟨(j : Int), rfl, .inr ⟨j, y1, rfl, HY.out⟩, HB1.out⟩
      · have e2 : (y0 == x) = false := by simpa using e
        have HE := Lib.hid e
        clear e
        go_wp2_with fail
        go_roundw
        case rel =>
          refine ⟨j + 1, by omega, by go_num, fun p y hp hy => ?_, trivial⟩
          rcases Nat.lt_or_ge p j with q | q
          · exact HN.out p y q hy
          · obtain rfl : p = j := by omega
            rw [HY.out] at hy
            injection hy with hy
            rw [← hy]; exact HE.out
        case measure => simp [intOf]; omega
    · obtain rfl : j = m := by omega
      go_wp2_with fail
      go_ret
      refine ⟨-1, rfl, .inl ⟨rfl, fun s hs => ?_⟩, HB1.out⟩
      obtain ⟨p, hp, e⟩ := List.getElem_of_mem hs
      exact HN.out p _ (by have := HM.out; omega) ((List.getElem?_eq_getElem hp).trans (by rw [e])) rfl
set_option maxRecDepth 100000 in
set_option maxHeartbeats 800000 in
theorem rhas_any (B n : Int) (A : Option Addr) (c : Nat) (L : List ByteArray) (M : List Xb) (x : Int) (w : World) (h : Bw w A M) (hR : Rel B L M) (hB : U32 B) (hx : U32 x) (hl : L.length ≤ 64) :
    Calls Try.prog 15 #[roV B n A M.length c, .int .u32 x] w fun e w' => e = .returned (.bool (hasO B L x)) ∧ Below w.heap.size w w' := by
  obtain ⟨W1, HW, A1, B1, _⟩ := robox B n A M.length c w
  have HA := Lib.hid (rat_any B n A c M x W1 (h.below B1) (by have := hR.few hl; omega))
  have HD := Lib.hid (fun z (hz : AtB M x z) => hR.at_has hB hx hl hz)
  have HB1 := Lib.hid B1
  have c0 := A1.cell 0 rfl
  have c1 := A1.cell 1 rfl
  have c2 := A1.cell 2 rfl
  clear h hR hB hx hl A1 B1
  go_enter Try.func15, Try.ntmps15
  go_wp2_with fail
  rw [← HW]; clear HW
  refine HA.out.mono ?_; rintro e w2 ⟨z, rfl, hz, k⟩
  have HE := Lib.hid (HD.out z hz)
  have HB2 := Lib.hid (HB1.out.trans (k.mono HB1.out.size))
  clear hz k
  go_wp2_with fail
  go_ret
  rw [← HE.out]
  exact ⟨rfl, HB2.out⟩
end Go.Proofs.Ytifekpdjenfnbaa

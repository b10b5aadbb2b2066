/- Proved: what the document's Len, Waiting and without answer. Conditions: those that the theorems name. -/
import Derived.Test.YtplbdeaoeocgkaaDpAt
namespace Go.Proofs.Ytplbdeaoeocgkaa
open Go.ChangeShapes Go.WideShapes Go.ChangeAt Go.RowKit

/-- how many items the queue of that number has; 0: there is none. -/
def LenIs (xs : List Qv) (id : Int) (n : Nat) : Prop := ((∀ x ∈ xs, x.q.id ≠ id) ∧ n = 0) ∨ ∃ (i : Nat) (x : Qv), xs[i]? = some x ∧ x.q.id = id ∧ n = x.q.l.length
set_option maxRecDepth 100000 in
set_option maxHeartbeats 800000 in
theorem rlen_any {w : World} {c : Nat → Prop} {s : Sv} (h : Sg w c s) (hb : s.xs.length ≤ 256) (id : Int) :
    Calls Try.prog 12 #[s.val, .int .i64 id] w fun e w' => ∃ n : Nat, e = .returned (.int .i64 n) ∧ LenIs s.xs id n ∧ Below w.heap.size w w' := by
  obtain ⟨Q, xs, A, n, rd, B, d⟩ := s
  have hal : Below w.heap.size w (w.alloc (.cells #[.int .i64 Q, .slice A xs.length n, .slice B rd.length d] 31)) := (Below.refl _ _).alloc (Nat.le_refl _) _
  have hat := At.new w 31 [.int .i64 Q, .slice A xs.length n, .slice B rd.length d]
  have HR := Lib.hid (rat_any (h.below hal) hb id)
  have HG := Lib.hid (h.below hal)
  have HBW := Lib.hid hal
  have HAT := Lib.hid hat
  have c0 := hat.cell 0 rfl
  have c1 := hat.cell 1 rfl
  have c2 := hat.cell 2 rfl
  clear h hal hat
  have HR : Hid (Calls Try.prog 22 #[.agg #[.int .i64 Q, .slice A xs.length n, .slice B rd.length d], .int .i64 id] (w.alloc (.cells #[.int .i64 Q, .slice A xs.length n, .slice B rd.length d] 31)) _) := HR
  show Calls Try.prog 12 #[.agg #[.int .i64 Q, .slice A xs.length n, .slice B rd.length d], .int .i64 id] w _
  have hb' : (xs.length : Int) ≤ 256 := by have : xs.length ≤ 256 := hb; omega
  clear hb
  go_enter Try.func12, Try.ntmps12
  go_wp2_with fail
  refine HR.out.mono ?_; rintro e w1 ⟨z, rfl, hz, b1⟩
  have HB1 := Lib.hid (HBW.out.trans (b1.mono HBW.out.size))
  have HG1 := Lib.hid (HG.out.below b1)
  have c1' := (HAT.out.below b1 HAT.out.lt).cell 1 rfl
  clear c0 c1 c2 b1 HR
  rcases hz with ⟨rfl, hn⟩ | ⟨i, x, rfl, hx, hi⟩
  · have HN := Lib.hid hn
    clear hn
    go_wp2_with fail
    go_ret
    exact ⟨0, rfl, .inl ⟨HN.out, rfl⟩, HB1.out⟩
  · obtain ⟨g, o, e, _, hgl, hcs⟩ := HG1.out.at_ hx
    have e : A = some ⟨g, o, none⟩ := e
    subst e
    have hlt := (List.getElem?_eq_some_iff.1 hx).1
    have hlt' : (i : Int) < (xs.length : Int) := by omega
    have d0 := hcs 4 _ rfl
    have hi0 : (0 : Int) ≤ (i : Int) := Int.natCast_nonneg _
    have HX := Lib.hid (And.intro hx hi)
    clear hcs hx hi hlt hgl
    generalize xs.length = m at *
    go_wp2_with fail
    go_ret
    exact ⟨x.q.l.length, rfl, .inr ⟨i, x, HX.out.1, HX.out.2, rfl⟩, HB1.out⟩
def waitS (xs : List Qv) : Nat := (xs.map fun x => x.q.l.length).sum
theorem waitS_take {xs : List Qv} {j : Nat} {x : Qv} (h : xs[j]? = some x) : waitS (xs.take (j + 1)) = waitS (xs.take j) + x.q.l.length := by
  unfold waitS
  rw [List.take_add_one, h]
  simp
theorem waitS_low {xs : List Qv} (h : ∀ x ∈ xs, x.q.l.length ≤ 65536) : waitS xs ≤ xs.length * 65536 := by
  unfold waitS
  induction xs with
  | nil => simp
  | cons x r ih =>
    have := ih fun y hy => h y (List.mem_cons_of_mem _ hy)
    have := h x (List.mem_cons_self ..)
    rw [List.map_cons, List.sum_cons, List.length_cons]; omega
set_option maxRecDepth 100000 in
set_option maxHeartbeats 800000 in
theorem rwait_any {w : World} {c : Nat → Prop} {s : Sv} (h : Sg w c s) (hb : Sb s) :
    Calls Try.prog 10 #[s.val] w fun e w' => e = .returned (.int .i64 (waitS s.xs : Nat)) ∧ Below w.heap.size w w' := by
  obtain ⟨Q, xs, A, n, rd, B, d⟩ := s
  have HG := Lib.hid h
  have HBW : Hid (Below w.heap.size w (w.alloc (.cells #[.int .i64 Q, .slice A xs.length n, .slice B rd.length d] 31))) := Lib.hid ((Below.refl _ _).alloc (Nat.le_refl _) _)
  have c1 := (At.new w 31 [.int .i64 Q, .slice A xs.length n, .slice B rd.length d]).cell 1 rfl
  have HLE : Hid (xs.length = xs.length) := Lib.hid rfl
  have HBB := Lib.hid hb
  have HLO : Hid (∀ j, waitS (xs.take j) ≤ 256 * 65536) := Lib.hid fun j => by
    have h1 := waitS_low (xs := xs.take j) fun x hx => hb.l x (List.mem_of_mem_take hx)
    have h2 : xs.length ≤ 256 := hb.x
    have h3 : (xs.take j).length ≤ 256 := by rw [List.length_take]; omega
    exact Nat.le_trans h1 (Nat.mul_le_mul_right _ h3)
  show Calls Try.prog 10 #[.agg #[.int .i64 Q, .slice A xs.length n, .slice B rd.length d]] w _
  have hb' : (xs.length : Int) ≤ 256 := by have : xs.length ≤ 256 := hb.x; omega
  clear hb h
  generalize hm : xs.length = m at *
  have HM := Lib.hid hm
  clear hm HLE
  go_enter Try.func10, Try.ntmps10
  go_wp2_with fail
  generalize w.alloc (.cells #[.int .i64 Q, .slice A m n, .slice B rd.length d] 31) = W at *
  go_loopw [3, 4] (fun v i wr => ∃ j : Nat, j ≤ m ∧ i = .int .i64 j ∧ v = .int .i64 (waitS (xs.take j) : Nat) ∧ wr = W) (fun _ i _ => m - (intOf i).toNat)
  case atStart => exact ⟨0, by omega, rfl, rfl, rfl⟩
  case round =>
    obtain ⟨j, hj, rfl, rfl, rfl⟩ := hrel
    have hj0 : (0 : Int) ≤ (j : Int) := Int.natCast_nonneg _
    have hlo := HLO.out j
    by_cases hlt : j < m
    · obtain ⟨x, hx⟩ : ∃ x, xs[j]? = some x := ⟨_, List.getElem?_eq_getElem (by rw [HM.out]; exact hlt)⟩
      obtain ⟨g, o, e, _, hgl, hcs⟩ := HG.out.at_ hx
      have e : A = some ⟨g, o, none⟩ := e
      subst e
      have d0 := (HBW.out.cell (p := ⟨g, o + j * 5 + 4, none⟩) hgl).trans (hcs 4 _ rfl)
      have HX := Lib.hid (waitS_take hx)
      have hxl := HBB.out.l x (List.mem_of_getElem? hx)
      have hlt' : (j : Int) < (m : Int) := by omega
      clear hcs hx
      generalize x.q.l.length = z at *
      generalize waitS (xs.take j) = y at *
      go_wp2_with fail
      go_roundw
      case rel => exact ⟨j + 1, by omega, by go_num, by rw [HX.out]; go_num, trivial⟩
      case measure => simp [intOf]; omega
    · obtain rfl : j = m := by omega
      have HT : Hid (waitS (xs.take j) = waitS xs) := Lib.hid (by rw [← HM.out, List.take_length])
      go_wp2_with fail
      go_ret
      rw [HT.out]
      exact ⟨rfl, HBW.out⟩
/-- a list without a number. -/
def outL (l : List Int) (id : Int) : List Int := l.filter fun x => decide (x ≠ id)
theorem outL_take {l : List Int} {j : Nat} {id : Int} (h : j < l.length) : outL (l.take (j + 1)) id = outL (l.take j) id ++ (if l.getD j 0 = id then [] else [l.getD j 0]) := by
  unfold outL
  rw [List.take_add_one, List.getElem?_eq_getElem h, List.getD_eq_getElem?_getD, List.getElem?_eq_getElem h, List.filter_append]
  congr 1
  simp only [Option.toList, Option.getD_some]
  by_cases e : l[j] = id
  · simp [e]
  · simp [e]
theorem outL_len (l : List Int) (id : Int) : (outL l id).length ≤ l.length := List.length_filter_le _ _
theorem zr_one {w : World} {base : Nat} {v : Value} {l : List Int} (h : w.ownsRow base 3 1 v l.length (zcells l)) (hn : l.length ≤ 60000) (hbase : base ≤ w.heap.size) (x : Int) :
    ∃ v' w', (Builtin.append_ #[29, 29] 29 #[v, .slice (some ⟨w.heap.size, 0, none⟩) 1 1]).run Try.prog (w.alloc (.cells #[.int .i64 x] 3)) = .ok v' w' ∧ w'.ownsRow base 3 1 v' (l ++ [x]).length (zcells (l ++ [x])) ∧ (w.alloc (.cells #[.int .i64 x] 3)).grownBy w' v.ownBlock := by
  have hA := At.new w 3 [.int .i64 x]
  obtain ⟨v', w', hr, ho, hg⟩ := run_copy (ty := 29) Try.underlying29 Try.zInfo rfl (by decide) (h.alloc (.cells #[.int .i64 x] 3)) (c := fun _ => True) (A := some ⟨w.heap.size, 0, none⟩) (m := 1) (cp := 1) (ys := zcells [x]) rfl (fun _ => ⟨_, 0, rfl, trivial, hA.lt, fun j u hj => by
    match j, hj with
    | 0, hj => simp [zcells] at hj; subst hj; exact hA.cell 0 rfl
    | j + 1, hj => simp [zcells] at hj⟩) (fun e => nomatch e) (fun u hu => by simp [zcells] at hu; subst hu; rfl) (by omega) (by decide) (Nat.le_trans hbase (by simp))
  refine ⟨v', w', hr, ?_, hg⟩
  rw [List.length_append, ← zcells_snoc]
  exact ho
set_option maxRecDepth 100000 in
set_option maxHeartbeats 1600000 in
theorem rwithout_any {w : World} {c : Nat → Prop} {B : Option Addr} {d : Nat} {l : List Int} (h : Cl w c B (zcells l)) (hn : l.length ≤ 256) (id : Int) :
    Calls Try.prog 28 #[.slice B l.length d, .int .i64 id] w fun e w' => ∃ v, e = .returned v ∧ w'.ownsRow w.heap.size 3 1 v (outL l id).length (zcells (outL l id)) ∧ Below w.heap.size w w' := by
  have HC := Lib.hid h
  have hn' : (l.length : Int) ≤ 256 := by omega
  have HN0 := Lib.hid hn
  clear h hn
  generalize hm : l.length = m at *
  have HM := Lib.hid hm
  clear hm
  go_enter Try.func28, Try.ntmps28
  go_wp2_with fail
  go_loopw [5, 6] (fun v i wr => ∃ j : Nat, j ≤ m ∧ i = .int .i64 j ∧ wr.ownsRow w.heap.size 3 1 v (outL (l.take j) id).length (zcells (outL (l.take j) id)) ∧ Below w.heap.size w wr) (fun _ i _ => m - (intOf i).toNat)
  case atStart => exact ⟨0, by omega, rfl, World.ownsRow_nil _ _ _ _, Below.refl _ _⟩
  case round =>
    obtain ⟨j, hj, rfl, hown, hbel⟩ := hrel
    have HO := Lib.hid hown
    have HB := Lib.hid hbel
    have hj0 : (0 : Int) ≤ (j : Int) := Int.natCast_nonneg _
    clear hown hbel
    by_cases hlt : j < m
    · obtain ⟨g, o, e, _, hgl, hcs⟩ := HC.out (by rw [zcells_len, HM.out]; omega)
      subst e
      have d0 := (HB.out.cell (p := ⟨g, o + j, none⟩) hgl).trans (hcs j _ (zcells_at l j (by rw [HM.out]; exact hlt)))
      have HT := Lib.hid (outL_take (id := id) (l := l) (j := j) (by rw [HM.out]; exact hlt))
      have HLL : Hid ((outL (l.take j) id).length ≤ 256) := Lib.hid (Nat.le_trans (outL_len _ _) (Nat.le_trans (List.length_take_le _ _) (by have := HN0.out; omega)))
      have hlt' : (j : Int) < (m : Int) := by omega
      clear hcs
      generalize l.getD j 0 = y at *
      by_cases e : y = id
      · subst e
        rw [if_pos rfl, List.append_nil] at HT
        have e2 : (y != y) = false := by simp
        go_wp2_with fail
        go_roundw
        case rel => exact ⟨j + 1, by omega, by go_num, by rw [HT.out]; exact HO.out, HB.out⟩
        case measure => simp [intOf]; omega
      · rw [if_neg e] at HT
        have e2 : (y != id) = true := by simpa using e
        obtain ⟨v', w', hr, ho, hg⟩ := zr_one HO.out (by have := HLL.out; omega) HB.out.size y
        have HO2 := Lib.hid ho
        have HB2 : Hid (Below w.heap.size w w') := Lib.hid ((HB.out.alloc HB.out.size _).trans (below_grown hg (Nat.le_trans HB.out.size (by simp)) fun k e => (HO.out.lt k e).1))
        clear ho hg e
        go_wp2_with (at_builtin; refine Lib.wpList_append_run _ rfl _ _ _ _ rfl _ _ rfl rfl _ _ hr ?_)
        go_roundw
        case rel => exact ⟨j + 1, by omega, by go_num, by rw [HT.out]; exact HO2.out, HB2.out⟩
        case measure => simp [intOf]; omega
    · obtain rfl : j = m := by omega
      have HT : Hid (l.take j = l) := Lib.hid (by rw [← HM.out, List.take_length])
      rw [HT.out] at HO
      go_wp2_with fail
      go_ret
      exact ⟨_, rfl, HO.out, HB.out⟩
end Go.Proofs.Ytplbdeaoeocgkaa

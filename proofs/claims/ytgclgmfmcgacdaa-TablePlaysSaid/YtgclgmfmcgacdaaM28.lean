/- Proved: lemmas of one statement's proof, merged by program: what each part proves stands ahead of it. Conditions: those that the lemmas name. -/
import Derived.Test.YtgclgmfmcgacdaaM27

/- Proved: what the document's put answers. Conditions: those that the theorems name. -/
namespace Go.Proofs.Ytgclgmfmcgacdaa
open Go.ChangeShapes Go.WideShapes Go.ChangeAt Go.RowKit

theorem s_head_run (A : Option Addr) (n c k : Nat) (h : k ≤ c) (W : World) :
    (Instr.slice 47 (.slice A n c) none (some (.int .i64 (k : Nat))) none).run Try.prog W = .ok (.slice A k c) W := by
  have hu : Try.prog.underlying 47 = some (.slice (Try.prog.elem 47)) := by kernel_rfl
  have he : Try.prog.elem 47 = 32 := by kernel_rfl
  obtain ⟨i, hi, hz0, hz1, hz2⟩ := info_parts Try.infoShd
  rw [run_slice_h W 47 A n c hu .i64 (k : Int) (by omega) (by omega), he]
  have e0 : ∀ a : Addr, a.add 0 = a := fun a => rfl
  have e1 : A.map (fun a => a) = A := by cases A <;> rfl
  simp [sizeOf, typeInfo, hi, hz1, sliced, e0, e1]
theorem s_rest_run (g o n c k : Nat) (h : k ≤ n) (W : World) :
    ∃ A', (Instr.slice 47 (.slice (some ⟨g, o, none⟩) n c) (some (.int .i64 (k : Int))) none none).run Try.prog W = .ok (.slice A' (n - k) (c - k)) W ∧ (A' = none → False) ∧ (k < c → A' = some ⟨g, o + k * 2, none⟩) := by
  have hu : Try.prog.underlying 47 = some (.slice (Try.prog.elem 47)) := by kernel_rfl
  have he : Try.prog.elem 47 = 32 := by kernel_rfl
  obtain ⟨i, hi, hz0, hz1, hz2⟩ := info_parts Try.infoShd
  refine ⟨if c = k then some ⟨g, o, none⟩ else some ⟨g, o + k * 2, none⟩, ?_, ?_, ?_⟩
  · rw [run_slice_l W 47 (some ⟨g, o, none⟩) n c hu .i64 (k : Int) (by omega) (by omega), he]
    simp [sizeOf, typeInfo, hi, hz1, sliced, Addr.add]
    rcases Nat.eq_zero_or_pos k with rfl | hk
    · simp
    · rw [if_neg (show ¬ k * 2 = 0 by omega)]
  · split <;> intro e <;> cases e
  · intro hk
    rw [if_neg (by omega)]
theorem hcells_take (l : List Shd) (i : Nat) : hcells (l.take i) = (hcells l).take (i * 2) := by
  induction l generalizing i with
  | nil => simp [hcells]
  | cons x t ih =>
    cases i with
    | zero => simp [hcells]
    | succ i =>
      rw [List.take_succ_cons]
      show .int .i64 x.1 :: .string x.2 :: hcells (t.take i) = (.int .i64 x.1 :: .string x.2 :: hcells t).take _
      rw [ih, show (i + 1) * 2 = i * 2 + 1 + 1 by omega]; rfl
theorem hcells_drop (l : List Shd) (i : Nat) : hcells (l.drop i) = (hcells l).drop (i * 2) := by
  induction l generalizing i with
  | nil => simp [hcells]
  | cons x t ih =>
    cases i with
    | zero => simp
    | succ i =>
      rw [List.drop_succ_cons]
      show hcells (t.drop i) = (.int .i64 x.1 :: .string x.2 :: hcells t).drop _
      rw [ih, show (i + 1) * 2 = i * 2 + 1 + 1 by omega]; rfl
theorem plS_before {l : List Shd} {i : Int} {j : Nat} (h : j < plS l i) : (sh_ l j).1 < i := by
  induction l generalizing j with
  | nil => simp [plS] at h
  | cons y r ih =>
    unfold plS at h
    split at h
    · rename_i hy
      cases j with
      | zero => exact hy
      | succ j => exact ih (by omega)
    · omega
theorem plS_stop {l : List Shd} {i : Int} (h : plS l i < l.length) : ¬ (sh_ l (plS l i)).1 < i := by
  induction l with
  | nil => simp at h
  | cons y r ih =>
    unfold plS at h ⊢
    split
    · rename_i hy
      rw [if_pos hy] at h
      exact ih (by simpa using h)
    · rename_i hy
      exact hy
/-- shards come back in new memory. -/
def GivesI (w : World) (l : List Shd) (e : Ending) (w' : World) : Prop := ∃ v, e = .returned v ∧ w'.ownsRow w.heap.size 32 2 v l.length (hcells l) ∧ Below w.heap.size w w'
theorem insS_rows (l : List Shd) (x : Shd) : hcells (l.take (plS l x.1) ++ [x]) ++ hcells (l.drop (plS l x.1)) = hcells (insS l x) := by
  rw [← hcells_app]
  unfold insS
  rw [List.append_assoc]; rfl
/-- the three appends. -/
theorem put_runs {W : World} {c : Nat → Prop} {g o : Nat} {l : List Shd} {m cp p : Nat} (h : Cl W c (some ⟨g, o, none⟩) (hcells l)) (hm : l.length = m) (hm2 : m ≤ 32) (hcp : m ≤ cp) (hp : p ≤ m) (x0 : Int) (x1 : ByteArray) :
    ∃ v2 W2 v3 W3 A4 v4 W4, (Instr.slice 47 (.slice (some ⟨g, o, none⟩) m cp) none (some (.int .i64 (p : Nat))) none).run Try.prog W = .ok (.slice (some ⟨g, o, none⟩) p cp) W ∧
      (Builtin.append_ #[47, 47] 47 #[.slice none 0 0, .slice (some ⟨g, o, none⟩) p cp]).run Try.prog W = .ok v2 W2 ∧
      (Builtin.append_ #[47, 47] 47 #[v2, .slice (some ⟨W2.heap.size, 0, none⟩) 1 1]).run Try.prog (W2.alloc (.cells #[.int .i64 x0, .string x1] 32)) = .ok v3 W3 ∧
      (Instr.slice 47 (.slice (some ⟨g, o, none⟩) m cp) (some (.int .i64 (p : Int))) none none).run Try.prog W3 = .ok (.slice A4 (m - p) (cp - p)) W3 ∧
      (Builtin.append_ #[47, 47] 47 #[v3, .slice A4 (m - p) (cp - p)]).run Try.prog W3 = .ok v4 W4 ∧
      W4.ownsRow W.heap.size 32 2 v4 (m + 1) (hcells (l.take p ++ [(x0, x1)]) ++ hcells (l.drop p)) ∧ Below W.heap.size W W2 ∧ Below W.heap.size W W4 := by
  obtain ⟨v2, W2, hr1, ho1, hg1⟩ := run_copy (ty := 47) Try.underlying47 Try.infoShd rfl (by decide) (World.ownsRow_nil W W.heap.size 32 2) (c := c) (A := some ⟨g, o, none⟩) (m := p) (cp := cp) (ys := hcells (l.take p)) (by rw [hcells_len, List.length_take]; omega) (by rw [hcells_take]; exact h.take _) (fun e => nomatch e) (hcells_one _) (by omega) (by decide) (Nat.le_refl _)
  rw [Nat.zero_add, List.nil_append] at ho1
  have b2 : Below W.heap.size W W2 := below_grown hg1 (Nat.le_refl _) (by simp [Value.ownBlock])
  have hat := At.new W2 32 [.int .i64 x0, .string x1]
  have b2' : Below W.heap.size W (W2.alloc (.cells #[.int .i64 x0, .string x1] 32)) := b2.alloc b2.size _
  obtain ⟨v3, W3, hr2, ho2, ht2⟩ := sh_append (ho1.alloc (.cells #[.int .i64 x0, .string x1] 32)) b2'.size (by omega) x0 x1 ⟨W2.heap.size, 0, none⟩ (hat.cell 0 rfl) (hat.cell 1 rfl) 1 47
  have b3 : Below W.heap.size W W3 := ht2.below b2' b2'.size (fun i hi e => absurd hi (Nat.not_lt.2 e))
  obtain ⟨A4, hrr, hno, hA4⟩ := s_rest_run g o m cp p hp W3
  obtain ⟨v4, W4, hr3, ho3, hg3⟩ := run_copy (ty := 47) Try.underlying47 Try.infoShd rfl (by decide) ho2 (c := c) (A := A4) (m := m - p) (cp := cp - p) (ys := hcells (l.drop p)) (by rw [hcells_len, List.length_drop, hm]) (by
    intro h0
    have h1 : p < cp := by rw [hcells_len, List.length_drop] at h0; omega
    rw [hA4 h1, hcells_drop] at *
    exact ((h.below b3).drop _) h0) (fun e => absurd e (fun e => hno e)) (hcells_one _) (by omega) (by decide) b3.size
  have b4 : Below W.heap.size W W4 := b3.trans (below_grown hg3 b3.size fun g e => (ho2.lt g e).1)
  refine ⟨v2, W2, v3, W3, A4, v4, W4, s_head_run _ m cp p (by omega) W, hr1, hr2, hrr, hr3, ?_, b2, b4⟩
  rw [show m + 1 = p + 1 + (m - p) by omega]
  exact ho3
set_option maxRecDepth 100000 in
set_option maxHeartbeats 1600000 in
theorem rins_any {w : World} {c : Nat → Prop} {A : Option Addr} {l : List Shd} {cp : Nat} (h : Cl w c A (hcells l)) (hl : 1 ≤ l.length ∧ l.length ≤ 32) (hcp : l.length ≤ cp) (x : Shd) :
    Calls Try.prog 36 #[.slice A l.length cp, .agg #[.int .i64 x.1, .string x.2]] w (GivesI w (insS l x)) := by
  have B1 : Below w.heap.size w (w.alloc (.cells #[.int .i64 x.1, .string x.2] 32)) := (Below.refl _ _).alloc (Nat.le_refl _) _
  have HX := Lib.hid (At.new w 32 [.int .i64 x.1, .string x.2])
  have HH := Lib.hid (h.below B1)
  have HB1 := Lib.hid B1
  have HI := Lib.hid (insS_rows l x)
  have HIL := Lib.hid (insS_len l x)
  have HBF := Lib.hid (fun j (hj : j < plS l x.1) => plS_before hj)
  have HST := Lib.hid (fun (hj : plS l x.1 < l.length) => plS_stop hj)
  have HPL := Lib.hid (plS_le l x.1)
  have HL := Lib.hid hl
  have HCP := Lib.hid hcp
  obtain ⟨g, o, rfl, _⟩ := h (by rw [hcells_len]; omega)
  clear h B1
  obtain ⟨x0, x1⟩ := x
  dsimp only at *
  generalize hm : l.length = m at *
  have HM := Lib.hid hm
  have hl1 : (m : Int) ≤ 32 := by omega
  clear hm hl hcp
  generalize hp : plS l x0 = p at *
  clear hp
  generalize insS l (x0, x1) = L at *
  go_enter Try.func36, Try.ntmps36
  go_wp2_with fail
  generalize hbx : w.heap.size = bx at HX ⊢
  have HBX := Lib.hid hbx
  clear hbx
  generalize w.alloc (.cells #[.int .i64 x0, .string x1] 32) = W1 at *
  go_loopw [5] (fun i wr => ∃ j : Nat, j ≤ p ∧ i = .int .i64 j ∧ Below W1.heap.size W1 wr) (fun i _ => p - (intOf i).toNat)
  case atStart => exact ⟨0, Nat.zero_le _, rfl, Below.refl _ _⟩
  case round =>
    obtain ⟨j, hj, rfl, hbel⟩ := hrel
    have HB := Lib.hid hbel
    have hxx := HX.out.below hbel HX.out.lt
    have b0 := hxx.cell 0 rfl
    have HHr := Lib.hid (HH.out.below hbel)
    clear hbel hxx
    have hj0 : (0 : Int) ≤ (j : Int) := Int.natCast_nonneg _
    by_cases hlt : j < p
    · obtain ⟨g', o', e, _, hgl, a0, _⟩ := HHr.out.shard (j := j) (by have := HPL.out; rw [HM.out]; omega)
      injection e with e
      injection e with e1 e2
      subst e1; subst e2
      have hbf := HBF.out j hlt
      have hlt' : (j : Int) < (m : Int) := by have := HPL.out; omega
      clear hgl
      generalize (sh_ l j).1 = y at *
      go_wp2_with fail
      go_quiet (fail)
      go_wp2_with fail
      go_roundw
      case rel => exact ⟨j + 1, by omega, by go_num, below_drewN HB.out (Nat.le_refl _) _⟩
      case measure => simp [intOf]; omega
    · obtain rfl : j = p := by omega
      rcases Nat.lt_or_ge j m with hjm | hjm
      · obtain ⟨g', o', e, _, hgl, a0, _⟩ := HHr.out.shard (j := j) (by rw [HM.out]; exact hjm)
        injection e with e
        injection e with e1 e2
        subst e1; subst e2
        have hst := HST.out hjm
        have hjm' : (j : Int) < (m : Int) := by omega
        clear hgl hjm
        generalize (sh_ l j).1 = y at *
        go_wp2_with fail
        go_quiet (fail)
        have HB2 := Lib.hid (below_drewN HB.out (Nat.le_refl _) nq)
        clear b0 HHr HB a0 hjm'
        generalize wr.drewN nq = w2 at *
        obtain ⟨v2, W2, v3, W3, A4, v4, W4, hh, hr1, hr2, hrr, hr3, ho, hb2, hb4⟩ := put_runs (HH.out.below HB2.out) HM.out (by have := HL.out; omega) HCP.out HPL.out x0 x1
        have HX2 := HX.out.below (HB2.out.trans (hb2.mono HB2.out.size)) HX.out.lt
        have b0 := HX2.cell 0 rfl
        have b1 := HX2.cell 1 rfl
        rw [HI.out] at ho
        have HO := Lib.hid ho
        have HB4 := Lib.hid (HB2.out.trans (hb4.mono HB2.out.size))
        clear ho hb2 hb4 HX2
        go_upto_region 6 with (at_builtin; refine Lib.wpList_append_run _ rfl _ _ _ _ rfl _ _ rfl rfl _ _ hr1 ?_)
        clear hr1 hh
        go_upto_region 7 with (at_builtin; refine Lib.wpList_append_run _ rfl _ _ _ _ rfl _ _ rfl rfl _ _ hr2 ?_)
        clear hr2 b0 b1
        go_wp2_with (at_builtin; refine Lib.wpList_append_run _ rfl _ _ _ _ rfl _ _ rfl rfl _ _ hr3 ?_)
        go_ret
        refine ⟨_, rfl, ?_, ?_⟩
        · have := HO.out
          rw [HIL.out]
          exact own_base2 this (Nat.le_trans HB1.out.size HB2.out.size)
        · exact HB1.out.trans (HB4.out.mono HB1.out.size)
      · have hjm' : decide (j < m) = false := decide_eq_false (by omega)
        clear hjm
        go_wp2_with fail
        go_quiet (fail)
        have HB2 := Lib.hid (below_drewN HB.out (Nat.le_refl _) nq)
        clear b0 HHr HB hjm'
        generalize wr.drewN nq = w2 at *
        obtain ⟨v2, W2, v3, W3, A4, v4, W4, hh, hr1, hr2, hrr, hr3, ho, hb2, hb4⟩ := put_runs (HH.out.below HB2.out) HM.out (by have := HL.out; omega) HCP.out HPL.out x0 x1
        have HX2 := HX.out.below (HB2.out.trans (hb2.mono HB2.out.size)) HX.out.lt
        have b0 := HX2.cell 0 rfl
        have b1 := HX2.cell 1 rfl
        rw [HI.out] at ho
        have HO := Lib.hid ho
        have HB4 := Lib.hid (HB2.out.trans (hb4.mono HB2.out.size))
        clear ho hb2 hb4 HX2
        go_upto_region 6 with (at_builtin; refine Lib.wpList_append_run _ rfl _ _ _ _ rfl _ _ rfl rfl _ _ hr1 ?_)
        clear hr1 hh
        go_upto_region 7 with (at_builtin; refine Lib.wpList_append_run _ rfl _ _ _ _ rfl _ _ rfl rfl _ _ hr2 ?_)
        clear hr2 b0 b1
        go_wp2_with (at_builtin; refine Lib.wpList_append_run _ rfl _ _ _ _ rfl _ _ rfl rfl _ _ hr3 ?_)
        go_ret
        refine ⟨_, rfl, ?_, ?_⟩
        · have := HO.out
          rw [HIL.out]
          exact own_base2 this (Nat.le_trans HB1.out.size HB2.out.size)
        · exact HB1.out.trans (HB4.out.mono HB1.out.size)
end Go.Proofs.Ytgclgmfmcgacdaa

/- Proved: what the document's known answers. Conditions: those that the theorems name. -/
namespace Go.Proofs.Ytgclgmfmcgacdaa
open Go.ChangeShapes Go.WideShapes Go.ChangeAt Go.RowKit

/-- what is said of a shard for an entry that is there. -/
def knownZ (e : Fe) (nd : Int) (x : Shd) : Int := match roleR e.l e.need nd x with
  | .wanted _ => -1
  | .known => 1
  | _ => 4
theorem any_at {l : List Shd} (h : ShOk l) {j : Nat} {i : Int} (hj : j < l.length) (e : (sh_ l j).1 = i) : anyS l i = true ∧ plS l i = j := by
  have ha : anyS l i = true := by
    unfold anyS
    rw [List.any_eq_true]
    exact ⟨l[j], List.getElem_mem hj, by rw [sh_at hj] at e; simp [e]⟩
  refine ⟨ha, ?_⟩
  obtain ⟨h1, h2⟩ := plS_at h ha
  have hp := List.pairwise_iff_getElem.1 h.up
  rw [sh_at hj] at e
  rw [sh_at h1] at h2
  rcases Nat.lt_trichotomy (plS l i) j with q | q | q
  · have := hp _ _ h1 hj q; omega
  · exact q
  · have := hp _ _ hj h1 q; omega
theorem any_no {l : List Shd} {i : Int} (h : ∀ j, j < l.length → (sh_ l j).1 ≠ i) : anyS l i = false := by
  unfold anyS
  rw [List.any_eq_false]
  intro x hx
  obtain ⟨j, hj, rfl⟩ := List.getElem_of_mem hx
  have := h j hj
  rw [sh_at hj] at this
  simpa using this
/-- A box with an entry, and one with a shard behind it. -/
theorem ekboxes (x : Ev) (y : Shd) (w : World) : ∃ W, W = (w.alloc (.cells #[.int .i64 x.e.k.1, .int .u32 x.e.k.2, .int .i64 x.e.need, .slice x.A x.e.l.length x.c] 76)).alloc (.cells #[.int .i64 y.1, .string y.2] 32) ∧ At W w.heap.size 76 [.int .i64 x.e.k.1, .int .u32 x.e.k.2, .int .i64 x.e.need, .slice x.A x.e.l.length x.c] ∧ At W (w.heap.size + 1) 32 [.int .i64 y.1, .string y.2] ∧ Below w.heap.size w W ∧ W.heap.size = w.heap.size + 2 := by
  refine ⟨_, rfl, ?_, ?_, ?_, by simp⟩
  · exact (At.new w 76 [.int .i64 x.e.k.1, .int .u32 x.e.k.2, .int .i64 x.e.need, .slice x.A x.e.l.length x.c]).alloc _
  · have h := At.new (w.alloc (.cells #[.int .i64 x.e.k.1, .int .u32 x.e.k.2, .int .i64 x.e.need, .slice x.A x.e.l.length x.c] 76)) 32 [.int .i64 y.1, .string y.2]
    simpa using h
  · exact ((Below.refl _ _).alloc (Nat.le_refl _) _).alloc (by simp) _
theorem body_same (t : ByteArray) : (t.toList == t.toList) = true := by simp
set_option maxRecDepth 100000 in
set_option maxHeartbeats 1600000 in
theorem rknown_any {w : World} {c : Nat → Prop} {x : Ev} (h : El w c x) (ho : FeOk x.e) (nd : Int) (y : Shd) :
    Calls Try.prog 35 #[x.val, .int .i64 nd, .agg #[.int .i64 y.1, .string y.2]] w fun e w' => e = .returned (.int .i64 (knownZ x.e nd y)) ∧ Below w.heap.size w w' := by
  obtain ⟨W1, HW, A1, A2, B1, hs⟩ := ekboxes x y w
  have HR := Lib.hid (rready_any x ho.l1 ho.n1 W1)
  have HB1 := Lib.hid B1
  have HE := Lib.hid (h.cl.below B1)
  have HO := Lib.hid ho
  obtain ⟨⟨⟨q0, q1⟩, ne, l⟩, A, cp⟩ := x
  obtain ⟨i, t⟩ := y
  dsimp only at HW A1 A2 HE HO
  have HR : Hid (Calls Try.prog 22 #[.agg #[.int .i64 q0, .int .u32 q1, .int .i64 ne, .slice A l.length cp]] W1 fun e w' => e = .returned (.bool (decide (l.length = ne))) ∧ Below W1.heap.size W1 w') := HR
  have KP : Hid (∀ V, Below W1.heap.size W1 V → V.cell? ⟨w.heap.size, 2, none⟩ = some (.int .i64 ne) ∧ V.cell? ⟨w.heap.size, 3, none⟩ = some (.slice A l.length cp) ∧ V.cell? ⟨w.heap.size + 1, 0, none⟩ = some (.int .i64 i) ∧ V.cell? ⟨w.heap.size + 1, 1, none⟩ = some (.string t)) := Lib.hid fun V hV =>
    ⟨(A1.below hV A1.lt).cell 2 rfl, (A1.below hV A1.lt).cell 3 rfl, (A2.below hV A2.lt).cell 0 rfl, (A2.below hV A2.lt).cell 1 rfl⟩
  have c0 := A1.cell 0 rfl
  have c1 := A1.cell 1 rfl
  have c2 := A1.cell 2 rfl
  have c3 := A1.cell 3 rfl
  have hl0 : (0 : Int) < (l.length : Int) := by have : 1 ≤ l.length := ho.l0; omega
  have hl1 : (l.length : Int) ≤ 32 := by have : l.length ≤ ne := ho.l1; have : ne ≤ 32 := ho.n1; omega
  clear h ho A1 A2 B1 hs
  show Calls Try.prog 35 #[.agg #[.int .i64 q0, .int .u32 q1, .int .i64 ne, .slice A l.length cp], .int .i64 nd, .agg #[.int .i64 i, .string t]] w fun e w' => e = .returned (.int .i64 (knownZ ⟨(q0, q1), ne, l⟩ nd (i, t))) ∧ Below w.heap.size w w'
  obtain ⟨Z, hz⟩ : ∃ Z, knownZ ⟨(q0, q1), ne, l⟩ nd (i, t) = Z := ⟨_, rfl⟩
  rw [hz]
  unfold knownZ roleR at hz
  dsimp only at hz
  have HZ := Lib.hid hz
  clear hz
  obtain ⟨g, o, rfl, _⟩ := HE.out (by rw [hcells_len]; omega)
  generalize hm : l.length = m at *
  have HM := Lib.hid hm
  clear hm
  go_enter Try.func35, Try.ntmps35
  go_upto_region 1 with fail
  rw [← HW]; clear HW
  go_wp2_with fail
  refine HR.out.mono ?_; rintro e w2 ⟨rfl, b2⟩
  have HB2 := Lib.hid b2
  clear c0 c1 c2 c3 b2 HR
  by_cases hr : m = ne
  · rw [decide_eq_true hr]
    have hZ := HZ.out
    rw [if_pos hr] at hZ
    subst hZ
    clear hr
    go_wp2_with fail
    go_ret
    exact ⟨rfl, HB1.out.trans (HB2.out.mono HB1.out.size)⟩
  · rw [decide_eq_false hr]
    have hZ := HZ.out
    rw [if_neg hr] at hZ
    clear hr
    obtain ⟨k2, k3, k4, k5⟩ := KP.out _ HB2.out
    obtain ⟨g', o', e, _, hgl, _, a1⟩ := HE.out.shard (j := 0) (by rw [HM.out]; omega)
    injection e with e
    injection e with e1 e2
    subst e1; subst e2
    have b1 := (HB2.out.cell (p := ⟨g, o + 0 * 2 + 1, none⟩) hgl).trans a1
    have b1' : w2.cell? ⟨g, o + 1, none⟩ = some (.string (sh_ l 0).2) := by simpa using b1
    clear a1 b1 hgl
    by_cases hn : nd = ne ∧ t.size = (sh_ l 0).2.size
    · rw [if_pos hn] at hZ
      have HZ2 := Lib.hid hZ
      obtain ⟨hn1, hn2⟩ := hn
      subst hn1
      have hz2 : (((sh_ l 0).2.size : Int) != (t.size : Int)) = false := by rw [hn2]; simp
      clear hZ hn2 HZ
      generalize (sh_ l 0).2 = t0 at *
      go_wp2_with fail
      go_quiet (fail)
      have HB3 := Lib.hid (below_drewN HB2.out (Nat.le_refl _) nq)
      clear k2 k3 k4 k5 b1' hz2
      generalize w2.drewN nq = w3 at *
      go_wp2_with fail
      go_loopw [7] (fun i' wr => ∃ j : Nat, j ≤ m ∧ i' = .int .i64 j ∧ (∀ p, p < j → (sh_ l p).1 ≠ i) ∧ Below W1.heap.size W1 wr) (fun i' _ => m - (intOf i').toNat)
      case atStart => exact ⟨0, Nat.zero_le _, rfl, fun p hp => absurd hp (by omega), HB3.out⟩
      case round =>
        obtain ⟨j, hj, rfl, hne, hbel⟩ := hrel
        have HN := Lib.hid hne
        have HB := Lib.hid hbel
        obtain ⟨_, k3, k4, k5⟩ := KP.out _ hbel
        clear hne hbel
        have hj0 : (0 : Int) ≤ (j : Int) := Int.natCast_nonneg _
        by_cases hlt : j < m
        · obtain ⟨g', o', e, _, hgl, a0, a1⟩ := HE.out.shard (j := j) (by rw [HM.out]; exact hlt)
          injection e with e
          injection e with e1 e2
          subst e1; subst e2
          have d0 := (HB.out.cell (p := ⟨g, o + j * 2, none⟩) hgl).trans a0
          have HD : Hid (∀ V, Below W1.heap.size W1 V → V.cell? ⟨g, o + j * 2 + 1, none⟩ = some (.string (sh_ l j).2)) := Lib.hid fun V hV => (hV.cell (p := ⟨g, o + j * 2 + 1, none⟩) hgl).trans a1
          have hlt' : (j : Int) < (m : Int) := by omega
          clear a0 a1 hgl
          by_cases he : (sh_ l j).1 = i
          · obtain ⟨hany, hpl⟩ := any_at HO.out.sh (by rw [HM.out]; exact hlt) he
            have hZ := HZ2.out
            rw [if_pos hany, hpl] at hZ
            have HZ3 := Lib.hid hZ
            have hee : ((sh_ l j).1 == i) = true := by simpa using he
            clear hZ hany hpl
            rw [he] at d0 hee
            clear he
            go_wp2_with fail
            go_quiet (fail)
            have HB5 := Lib.hid (below_drewN HB.out (Nat.le_refl _) nq)
            clear k3 k4 k5 d0 hee
            generalize wr.drewN nq = w5 at *
            obtain ⟨_, k3, k4, k5⟩ := KP.out _ HB5.out
            have d1 := HD.out _ HB5.out
            have hZ := HZ3.out
            generalize (sh_ l j).2 = u at *
            by_cases hu : u = t
            · rw [if_pos hu] at hZ
              subst hZ
              subst hu
              have hss := body_same u
              go_wp2_with fail
              go_quiet (fail)
              go_wp2_with fail
              go_ret
              exact ⟨rfl, HB1.out.trans (below_drewN (HB5.out.mono HB1.out.size) HB1.out.size _)⟩
            · rw [if_neg hu] at hZ
              subst hZ
              have hss := list_ne hu
              clear hu
              go_wp2_with fail
              go_quiet (fail)
              go_wp2_with fail
              go_ret
              exact ⟨rfl, HB1.out.trans (below_drewN (HB5.out.mono HB1.out.size) HB1.out.size _)⟩
          · have hee : ((sh_ l j).1 == i) = false := by simpa using he
            have HNE := Lib.hid he
            clear he
            generalize hy : (sh_ l j).1 = y0 at *
            have HY := Lib.hid hy
            clear hy
            go_wp2_with fail
            go_quiet (fail)
            go_wp2_with fail
            go_roundw
            case rel =>
              refine ⟨j + 1, by omega, by go_num, fun p hp => ?_, below_drewN HB.out (Nat.le_refl _) _⟩
              rcases Nat.lt_or_ge p j with q | q
              · exact HN.out p q
              · obtain rfl : p = j := by omega
                rw [HY.out]; exact HNE.out
            case measure => simp [intOf]; omega
        · obtain rfl : j = m := by omega
          have hZ := HZ2.out
          rw [if_neg (by rw [any_no (fun p hp => HN.out p (by rw [← HM.out]; exact hp))]; decide)] at hZ
          subst hZ
          go_wp2_with fail
          go_ret
          exact ⟨rfl, HB1.out.trans (HB.out.mono HB1.out.size)⟩
    · rw [if_neg hn] at hZ
      subst hZ
      by_cases hd : nd = ne
      · subst hd
        have hz2 : (((sh_ l 0).2.size : Int) != (t.size : Int)) = true := by
          have : t.size ≠ (sh_ l 0).2.size := fun e => hn ⟨rfl, e⟩
          simp; omega
        clear hn HZ
        generalize (sh_ l 0).2 = t0 at *
        go_wp2_with fail
        go_quiet (fail)
        go_wp2_with fail
        go_ret
        exact ⟨rfl, HB1.out.trans (below_drewN (HB2.out.mono HB1.out.size) HB1.out.size _)⟩
      · have hz2 : ((ne : Int) != nd) = true := by simp; omega
        clear hn HZ hd
        go_wp2_with fail
        go_quiet (fail)
        go_wp2_with fail
        go_ret
        exact ⟨rfl, HB1.out.trans (below_drewN (HB2.out.mono HB1.out.size) HB1.out.size _)⟩
end Go.Proofs.Ytgclgmfmcgacdaa

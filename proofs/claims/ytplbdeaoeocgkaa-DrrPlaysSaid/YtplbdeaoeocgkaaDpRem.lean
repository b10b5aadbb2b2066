/- Proved: what the document's Remove answers. Conditions: those that the theorems name. -/
import Derived.Test.YtplbdeaoeocgkaaDpAdd
namespace Go.Proofs.Ytplbdeaoeocgkaa
open Go.ChangeShapes Go.WideShapes Go.ChangeAt Go.RowKit

theorem q_head_run (A : Option Addr) (n c k : Nat) (h : k ≤ c) (W : World) :
    (Instr.slice 28 (.slice A n c) none (some (.int .i64 (k : Nat))) none).run Try.prog W = .ok (.slice A k c) W := by
  have hu : Try.prog.underlying 28 = some (.slice (Try.prog.elem 28)) := by kernel_rfl
  have he : Try.prog.elem 28 = 68 := by kernel_rfl
  obtain ⟨i, hi, hz0, hz1, hz2⟩ := info_parts Try.infoQ
  rw [run_slice_h W 28 A n c hu .i64 (k : Int) (by omega) (by omega), he]
  have e0 : ∀ a : Addr, a.add 0 = a := fun a => rfl
  have e1 : A.map (fun a => a) = A := by cases A <;> rfl
  simp [sizeOf, typeInfo, hi, hz1, sliced, e0, e1]
theorem q_rest_run (g o n c k : Nat) (h : k ≤ n) (W : World) :
    ∃ A', (Instr.slice 28 (.slice (some ⟨g, o, none⟩) n c) (some (.int .i64 (k : Int))) none none).run Try.prog W = .ok (.slice A' (n - k) (c - k)) W ∧ (A' = none → False) ∧ (k < c → A' = some ⟨g, o + k * 5, none⟩) := by
  have hu : Try.prog.underlying 28 = some (.slice (Try.prog.elem 28)) := by kernel_rfl
  have he : Try.prog.elem 28 = 68 := by kernel_rfl
  obtain ⟨i, hi, hz0, hz1, hz2⟩ := info_parts Try.infoQ
  refine ⟨if c = k then some ⟨g, o, none⟩ else some ⟨g, o + k * 5, none⟩, ?_, ?_, ?_⟩
  · rw [run_slice_l W 28 (some ⟨g, o, none⟩) n c hu .i64 (k : Int) (by omega) (by omega), he]
    simp [sizeOf, typeInfo, hi, hz1, sliced, Addr.add]
    rcases Nat.eq_zero_or_pos k with rfl | hk
    · simp
    · rw [if_neg (show ¬ k * 5 = 0 by omega)]
  · split <;> intro e <;> cases e
  · intro hk
    rw [if_neg (by omega)]
theorem qcells_take (xs : List Qv) (i : Nat) : qcells (xs.take i) = (qcells xs).take (i * 5) := by
  induction xs generalizing i with
  | nil => simp [qcells]
  | cons x t ih =>
    cases i with
    | zero => simp [qcells]
    | succ i =>
      rw [List.take_succ_cons]
      show x.cells ++ qcells (t.take i) = (x.cells ++ qcells t).take _
      rw [ih, show (i + 1) * 5 = i * 5 + 5 by omega]; rfl
theorem qcells_drop (xs : List Qv) (i : Nat) : qcells (xs.drop i) = (qcells xs).drop (i * 5) := by
  induction xs generalizing i with
  | nil => simp [qcells]
  | cons x t ih =>
    cases i with
    | zero => simp
    | succ i =>
      rw [List.drop_succ_cons]
      show qcells (t.drop i) = (x.cells ++ qcells t).drop _
      rw [ih, show (i + 1) * 5 = i * 5 + 5 by omega]; rfl
theorem Cl.take {w : World} {c : Nat → Prop} {A : Option Addr} {xs : List Value} (h : Cl w c A xs) (n : Nat) : Cl w c A (xs.take n) := fun h0 => by
  obtain ⟨g, o, e, hc, hl, hx⟩ := h (by rw [List.length_take] at h0; omega)
  refine ⟨g, o, e, hc, hl, fun j u hj => hx j u ?_⟩
  rw [List.getElem?_take] at hj
  split at hj
  · exact hj
  · cases hj
theorem Cl.drop {w : World} {c : Nat → Prop} {g o : Nat} {xs : List Value} (h : Cl w c (some ⟨g, o, none⟩) xs) (n : Nat) : Cl w c (some ⟨g, o + n, none⟩) (xs.drop n) := fun h0 => by
  obtain ⟨g', o', e, hc, hl, hx⟩ := h (by rw [List.length_drop] at h0; omega)
  injection e with e
  injection e with e1 e2
  subst e1; subst e2
  refine ⟨g, o + n, rfl, hc, hl, fun j u hj => ?_⟩
  rw [List.getElem?_drop] at hj
  rw [Nat.add_assoc]
  exact hx _ u hj
theorem res_rrem {T : Array Value} {W : World} {b : Nat} {s : Sv} {z : Int} (h2 : T.getD 4 undef = .pointer (some ⟨b, 0, none⟩)) (h3 : T.getD 5 undef = .int .i64 z) (h : At W b 31 [.int .i64 s.Q, .slice s.A s.xs.length s.c, .slice s.B s.rd.length s.d]) : (results Try.f19 T).run Try.prog W = .ok (.tuple #[s.val, .int .i64 z]) W := by
  have h2' : T[4]?.getD undef = .pointer (some ⟨b, 0, none⟩) := by simpa using h2
  have h3' : T[5]?.getD undef = .int .i64 z := by simpa using h3
  have c0 := h.cell 0 rfl
  have c1 := h.cell 1 rfl
  have c2 := h.cell 2 rfl
  simp [results, Try.results19, h2', h3', c0, c1, c2, go_sem, Sv.val]
theorem remE_no {W : List (Int × Int)} {R : List Qd} {Q M : Int} {id : Int} (k : Ok Q M W R) (h : inW W id = false) : remE W id = 7 ∧ remW W id = W ∧ remR R id = R := by
  have hw : ∀ x ∈ W, x.1 ≠ id := fun x hx e => by
    have := (inW_iff (W := W) (id := id)).2 ⟨x.2, by rw [← e]; exact hx⟩
    rw [h] at this; cases this
  refine ⟨if_neg (by rw [h]; decide), List.filter_eq_self.2 fun x hx => by simpa using hw x hx, List.filter_eq_self.2 fun q hq => by simpa using hw _ (k.rw q hq)⟩
set_option maxRecDepth 100000 in
set_option maxHeartbeats 1600000 in
theorem rrem_any {w : World} {c : Nat → Prop} {s : Sv} {W : List (Int × Int)} {R : List Qd} {Q M : Int} (h : Sg w c s) (hc : ∀ g, w.heap.size ≤ g → c g) (r : DRel s.xs s.rd W R) (k : Ok Q M W R) (id : Int) :
    Calls Try.prog 19 #[s.val, .int .i64 id] w (GivesP w c s.Q (remW W id) (remR R id) (remE W id)) := by
  obtain ⟨W1, HW, A1, A2, B1, hs⟩ := pboxes s w
  have HS := Lib.hid (And.intro h r)
  have HK := Lib.hid k
  have HB := Lib.hid B1
  have HA1 := Lib.hid A1
  have HA2 := Lib.hid A2
  have HFW := Lib.hid (r.few k)
  have HFR := Lib.hid (r.fewR k)
  have HC := Lib.hid hc
  have HAT := Lib.hid (rat_any (h.below B1) (r.few k) id)
  have c0 := A1.cell 0 rfl
  have c1 := A1.cell 1 rfl
  have c2 := A1.cell 2 rfl
  have HZ : Hid (W1.heap.size = w.heap.size + 2) := Lib.hid hs
  clear A1 A2 B1 hs h r hc k
  obtain ⟨zE, hz0⟩ : ∃ z, remE W id = z := ⟨_, rfl⟩
  obtain ⟨WE, hw0⟩ : ∃ z, remW W id = z := ⟨_, rfl⟩
  obtain ⟨RE, hr0⟩ : ∃ z, remR R id = z := ⟨_, rfl⟩
  have HEZ : Hid (remE W id = zE) := Lib.hid hz0
  have HEW : Hid (remW W id = WE) := Lib.hid hw0
  have HER : Hid (remR R id = RE) := Lib.hid hr0
  rw [hz0, hw0, hr0]
  clear hz0 hw0 hr0
  obtain ⟨Q', xs, A, n, rd, B, d⟩ := s
  have HAT : Hid (Calls Try.prog 22 #[.agg #[.int .i64 Q', .slice A xs.length n, .slice B rd.length d], .int .i64 id] W1 _) := HAT
  show Calls Try.prog 19 #[.agg #[.int .i64 Q', .slice A xs.length n, .slice B rd.length d], .int .i64 id] w _
  dsimp only at HW HFW HFR HS HA1 c0 c1 c2
  go_enter Try.func19, Try.ntmps19
  go_upto_region 1 with fail
  rw [← HW]; clear HW
  go_wp2_with fail
  refine HAT.out.mono ?_; rintro e w1 ⟨z, rfl, hz, b1⟩
  have A1 := HA1.out.below b1 HA1.out.lt
  have A2 := HA2.out.below b1 HA2.out.lt
  have HB1 := Lib.hid (HB.out.trans (b1.mono HB.out.size))
  have HB0 := Lib.hid b1
  have c0 := A1.cell 0 rfl
  have c1 := A1.cell 1 rfl
  have c2 := A1.cell 2 rfl
  have HP1 := Lib.hid A1
  have HP2 := Lib.hid A2
  rcases hz with ⟨rfl, hn⟩ | ⟨i, x, rfl, hx, rfl⟩
  · have HE := remE_no HK.out (HS.out.2.notW hn)
    rw [HEZ.out, HEW.out, HER.out] at HE
    obtain ⟨rfl, rfl, rfl⟩ := HE
    have x0 := A2.cell 0 rfl
    have x1 := A2.cell 1 rfl
    have x2 := A2.cell 2 rfl
    have y0 := A2.free 0
    have y1 := A2.free 1
    have y2 := A2.free 2
    clear A1 A2 b1 HAT HA1 HA2 hn
    go_wp2_with fail
    change bodyPost _ _ _ _ _ (pset3 w1 (w.heap.size + 1) (.int .i64 Q') (.slice A xs.length n) (.slice B rd.length d))
    exact bodyPost_ret (v := .tuple #[Sv.val ⟨Q', xs, A, n, rd, B, d⟩, .int .i64 7]) (res_rrem rfl rfl (pset3_at HP2.out)) rfl (p_same HS.out.1 HS.out.2 HB1.out (Nat.le_succ _))
  · have hE : remE W x.q.id = 0 := if_pos ((HS.out.2.inW x.q.id).2 ⟨x, List.mem_of_getElem? hx, rfl⟩)
    rw [HEZ.out] at hE
    subst hE
    have f1 := A1.free 1
    have f2 := A1.free 2
    clear A1 A2 b1 HAT HA1 HA2
    have hil := (List.getElem?_eq_some_iff.1 hx).1
    have hil' : (i : Int) < (xs.length : Int) := by omega
    have hi0 : (0 : Int) ≤ (i : Int) := Int.natCast_nonneg _
    have hi2 : (i : Int) ≤ 300 := by have := HFW.out; omega
    have HX := Lib.hid (And.intro hx hil)
    have hS1 := HS.out.1.below HB1.out
    obtain ⟨g, o, e, _⟩ := hS1.qs (by rw [qcells_len]; have : i < xs.length := hil; show 0 < xs.length * 5; omega)
    have e : A = some ⟨g, o, none⟩ := e
    subst e
    have hqc : xs.length ≤ n := hS1.qc
    have hh := q_head_run (some ⟨g, o, none⟩) xs.length n i (by omega) w1
    obtain ⟨v2, w2, hr1, ho1, hg1⟩ := run_copy (ty := 28) Try.underlying28 Try.infoQ rfl (by decide) (World.ownsRow_nil w1 w1.heap.size 68 5) (c := c) (A := some ⟨g, o, none⟩) (m := i) (cp := n) (ys := qcells (xs.take i)) (by rw [qcells_len, List.length_take]; omega) (by rw [qcells_take]; exact hS1.qs.take _) (fun e => nomatch e) (qcells_one _) (by have := HFW.out; omega) (by decide) (Nat.le_refl _)
    rw [Nat.zero_add, List.nil_append] at ho1
    have b2 : Below w1.heap.size w1 w2 := below_grown hg1 (Nat.le_refl _) (by simp [Value.ownBlock])
    obtain ⟨A', hrr, hno', hA'⟩ := q_rest_run g o xs.length n (i + 1) (by omega) w2
    have hcast : (((i + 1 : Nat)) : Int) = (i : Int) + 1 := by omega
    rw [hcast] at hrr
    clear hcast
    obtain ⟨v3, w3, hr2, ho2, hg2⟩ := run_copy (ty := 28) Try.underlying28 Try.infoQ rfl (by decide) ho1 (c := c) (A := A') (m := xs.length - (i + 1)) (cp := n - (i + 1)) (ys := qcells (xs.drop (i + 1))) (by rw [qcells_len, List.length_drop]) (by
      intro h0
      have h1 : i + 1 < n := by rw [qcells_len, List.length_drop] at h0; omega
      rw [hA' h1, qcells_drop] at *
      exact ((hS1.below b2).qs.drop _) h0) (fun e => absurd e (fun e => hno' e)) (qcells_one _) (by have := HFW.out; omega) (by decide) b2.size
    rw [← qcells_app] at ho2
    have b3 : Below w1.heap.size w1 w3 := b2.trans (below_grown hg2 b2.size fun g e => (ho1.lt g e).1)
    obtain ⟨A3, cap, rfl, hcap, hno, hcl⟩ := Cl.own (c := fun g => c g ∧ w.heap.size + 2 ≤ g) ho2 (fun g hg => ⟨HC.out g (Nat.le_trans HB1.out.size hg), by have := HB0.out.size; have := HZ.out; omega⟩)
    have hlen : (xs.take i ++ xs.drop (i + 1)).length = i + (xs.length - (i + 1)) := by rw [List.length_append, List.length_take, List.length_drop]; omega
    have P1 := HP1.out.below b3 HP1.out.lt
    have P2 := HP2.out.below b3 HP2.out.lt
    have HB3 := Lib.hid (HB1.out.trans (b3.mono HB1.out.size))
    generalize hm2 : i + (xs.length - (i + 1)) = m2 at *
    have a1 := P1.cell 1 rfl
    have g1 := P1.free 1
    have e1 := c1
    have c1w2 := (HP1.out.below b2 HP1.out.lt).cell 1 rfl
    have S1 := P1.set_ 1 (.slice A3 m2 cap)
    have T1 := P2.far (p := ⟨w.heap.size, 1, none⟩) (by show w.heap.size + 1 ≠ w.heap.size; omega) (.slice A3 m2 cap)
    have tn1 : Tn (fun g => g = w.heap.size) w3 (w3.setCell ⟨w.heap.size, 1, none⟩ (.slice A3 m2 cap)) := (Tn.refl _ w3).set ⟨w.heap.size, 1, none⟩ _ (fun _ => rfl)
    have HCQ := Lib.hid (hcl.tn tn1 fun g hg e f => by have := e.2; omega)
    have HCP := Lib.hid (And.intro hcap (And.intro hno hlen))
    have HB4 := Lib.hid (pset_below (j := 1) (v := .slice A3 m2 cap) HB3.out (Nat.le_refl _) (Nat.le_refl w.heap.size))
    have d2 := S1.cell 2 rfl
    have HS1 := Lib.hid S1
    have HT1 := Lib.hid T1
    clear P1 P2 S1 T1 tn1 hcl hcap hno ho1 ho2 hg1 hg2 b2 b3 hlen hS1 hqc hA' hno' hx hil hm2
    go_upto_region 6 with (at_builtin; refine Lib.wpList_append_run _ rfl _ _ _ _ rfl _ _ rfl rfl _ _ hr1 ?_)
    clear hr1 hh c0 c1 c2 e1
    go_upto_region 7 with (at_builtin; refine Lib.wpList_append_run _ rfl _ _ _ _ rfl _ _ rfl rfl _ _ hr2 ?_)
    clear hr2 hrr c1w2 a1 g1
    have HCT : Hid (w3.setCell ⟨w.heap.size, 1, none⟩ (.slice A3 m2 cap) = w3.setCell ⟨w.heap.size, 1, none⟩ (.slice A3 m2 cap)) := Lib.hid rfl
    generalize w3.setCell ⟨w.heap.size, 1, none⟩ (.slice A3 m2 cap) = w4 at *
    go_wp2_with fail
    refine (rwithout_any (HS.out.1.below HB4.out).rs HFR.out x.q.id).mono ?_; rintro e w5 ⟨v5, rfl, ho5, b5⟩
    obtain ⟨B5, d5, rfl, hcap5, hno5, hcl5⟩ := Cl.own (c := fun g => c g ∧ w.heap.size + 2 ≤ g) ho5 (fun g hg => ⟨HC.out g (Nat.le_trans HB4.out.size hg), by have := HT1.out.lt; omega⟩)
    have P1 := HS1.out.below b5 HS1.out.lt
    have P2 := HT1.out.below b5 HT1.out.lt
    have HB5 := HB4.out.trans (b5.mono HB4.out.size)
    have hq5 := HCQ.out.below b5
    have e2 := P1.cell 2 rfl
    have k2 := P1.free 2
    have S1 := P1.set_ 2 (.slice B5 (outL rd x.q.id).length d5)
    have T1 := P2.far (p := ⟨w.heap.size, 2, none⟩) (by show w.heap.size + 1 ≠ w.heap.size; omega) (.slice B5 (outL rd x.q.id).length d5)
    have e0 := S1.cell 0 rfl
    have e1 := S1.cell 1 rfl
    have e3 := S1.cell 2 rfl
    have t0 := T1.cell 0 rfl
    have t1 := T1.cell 1 rfl
    have t2 := T1.cell 2 rfl
    have h0 := T1.free 0
    have h1 := T1.free 1
    have h2 := T1.free 2
    have ht : Tn (fun g => g = w.heap.size ∨ g = w.heap.size + 1) w5 (pset3 (w5.setCell ⟨w.heap.size, 2, none⟩ (.slice B5 (outL rd x.q.id).length d5)) (w.heap.size + 1) (.int .i64 Q') (.slice A3 m2 cap) (.slice B5 (outL rd x.q.id).length d5)) := ((((Tn.refl _ w5).set ⟨w.heap.size, 2, none⟩ _ (fun _ => Or.inl rfl)).set ⟨w.heap.size + 1, 0, none⟩ _ (fun _ => Or.inr rfl)).set ⟨w.heap.size + 1, 1, none⟩ _ (fun _ => Or.inr rfl)).set ⟨w.heap.size + 1, 2, none⟩ _ (fun _ => Or.inr rfl)
    have HQ9 := Lib.hid ((hq5.tn ht fun g _ e f => by have := e.2; rcases f with f | f <;> omega).mono (d := c) fun g _ e => e.1)
    have HR9 := Lib.hid ((hcl5.tn ht fun g _ e f => by have := e.2; rcases f with f | f <;> omega).mono (d := c) fun g _ e => e.1)
    have HT9 := Lib.hid (pset3_at (x := .int .i64 Q') (y := .slice A3 m2 cap) (z := .slice B5 (outL rd x.q.id).length d5) T1)
    have HB9 := Lib.hid (pset3_below (b := w.heap.size + 1) (x := .int .i64 Q') (y := .slice A3 m2 cap) (z := .slice B5 (outL rd x.q.id).length d5) (pset_below (j := 2) (v := .slice B5 (outL rd x.q.id).length d5) HB5 (Nat.le_refl _) (Nat.le_refl w.heap.size)) (Nat.le_refl _) (by omega))
    have HC5 := Lib.hid (And.intro hcap5 hno5)
    have HDR := Lib.hid (HS.out.2.rem HK.out HX.out.1)
    rw [HEW.out, HER.out] at HDR
    clear ho5 b5 hcap5 hno5 hcl5 P1 P2 HB5 hq5 S1 T1 ht
    generalize outL rd x.q.id = rd5 at *
    go_wp2_with fail
    change bodyPost _ _ _ _ _ (pset3 (w5.setCell ⟨w.heap.size, 2, none⟩ (.slice B5 rd5.length d5)) (w.heap.size + 1) (.int .i64 Q') (.slice A3 m2 cap) (.slice B5 rd5.length d5))
    generalize pset3 (w5.setCell ⟨w.heap.size, 2, none⟩ (.slice B5 rd5.length d5)) (w.heap.size + 1) (.int .i64 Q') (.slice A3 m2 cap) (.slice B5 rd5.length d5) = w9 at *
    have hS := HS.out.1.below HB9.out
    have hlen := HCP.out.2.2
    refine bodyPost_ret (v := .tuple #[Sv.val ⟨Q', xs.take i ++ xs.drop (i + 1), A3, cap, rd5, B5, d5⟩, .int .i64 0]) (res_rrem rfl rfl ?_) rfl ⟨⟨Q', xs.take i ++ xs.drop (i + 1), A3, cap, rd5, B5, d5⟩, rfl, ⟨HQ9.out, HCP.out.2.1, ?_, ?_, HR9.out, HC5.out.2, HC5.out.1⟩, HDR.out, rfl, HB9.out⟩
    · dsimp only
      rw [hlen]; exact HT9.out
    · dsimp only
      rw [hlen]; exact HCP.out.1
    · intro y hy
      rcases List.mem_append.1 hy with hy | hy
      · exact hS.ql y (List.mem_of_mem_take hy)
      · exact hS.ql y (List.mem_of_mem_drop hy)
end Go.Proofs.Ytplbdeaoeocgkaa

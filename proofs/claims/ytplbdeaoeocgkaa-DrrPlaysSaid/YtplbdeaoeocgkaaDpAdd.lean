/- Proved: what the document's Add answers. Conditions: those that the theorems name. -/
import Derived.Test.YtplbdeaoeocgkaaDpRel
namespace Go.Proofs.Ytplbdeaoeocgkaa
open Go.ChangeShapes Go.WideShapes Go.ChangeAt Go.RowKit

/-- The document's scheduler and a number come back; nothing that was there has turned. -/
def GivesP (w : World) (c : Nat → Prop) (Q : Int) (W : List (Int × Int)) (R : List Qd) (z : Int) (e : Ending) (w' : World) : Prop :=
  ∃ s : Sv, e = .returned (.tuple #[s.val, .int .i64 z]) ∧ Sg w' c s ∧ DRel s.xs s.rd W R ∧ s.Q = Q ∧ Below w.heap.size w w'
/-- A box with a scheduler, and an empty result behind it. -/
theorem pboxes (s : Sv) (w : World) : ∃ W, W = (w.alloc (.cells #[.int .i64 s.Q, .slice s.A s.xs.length s.c, .slice s.B s.rd.length s.d] 31)).alloc (.cells #[.int .i64 0, .slice none 0 0, .slice none 0 0] 31) ∧ At W w.heap.size 31 [.int .i64 s.Q, .slice s.A s.xs.length s.c, .slice s.B s.rd.length s.d] ∧ At W (w.heap.size + 1) 31 [.int .i64 0, .slice none 0 0, .slice none 0 0] ∧ Below w.heap.size w W ∧ W.heap.size = w.heap.size + 2 := by
  refine ⟨_, rfl, ?_, ?_, ?_, by simp⟩
  · exact (At.new w 31 [.int .i64 s.Q, .slice s.A s.xs.length s.c, .slice s.B s.rd.length s.d]).alloc _
  · have h := At.new (w.alloc (.cells #[.int .i64 s.Q, .slice s.A s.xs.length s.c, .slice s.B s.rd.length s.d] 31)) 31 [.int .i64 0, .slice none 0 0, .slice none 0 0]
    simpa using h
  · exact ((Below.refl _ _).alloc (Nat.le_refl _) _).alloc (by simp) _
theorem res_radd {T : Array Value} {W : World} {b : Nat} {s : Sv} {z : Int} (h2 : T.getD 6 undef = .pointer (some ⟨b, 0, none⟩)) (h3 : T.getD 7 undef = .int .i64 z) (h : At W b 31 [.int .i64 s.Q, .slice s.A s.xs.length s.c, .slice s.B s.rd.length s.d]) : (results Try.f18 T).run Try.prog W = .ok (.tuple #[s.val, .int .i64 z]) W := by
  have h2' : T[6]?.getD undef = .pointer (some ⟨b, 0, none⟩) := by simpa using h2
  have h3' : T[7]?.getD undef = .int .i64 z := by simpa using h3
  have c0 := h.cell 0 rfl
  have c1 := h.cell 1 rfl
  have c2 := h.cell 2 rfl
  simp [results, Try.results18, h2', h3', c0, c1, c2, go_sem, Sv.val]
theorem addE_bad {W : List (Int × Int)} {id wt : Int} (h : id < 0 ∨ 255 < id ∨ wt < 1 ∨ 255 < wt) : addE W id wt = 2 ∧ addW W id wt = W := by
  have : addE W id wt = 2 := if_pos h
  exact ⟨this, if_neg (by rw [this]; decide)⟩
theorem addE_twice {W : List (Int × Int)} {id wt : Int} (h : ¬ (id < 0 ∨ 255 < id ∨ wt < 1 ∨ 255 < wt)) (hw : inW W id = true) : addE W id wt = 8 ∧ addW W id wt = W := by
  have : addE W id wt = 8 := by unfold addE; rw [if_neg h, if_pos hw]
  exact ⟨this, if_neg (by rw [this]; decide)⟩
theorem addE_new {W : List (Int × Int)} {id wt : Int} (h : ¬ (id < 0 ∨ 255 < id ∨ wt < 1 ∨ 255 < wt)) (hw : inW W id = false) : addE W id wt = 0 ∧ addW W id wt = W ++ [(id, wt)] := by
  have : addE W id wt = 0 := by unfold addE; rw [if_neg h, if_neg (by rw [hw]; decide)]
  exact ⟨this, if_pos this⟩
/-- a scheduler that comes back as it was. -/
theorem p_same {w w1 : World} {c : Nat → Prop} {s : Sv} {b : Nat} {x y z : Value} {W : List (Int × Int)} {R : List Qd} {n : Int} (hs : Sg w c s) (hr : DRel s.xs s.rd W R) (h : Below w.heap.size w w1) (hb : w.heap.size ≤ b) :
    GivesP w c s.Q W R n (.returned (.tuple #[s.val, .int .i64 n])) (pset3 w1 b x y z) :=
  ⟨s, rfl, hs.below (pset3_below h (Nat.le_refl _) hb), hr, rfl, pset3_below h (Nat.le_refl _) hb⟩
set_option maxRecDepth 100000 in
set_option maxHeartbeats 1600000 in
theorem radd_bad {w : World} {c : Nat → Prop} {s : Sv} {W : List (Int × Int)} {R : List Qd} (h : Sg w c s) (r : DRel s.xs s.rd W R) {id wt : Int} (hbad : id < 0 ∨ 255 < id ∨ wt < 1 ∨ 255 < wt) :
    Calls Try.prog 18 #[s.val, .int .i64 id, .int .i64 wt] w (GivesP w c s.Q (addW W id wt) R (addE W id wt)) := by
  rw [(addE_bad hbad).1, (addE_bad hbad).2]
  obtain ⟨W1, HW, A1, A2, B1, hs⟩ := pboxes s w
  have HS := Lib.hid (And.intro h r)
  have HB := Lib.hid B1
  have HA2 := Lib.hid A2
  have c0 := A1.cell 0 rfl
  have c1 := A1.cell 1 rfl
  have c2 := A1.cell 2 rfl
  have x0 := A2.cell 0 rfl
  have x1 := A2.cell 1 rfl
  have x2 := A2.cell 2 rfl
  have y0 := A2.free 0
  have y1 := A2.free 1
  have y2 := A2.free 2
  have hq : id < 0 ∨ (¬ id < 0 ∧ 255 < id) ∨ (¬ id < 0 ∧ ¬ 255 < id ∧ wt < 1) ∨ (¬ id < 0 ∧ ¬ 255 < id ∧ ¬ wt < 1 ∧ 255 < wt) := by omega
  clear A1 A2 B1 hs h r hbad
  obtain ⟨Q, xs, A, n, rd, B, d⟩ := s
  show Calls Try.prog 18 #[.agg #[.int .i64 Q, .slice A xs.length n, .slice B rd.length d], .int .i64 id, .int .i64 wt] w _
  dsimp only at *
  rcases hq with h0 | ⟨h0, h1⟩ | ⟨h0, h1, h2⟩ | ⟨h0, h1, h2, h3⟩
  all_goals
    go_enter Try.func18, Try.ntmps18
    go_upto_region 1 with fail
    rw [← HW]; clear HW
    go_wp2_with fail
    change bodyPost _ _ _ _ _ (pset3 W1 (w.heap.size + 1) (.int .i64 Q) (.slice A xs.length n) (.slice B rd.length d))
    exact bodyPost_ret (v := .tuple #[Sv.val ⟨Q, xs, A, n, rd, B, d⟩, .int .i64 2]) (res_radd rfl rfl (pset3_at HA2.out)) rfl (p_same HS.out.1 HS.out.2 HB.out (by omega))
/-- one queue more behind an own row. -/
theorem q_one {w : World} {base n : Nat} {v : Value} {xs : List Qv} (h : w.ownsRow base 68 5 v n (qcells xs)) (hn : n ≤ 60000) (hbase : base ≤ w.heap.size) (x : Qv) :
    ∃ v' w', (Builtin.append_ #[28, 28] 28 #[v, .slice (some ⟨w.heap.size, 0, none⟩) 1 1]).run Try.prog (w.alloc (.cells #[.int .i64 x.q.id, .int .i64 x.q.w, .int .i64 x.q.d, .bool x.q.s, .slice x.A x.q.l.length x.c] 68)) = .ok v' w' ∧ w'.ownsRow base 68 5 v' (n + 1) (qcells (xs ++ [x])) ∧ (w.alloc (.cells #[.int .i64 x.q.id, .int .i64 x.q.w, .int .i64 x.q.d, .bool x.q.s, .slice x.A x.q.l.length x.c] 68)).grownBy w' v.ownBlock := by
  have hA := At.new w 68 x.cells
  obtain ⟨v', w', hr, ho, hg⟩ := run_copy (ty := 28) Try.underlying28 Try.infoQ rfl (by decide) (h.alloc (.cells #[.int .i64 x.q.id, .int .i64 x.q.w, .int .i64 x.q.d, .bool x.q.s, .slice x.A x.q.l.length x.c] 68)) (c := fun _ => True) (A := some ⟨w.heap.size, 0, none⟩) (m := 1) (cp := 1) (ys := qcells [x]) rfl (cl_at (n := 5) hA trivial rfl) (fun e => nomatch e) (qcells_one _) (by omega) (by decide) (Nat.le_trans hbase (by simp))
  exact ⟨v', w', hr, by rw [qcells_app]; exact ho, hg⟩
set_option maxRecDepth 100000 in
set_option maxHeartbeats 1600000 in
theorem radd_any {w : World} {c : Nat → Prop} {s : Sv} {W : List (Int × Int)} {R : List Qd} {Q M : Int} (h : Sg w c s) (hc : ∀ g, w.heap.size ≤ g → c g) (r : DRel s.xs s.rd W R) (k : Ok Q M W R) (id wt : Int) :
    Calls Try.prog 18 #[s.val, .int .i64 id, .int .i64 wt] w (GivesP w c s.Q (addW W id wt) R (addE W id wt)) := by
  by_cases hbad : id < 0 ∨ 255 < id ∨ wt < 1 ∨ 255 < wt
  · exact radd_bad h r hbad
  obtain ⟨W1, HW, A1, A2, B1, hs⟩ := pboxes s w
  have HS := Lib.hid (And.intro h r)
  have HB := Lib.hid B1
  have HA1 := Lib.hid A1
  have HA2 := Lib.hid A2
  have HFW := Lib.hid (r.few k)
  have HC := Lib.hid hc
  have HBD := Lib.hid hbad
  have HAT := Lib.hid (rat_any (h.below B1) (r.few k) id)
  have c0 := A1.cell 0 rfl
  have c1 := A1.cell 1 rfl
  have c2 := A1.cell 2 rfl
  have h0 : ¬ id < 0 := by omega
  have h1 : ¬ 255 < id := by omega
  have h2 : ¬ wt < 1 := by omega
  have h3 : ¬ 255 < wt := by omega
  have HZ : Hid (W1.heap.size = w.heap.size + 2) := Lib.hid hs
  clear A1 A2 B1 hs h r hbad hc
  obtain ⟨zE, hz0⟩ : ∃ z, addE W id wt = z := ⟨_, rfl⟩
  obtain ⟨WE, hw0⟩ : ∃ z, addW W id wt = z := ⟨_, rfl⟩
  have HEZ : Hid (addE W id wt = zE) := Lib.hid hz0
  have HEW : Hid (addW W id wt = WE) := Lib.hid hw0
  rw [hz0, hw0]
  clear hz0 hw0
  obtain ⟨Q', xs, A, n, rd, B, d⟩ := s
  have HAT : Hid (Calls Try.prog 22 #[.agg #[.int .i64 Q', .slice A xs.length n, .slice B rd.length d], .int .i64 id] W1 _) := HAT
  show Calls Try.prog 18 #[.agg #[.int .i64 Q', .slice A xs.length n, .slice B rd.length d], .int .i64 id, .int .i64 wt] w _
  dsimp only at HW HFW HS HA1 c0 c1 c2
  go_enter Try.func18, Try.ntmps18
  go_upto_region 1 with fail
  rw [← HW]; clear HW
  go_wp2_with fail
  refine HAT.out.mono ?_; rintro e w1 ⟨z, rfl, hz, b1⟩
  have A1 := HA1.out.below b1 HA1.out.lt
  have A2 := HA2.out.below b1 HA2.out.lt
  have HB1 := Lib.hid (HB.out.trans (b1.mono HB.out.size))
  have HB0 := Lib.hid b1
  have c0 := A1.cell 0 rfl
  have c1 := A1.cell 1 rfl
  have c2 := A1.cell 2 rfl
  have x0 := A2.cell 0 rfl
  have x1 := A2.cell 1 rfl
  have x2 := A2.cell 2 rfl
  have y0 := A2.free 0
  have y1 := A2.free 1
  have y2 := A2.free 2
  have f1 := A1.free 1
  have HP1 := Lib.hid A1
  have HP2 := Lib.hid A2
  clear A1 A2 b1 HAT HA1 HA2
  rcases hz with ⟨rfl, hn⟩ | ⟨i, x, rfl, hx, hi⟩
  · have HE := addE_new HBD.out (HS.out.2.notW hn)
    rw [HEZ.out, HEW.out] at HE
    obtain ⟨rfl, rfl⟩ := HE
    obtain ⟨v2, w2, hr1, ho1, hg1⟩ := run_copy (ty := 28) Try.underlying28 Try.infoQ rfl (by decide) (World.ownsRow_nil w1 w1.heap.size 68 5) (c := c) (A := A) (m := xs.length) (cp := n) (ys := qcells xs) (qcells_len xs) (HS.out.1.below HB1.out).qs HS.out.1.qn (qcells_one xs) (by have := HFW.out; omega) (by decide) (Nat.le_refl _)
    rw [Nat.zero_add, List.nil_append] at ho1
    have b2 : Below w1.heap.size w1 w2 := below_grown hg1 (Nat.le_refl _) (by simp [Value.ownBlock])
    obtain ⟨v3, w3, hr2, ho2, hg2⟩ := q_one ho1 (by have := HFW.out; omega) b2.size ⟨⟨id, wt, 0, false, []⟩, none, 0⟩
    have b3 : Below w1.heap.size w1 w3 := (b2.alloc b2.size _).trans (below_grown hg2 (Nat.le_trans b2.size (by simp)) fun g e => (ho1.lt g e).1)
    obtain ⟨A', cap, rfl, hcap, hno, hcl⟩ := Cl.own (c := c) ho2 (fun g hg => HC.out g (Nat.le_trans HB1.out.size hg))
    have P1 := HP1.out.below b3 HP1.out.lt
    have P2 := HP2.out.below b3 HP2.out.lt
    have HB3 := Lib.hid (HB1.out.trans (b3.mono HB1.out.size))
    have HCL := Lib.hid (And.intro hcl (And.intro hcap hno))
    have a1 := P1.cell 1 rfl
    have g1 := P1.free 1
    have S1 := P1.set_ 1 (.slice A' (xs.length + 1) cap)
    have T1 := P2.far (p := ⟨w.heap.size, 1, none⟩) (by show w.heap.size + 1 ≠ w.heap.size; omega) (.slice A' (xs.length + 1) cap)
    have d0 := S1.cell 0 rfl
    have d1 := S1.cell 1 rfl
    have d2 := S1.cell 2 rfl
    have t0 := T1.cell 0 rfl
    have t1 := T1.cell 1 rfl
    have t2 := T1.cell 2 rfl
    have k0 := T1.free 0
    have k1 := T1.free 1
    have k2 := T1.free 2
    have HT1 := Lib.hid T1
    have HB4 := Lib.hid (pset_below (j := 1) (v := .slice A' (xs.length + 1) cap) HB3.out (Nat.le_refl _) (Nat.le_refl w.heap.size))
    have HT9 := Lib.hid (pset3_at (x := .int .i64 Q') (y := .slice A' (xs.length + 1) cap) (z := .slice B rd.length d) T1)
    have HB9 := Lib.hid (pset3_below (b := w.heap.size + 1) (x := .int .i64 Q') (y := .slice A' (xs.length + 1) cap) (z := .slice B rd.length d) HB4.out (Nat.le_refl _) (by omega))
    have HC9 : Hid (Cl (pset3 (w3.setCell ⟨w.heap.size, 1, none⟩ (.slice A' (xs.length + 1) cap)) (w.heap.size + 1) (.int .i64 Q') (.slice A' (xs.length + 1) cap) (.slice B rd.length d)) c A' (qcells (xs ++ [⟨⟨id, wt, 0, false, []⟩, none, 0⟩]))) := Lib.hid (by
      obtain ⟨A2', cap2, e, _, _, hcl2⟩ := Cl.own (c := fun g => c g ∧ w.heap.size + 2 ≤ g) ho2 (fun g hg => ⟨HC.out g (Nat.le_trans HB1.out.size hg), by have := HB0.out.size; have := HZ.out; omega⟩)
      injection e with e1 e2 e3
      subst e1
      have ht : Tn (fun g => g = w.heap.size ∨ g = w.heap.size + 1) w3 (pset3 (w3.setCell ⟨w.heap.size, 1, none⟩ (.slice A' (xs.length + 1) cap)) (w.heap.size + 1) (.int .i64 Q') (.slice A' (xs.length + 1) cap) (.slice B rd.length d)) := ((((Tn.refl _ w3).set ⟨w.heap.size, 1, none⟩ _ (fun _ => Or.inl rfl)).set ⟨w.heap.size + 1, 0, none⟩ _ (fun _ => Or.inr rfl)).set ⟨w.heap.size + 1, 1, none⟩ _ (fun _ => Or.inr rfl)).set ⟨w.heap.size + 1, 2, none⟩ _ (fun _ => Or.inr rfl)
      exact (hcl2.tn ht fun g _ e f => by have := e.2; rcases f with f | f <;> omega).mono fun g _ e => e.1)
    clear b2 b3 hcl hcap hno ho1 ho2 hg1 hg2 P1 P2 S1 T1 HB4 HT1 hn
    go_upto_region 7 with (at_builtin; refine Lib.wpList_append_run _ rfl _ _ _ _ rfl _ _ rfl rfl _ _ hr1 ?_)
    clear hr1
    go_wp2_with (at_builtin; refine Lib.wpList_append_run _ rfl _ _ _ _ rfl _ _ rfl rfl _ _ hr2 ?_)
    change bodyPost _ _ _ _ _ (pset3 (w3.setCell ⟨w.heap.size, 1, none⟩ (.slice A' (xs.length + 1) cap)) (w.heap.size + 1) (.int .i64 Q') (.slice A' (xs.length + 1) cap) (.slice B rd.length d))
    generalize pset3 (w3.setCell ⟨w.heap.size, 1, none⟩ (.slice A' (xs.length + 1) cap)) (w.heap.size + 1) (.int .i64 Q') (.slice A' (xs.length + 1) cap) (.slice B rd.length d) = w9 at *
    have hS := HS.out.1.below HB9.out
    have hlen : (xs ++ [(⟨⟨id, wt, 0, false, []⟩, none, 0⟩ : Qv)]).length = xs.length + 1 := by rw [List.length_append]; rfl
    refine bodyPost_ret (v := .tuple #[Sv.val ⟨Q', xs ++ [⟨⟨id, wt, 0, false, []⟩, none, 0⟩], A', cap, rd, B, d⟩, .int .i64 0]) (res_radd rfl rfl ?_) rfl ⟨⟨Q', xs ++ [⟨⟨id, wt, 0, false, []⟩, none, 0⟩], A', cap, rd, B, d⟩, rfl, ⟨HC9.out, HCL.out.2.2, ?_, ?_, hS.rs, hS.rn, hS.rc⟩, HS.out.2.add id wt, rfl, HB9.out⟩
    · dsimp only
      rw [hlen]; exact HT9.out
    · dsimp only
      rw [hlen]; exact HCL.out.2.1
    · intro x hx
      rcases List.mem_append.1 hx with hx | hx
      · exact hS.ql x hx
      · rw [List.mem_singleton] at hx; subst hx
        exact ⟨Cl.nil _ _ _, Nat.le_refl _, fun _ => rfl⟩
  · have HE := addE_twice HBD.out ((HS.out.2.inW id).2 ⟨x, List.mem_of_getElem? hx, hi⟩)
    rw [HEZ.out, HEW.out] at HE
    obtain ⟨rfl, rfl⟩ := HE
    have hi0 : (0 : Int) ≤ (i : Int) := Int.natCast_nonneg _
    clear hx hi
    go_wp2_with fail
    change bodyPost _ _ _ _ _ (pset3 w1 (w.heap.size + 1) (.int .i64 Q') (.slice A xs.length n) (.slice B rd.length d))
    exact bodyPost_ret (v := .tuple #[Sv.val ⟨Q', xs, A, n, rd, B, d⟩, .int .i64 8]) (res_radd rfl rfl (pset3_at HP2.out)) rfl (p_same HS.out.1 HS.out.2 HB1.out (Nat.le_succ _))
end Go.Proofs.Ytplbdeaoeocgkaa

/- Proved: lemmas of one statement's proof, merged by program: what each part proves stands ahead of it. Conditions: those that the lemmas name. -/
import Derived.Test.YtooegclblgeicaaGreatDoorM23
import Derived.Test.YtooegclblgeicaaGreatDoorM24
import Derived.Recover
import Derived.Defers
import Derived.WalkLawsBesides
import Derived.Test.YtooegclblgeicaaGreatDoorM1
import Derived.Deep.RegionLaw
import Derived.Lib.AppendZeros
import Derived.Deep.RegionHeld3
import Derived.Deep.RegionWith

/- Proved: what text of package decode tells, or with which error it panics. Conditions: those that the theorems name. -/
namespace Go.Proofs.YtooegclblgeicaaGreatDoor
open Go.ChangeShapes Go.WideShapes Go.ChangeAt Go.RowKit

/-- the panic with an error. -/
abbrev pan (z : Int) : Ending := .panicked [{ v := .iface 33 (.int .i64 z), recovered := false }]
set_option maxRecDepth 100000 in
theorem must_ok (w : World) : Calls Tryz.prog 22 #[.int .i64 0] w fun e w' => e = .returned (.tuple #[]) ∧ w = w' := by
  go_enter Tryz.func22, Tryz.ntmps22
  go_wp2_with fail
  go_end0
  exact ⟨rfl, rfl⟩
set_option maxRecDepth 100000 in
theorem must_err (z : Int) (hz : z ≠ 0) (w : World) : Calls Tryz.prog 22 #[.int .i64 z] w fun e w' => e = pan z ∧ w = w' := by
  have h : (z != 0) = true := by simpa using hz
  go_enter Tryz.func22, Tryz.ntmps22
  go_wp2_with fail
  exact ⟨rfl, rfl, rfl⟩

set_option maxRecDepth 100000 in
set_option maxHeartbeats 1600000 in
theorem text_any (x : Jo) (l : List Shd) (t : ByteArray) (z : Int) (w : World) (hl : Sh w x.A x.m l) (hm : x.m ≤ 100) (h : DoIs x.k x.n x.l l t z) :
    Calls Tryz.prog 14 #[x.val] w fun e w' => e = (if z = 0 then .returned (.string t) else pan z) ∧ Below w.heap.size w w' := by
  obtain ⟨s, b, k, n, len, A, m, c⟩ := x
  have TA : Below w.heap.size w (w.alloc (.cells #[.int .i64 s, .int .u32 b, .int .i64 k, .int .i64 n, .int .i64 len, .slice A m c] 30)) := (Below.refl _ _).alloc (Nat.le_refl _) _
  have TS : (w.alloc (.cells #[.int .i64 s, .int .u32 b, .int .i64 k, .int .i64 n, .int .i64 len, .slice A m c] 30)).heap.size = w.heap.size + 1 := by simp
  have HD := Lib.hid (decode_any A m c k n l _ (hl.below TA) hm)
  have HB := Lib.hid TA
  have HA := Lib.hid (At.new w 30 [.int .i64 s, .int .u32 b, .int .i64 k, .int .i64 n, .int .i64 len, .slice A m c])
  have HT := Lib.hid TS
  change DoIs k n len l t z at h
  obtain ⟨out, hd, h⟩ := h
  have HX := Lib.hid hd
  clear hl hm TA TS hd
  rcases h with ⟨h0, ez, et⟩ | ⟨h0, ez, et⟩
  · have hz : z ≠ 0 := by omega
    rw [if_neg hz]
    have EZ := Lib.hid ez
    clear ez et h0
    go_enter Tryz.func14, Tryz.ntmps14
    go_wp2_with fail
    refine HD.out.mono ?_; rintro e w1 ⟨A1, m1, c1, out1, rfl, hd1, hs1, hb1⟩
    have HB1 := Lib.hid (HB.out.trans (hb1.mono (by rw [HT.out]; omega)))
    rw [← EZ.out]
    clear hd1 hs1 hb1
    go_wp2_with fail
    refine (must_err z hz _).mono ?_; rintro e w2 ⟨rfl, rfl⟩
    go_wp2_with fail
    exact ⟨rfl, rfl, HB1.out⟩
  · have HBd := Lib.hid (dc_bounds HX.out h0)
    have H0 := Lib.hid h0
    have EZ := Lib.hid ez
    have ET := Lib.hid et
    clear ez et h0
    by_cases hz : z = 0
    · rw [if_pos hz]
      subst hz
      go_enter Tryz.func14, Tryz.ntmps14
      go_wp2_with fail
      refine HD.out.mono ?_; rintro e w1 ⟨A1, m1, c1, out1, rfl, hd1, hs1, hb1⟩
      obtain rfl := hd1.only HX.out
      have HA1 := Lib.hid (HA.out.below hb1 (by rw [HT.out]; omega))
      have HB1 := Lib.hid (HB.out.trans (hb1.mono (by rw [HT.out]; omega)))
      have hm1 := hs1.len
      have HJ := Lib.hid (join_any A1 m1 c1 out1 len w1 hs1 (by have := HBd.out.1; omega) (fun j hj => HBd.out.2 j (by omega)))
      have c4 := HA1.out.cell 4 rfl
      have hsz := HB1.out.size
      rw [H0.out]
      clear hd1 hs1 hb1 HA HB HD HX hm1
      go_wp2_with fail
      refine (must_ok _).mono ?_; rintro e w2 ⟨rfl, rfl⟩
      go_wp2_with fail
      refine HJ.out.mono ?_; rintro e w3 ⟨rfl, hb3⟩
      have HB3 := Lib.hid (HB1.out.trans (hb3.mono hsz))
      rw [← EZ.out, ← ET.out]
      clear hb3
      go_wp2_with fail
      refine (must_ok _).mono ?_; rintro e w4 ⟨rfl, rfl⟩
      go_wp2_with fail
      go_ret
      exact ⟨rfl, HB3.out⟩
    · rw [if_neg hz]
      go_enter Tryz.func14, Tryz.ntmps14
      go_wp2_with fail
      refine HD.out.mono ?_; rintro e w1 ⟨A1, m1, c1, out1, rfl, hd1, hs1, hb1⟩
      obtain rfl := hd1.only HX.out
      have HA1 := Lib.hid (HA.out.below hb1 (by rw [HT.out]; omega))
      have HB1 := Lib.hid (HB.out.trans (hb1.mono (by rw [HT.out]; omega)))
      have hm1 := hs1.len
      have HJ := Lib.hid (join_any A1 m1 c1 out1 len w1 hs1 (by have := HBd.out.1; omega) (fun j hj => HBd.out.2 j (by omega)))
      have c4 := HA1.out.cell 4 rfl
      have hsz := HB1.out.size
      rw [H0.out]
      clear hd1 hs1 hb1 HA HB HD HX hm1
      go_wp2_with fail
      refine (must_ok _).mono ?_; rintro e w2 ⟨rfl, rfl⟩
      go_wp2_with fail
      refine HJ.out.mono ?_; rintro e w3 ⟨rfl, hb3⟩
      have HB3 := Lib.hid (HB1.out.trans (hb3.mono hsz))
      rw [← EZ.out, ← ET.out]
      clear hb3
      go_wp2_with fail
      refine (must_err z hz _).mono ?_; rintro e w4 ⟨rfl, rfl⟩
      go_wp2_with fail
      exact ⟨rfl, rfl, HB3.out⟩
end Go.Proofs.YtooegclblgeicaaGreatDoor

/- Plain lemmas on regions that draw their order: an append whose run is known, and a region that comes to its end. No condition beyond those that each lemma names. -/
namespace Go.Proofs.YtooegclblgeicaaGreatDoor
open Go.ChangeShapes Go.WideShapes Go.ChangeAt Go.RowKit

theorem step_append_run {P : Program} {w : World} {ops : Array Oper} {o : Oper} {a : Act} {K : Act → World → Prop} {Q : Exit → Act → World → Prop} {E : Prop} (hgd : o.guard = none) (s x : Operand) (t tn : TypeId)
    (ho : o.op = .call { callee := .builtin .append, args := #[s, x], argTypes := #[t, tn] }) (vs vx : Value) (hs : a.eval s = vs) (hx : a.eval x = vx)
    (v' : Value) (w' : World) (hr : (Builtin.append_ #[t, tn] o.type #[vs, vx]).run P w = .ok v' w') (h : K (a.put o.dst v') w') :
    if Region.wanted o (yielded ops a.tmps) = true then Oper.wp P o a w K Q else E := by
  have hw : Region.wanted o (yielded ops a.tmps) = true := by simp [Region.wanted, hgd]
  rw [if_pos hw]
  exact Lib.wp_append_run w s x t tn ho vs vx hs hx v' w' hr h
/-- what is asked behind a region that comes to its end. -/
def OnlyN (Q : Exit → Act → World → Prop) : Exit → Act → World → Prop
  | .normal, a, w => Q .normal a w
  | _, _, _ => False
theorem only_wp {P : Program} {c : Code} {Q : Exit → Act → World → Prop} {a : Act} {w : World} (h : c.wp P (OnlyN Q) a w) : c.wp P Q a w :=
  Code.wp_mono (fun e a w g => by
    cases e with
    | normal => exact g
    | _ => exact g.elim) h

theorem only_of {Q : Exit → Act → World → Prop} {a : Act} {w : World} (h : Q .normal a w) : OnlyN Q .normal a w := h
end Go.Proofs.YtooegclblgeicaaGreatDoor

/- Proved: what Do of package decode tells of every job. Conditions: those that the theorems name. -/
namespace Go.Proofs.YtooegclblgeicaaGreatDoor
open Go.ChangeShapes Go.WideShapes Go.ChangeAt Go.RowKit

theorem is_errno (xT : TypeId) (z : Int) (w : World) : (Instr.typeAssert (.iface 33 (.int .i64 z)) xT 33 true).run Tryz.prog w = .ok (.tuple #[.int .i64 z, .bool true]) w := by
  simp [Instr.typeAssert, go_sem]
set_option maxRecDepth 100000 in
theorem number_any (z : Int) (w : World) : Calls Tryz.prog 13 #[.iface 33 (.int .i64 z)] w fun e w' => e = .returned (.int .i64 z) ∧ w = w' := by
  have h := is_errno
  go_enter Tryz.func13, Tryz.ntmps13
  go_wp2_with fail
  go_ret
  exact ⟨rfl, rfl⟩
/-- a struct of four cells, stored. -/
def set4 (W : World) (r : Nat) (a b c d : Value) : World := ((((W.setCell ⟨r, 0, none⟩ a).setCell ⟨r, 1, none⟩ b).setCell ⟨r, 2, none⟩ c).setCell ⟨r, 3, none⟩ d)
theorem set4_at {W : World} {r : Nat} {t : TypeId} {x0 x1 x2 x3 a b c d : Value} (A : At W r t [x0, x1, x2, x3]) : At (set4 W r a b c d) r t [a, b, c, d] := ((((A.set_ 0 a).set_ 1 b).set_ 2 c).set_ 3 d)
theorem set4_grown (W : World) (r : Nat) (a b c d : Value) : W.grownBy (set4 W r a b c d) (some r) :=
  grown_trans2 (grown_trans2 (grown_trans2 (grown_set W ⟨r, 0, none⟩ a) (grown_set _ ⟨r, 1, none⟩ b)) (grown_set _ ⟨r, 2, none⟩ c)) (grown_set _ ⟨r, 3, none⟩ d)
theorem do_idle (p q : Addr) (w : World) :
    CallsD Tryz.prog 12 #[.pointer (some p), .pointer (some q)] .returning w fun e u' w' => e = .returned (.tuple #[]) ∧ u' = .returning ∧ w' = w := by
  refine callsD_of_wpS Tryz.func12 rfl fun c₀ cs hu => ?_
  apply wpS_seq
  apply wpS_region
  simp [wpOpsS, go_sem, recoverD, hu, Tryz.ntmps12, Exit.thenS]
  rw [show (#[Value.pointer (some p), Value.pointer (some q)] ++ ((Array.replicate 9 undef).setIfInBounds 1 Value.nilIface).setIfInBounds 0 Value.nilIface) = #[Value.pointer (some p), Value.pointer (some q), Value.nilIface, Value.nilIface, undef, undef, undef, undef, undef, undef, undef] from rfl]
  have hn : ∀ w, (binOp .neq 20 .nilIface .nilIface).run Tryz.prog w = .ok (.bool false) w := fun _ => by kernel_rfl
  refine wpS_of_wp ?_
  go_wp2_with fail
  cases c₀
  simp_all [bodyPostS, results, Tryz.results12]
set_option maxRecDepth 100000 in
set_option maxHeartbeats 1600000 in
theorem do_caught (x : Jo) (b r : Nat) (z : Int) (w : World) (hb : At w b 30 x.cells) (hr : At w r 35 (rcells 0 0 S0 0)) :
    CallsD Tryz.prog 12 #[.pointer (some ⟨b, 0, none⟩), .pointer (some ⟨r, 0, none⟩)] (.panicking [{ v := .iface 33 (.int .i64 z), recovered := false }]) w fun e u' w' =>
      e = .returned (.tuple #[]) ∧ u' = .panicking [{ v := .iface 33 (.int .i64 z), recovered := true }] ∧ At w' r 35 (rcells x.s x.b S0 z) ∧ w.grownBy w' (some r) := by
  refine callsD_of_wpS Tryz.func12 rfl fun c₀ cs hu => ?_
  apply wpS_seq
  apply wpS_region
  simp [wpOpsS, go_sem, recoverD, hu, Tryz.ntmps12, Exit.thenS]
  generalize hv : Value.iface 33 (.int .i64 z) = v
  rw [show (#[Value.pointer (some ⟨b, 0, none⟩), Value.pointer (some ⟨r, 0, none⟩)] ++ ((Array.replicate 9 undef).setIfInBounds 1 v).setIfInBounds 0 v) = #[Value.pointer (some ⟨b, 0, none⟩), Value.pointer (some ⟨r, 0, none⟩), v, v, undef, undef, undef, undef, undef, undef, undef] from rfl]
  subst hv
  have c0 := hb.cell 0 rfl
  have c1 := hb.cell 1 rfl
  have x0 := hr.cell 0 rfl
  have x1 := hr.cell 1 rfl
  have x2 := hr.cell 2 rfl
  have x3 := hr.cell 3 rfl
  have f0 := hr.free 0
  have f1 := hr.free 1
  have f2 := hr.free 2
  have f3 := hr.free 3
  refine wpS_of_wp ?_
  go_wp2_with fail
  go_region_with (go_at_call 13; refine (number_any _ _).mono ?_; rintro e w1 ⟨rfl, rfl⟩)
  all_goals
    exact ⟨rfl, _, rfl, _, results_none rfl _ _ _, rfl, rfl, set4_at hr, grown_trans2 (set4_grown w r _ _ _ _) (grown_drew _ _)⟩
/-- A box with the job, and an empty result behind it. -/
theorem dboxes (x : Jo) (w : World) : ∃ W, W = (w.alloc (.cells #[.int .i64 x.s, .int .u32 x.b, .int .i64 x.k, .int .i64 x.n, .int .i64 x.l, .slice x.A x.m x.c] 30)).alloc (.cells #[.int .i64 0, .int .u32 0, .string ⟨#[]⟩, .int .i64 0] 35) ∧ At W w.heap.size 30 x.cells ∧ At W (w.heap.size + 1) 35 (rcells 0 0 S0 0) ∧ Below w.heap.size w W ∧ W.heap.size = w.heap.size + 2 := by
  refine ⟨_, rfl, ?_, ?_, ?_, by simp⟩
  · exact (At.new w 30 x.cells).alloc _
  · have h := At.new (w.alloc (.cells x.cells.toArray 30)) 35 (rcells 0 0 S0 0)
    have e : (w.alloc (.cells x.cells.toArray 30)).heap.size = w.heap.size + 1 := by simp
    rw [e] at h
    exact h
  · exact ((Below.refl _ _).alloc (Nat.le_refl _) _).alloc (by simp) _

theorem res_do {T : Array Value} {W : World} {r : Nat} {s b z : Int} {t : ByteArray} (h2 : T.getD 2 undef = .pointer (some ⟨r, 0, none⟩)) (A : At W r 35 (rcells s b t z)) : (results Tryz.f8 T).run Tryz.prog W = .ok (rval s b t z) W := by
  have h2' : T[2]?.getD undef = .pointer (some ⟨r, 0, none⟩) := by simpa using h2
  have c0 := A.cell 0 rfl
  have c1 := A.cell 1 rfl
  have c2 := A.cell 2 rfl
  have c3 := A.cell 3 rfl
  simp [results, Tryz.results8, h2', c0, c1, c2, c3, go_sem]
/-- what Do has deferred. -/
abbrev dfr (b r : Nat) : Deferred := { target := .fn (.func 12) #[.pointer (some ⟨b, 0, none⟩), .pointer (some ⟨r, 0, none⟩)], args := #[] }
theorem leave_idle {T : Array Value} {w w1 : World} {b r : Nat} {s k z : Int} {t : ByteArray} (h2 : T.getD 2 undef = .pointer (some ⟨r, 0, none⟩)) (A : At w1 r 35 (rcells s k t z)) (hB : Below w.heap.size w w1) :
    Leaves Tryz.prog Tryz.f8 T (fun e w' => e = .returned (rval s k t z) ∧ Below w.heap.size w w') [dfr b r] .returning w1 := by
  refine leaves_cons (f := 12) (args := #[.pointer (some ⟨b, 0, none⟩), .pointer (some ⟨r, 0, none⟩)]) (by simp) (by simp [go_sem]) ?_
  refine (do_idle _ _ _).mono ?_
  rintro e u' w' ⟨rfl, rfl, rfl⟩
  exact ⟨_, res_do h2 A, rfl, hB⟩
theorem leave_caught {T : Array Value} {w w1 : World} {b r : Nat} {x : Jo} {z : Int} (h2 : T.getD 2 undef = .pointer (some ⟨r, 0, none⟩)) (hA : At w1 b 30 x.cells) (A : At w1 r 35 (rcells 0 0 S0 0)) (hB : Below w.heap.size w w1) (hr : w.heap.size ≤ r) :
    Leaves Tryz.prog Tryz.f8 T (fun e w' => e = .returned (rval x.s x.b S0 z) ∧ Below w.heap.size w w') [dfr b r] (.panicking [{ v := .iface 33 (.int .i64 z), recovered := false }]) w1 := by
  refine leaves_cons (f := 12) (args := #[.pointer (some ⟨b, 0, none⟩), .pointer (some ⟨r, 0, none⟩)]) (by simp) (by simp [go_sem]) ?_
  refine (do_caught x b r z w1 hA A).mono ?_
  rintro e u' w' ⟨rfl, rfl, hA', hg⟩
  exact ⟨_, res_do h2 hA', rfl, hB.grown hg hB.size (fun k e => by injection e with e; omega)⟩

set_option maxRecDepth 100000 in
set_option maxHeartbeats 1600000 in
theorem do_any (x : Jo) (l : List Shd) (t : ByteArray) (z : Int) (w : World) (hl : Sh w x.A x.m l) (hm : x.m ≤ 100) (h : DoIs x.k x.n x.l l t z) :
    Calls Tryz.prog 8 #[x.val] w fun e w' => e = .returned (rval x.s x.b t z) ∧ Below w.heap.size w w' := by
  have hmf : ∀ (fn : Fn) (first cap : Array Value) (w : World), (Instr.makeFunc fn first cap).run Tryz.prog w = .ok (.func fn first cap) w := fun _ _ _ _ => rfl
  have HT := Lib.hid (fun w0 (g : Below w.heap.size w w0) => text_any x l t z w0 (hl.below g) hm h)
  have HN := Lib.hid h.none
  obtain ⟨W, HW, A, A2, B, hs⟩ := dboxes x w
  have HA := Lib.hid A
  have HA2 := Lib.hid A2
  have HB := Lib.hid B
  have HS := Lib.hid hs
  have c0 := A.cell 0 rfl
  have c1 := A.cell 1 rfl
  have c2 := A.cell 2 rfl
  have c3 := A.cell 3 rfl
  have c4 := A.cell 4 rfl
  have c5 := A.cell 5 rfl
  have x0 := A2.cell 0 rfl
  have x1 := A2.cell 1 rfl
  have x2 := A2.cell 2 rfl
  have x3 := A2.cell 3 rfl
  have f0 := A2.free 0
  have f1 := A2.free 1
  have f2 := A2.free 2
  have f3 := A2.free 3
  clear A A2 B hs hl hm h
  by_cases hz : z = 0
  · subst hz
    replace HT := Lib.hid (fun w0 g => (HT.out w0 g).mono (fun e w' h => (⟨h.1.trans (if_pos rfl), h.2⟩ : e = .returned (.string t) ∧ Below w0.heap.size w0 w')))
    go_enter_defers Tryz.func8, Tryz.ntmps8
    go_wp2_with fail
    rw [← HW]; clear HW
    refine only_wp ?_
    go_region_with (go_at_call 14; refine (HT.out _ (by first | exact HB.out | exact HB.out.drew)).mono ?_; rintro e w1 ⟨rfl, hb⟩; have hb' : Below W.heap.size W w1 := ⟨hb.os, hb.tape, hb.output, hb.size, hb.block⟩; have HA1 : Hid (At w1 w.heap.size 30 x.cells) := Lib.hid (HA.out.below hb' (by show _ < W.heap.size; have := HS.out; omega)); have HR1 : Hid (At w1 (w.heap.size + 1) 35 (rcells 0 0 S0 0)) := Lib.hid (HA2.out.below hb' (by show _ < W.heap.size; have := HS.out; omega)); have HB1 : Hid (Below w.heap.size w w1) := Lib.hid (HB.out.trans (hb'.mono (by have := HS.out; omega))); have d0 := HA1.out.cell 0 rfl; have d1 := HA1.out.cell 1 rfl; have y0 := HR1.out.cell 0 rfl; have y1 := HR1.out.cell 1 rfl; have y2 := HR1.out.cell 2 rfl; have y3 := HR1.out.cell 3 rfl; have q0 := HR1.out.free 0; have q1 := HR1.out.free 1; have q2 := HR1.out.free 2; have q3 := HR1.out.free 3; clear hb hb')
    all_goals
      refine only_of ?_
      change Exit.then _ _ _ _ (set4 w1 (w.heap.size + 1) _ _ _ _)
      have HR2 := Lib.hid (set4_at (a := .int .i64 x.s) (b := .int .u32 x.b) (c := .string t) (d := .int .i64 0) HR1.out)
      have HB2 : Hid (Below w.heap.size w (set4 w1 (w.heap.size + 1) (.int .i64 x.s) (.int .u32 x.b) (.string t) (.int .i64 0))) := Lib.hid (HB1.out.grown (set4_grown w1 (w.heap.size + 1) _ _ _ _) HB1.out.size (fun k e => by injection e with e; omega))
      generalize set4 w1 (w.heap.size + 1) (.int .i64 x.s) (.int .u32 x.b) (.string t) (.int .i64 0) = w2 at *
      clear x0 x1 x2 x3 f0 f1 f2 f3 y0 y1 y2 y3 q0 q1 q2 q3 d0 d1
      go_wp2_with fail
      exact leave_idle rfl HR2.out HB2.out
  · replace HT := Lib.hid (fun w0 g => (HT.out w0 g).mono (fun e w' h => (⟨h.1.trans (if_neg hz), h.2⟩ : e = pan z ∧ Below w0.heap.size w0 w')))
    go_enter_defers Tryz.func8, Tryz.ntmps8
    go_wp2_with fail
    rw [← HW]; clear HW
    have ht := HN.out hz
    subst ht
    refine wp_region_any (by kernel_rfl) ?_
    change wpAny _ _ _ _ _ _ _ (World.drew _)
    refine wpAny_ready (rs := [0, 2]) (by kernel_rfl) (by simp) ?_
    refine AllReady.cons rfl (fun K hK => ?_) ?_
    · go_simp
      refine hK _ _ ?_; clear hK K
      refine wpAny_ready (rs := [1, 2]) (by kernel_rfl) (by simp) ?_
      refine AllReady.cons rfl (fun K hK => ?_) ?_
      · go_simp
        refine hK _ _ ?_; clear hK K
        refine wpAny_ready (rs := [2]) (by kernel_rfl) (by simp) ?_
        refine AllReady.cons rfl (fun K hK => ?_) ?_
        · go_simp
          refine hK _ _ ?_; clear hK K
          refine wpAny_ready (rs := [3]) (by kernel_rfl) (by simp) ?_
          refine AllReady.cons rfl (fun K hK => ?_) ?_
          · go_simp
            refine (HT.out _ HB.out.drew).mono ?_
            rintro e w1 ⟨rfl, hb⟩
            have hb' : Below W.heap.size W w1 := ⟨hb.os, hb.tape, hb.output, hb.size, hb.block⟩
            show Leaves Tryz.prog Tryz.f8 _ _ _ _ _
            exact leave_caught rfl (HA.out.below hb' (by have := HS.out; omega)) (HA2.out.below hb' (by have := HS.out; omega)) (HB.out.trans (hb'.mono (by have := HS.out; omega))) (by omega)
          exact AllReady.nil
        exact AllReady.nil
      refine AllReady.cons rfl (fun K hK => ?_) ?_
      · go_simp
        refine hK _ _ ?_; clear hK K
        refine wpAny_ready (rs := [1, 3]) (by kernel_rfl) (by simp) ?_
        refine AllReady.cons rfl (fun K hK => ?_) ?_
        · go_simp
          refine hK _ _ ?_; clear hK K
          refine wpAny_ready (rs := [3]) (by kernel_rfl) (by simp) ?_
          refine AllReady.cons rfl (fun K hK => ?_) ?_
          · go_simp
            refine (HT.out _ HB.out.drew).mono ?_
            rintro e w1 ⟨rfl, hb⟩
            have hb' : Below W.heap.size W w1 := ⟨hb.os, hb.tape, hb.output, hb.size, hb.block⟩
            show Leaves Tryz.prog Tryz.f8 _ _ _ _ _
            exact leave_caught rfl (HA.out.below hb' (by have := HS.out; omega)) (HA2.out.below hb' (by have := HS.out; omega)) (HB.out.trans (hb'.mono (by have := HS.out; omega))) (by omega)
          exact AllReady.nil
        refine AllReady.cons rfl (fun K hK => ?_) ?_
        · go_simp
          refine (HT.out _ HB.out.drew).mono ?_
          rintro e w1 ⟨rfl, hb⟩
          have hb' : Below W.heap.size W w1 := ⟨hb.os, hb.tape, hb.output, hb.size, hb.block⟩
          show Leaves Tryz.prog Tryz.f8 _ _ _ _ _
          exact leave_caught rfl (HA.out.below hb' (by have := HS.out; omega)) (HA2.out.below hb' (by have := HS.out; omega)) (HB.out.trans (hb'.mono (by have := HS.out; omega))) (by omega)
        exact AllReady.nil
      exact AllReady.nil
    refine AllReady.cons rfl (fun K hK => ?_) ?_
    · go_simp
      refine hK _ _ ?_; clear hK K
      refine wpAny_ready (rs := [0, 3]) (by kernel_rfl) (by simp) ?_
      refine AllReady.cons rfl (fun K hK => ?_) ?_
      · go_simp
        refine hK _ _ ?_; clear hK K
        refine wpAny_ready (rs := [1, 3]) (by kernel_rfl) (by simp) ?_
        refine AllReady.cons rfl (fun K hK => ?_) ?_
        · go_simp
          refine hK _ _ ?_; clear hK K
          refine wpAny_ready (rs := [3]) (by kernel_rfl) (by simp) ?_
          refine AllReady.cons rfl (fun K hK => ?_) ?_
          · go_simp
            refine (HT.out _ HB.out.drew).mono ?_
            rintro e w1 ⟨rfl, hb⟩
            have hb' : Below W.heap.size W w1 := ⟨hb.os, hb.tape, hb.output, hb.size, hb.block⟩
            show Leaves Tryz.prog Tryz.f8 _ _ _ _ _
            exact leave_caught rfl (HA.out.below hb' (by have := HS.out; omega)) (HA2.out.below hb' (by have := HS.out; omega)) (HB.out.trans (hb'.mono (by have := HS.out; omega))) (by omega)
          exact AllReady.nil
        refine AllReady.cons rfl (fun K hK => ?_) ?_
        · go_simp
          refine (HT.out _ HB.out.drew).mono ?_
          rintro e w1 ⟨rfl, hb⟩
          have hb' : Below W.heap.size W w1 := ⟨hb.os, hb.tape, hb.output, hb.size, hb.block⟩
          show Leaves Tryz.prog Tryz.f8 _ _ _ _ _
          exact leave_caught rfl (HA.out.below hb' (by have := HS.out; omega)) (HA2.out.below hb' (by have := HS.out; omega)) (HB.out.trans (hb'.mono (by have := HS.out; omega))) (by omega)
        exact AllReady.nil
      refine AllReady.cons rfl (fun K hK => ?_) ?_
      · go_simp
        refine (HT.out _ HB.out.drew).mono ?_
        rintro e w1 ⟨rfl, hb⟩
        have hb' : Below W.heap.size W w1 := ⟨hb.os, hb.tape, hb.output, hb.size, hb.block⟩
        show Leaves Tryz.prog Tryz.f8 _ _ _ _ _
        exact leave_caught rfl (HA.out.below hb' (by have := HS.out; omega)) (HA2.out.below hb' (by have := HS.out; omega)) (HB.out.trans (hb'.mono (by have := HS.out; omega))) (by omega)
      exact AllReady.nil
    exact AllReady.nil
end Go.Proofs.YtooegclblgeicaaGreatDoor

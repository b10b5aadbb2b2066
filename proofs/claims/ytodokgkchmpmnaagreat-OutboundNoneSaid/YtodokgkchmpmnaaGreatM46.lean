/- Proved: lemmas of one statement's proof, merged by program: what each part proves stands ahead of it. Conditions: those that the lemmas name. -/
import Derived.Test.YtodokgkchmpmnaaGreatM44
import Derived.Test.YtodokgkchmpmnaaGreatM45
import Derived.BigQuiet

/- Proved: what Write, Close, Room, Finished, Fin and lets of package outbound answer and leave. Conditions: those that the theorems name. -/
namespace Go.Proofs.YtodokgkchmpmnaaGreat
open Go.ChangeShapes Go.WideShapes Go.ChangeAt Go.RowKit

/-- A value comes back; what a stream sends stands then as M' says; of what was there nothing else has turned. -/
def GivesOb (W : World) (Y : ObY) (v : Value) (M' : ObM) (e : Ending) (w' : World) : Prop := e = .returned v ∧ ∃ Y', Ob w' Y' M' ∧ ObT W w' Y Y'
section
variable {w : World} {Y : ObY} {M : ObM}
theorem ob_write_closed (h : Ob w Y M) (hc : M.cl = true) (t : ByteArray) :
    Calls Tryz.prog 6 #[.pointer (some ⟨Y.o, 0, none⟩), .string t] w fun e w' => e = .returned (.int .i64 0) ∧ w = w' := by
  have c17 : w.cell? ⟨Y.o, 17, none⟩ = some (.bool true) := by rw [← hc]; exact h.m.own.cell 17 rfl
  clear h hc
  generalize Y.o = o at *
  go_enter Tryz.func6, Tryz.ntmps6
  go_wp2_with fail
  go_ret
  exact ⟨rfl, rfl⟩
/-- as many bytes come in as there is room for. -/
abbrev wrK (M : ObM) (t : ByteArray) : Nat := min t.size (M.c.b.toNat - M.s.size)
theorem ob_write (h : Ob w Y M) (hc : M.cl = false) (t : ByteArray) :
    Calls Tryz.prog 6 #[.pointer (some ⟨Y.o, 0, none⟩), .string t] w (GivesOb w Y (.int .i64 (wrK M t : Nat)) { M with s := M.s ++ t.extract 0 (wrK M t) }) := by
  have c17 : w.cell? ⟨Y.o, 17, none⟩ = some (.bool false) := by rw [← hc]; exact h.m.own.cell 17 rfl
  have c12 : w.cell? ⟨Y.o, 12, none⟩ = some (.pointer (some ⟨Y.B, 0, none⟩)) := h.m.own.cell 12 rfl
  have HW := Lib.hid (bl_write _ _ _ _ _ _ t w h.m.p.bk)
  have HH := Lib.hid h.i
  have HK := Lib.hid (fun W (g' : Option Nat) (s' : ByteArray) (hb : Bk W Y.B Y.q (M.c.k * M.c.s).toNat M.c.b.toNat g' s') (ht : Turns w W Y.q Y.g) (hg : Grows w Y.g g') => h.m.ring_ hb ht hg)
  clear h hc
  generalize HO : Y.o = o at *
  generalize Y.B = B at *
  go_enter Tryz.func6, Tryz.ntmps6
  go_wp2_with fail
  refine HW.out.mono ?_; rintro e w1 ⟨rfl, g', hb, ht, hg⟩
  have HR := Lib.hid (HK.out _ _ _ hb ht hg)
  clear hb ht hg
  go_wp2_with fail
  go_ret
  exact ⟨rfl, _, ⟨HR.out.1, ⟨HH.out.ok, HH.out.same, HH.out.good, HH.out.fit⟩⟩, HR.out.2⟩
theorem ob_close (h : Ob w Y M) (hc : M.cl = false) :
    Calls Tryz.prog 7 #[.pointer (some ⟨Y.o, 0, none⟩)] w (GivesOb w Y (.int .i64 0) { M with cl := true }) := by
  have c17 : w.cell? ⟨Y.o, 17, none⟩ = some (.bool false) := by rw [← hc]; exact h.m.own.cell 17 rfl
  have f17 := h.m.own.free 17
  have HR := Lib.hid (h.m.cl_ true)
  have HI := Lib.hid h.i
  clear h hc
  generalize HO : Y.o = o at *
  go_enter Tryz.func7, Tryz.ntmps7
  go_wp2_with fail
  go_ret
  exact ⟨rfl, _, ⟨HR.out.1, ⟨HI.out.ok, HI.out.same, HI.out.good, HI.out.fit⟩⟩, HR.out.2⟩
theorem ob_close_closed (h : Ob w Y M) (hc : M.cl = true) :
    Calls Tryz.prog 7 #[.pointer (some ⟨Y.o, 0, none⟩)] w fun e w' => e = .returned (.int .i64 11) ∧ w = w' := by
  have c17 : w.cell? ⟨Y.o, 17, none⟩ = some (.bool true) := by rw [← hc]; exact h.m.own.cell 17 rfl
  clear h hc
  generalize HO : Y.o = o at *
  go_enter Tryz.func7, Tryz.ntmps7
  go_wp2_with fail
  go_ret
  exact ⟨rfl, rfl⟩
theorem ob_finished (h : Ob w Y M) :
    Calls Tryz.prog 12 #[.pointer (some ⟨Y.o, 0, none⟩)] w fun e w' => e = .returned (.bool M.fin) ∧ w = w' := by
  have c18 : w.cell? ⟨Y.o, 18, none⟩ = some (.bool M.fin) := h.m.own.cell 18 rfl
  clear h
  generalize HO : Y.o = o at *
  generalize M.fin = q at *
  go_enter Tryz.func12, Tryz.ntmps12
  go_wp2_with fail
  go_ret
  exact ⟨rfl, rfl⟩
set_option maxRecDepth 100000 in
set_option maxHeartbeats 1600000 in
theorem ob_fin_open (h : Ob w Y M) (hc : M.cl = false) :
    Calls Tryz.prog 5 #[.pointer (some ⟨Y.o, 0, none⟩)] w fun e w' => e = .returned (.tuple #[.int .u32 M.nx, .bool false]) ∧ Below w.heap.size w w' := by
  have HN := Lib.hid (fun W (q : Ob W Y M) => flc_next _ _ _ _ W q.m.p.fl.c)
  have HL := Lib.hid (fun W (q : Ob W Y M) => bl_len _ _ _ _ _ _ W q.m.p.bk)
  have KP : Hid (∀ W, Ob W Y M → W.cell? ⟨Y.o, 12, none⟩ = some (.pointer (some ⟨Y.B, 0, none⟩)) ∧ W.cell? ⟨Y.o, 13, none⟩ = some (.pointer (some ⟨Y.f, 0, none⟩)) ∧ W.cell? ⟨Y.o, 17, none⟩ = some (.bool false) ∧ W.cell? ⟨Y.o, 18, none⟩ = some (.bool M.fin)) := Lib.hid fun W q => ⟨q.m.own.cell 12 rfl, q.m.own.cell 13 rfl, by rw [← hc]; exact q.m.own.cell 17 rfl, q.m.own.cell 18 rfl⟩
  have HW := Lib.hid h
  obtain ⟨k12, k13, k17, k18⟩ := KP.out _ h
  clear h hc
  generalize HO : Y.o = o at *
  generalize Y.B = B at *
  generalize Y.f = f at *
  generalize M.nx = nx at *
  generalize M.fin = q at *
  go_enter Tryz.func5, Tryz.ntmps5
  go_wp2_with fail
  go_quiet ((go_at_call 18; exact Calls.quiet_of_same ((HN.out _ (HW.out.drewN _)).mono fun _ _ h => ⟨h.1, h.2.symm⟩)))
  go_wp2_with fail
  go_ret2
  exact ⟨rfl, two_drawn ⟨_, rfl⟩⟩
set_option maxRecDepth 100000 in
set_option maxHeartbeats 1600000 in
theorem ob_fin_all (h : Ob w Y M) (hc : M.cl = true) (hs : M.s.size = 0) :
    Calls Tryz.prog 5 #[.pointer (some ⟨Y.o, 0, none⟩)] w fun e w' => e = .returned (.tuple #[.int .u32 M.nx, .bool (!M.fin)]) ∧ Below w.heap.size w w' := by
  have HN := Lib.hid (fun W (q : Ob W Y M) => flc_next _ _ _ _ W q.m.p.fl.c)
  have HL := Lib.hid (fun W (q : Ob W Y M) => bl_len _ _ _ _ _ _ W q.m.p.bk)
  have KP : Hid (∀ W, Ob W Y M → W.cell? ⟨Y.o, 12, none⟩ = some (.pointer (some ⟨Y.B, 0, none⟩)) ∧ W.cell? ⟨Y.o, 13, none⟩ = some (.pointer (some ⟨Y.f, 0, none⟩)) ∧ W.cell? ⟨Y.o, 17, none⟩ = some (.bool true) ∧ W.cell? ⟨Y.o, 18, none⟩ = some (.bool M.fin)) := Lib.hid fun W q => ⟨q.m.own.cell 12 rfl, q.m.own.cell 13 rfl, by rw [← hc]; exact q.m.own.cell 17 rfl, q.m.own.cell 18 rfl⟩
  have HQ : Hid (Ob w.drew Y M ∧ Below w.heap.size w w.drew) := Lib.hid ⟨h.tn ((Tn.refl Nil w).drew) (fun _ _ e => e), (Below.refl _ _).drew⟩
  obtain ⟨k12, k13, k17, k18⟩ := KP.out _ HQ.out.1
  have KB : Hid (∀ W W', Ob W Y M ∧ Below w.heap.size w W → Below W.heap.size W W' → Ob W' Y M ∧ Below w.heap.size w W') := Lib.hid fun W W' a b => ⟨a.1.below b, a.2.trans (b.mono a.2.size)⟩
  have e0 : ((M.s.size : Int) == 0) = true := by simp [hs]
  clear h hc hs
  generalize HO : Y.o = o at *
  generalize Y.B = B at *
  generalize Y.f = f at *
  generalize M.nx = nx at *
  generalize HZ : (M.s.size : Int) = z at *
  generalize M.fin = q at *
  go_enter Tryz.func5, Tryz.ntmps5
  go_wp2_with fail
  go_region_with (first | (go_at_call 18; (with_reducible refine (HN.out _ HQ.out.1).mono ?_); rintro e wq ⟨rfl, rfl⟩) | (go_at_call 19; (with_reducible refine (HL.out _ HQ.out.1).mono ?_); rintro e wq ⟨rfl, gq⟩; have QN := Lib.hid (KB.out _ _ HQ.out gq); clear gq HQ; have HQ := QN; clear QN; obtain ⟨k12, k13, k17, k18⟩ := KP.out _ HQ.out.1))
  all_goals
    go_wp2_with fail
    go_ret2
    exact ⟨rfl, HQ.out.2⟩
/-- may one more block fly? -/
abbrev letB (M : ObM) : Bool := decide ((M.L.length : Int) < M.c.w) && decide (0 < ah M.nx M.a)
set_option maxRecDepth 100000 in
set_option maxHeartbeats 1600000 in
theorem ob_lets (h : Ob w Y M) :
    Calls Tryz.prog 21 #[.pointer (some ⟨Y.o, 0, none⟩)] w fun e w' => e = .returned (.bool (letB M)) ∧ ∃ m, w' = w.drewN m := by
  have HN := Lib.hid (fun W (q : Ob W Y M) => flc_next _ _ _ _ W q.m.p.fl.c)
  have HL := Lib.hid (fun W (q : Ob W Y M) => flc_len _ _ _ _ W q.m.p.fl.c)
  have HE := Lib.hid (fun W (q : Ob W Y M) => cr_lets q.m.p.ce q.m.p.fl.u32)
  have HW := Lib.hid h
  have k3 : w.cell? ⟨Y.o, 3, none⟩ = some (.int .i64 M.c.w) := h.m.own.cell 3 rfl
  have k13 : w.cell? ⟨Y.o, 13, none⟩ = some (.pointer (some ⟨Y.f, 0, none⟩)) := h.m.own.cell 13 rfl
  have k14 : w.cell? ⟨Y.o, 14, none⟩ = some (.pointer (some ⟨Y.ed, 0, none⟩)) := h.m.own.cell 14 rfl
  clear h
  unfold letB
  generalize HO : Y.o = o at *
  generalize Y.f = f at *
  generalize Y.ed = ed at *
  generalize M.nx = nx at *
  generalize decide (0 < ah nx M.a) = q at *
  generalize M.c.w = wd at *
  by_cases hl : (M.L.length : Int) < wd
  · rw [decide_eq_true hl, Bool.true_and]
    have hd : decide ((M.L.length : Int) < wd) = true := decide_eq_true hl
    generalize (M.L.length : Int) = n at *
    go_enter Tryz.func21, Tryz.ntmps21
    go_wp2_with fail
    go_quiet ((first | (go_at_call 18; exact Calls.quiet_of_same ((HN.out _ (HW.out.drewN _)).mono fun _ _ h => ⟨h.1, h.2.symm⟩)) | (go_at_call 23; exact Calls.quiet_of_same ((HL.out _ (HW.out.drewN _)).mono fun _ _ h => ⟨h.1, h.2.symm⟩)) | (go_at_call 45; exact Calls.quiet_of_same ((HE.out _ (HW.out.drewN _)).mono fun _ _ h => ⟨h.1, h.2.symm⟩))))
    go_wp2_with fail
    go_ret
    exact ⟨rfl, _, rfl⟩
  · rw [decide_eq_false hl, Bool.false_and]
    have hd : decide ((M.L.length : Int) < wd) = false := decide_eq_false hl
    generalize (M.L.length : Int) = n at *
    go_enter Tryz.func21, Tryz.ntmps21
    go_wp2_with fail
    go_quiet ((go_at_call 23; exact Calls.quiet_of_same ((HL.out _ (HW.out.drewN _)).mono fun _ _ h => ⟨h.1, h.2.symm⟩)))
    go_wp2_with fail
    go_ret
    exact ⟨rfl, _, rfl⟩
end
end Go.Proofs.YtodokgkchmpmnaaGreat

/- Proved: what sheafOf, datagramOf and firstOf of package outbound answer. Conditions: those that the theorems name. -/
namespace Go.Proofs.YtodokgkchmpmnaaGreat
open Go.ChangeShapes Go.WideShapes Go.ChangeAt Go.RowKit

theorem ob_ah {nx : Int} {n i : Nat} (h : i < 1000) : ah (fb nx n) (fno nx n i) = (i : Nat) := by unfold ah fno wpl fb; omega
theorem ob_in {nx : Int} {n i : Nat} (h : i < n) (hn : n ≤ 64) : inZ (fno nx n i) (fb nx n) (n : Nat) = true := by
  unfold inZ
  rw [ob_ah (by omega)]
  simp
  omega
/-- no sheaf's cells. -/
abbrev obS0 : List Value := [.slice none 0 0, .int .i64 0, .int .i64 0]
theorem ob_sbox (w : World) : ∃ W, W = w.alloc (.cells #[.slice none 0 0, .int .i64 0, .int .i64 0] 55) ∧ At W w.heap.size 55 obS0 ∧ Below w.heap.size w W := ⟨_, rfl, At.new w 55 obS0, (Below.refl _ _).alloc (Nat.le_refl _) _⟩
section
variable {w : World} {Y : ObY} {M : ObM}
set_option maxRecDepth 100000 in
set_option maxHeartbeats 1600000 in
theorem ob_sheaf_out (h : Ob w Y M) (x : Int) (hx : U32 x) (hi : inZ x (fb M.nx M.L.length) (M.S.length : Nat) = false) :
    Calls Tryz.prog 16 #[.pointer (some ⟨Y.o, 0, none⟩), .int .u32 x] w fun e w' => e = .returned (.tuple #[.agg #[.slice none 0 0, .int .i64 0, .int .i64 0], .bool false]) ∧ Below w.heap.size w w' := by
  obtain ⟨w1, HW, hx1, hb1⟩ := ob_sbox w
  have HX1 := Lib.hid hx1
  have HB1 := Lib.hid hb1
  have h1 := h.below hb1
  have HBS := Lib.hid (flc_base _ _ _ _ w1 h1.m.p.fl.c h1.m.p.fl.n64)
  have HIN := Lib.hid (fun W => within_any x (fb M.nx M.L.length) (M.S.length : Nat) hx (fb_u32 _ _) W)
  rw [hi] at HIN
  have k13 : w1.cell? ⟨Y.o, 13, none⟩ = some (.pointer (some ⟨Y.f, 0, none⟩)) := h1.m.own.cell 13 rfl
  obtain ⟨A, cap, hv⟩ := h.m.p.sh.form
  have k15 : w1.cell? ⟨Y.o, 15, none⟩ = some (.slice A M.S.length cap) := by rw [← hv]; exact h1.m.own.cell 15 rfl
  clear h hx1 hb1 h1 hi hv
  generalize HO : Y.o = o at *
  generalize Y.f = f at *
  generalize fb M.nx M.L.length = b at *
  generalize M.S.length = n at *
  go_enter Tryz.func16, Tryz.ntmps16
  go_upto_region 1 with fail
  rw [← HW]; clear HW
  generalize hbx : w.heap.size = bx at *
  have HBX : Hid (w.heap.size = bx) := Lib.hid hbx
  clear hbx
  have c0 : w1.cell? ⟨bx, 0, none⟩ = some (.slice none 0 0) := HX1.out.cell 0 rfl
  have c1 : w1.cell? ⟨bx, 1, none⟩ = some (.int .i64 0) := HX1.out.cell 1 rfl
  have c2 : w1.cell? ⟨bx, 2, none⟩ = some (.int .i64 0) := HX1.out.cell 2 rfl
  have f0 := HX1.out.free 0
  have f1 := HX1.out.free 1
  have f2 := HX1.out.free 2
  go_wp2_with fail
  refine HBS.out.mono ?_; rintro e w2 ⟨rfl, rfl⟩
  go_wp2_with fail
  refine (HIN.out _).mono ?_; rintro e w2 ⟨rfl, rfl⟩
  go_wp2_with fail
  exact bodyPost_ret (v := .tuple #[.agg #[.slice none 0 0, .int .i64 0, .int .i64 0], .bool false]) (res_sheaf rfl rfl (((HX1.out.set_ 0 _).set_ 1 _).set_ 2 _)) rfl ⟨rfl, by rw [HBX.out]; exact pset_below (pset_below (pset_below HB1.out (by rw [HBX.out]; exact Nat.le_refl _) (Nat.le_refl _)) (by rw [HBX.out]; exact Nat.le_refl _) (Nat.le_refl _)) (by rw [HBX.out]; exact Nat.le_refl _) (Nat.le_refl _)⟩
set_option maxRecDepth 100000 in
set_option maxHeartbeats 1600000 in
theorem ob_sheaf_in (h : Ob w Y M) {i g : Nat} {sf : ObS} (h1 : Y.hs[i]? = some g) (h2 : M.S[i]? = some sf) :
    Calls Tryz.prog 16 #[.pointer (some ⟨Y.o, 0, none⟩), .int .u32 (fno M.nx M.L.length i)] w fun e w' => e = .returned (.tuple #[.agg #[sf.v g, .int .i64 (sf.m : Nat), .int .i64 (sf.z : Nat)], .bool true]) ∧ Below w.heap.size w w' := by
  obtain ⟨w1, HW, hx1, hb1⟩ := ob_sbox w
  have HX1 := Lib.hid hx1
  have HB1 := Lib.hid hb1
  have hL := h.m.p.fl.n64
  have hi : i < M.S.length := (List.getElem?_eq_some_iff.1 h2).1
  have hi2 : i < M.L.length := by rw [← h.i.same]; exact hi
  have hx : U32 (fno M.nx M.L.length i) := wpl_u32 _ _
  have hah : ah (fb M.nx M.L.length) (fno M.nx M.L.length i) = (i : Nat) := ob_ah (by omega)
  have hin : inZ (fno M.nx M.L.length i) (fb M.nx M.L.length) (M.S.length : Nat) = true := by rw [h.i.same]; exact ob_in hi2 hL
  have hk1 := h.below hb1
  have HBS := Lib.hid (flc_base _ _ _ _ w1 hk1.m.p.fl.c hk1.m.p.fl.n64)
  have HIN := Lib.hid (fun W => within_any (fno M.nx M.L.length i) (fb M.nx M.L.length) (M.S.length : Nat) hx (fb_u32 _ _) W)
  rw [hin] at HIN
  have HAH := Lib.hid (fun W => ahead_any (fb M.nx M.L.length) (fno M.nx M.L.length i) (fb_u32 _ _) hx W)
  rw [hah] at HAH
  have k13 : w1.cell? ⟨Y.o, 13, none⟩ = some (.pointer (some ⟨Y.f, 0, none⟩)) := hk1.m.own.cell 13 rfl
  obtain ⟨gr, oo, cap, hr, hv, hgl, hcap, hcs, hfr⟩ := hk1.m.p.sh.head (by omega)
  have k15 : w1.cell? ⟨Y.o, 15, none⟩ = some (.slice (some ⟨gr, oo, none⟩) M.S.length cap) := by rw [← hv]; exact hk1.m.own.cell 15 rfl
  obtain ⟨e0, e1, e2⟩ := obSf_at Y.hs M.S i g sf h1 h2
  have s0 : w1.cell? ⟨gr, oo + i * 3, none⟩ = some (.slice (some ⟨g, 0, none⟩) sf.T.length sf.T.length) := hcs _ _ e0
  have s1 : w1.cell? ⟨gr, oo + i * 3 + 1, none⟩ = some (.int .i64 (sf.m : Nat)) := hcs _ _ e1
  have s2 : w1.cell? ⟨gr, oo + i * 3 + 2, none⟩ = some (.int .i64 (sf.z : Nat)) := hcs _ _ e2
  have hi0 : (0 : Int) ≤ (i : Nat) := Int.natCast_nonneg _
  have hi1 : ((i : Nat) : Int) < (M.S.length : Nat) := by omega
  unfold ObS.v
  clear h hx1 hb1 hk1 hv hcs hfr hgl hcap hr e0 e1 e2 h1 h2 hin hah hx hL hi2
  generalize HO : Y.o = o at *
  generalize Y.f = f at *
  generalize fno M.nx M.L.length i = x at *
  generalize fb M.nx M.L.length = b at *
  generalize M.S.length = n at *
  generalize sf.T.length = tl at *
  generalize sf.m = sm at *
  generalize sf.z = sz at *
  go_enter Tryz.func16, Tryz.ntmps16
  go_upto_region 1 with fail
  rw [← HW]; clear HW
  generalize hbx : w.heap.size = bx at *
  have HBX : Hid (w.heap.size = bx) := Lib.hid hbx
  clear hbx
  go_wp2_with fail
  refine HBS.out.mono ?_; rintro e w2 ⟨rfl, rfl⟩
  go_wp2_with fail
  refine (HIN.out _).mono ?_; rintro e w2 ⟨rfl, rfl⟩
  go_wp2_with fail
  refine wp_region_still_tail 9 (by kernel_rfl) (by kernel_rfl) ?_
  simp only [List.take_succ_cons, List.take_zero, List.drop_succ_cons, List.drop_zero]
  repeat still_step
  still_call ((HAH.out _).mono fun _ _ h => ⟨h.1, h.2.symm⟩)
  repeat still_step
  refine wpStill_nil ?_
  change wpList _ _ _ _ _ w1.drew
  have HX2 : Hid (At w1.drew bx 55 obS0) := Lib.hid HX1.out
  have HB2 : Hid (Below bx w w1.drew) := Lib.hid HB1.out.drew
  clear HX1 HB1 k13 k15 s0 s1 s2
  generalize w1.drew = w2 at *
  have c0 : w2.cell? ⟨bx, 0, none⟩ = some (.slice none 0 0) := HX2.out.cell 0 rfl
  have c1 : w2.cell? ⟨bx, 1, none⟩ = some (.int .i64 0) := HX2.out.cell 1 rfl
  have c2 : w2.cell? ⟨bx, 2, none⟩ = some (.int .i64 0) := HX2.out.cell 2 rfl
  have f0 := HX2.out.free 0
  have f1 := HX2.out.free 1
  have f2 := HX2.out.free 2
  go_wp2_with fail
  exact bodyPost_ret (v := .tuple #[.agg #[.slice (some ⟨g, 0, none⟩) tl tl, .int .i64 (sm : Nat), .int .i64 (sz : Nat)], .bool true]) (res_sheaf rfl rfl (((HX2.out.set_ 0 _).set_ 1 _).set_ 2 _)) rfl ⟨rfl, by rw [HBX.out]; exact pset_below (pset_below (pset_below HB2.out (by rw [HBX.out]; exact Nat.le_refl _) (Nat.le_refl _)) (by rw [HBX.out]; exact Nat.le_refl _) (Nat.le_refl _)) (by rw [HBX.out]; exact Nat.le_refl _) (Nat.le_refl _)⟩
end
end Go.Proofs.YtodokgkchmpmnaaGreat

/- Proved: lemmas of one statement's proof, merged by program: what each part proves stands ahead of it. Conditions: those that the lemmas name. -/
import Derived.Test.YtodokgkchmpmnaaGreatM46

/- Proved: what Fin of package outbound answers. Conditions: those that the theorems name. -/
namespace Go.Proofs.YtodokgkchmpmnaaGreat
open Go.ChangeShapes Go.WideShapes Go.ChangeAt Go.RowKit
section
variable {w : World} {Y : ObY} {M : ObM}
set_option maxRecDepth 100000 in
set_option maxHeartbeats 1600000 in
theorem ob_fin_some (h : Ob w Y M) (hc : M.cl = true) (hs : M.s.size ≠ 0) :
    Calls Tryz.prog 5 #[.pointer (some ⟨Y.o, 0, none⟩)] w fun e w' => e = .returned (.tuple #[.int .u32 M.nx, .bool false]) ∧ Below w.heap.size w w' := by
  have HN := Lib.hid (fun W (q : Ob W Y M) => flc_next _ _ _ _ W q.m.p.fl.c)
  have HL := Lib.hid (fun W (q : Ob W Y M) => bl_len _ _ _ _ _ _ W q.m.p.bk)
  have KP : Hid (∀ W, Ob W Y M → W.cell? ⟨Y.o, 12, none⟩ = some (.pointer (some ⟨Y.B, 0, none⟩)) ∧ W.cell? ⟨Y.o, 13, none⟩ = some (.pointer (some ⟨Y.f, 0, none⟩)) ∧ W.cell? ⟨Y.o, 17, none⟩ = some (.bool true) ∧ W.cell? ⟨Y.o, 18, none⟩ = some (.bool M.fin)) := Lib.hid fun W q => ⟨q.m.own.cell 12 rfl, q.m.own.cell 13 rfl, by rw [← hc]; exact q.m.own.cell 17 rfl, q.m.own.cell 18 rfl⟩
  have HQ : Hid (Ob w.drew Y M ∧ Below w.heap.size w w.drew) := Lib.hid ⟨h.tn ((Tn.refl Nil w).drew) (fun _ _ e => e), (Below.refl _ _).drew⟩
  obtain ⟨k12, k13, k17, k18⟩ := KP.out _ HQ.out.1
  have KB : Hid (∀ W W', Ob W Y M ∧ Below w.heap.size w W → Below W.heap.size W W' → Ob W' Y M ∧ Below w.heap.size w W') := Lib.hid fun W W' a b => ⟨a.1.below b, a.2.trans (b.mono a.2.size)⟩
  have e0 : ((M.s.size : Int) == 0) = false := by simp [hs]
  clear h hc hs
  generalize HO : Y.o = o at *
  generalize Y.B = B at *
  generalize Y.f = f at *
  generalize M.nx = nx at *
  generalize HZ : (M.s.size : Int) = z at *
  generalize M.fin = q at *
  go_enter Tryz.func5, Tryz.ntmps5
  go_wp2_with fail
  first
  | go_region_with (first | (go_at_call 18; (with_reducible refine (HN.out _ HQ.out.1).mono ?_); rintro e wq ⟨rfl, rfl⟩) | (go_at_call 19; (with_reducible refine (HL.out _ HQ.out.1).mono ?_); rintro e wq ⟨rfl, gq⟩; have QN := Lib.hid (KB.out _ _ HQ.out gq); clear gq HQ; have HQ := QN; clear QN; obtain ⟨k12, k13, k17, k18⟩ := KP.out _ HQ.out.1))
  | fail "held3"
  all_goals
    go_wp2_with fail
    go_ret2
    exact ⟨rfl, HQ.out.2⟩
theorem ob_fin (h : Ob w Y M) :
    Calls Tryz.prog 5 #[.pointer (some ⟨Y.o, 0, none⟩)] w fun e w' => e = .returned (.tuple #[.int .u32 M.nx, .bool (M.cl && (decide (M.s.size = 0) && !M.fin))]) ∧ Below w.heap.size w w' := by
  by_cases hc : M.cl = true
  · by_cases hs : M.s.size = 0
    · rw [hc, decide_eq_true hs, Bool.true_and, Bool.true_and]
      exact ob_fin_all h hc hs
    · rw [decide_eq_false hs, Bool.false_and, Bool.and_false]
      exact ob_fin_some h hc hs
  · have hc : M.cl = false := by simpa using hc
    rw [hc, Bool.false_and]
    exact ob_fin_open h hc
end
end Go.Proofs.YtodokgkchmpmnaaGreat

/- Proved: what Ack of package outbound answers and leaves. Conditions: those that the theorems name. -/
namespace Go.Proofs.YtodokgkchmpmnaaGreat
open Go.ChangeShapes Go.WideShapes Go.ChangeAt Go.RowKit

/-! ### the first sheaves are taken out -/
abbrev obS0v : Value := .agg #[.slice none 0 0, .int .i64 0, .int .i64 0]
theorem infoSheaf3 : (Tryz.prog.info? 55).map (fun i => (i.zero, i.size, i.bytes)) = some (some obS0v, 3, 40) := by kernel_rfl
theorem zero_sheaf (n : Nat) : ∀ u ∈ (Builtin.zeroCells obS0v.cells n).toList, u.oneCell' = true := by
  intro u hu
  simp only [Builtin.zeroCells, Array.toList_map, List.mem_map] at hu
  obtain ⟨i, _, rfl⟩ := hu
  have h3 : obS0v.cells.size = 3 := rfl
  rw [h3]
  have : i % 3 = 0 ∨ i % 3 = 1 ∨ i % 3 = 2 := by omega
  rcases this with h | h | h <;> rw [h] <;> rfl
theorem del_sheaf_none (A : Option Addr) (n cap : Nat) (hc : n ≤ cap) (w : World) :
    Calls Tryz.prog 33 #[.slice A n cap, .int .i64 0, .int .i64 0] w fun e w' => e = .returned (.slice A n cap) ∧ w = w' := by
  go_enter Tryz.func33, Tryz.ntmps33
  go_wp2_with fail
  all_goals
    go_ret
    exact ⟨rfl, rfl⟩
set_option maxRecDepth 100000 in
set_option maxHeartbeats 2000000 in
theorem del_sheaf_some (g o d k cap : Nat) (xs : List Value) (one : ∀ u ∈ xs, u.oneCell' = true) (w : World) (r : Option Nat) (hq : Qu w r 55 3 (.slice (some ⟨g, o, none⟩) (d + k) cap) (d + k) xs) (h0 : 0 < k) :
    Calls Tryz.prog 33 #[.slice (some ⟨g, o, none⟩) (d + k) cap, .int .i64 0, .int .i64 (k : Nat)] w fun e w' =>
      e = .returned (.slice (some ⟨g, o, none⟩) d cap) ∧ Qu w' r 55 3 (.slice (some ⟨g, o, none⟩) d cap) d (xs.drop (k * 3)) ∧ Tn (fun i => r = some i) w w' := by
  obtain ⟨hc, A, W1, W2, hA, hap, hclr, hQ, hT⟩ := hq.del (t := 47) Tryz.underlying47 infoSheaf3 rfl Tryz.zeroValue55 zero_sheaf one h0
  have HE := Lib.hid (And.intro hQ hT)
  have hdk : d + k - k = d := by omega
  have hk0 : ¬ (k : Int) = 0 := by omega
  have hk1 : (k : Int) ≤ ((d + k : Nat) : Int) := by omega
  have hk2 : (k : Int) ≤ (d : Int) + (k : Int) := by omega
  have hkc : k ≤ cap := by omega
  have hdk2 : d + k - d = k := by omega
  have hcd : ¬ cap = d := by omega
  have hd0 : (0 : Int) ≤ (d : Int) := by omega
  have hd2 : (d : Int) ≤ (d : Int) + (k : Int) := by omega
  clear hq hQ hT one
  go_enter Tryz.func33, Tryz.ntmps33
  go_wp2_with fail
  go_region_law (refine step_append_run rfl _ _ _ _ rfl _ _ rfl rfl _ _ (hap _) ?_)
  go_wp2_with fail
  go_ret
  exact ⟨rfl, HE.out⟩
theorem del_sheaf {v : Value} {n K : Nat} {xs : List Value} {w : World} {r : Option Nat} (hq : Qu w r 55 3 v n xs) (one : ∀ u ∈ xs, u.oneCell' = true) (hK : K ≤ n) :
    ∃ v', (∃ A c, v' = .slice A (n - K) c) ∧ Calls Tryz.prog 33 #[v, .int .i64 0, .int .i64 (K : Nat)] w fun e w' =>
      e = .returned v' ∧ Qu w' r 55 3 v' (n - K) (xs.drop (K * 3)) ∧ Tn (fun i => r = some i) w w' := by
  rcases Nat.eq_zero_or_pos K with rfl | h0
  · obtain ⟨A, cap, hv, hc⟩ : ∃ A cap, v = .slice A n cap ∧ n ≤ cap := by
      rcases hq.2 with ⟨rfl, rfl, _⟩ | ⟨g, o, cap, cur, _, rfl, _, hc, _⟩
      · exact ⟨_, _, rfl, Nat.le_refl _⟩
      · exact ⟨_, _, rfl, hc⟩
    refine ⟨v, ⟨A, cap, by rw [hv, Nat.sub_zero]⟩, ?_⟩
    have := del_sheaf_none A n cap hc w
    rw [← hv] at this
    refine this.mono ?_
    rintro e w' ⟨rfl, rfl⟩
    exact ⟨rfl, by simpa using hq, Tn.refl _ _⟩
  · obtain ⟨g, o, cap, hr, hv, _⟩ := hq.head (by omega)
    obtain ⟨d, rfl⟩ : ∃ d, n = d + K := ⟨n - K, by omega⟩
    rw [hv] at hq
    rw [Nat.add_sub_cancel, hv]
    exact ⟨_, ⟨_, _, rfl⟩, del_sheaf_some g o d K cap xs one w r hq h0⟩

/-! ### Ack -/
theorem obI_drop {M : ObM} (h : ObI M) (k : Nat) (a : Int) (fin : Bool) : ObI { M with L := M.L.drop k, S := M.S.drop k, a := a, fin := fin } := by
  refine ⟨h.ok, by show (M.S.drop k).length = (M.L.drop k).length; rw [List.length_drop, List.length_drop, h.same], fun x hx => h.good x (List.mem_of_mem_drop hx), fun i x y hx hy => ?_⟩
  have hx : (M.S.drop k)[i]? = some x := hx
  have hy : (M.L.drop k)[i]? = some y := hy
  rw [List.getElem?_drop] at hx hy
  exact h.fit _ x y hx hy
/-- is the end said? -/
abbrev finB (M : ObM) : Bool := M.cl && (decide (M.s.size = 0) && !M.fin)
/-- the blocks ahead of that number came. -/
def ackD (M : ObM) (fin : Bool) (up x n : Int) : ObM := { M with L := M.L.drop (ackN M.nx M.L.length up), S := M.S.drop (ackN M.nx M.L.length up), a := grA M.a x n, fin := fin }
section
variable {w : World} {Y : ObY} {M : ObM}
set_option maxRecDepth 100000 in
set_option maxHeartbeats 3200000 in
theorem ob_ack_fin (h : Ob w Y M) (x n : Int) (hc : finB M = true) (hx : x = (M.nx + 1) % 4294967296) :
    Calls Tryz.prog 11 #[.pointer (some ⟨Y.o, 0, none⟩), .int .u32 x, .int .i64 n] w (GivesOb w Y (.int .i64 (ackN M.nx M.L.length M.nx : Nat)) (ackD M true M.nx x n)) := by
  unfold ackD
  have HFI := Lib.hid (ob_fin h)
  have hfb : (M.cl && (decide (M.s.size = 0) && !M.fin)) = true := hc
  rw [hfb] at HFI
  have HH := Lib.hid h
  have HI := Lib.hid h.i
  have heq : (x == (M.nx + 1) % 4294967296) = true := by simpa using hx
  clear h hc hfb hx
  generalize hoo : Y.o = o at *
  have HOO := Lib.hid hoo
  clear hoo
  go_enter Tryz.func11, Tryz.ntmps11
  go_wp2_with fail
  refine HFI.out.mono ?_; rintro e w1 ⟨rfl, b1⟩
  have h1 := HH.out.below b1
  have k18 : w1.cell? ⟨o, 18, none⟩ = some (.bool M.fin) := by rw [← HOO.out]; exact h1.m.own.cell 18 rfl
  have f18 : w1.frozen? ⟨o, 18, none⟩ = false := by rw [← HOO.out]; exact h1.m.own.free 18
  obtain ⟨h2, t2'⟩ := h1.m.fin_ true
  have t2 := (obt_below Y b1).trans t2'
  rw [HOO.out] at h2 t2
  have hup := h1.m.p.fl.u32
  clear h1 b1 t2' HFI
  have k13 : (w1.setCell ⟨o, 18, none⟩ (.bool true)).cell? ⟨o, 13, none⟩ = some (.pointer (some ⟨Y.f, 0, none⟩)) := by have q := h2.own.cell 13 rfl; rw [HOO.out] at q; exact q
  go_wp2_with fail
  have HAK := Lib.hid (ack_any _ _ _ _ _ _ M.nx (w1.setCell ⟨o, 18, none⟩ (.bool true)) h2.p.fl hup)
  have HM2 := Lib.hid h2
  have HT2 := Lib.hid t2
  clear h2 t2 hup
  generalize (w1.setCell ⟨o, 18, none⟩ (.bool true)) = w2 at *
  refine HAK.out.mono ?_; rintro e w3 ⟨vL3, rfl, hf3, ht3⟩
  obtain ⟨h3, t3⟩ := HM2.out.flight_ (nx' := M.nx) (rL' := Y.rL) hf3 (.inl rfl) ht3
  have hK : ackN M.nx M.L.length M.nx ≤ M.S.length := by rw [HI.out.same]; exact ackN_le _ _ _
  obtain ⟨v4, ⟨A4, c4, hv4⟩, hdl⟩ := del_sheaf h3.p.sh (obSf_one _ _) hK
  obtain ⟨A3, c3, hv3⟩ := h3.p.sh.form
  have hv3 : Y.vs = .slice A3 M.S.length c3 := hv3
  have k15 : w3.cell? ⟨o, 15, none⟩ = some (.slice A3 M.S.length c3) := by rw [← hv3, ← HOO.out]; exact h3.own.cell 15 rfl
  have HDL : Hid (Calls Tryz.prog 33 #[.slice A3 M.S.length c3, .int .i64 0, .int .i64 (ackN M.nx M.L.length M.nx : Nat)] w3 fun e w' => e = .returned v4 ∧ Qu w' Y.rs 55 3 v4 (M.S.length - ackN M.nx M.L.length M.nx) ((obSf Y.hs M.S).drop (ackN M.nx M.L.length M.nx * 3)) ∧ Tn (fun i => Y.rs = some i) w3 w') := Lib.hid (by rw [← hv3]; exact hdl)
  have H3 := Lib.hid (And.intro h3 t3)
  clear hf3 ht3 h3 t3 hK hdl hv3 HAK k13
  subst hv4
  go_wp2_with fail
  refine HDL.out.mono ?_; rintro e w4 ⟨rfl, hq4, ht4⟩
  obtain ⟨a4, h5, t5⟩ := H3.out.1.drop_ hq4 ht4
  have k15 : w4.cell? ⟨o, 15, none⟩ = some Y.vs := by rw [← HOO.out]; exact a4.cell 15 rfl
  have f15 : w4.frozen? ⟨o, 15, none⟩ = false := by rw [← HOO.out]; exact a4.free 15
  have k14 : (w4.setCell ⟨o, 15, none⟩ (.slice A4 (M.S.length - ackN M.nx M.L.length M.nx) c4)).cell? ⟨o, 14, none⟩ = some (.pointer (some ⟨Y.ed, 0, none⟩)) := by rw [← HOO.out]; exact h5.own.cell 14 rfl
  have HGR : Hid (Calls Tryz.prog 34 #[.pointer (some ⟨Y.ed, 0, none⟩), .int .u32 x, .int .i64 n] (w4.setCell ⟨o, 15, none⟩ (.slice A4 (M.S.length - ackN M.nx M.L.length M.nx) c4)) fun e w' => e = .returned (.bool (grB M.a x n)) ∧ Ce w' Y.ed (grA M.a x n) ∧ (w4.setCell ⟨o, 15, none⟩ (.slice A4 (M.S.length - ackN M.nx M.L.length M.nx) c4)).grownBy w' (some Y.ed)) := Lib.hid (by rw [← HOO.out]; exact cr_grant h5.p.ce x n)
  have H5 : Hid (Obm (w4.setCell ⟨o, 15, none⟩ (.slice A4 (M.S.length - ackN M.nx M.L.length M.nx) c4)) { { Y with rL := Y.rL, vL := vL3 } with vs := .slice A4 (M.S.length - ackN M.nx M.L.length M.nx) c4, hs := Y.hs.drop (ackN M.nx M.L.length M.nx) } { { ({ M with fin := true } : ObM) with nx := M.nx, L := M.L.drop (ackN M.nx M.L.length M.nx) } with S := M.S.drop (ackN M.nx M.L.length M.nx) } ∧ ObT w3 (w4.setCell ⟨o, 15, none⟩ (.slice A4 (M.S.length - ackN M.nx M.L.length M.nx) c4)) { Y with rL := Y.rL, vL := vL3 } { { Y with rL := Y.rL, vL := vL3 } with vs := .slice A4 (M.S.length - ackN M.nx M.L.length M.nx) c4, hs := Y.hs.drop (ackN M.nx M.L.length M.nx) }) := Lib.hid (by rw [← HOO.out]; exact ⟨h5, t5⟩)
  clear hq4 ht4 a4 h5 t5 HDL
  generalize hw5 : w4.setCell ⟨o, 15, none⟩ (.slice A4 (M.S.length - ackN M.nx M.L.length M.nx) c4) = w5 at *
  go_wp2_with fail
  first | rw [hw5] | skip
  clear hw5
  refine HGR.out.mono ?_; rintro e w6 ⟨rfl, hc6, hg6⟩
  have H6 := Lib.hid (H5.out.1.edge_ hc6 hg6)
  clear hc6 hg6 HGR k14 k15 f15
  go_wp2_with fail
  go_ret
  refine ⟨rfl, _, ⟨H6.out.1, obI_drop HI.out _ _ _⟩, ((HT2.out.trans H3.out.2).trans H5.out.2).trans H6.out.2⟩
end
end Go.Proofs.YtodokgkchmpmnaaGreat

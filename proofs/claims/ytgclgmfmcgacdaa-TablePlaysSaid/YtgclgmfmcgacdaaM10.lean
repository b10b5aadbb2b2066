/- Proved: lemmas of one statement's proof, merged by program: what each part proves stands ahead of it. Conditions: those that the lemmas name. -/
import Derived.Test.YtgclgmfmcgacdaaM9
import Derived.BigRegion
import Derived.Test.YtgclgmfmcgacdaaM8

/- Proved: what enter, leave and forget of package table leave. Conditions: those that the theorems name. -/
namespace Go.Proofs.Ytgclgmfmcgacdaa
open Go.ChangeShapes Go.WideShapes Go.ChangeAt Go.RowKit Go.MuLone

/-- the line behind an entry's coming in. -/
def enterU (a : En) (U : List Nat) : List Nat := if a.ready = true then U else U ++ [a.p]
section
variable {w : World} {L : Ly} {n room : Nat} {many : Int} {XM XN : List En} {U : List Nat} {sp : Nat → Int}
set_option maxRecDepth 100000 in
set_option maxHeartbeats 800000 in
theorem tb_enter_full (h : St w L n room many XM XN U 0 sp) (hm : many = room) (p : Nat) :
    Calls Try.prog 42 #[.pointer (some ⟨L.b, 1, none⟩), ptv p] w fun e w' => e = .returned (.bool false) ∧ St w' L n room many XM XN U 0 sp ∧ Tn (Mine L) w w' := by
  have H0 := Lib.hid h
  have hm' : (many == (room : Int)) = true := by simp [hm]
  clear h hm
  go_enter_defers Try.func42, Try.ntmps42
  go_wp2_with fail
  refine (tb_lock H0.out).mono ?_; rintro e w1 ⟨rfl, h1, t1⟩
  have H1 := Lib.hid h1
  have T1 := Lib.hid (t1.b H0.out)
  have c4 := h1.tab.cell 4 rfl
  have c3 := h1.tab.cell 3 rfl
  clear h1 t1
  generalize (room : Int) = rm at *
  go_wp2_with fail
  go_quiet (fail)
  have TD : Tn Nil w1 (w1.drewN nq) := (Tn.refl _ w1).drewN nq
  have H2 := Lib.hid (H1.out.free TD)
  have T2 := Lib.hid (T1.out.trans (TD.mono fun _ _ e => e.elim))
  clear TD c4 c3 H1 T1
  generalize w1.drewN nq = w3 at *
  go_wp2_with fail
  refine leaves_cons (f := 26) (args := #[.pointer (some ⟨L.b, 1, none⟩)]) (by simp) (by simp [go_sem]) ?_
  refine (tb_unlock H2.out .returning).mono ?_
  rintro e u' w5 ⟨rfl, rfl, h5, t5⟩
  exact ⟨_, results_tmp rfl _ _ _, rfl, h5, T2.out.trans (t5.b H2.out)⟩
set_option maxRecDepth 100000 in
set_option maxHeartbeats 1600000 in
theorem tb_enter {a : En} (h : St w L n room many XM XN U 0 sp) (hm : many ≠ room) (hb : 0 ≤ many ∧ many ≤ 65536) (ha : a ∈ XN) (hp : a.p ∉ U) (hl : 1 ≤ a.l.length) :
    Calls Try.prog 42 #[.pointer (some ⟨L.b, 1, none⟩), ptv a.p] w fun e w' => e = .returned (.bool true) ∧ St w' L n room (many + 1) XM XN (enterU a U) 0 sp ∧ Tn (Mine L) w w' := by
  have H0 := Lib.hid h
  have hm' : (many == (room : Int)) = false := by simp [hm]
  have HA := Lib.hid ha
  have HP := Lib.hid hp
  have HL := Lib.hid hl
  have hb0 := hb.1
  have hb1 := hb.2
  have HW : Hid (IntKind.i64.wrap (many + 1) = many + 1) := Lib.hid (IntWalk.i64_in _ (by omega))
  clear h hm ha hp hb hl
  go_enter_defers Try.func42, Try.ntmps42
  go_wp2_with fail
  refine (tb_lock H0.out).mono ?_; rintro e w1 ⟨rfl, h1, t1⟩
  have H1 := Lib.hid h1
  have T1 := Lib.hid (t1.b H0.out)
  have c4 := h1.tab.cell 4 rfl
  have c3 := h1.tab.cell 3 rfl
  clear h1 t1
  generalize hrm : (room : Int) = rm at *
  go_wp2_with fail
  go_quiet (fail)
  have TD : Tn Nil w1 (w1.drewN nq) := (Tn.refl _ w1).drewN nq
  have H2 := Lib.hid (H1.out.free TD)
  have T2 := Lib.hid (T1.out.trans (TD.mono fun _ _ e => e.elim))
  clear TD c4 c3 H1 T1
  generalize w1.drewN nq = w3 at *
  have c4 := H2.out.tab.cell 4 rfl
  have f4 := H2.out.tab.free 4
  go_wp2_with fail
  have H3 := Lib.hid (H2.out.count (many + 1))
  have T3 : Hid (Tn (Mine L) w (w3.setCell ⟨L.b, 4, none⟩ (.int .i64 (many + 1)))) := Lib.hid (T2.out.trans (((Tn.refl (fun i => i = L.b) w3).set ⟨L.b, 4, none⟩ _ (fun _ => rfl)).b H2.out))
  clear c4 f4 H2 T2
  generalize w3.setCell ⟨L.b, 4, none⟩ (.int .i64 (many + 1)) = w4 at *
  obtain ⟨hcp, s, v, x, y, hn, hs, hr⟩ := H3.out.entry HA.out
  obtain ⟨g, cap, cur, rfl, _⟩ := hr.form (by rw [List.length_map]; have := HL.out; omega)
  refine (nd_ready hn rfl).mono ?_; rintro e w5 ⟨rfl, g5⟩
  rw [List.length_map]
  have TD := tn_below Nil (two_drawn (B := w4.heap.size) g5)
  have H5 := Lib.hid (H3.out.free TD)
  have T5 := Lib.hid (T3.out.trans (TD.mono fun _ _ e => e.elim))
  clear TD H3 T3 g5 hcp hn hs hr
  have hrd : decide (a.l.length = a.need) = a.ready := rfl
  rw [hrd]
  cases hready : a.ready with
  | true =>
    have HE : Hid (enterU a U = U) := Lib.hid (by unfold enterU; rw [if_pos hready])
    go_wp2_with fail
    refine leaves_cons (f := 26) (args := #[.pointer (some ⟨L.b, 1, none⟩)]) (by simp) (by simp [go_sem]) ?_
    refine (tb_unlock H5.out .returning).mono ?_
    rintro e u' w6 ⟨rfl, rfl, h6, t6⟩
    exact ⟨_, results_tmp rfl _ _ _, rfl, by rw [HE.out]; exact h6, T5.out.trans (t6.b H5.out)⟩
  | false =>
    have HE : Hid (enterU a U = U ++ [a.p]) := Lib.hid (by unfold enterU; rw [if_neg (by rw [hready]; decide)])
    obtain ⟨⟨k1, n1, s1, v1, b1, hz⟩, ⟨k2, n2, s2, v2, a2, b2, hy⟩⟩ := H5.out.push_at
    obtain ⟨_, s0, v0, a0, b0, hp, _⟩ := H5.out.entry HA.out
    have c5 := H5.out.tab.cell 5 rfl
    have z5 := At.cell hz 5 rfl
    have p5 := At.cell hp 5 rfl
    have p6 := At.cell hp 6 rfl
    have fp5 := At.free hp 5
    have fp6 := At.free hp 6
    have HPZ : Hid (a.p ≠ L.z ∧ a.p ≠ lst L.z U) := Lib.hid (by
      have hcp := (H5.out.entry HA.out).1
      have h1 : a.p ≠ L.z := fun f => by rw [f, H5.out.cz] at hcp; exact absurd hcp (by decide)
      refine ⟨h1, fun f => ?_⟩
      rcases lst_mem L.z U with e | e
      · exact h1 (f.trans e)
      · exact HP.out (f ▸ e))
    have hpb : a.p ≠ L.b := fun f => by have hcp := (H5.out.entry HA.out).1; rw [f, H5.out.cb] at hcp; exact absurd hcp (by decide)
    have hpz := HPZ.out.1
    have hpy := HPZ.out.2
    have HZ := Lib.hid hz
    have HY := Lib.hid hy
    have HN := Lib.hid hp
    clear hz hy hp
    unfold ptO at z5
    simp only at z5
    have HPU : Hid (∀ (W : World), (∀ (q need : Nat) (k : Ky) (s : ByteArray) (v : Value) (x y : Option Nat), Nd w5 q k need s v x y → Nd W q k need s v (if q = L.z then some a.p else if q = a.p then some (lst L.z U) else x) (if q = lst L.z U then some a.p else if q = a.p then some L.z else y)) → Tn (fun i => i = a.p ∨ i = lst L.z U ∨ i = L.z) w5 W → St W L n room (many + 1) XM XN (U ++ [a.p]) 1 sp) := Lib.hid fun W h t => H5.out.push HA.out HP.out h t
    have HTM : Hid (∀ g, g < w5.heap.size → (g = a.p ∨ g = lst L.z U ∨ g = L.z) → Mine L g) := Lib.hid fun g _ e => by
      rcases e with rfl | rfl | rfl
      · show L.col a.p ≠ -1; rw [(H5.out.entry HA.out).1]; decide
      · have := (H5.out.node (lst_mem L.z U)).1
        show L.col _ ≠ -1
        omega
      · show L.col L.z ≠ -1; rw [H5.out.cz]; decide
    generalize lst L.z U = y at *
    generalize L.z = z at *
    generalize a.p = p at *
    generalize hlb : L.b = b at *
    have HLB := Lib.hid hlb
    clear hlb
    have hpb' := hpb.symm
    have hpz' := hpz.symm
    have hpy' := hpy.symm
    clear HA HL HP H0
    generalize hm1 : many + 1 = m1 at *
    have HM1 := Lib.hid hm1
    clear hm1
    go_wp2_with fail
    refine only_wp ?_
    go_region
    refine only_of ?_
    have HU1 : Hid (∀ (q need : Nat) (k : Ky) (s : ByteArray) (v : Value) (a b : Option Nat), Nd w5 q k need s v a b → Nd ((w5.setCell ⟨p, 5, none⟩ (ptv y)).setCell ⟨p, 6, none⟩ (ptv z)).drew q k need s v (if q = p then some y else a) (if q = p then some z else b)) :=
      Lib.hid fun q need k s v a b h => ((h.setA p (some y)).setB p (some z)).tn (Tn.refl Nil _).drew (fun e => e)
    have HT1 : Hid (Tn (fun i => i = p ∨ i = y ∨ i = z) w5 ((w5.setCell ⟨p, 5, none⟩ (ptv y)).setCell ⟨p, 6, none⟩ (ptv z)).drew) :=
      Lib.hid (((Tn.refl _ w5).set ⟨p, 5, none⟩ _ (fun _ => .inl rfl)).set ⟨p, 6, none⟩ _ (fun _ => .inl rfl)).drew
    change Exit.then _ _ _ _ ((w5.setCell ⟨p, 5, none⟩ (ptv y)).setCell ⟨p, 6, none⟩ (ptv z)).drew
    have hz1 := HU1.out _ _ _ _ _ _ _ HZ.out
    have hy1 := HU1.out _ _ _ _ _ _ _ HY.out
    have hp1 := HU1.out _ _ _ _ _ _ _ HN.out
    rw [if_neg HPZ.out.1.symm, if_neg HPZ.out.1.symm] at hz1
    rw [if_neg HPZ.out.2.symm, if_neg HPZ.out.2.symm] at hy1
    rw [if_pos rfl, if_pos rfl] at hp1
    clear c5 z5 p5 p6 fp5 fp6 HZ HY HN
    generalize ((w5.setCell ⟨p, 5, none⟩ (ptv y)).setCell ⟨p, 6, none⟩ (ptv z)).drew = w6 at *
    have p5 := At.cell hp1 5 rfl
    have p6 := At.cell hp1 6 rfl
    have y6 := At.cell hy1 6 rfl
    have z5 := At.cell hz1 5 rfl
    have fy := At.free hy1 6
    have fz := At.free hz1 5
    unfold ptO at p5 p6
    simp only at p5 p6
    clear hz1 hy1 hp1
    go_wp2_with fail
    refine only_wp ?_
    go_region
    refine only_of ?_
    have HU2 : Hid (∀ (q need : Nat) (k : Ky) (s : ByteArray) (v : Value) (a b : Option Nat), Nd w6 q k need s v a b → Nd ((w6.setCell ⟨y, 6, none⟩ (ptv p)).setCell ⟨z, 5, none⟩ (ptv p)).drew q k need s v (if q = z then some p else a) (if q = y then some p else b)) :=
      Lib.hid fun q need k s v a b h => ((h.setB y (some p)).setA z (some p)).tn (Tn.refl Nil _).drew (fun e => e)
    have HT2 : Hid (Tn (fun i => i = p ∨ i = y ∨ i = z) w5 ((w6.setCell ⟨y, 6, none⟩ (ptv p)).setCell ⟨z, 5, none⟩ (ptv p)).drew) :=
      Lib.hid ((((HT1.out).set ⟨y, 6, none⟩ _ (fun _ => .inr (.inl rfl))).set ⟨z, 5, none⟩ _ (fun _ => .inr (.inr rfl))).drew)
    change Exit.then _ _ _ _ ((w6.setCell ⟨y, 6, none⟩ (ptv p)).setCell ⟨z, 5, none⟩ (ptv p)).drew
    generalize ((w6.setCell ⟨y, 6, none⟩ (ptv p)).setCell ⟨z, 5, none⟩ (ptv p)).drew = w7 at *
    have H7 := Lib.hid (HPU.out w7 (fun q need k s v x y h => HU2.out _ _ _ _ _ _ _ (HU1.out _ _ _ _ _ _ _ h)) HT2.out)
    have T7 := Lib.hid (T5.out.trans (HT2.out.mono HTM.out))
    clear p5 p6 y6 z5 fy fz
    go_wp2_with fail
    refine leaves_cons (f := 26) (args := #[.pointer (some ⟨b, 1, none⟩)]) (by simp) (by simp [go_sem]) ?_
    have HU7 := tb_unlock H7.out .returning
    rw [HLB.out] at HU7
    refine HU7.mono ?_
    rintro e u' w8 ⟨rfl, rfl, h8, t8⟩
    have t8' : Tn (fun i => i = L.b) w7 w8 := by rw [HLB.out]; exact t8
    exact ⟨_, results_tmp rfl _ _ _, rfl, by rw [HE.out, HM1.out]; exact h8, T7.out.trans (t8'.b H7.out)⟩
end
end Go.Proofs.Ytgclgmfmcgacdaa

/- Proved: what unlink of package table leaves. Conditions: those that the theorems name. -/
namespace Go.Proofs.Ytgclgmfmcgacdaa
open Go.ChangeShapes Go.WideShapes Go.ChangeAt Go.RowKit

/-! ### unlink -/
/-- what becomes of each entry in memory. -/
def Unl (w w' : World) (p x y : Nat) : Prop :=
  ∀ (q need : Nat) (k : Ky) (s : ByteArray) (v : Value) (a b : Option Nat), Nd w q k need s v a b → Nd w' q k need s v (if q = p then none else if q = y then some x else a) (if q = p then none else if q = x then some y else b)
set_option maxRecDepth 100000 in
set_option maxHeartbeats 1600000 in
theorem nd_unlink {w : World} {p need n1 n2 x y : Nat} {k k1 k2 : Ky} {s s1 s2 : ByteArray} {v v1 v2 : Value} {a1 b1 a2 b2 : Option Nat}
    (h : Nd w p k need s v (some x) (some y)) (hx : Nd w x k1 n1 s1 v1 a1 b1) (hy : Nd w y k2 n2 s2 v2 a2 b2) (hxp : x ≠ p) (hyp : y ≠ p) :
    Calls Try.prog 46 #[ptv p] w fun e w' => e = .returned (.tuple #[]) ∧ Unl w w' p x y ∧ Tn (fun i => i = p ∨ i = x ∨ i = y) w w' := by
  have c5 := At.cell h 5 rfl
  have c6 := At.cell h 6 rfl
  have x6 := At.cell hx 6 rfl
  have y5 := At.cell hy 5 rfl
  have fx := At.free hx 6
  have fy := At.free hy 5
  have H := Lib.hid h
  have HXP := Lib.hid (And.intro hxp hyp)
  clear h hx hy hxp hyp
  unfold ptO at c5 c6
  simp only at c5 c6
  go_enter Try.func46, Try.ntmps46
  go_wp2_with fail
  go_region
  have HU : Hid (∀ (q need : Nat) (k : Ky) (s : ByteArray) (v : Value) (a b : Option Nat), Nd w q k need s v a b → Nd ((w.setCell ⟨x, 6, none⟩ (ptv y)).setCell ⟨y, 5, none⟩ (ptv x)).drew q k need s v (if q = y then some x else a) (if q = x then some y else b)) :=
    Lib.hid fun q need k s v a b h => ((h.setB x (some y)).setA y (some x)).tn (Tn.refl Nil _).drew (fun e => e)
  have HT : Hid (Tn (fun i => i = p ∨ i = x ∨ i = y) w ((w.setCell ⟨x, 6, none⟩ (ptv y)).setCell ⟨y, 5, none⟩ (ptv x)).drew) :=
    Lib.hid (((Tn.refl _ w).set ⟨x, 6, none⟩ _ (fun _ => .inr (.inl rfl))).set ⟨y, 5, none⟩ _ (fun _ => .inr (.inr rfl))).drew
  have HP1 := Lib.hid (HU.out p need k s v _ _ H.out)
  rw [if_neg HXP.out.2.symm, if_neg HXP.out.1.symm] at HP1
  clear c5 c6 x6 y5 fx fy
  change Exit.then _ _ _ _ ((w.setCell ⟨x, 6, none⟩ (ptv y)).setCell ⟨y, 5, none⟩ (ptv x)).drew
  generalize ((w.setCell ⟨x, 6, none⟩ (ptv y)).setCell ⟨y, 5, none⟩ (ptv x)).drew = w1 at *
  have c5 := At.cell HP1.out 5 rfl
  have c6 := At.cell HP1.out 6 rfl
  have f5 := At.free HP1.out 5
  have f6 := At.free HP1.out 6
  go_wp2_with fail
  go_end0
  refine ⟨rfl, fun q need k s v a b h => ?_, (HT.out.set ⟨p, 5, none⟩ _ (fun _ => .inl rfl)).set ⟨p, 6, none⟩ _ (fun _ => .inl rfl)⟩
  have := ((HU.out q need k s v a b h).setA p none).setB p none
  exact this
end Go.Proofs.Ytgclgmfmcgacdaa

/- Proved: lemmas of one statement's proof, merged by program: what each part proves stands ahead of it. Conditions: those that the lemmas name. -/
import Derived.Test.YtedecminaopgaaaM43
import Derived.Test.YtedecminaopgaaaM44
import Derived.Test.YtedecminaopgaaaM35
import Derived.Test.YtedecminaopgaaaM36
import Derived.Test.YtedecminaopgaaaM37
import Derived.Test.YtedecminaopgaaaM38
import Derived.Test.YtedecminaopgaaaM39
import Derived.Deep.RegionHeld3
import Derived.Deep.DeepCutAuto

/- Proved: the law that plays streams. Conditions: those that the theorems name. -/
namespace Go.Proofs.Ytedecminaopgaaa
open Go.ChangeShapes Go.WideShapes Go.ChangeAt Go.RowKit

theorem ido_any (c : Cf) (M : IbM) (p : RiP) (S : List Int) (X : List Xb) (Y : IbY) (j : Nat) (d : Di) (w : World) (h : BothI w Y c M p S X j) (hj : j ≤ 200) (hx : U32 d.x) (hs : d.body.size ≤ 1048576) :
    Calls Try.prog 10 #[ibp Y, riV c M p, d.val] w (GivesDo c j Y w) := by
  obtain ⟨kd, x, s, z⟩ := d
  show Calls Try.prog _ #[ibp Y, riV c M p, .agg #[.int .i64 kd, .int .u32 x, .string s, .int .i64 z]] w _
  by_cases h0 : kd = 0
  · subst h0; exact ido_saw c M p S X Y j x s z w h hj hx
  by_cases h1 : kd = 1
  · subst h1; exact ido_put c M p S X Y j x s z w h hj hx hs
  by_cases h2 : kd = 2
  · subst h2; exact ido_fin c M p S X Y j x s z w h hj hx
  by_cases h3 : kd = 3
  · subst h3; exact ido_deliver c M p S X Y j x s z w h hj
  exact ido_read c M p S X Y j kd x s z w h h0 h1 h2 h3
theorem tC_not : 23 ∉ ibTs := by decide
/-- what a round begins and ends with: both states, in a box the document's; the settings in theirs; all made since. -/
structure PlayI (w : World) (i xb : Nat) (c : Cf) (j : Nat) (wr : World) (Y : IbY) (M : IbM) (p : RiP) (S : List Int) (X : List Xb) : Prop where
  both : BothI wr Y c M p S X j
  i : Y.i = i
  box : At wr xb tI (ri c M p)
  set : At wr w.heap.size 23 [.int .i64 c.k, .int .i64 c.r, .int .i64 c.s, .int .i64 c.w, .int .i64 c.b, .int .i64 c.q, .int .i64 c.u, .int .i64 c.t, .int .i64 c.o, .int .i64 c.x, .int .i64 c.i]
  bel : Below w.heap.size w wr
  own : ∀ q, Y.own q → w.heap.size ≤ q
  xb0 : w.heap.size < xb
theorem PlayI.below {w : World} {i xb j : Nat} {c : Cf} {wr w' : World} {Y : IbY} {M : IbM} {p : RiP} {S : List Int} {X : List Xb} (h : PlayI w i xb c j wr Y M p S X) (k : Below wr.heap.size wr w') : PlayI w i xb c j w' Y M p S X :=
  ⟨h.both.below k, h.i, h.box.below k h.box.lt, h.set.below k h.set.lt, h.bel.trans (k.mono h.bel.size), h.own, h.xb0⟩
/-- the document's answer lies in a box of its own; the elder state lies in its. -/
def PlayM (w : World) (i xb : Nat) (c : Cf) (j : Nat) (M : IbM) (p : RiP) (wx : World) (u : Value) : Prop :=
  ∃ yb Y' M' p' S' X', u = .pointer (some ⟨yb, 0, none⟩) ∧ At wx yb tI (ri c M' p') ∧ xb ≠ yb ∧ BothI wx Y' c M' p' S' X' j ∧ Y'.i = i ∧ At wx xb tI (ri c M p) ∧ At wx w.heap.size 23 [.int .i64 c.k, .int .i64 c.r, .int .i64 c.s, .int .i64 c.w, .int .i64 c.b, .int .i64 c.q, .int .i64 c.u, .int .i64 c.t, .int .i64 c.o, .int .i64 c.x, .int .i64 c.i] ∧ Below w.heap.size w wx ∧ (∀ q, Y'.own q → w.heap.size ≤ q) ∧ w.heap.size < xb
/-- what a deed leaves. -/
structure PlayD (w : World) (i xb : Nat) (c : Cf) (j : Nat) (M : IbM) (p : RiP) (wx : World) (Y' : IbY) (M' : IbM) (p' : RiP) (S' : List Int) (X' : List Xb) : Prop where
  both : BothI wx Y' c M' p' S' X' j
  i : Y'.i = i
  box : At wx xb tI (ri c M p)
  set : At wx w.heap.size 23 [.int .i64 c.k, .int .i64 c.r, .int .i64 c.s, .int .i64 c.w, .int .i64 c.b, .int .i64 c.q, .int .i64 c.u, .int .i64 c.t, .int .i64 c.o, .int .i64 c.x, .int .i64 c.i]
  bel : Below w.heap.size w wx
  own : ∀ q, Y'.own q → w.heap.size ≤ q
  xb0 : w.heap.size < xb
section
variable {w : World} {i xb j : Nat} {c : Cf} {V w' : World} {Y Y' : IbY} {M M' : IbM} {p p' : RiP} {S S' : List Int} {X X' : List Xb}
theorem PlayI.deed (h : PlayI w i xb c j V Y M p S X) (g : BothI w' Y' c M' p' S' X' (j + 1)) (t : IbT V w' Y Y') : PlayD w i xb c (j + 1) M p w' Y' M' p' S' X' := by
  obtain ⟨a, b⟩ := t.from_ h.bel h.own
  exact ⟨g, t.i.trans h.i, h.both.ib.m.at_stays t.tn h.box tI_not, h.both.ib.m.at_stays t.tn h.set tC_not, a, b, h.xb0⟩
theorem PlayD.below (h : PlayD w i xb c j M p V Y' M' p' S' X') (k : Below V.heap.size V w') : PlayD w i xb c j M p w' Y' M' p' S' X' :=
  ⟨h.both.below k, h.i, h.box.below k h.box.lt, h.set.below k h.set.lt, h.bel.trans (k.mono h.bel.size), h.own, h.xb0⟩
theorem PlayD.store (h : PlayD w i xb c j M p V Y' M' p' S' X') {yb : Nat} (a : At V yb tI riZ) (hn : xb ≠ yb) (hy : w.heap.size < yb) : PlayM w i xb c j M p (riSet V yb c M' p') (.pointer (some ⟨yb, 0, none⟩)) ∧ At (riSet V yb c M' p') xb tI (ri c M p) ∧ Below w.heap.size w (riSet V yb c M' p') := by
  have t := riSet_tn V yb c M' p'
  have b := t.below h.bel h.bel.size (fun q hq e => by have e : q = yb := e; omega)
  have bx := h.box.tn t hn
  have hs : ¬ w.heap.size = yb := by omega
  exact ⟨⟨yb, Y', M', p', S', X', rfl, riSet_at a rfl, hn, h.both.tn a t, h.i, bx, h.set.tn t hs, b, h.own, h.xb0⟩, bx, b⟩
end
set_option maxRecDepth 100000 in
set_option maxHeartbeats 12800000 in
theorem ib_play_main (c : Cf) (hi : c.In) (A : Option Addr) (m cp : Nat) (ds : List Di) (w : World) (hd : Dis w A m ds) (h : smB c = true) (hm : m ≤ 60) :
    Calls Try.prog 3 #[c.val, .slice A m cp] w fun e w' => e = .returned (.bool true) ∧ Below w.heap.size w w' := by
  have HS := Lib.hid (fun W => sm_any c hi W)
  rw [h] at HS
  have hok : c.ok = true := by unfold smB at h; rw [Bool.and_eq_true] at h; exact h.1
  have HG := Lib.hid (fun W => ib_new c 3 W hok (by decide) (by decide))
  have HRN := Lib.hid (fun W => ri_New c (ibM0 c) W rfl rfl rfl rfl rfl rfl)
  have HCQ : Hid (c.w = (ibM0 c).n ∧ c.q = ((ibM0 c).q : Int) ∧ 1 ≤ c.w ∧ c.w ≤ 64) := Lib.hid ⟨rfl, by have := cf_queue hok; show c.q = ((c.q.toNat : Nat) : Int); omega, (cf_lims hok).2.2.2.1⟩
  have HL := Lib.hid hd
  have hm' : (m : Int) ≤ 60 := by omega
  obtain ⟨M0, hM0⟩ : ∃ M0, M0 = ibM0 c := ⟨_, rfl⟩
  have HV0 : Hid (SvJ M0 [] 0) := Lib.hid (by rw [hM0]; exact ⟨⟨0, Nat.le_refl _, ⟨fun _ h => (nomatch h), .inl rfl⟩⟩, Nat.le_refl _⟩)
  rw [← hM0] at HG HRN HCQ
  have hcv : c.val = .agg #[.int .i64 c.k, .int .i64 c.r, .int .i64 c.s, .int .i64 c.w, .int .i64 c.b, .int .i64 c.q, .int .i64 c.u, .int .i64 c.t, .int .i64 c.o, .int .i64 c.x, .int .i64 c.i] := rfl
  clear h hd hok hM0 hi
  obtain ⟨V, HV⟩ : ∃ V, V = w.alloc (.cells #[.int .i64 c.k, .int .i64 c.r, .int .i64 c.s, .int .i64 c.w, .int .i64 c.b, .int .i64 c.q, .int .i64 c.u, .int .i64 c.t, .int .i64 c.o, .int .i64 c.x, .int .i64 c.i] 23) := ⟨_, rfl⟩
  have X0 := Lib.hid (At.new w 23 [.int .i64 c.k, .int .i64 c.r, .int .i64 c.s, .int .i64 c.w, .int .i64 c.b, .int .i64 c.q, .int .i64 c.u, .int .i64 c.t, .int .i64 c.o, .int .i64 c.x, .int .i64 c.i])
  have XB : Hid (Below w.heap.size w (w.alloc (.cells #[.int .i64 c.k, .int .i64 c.r, .int .i64 c.s, .int .i64 c.w, .int .i64 c.b, .int .i64 c.q, .int .i64 c.u, .int .i64 c.t, .int .i64 c.o, .int .i64 c.x, .int .i64 c.i] 23))) := Lib.hid ((Below.refl _ _).alloc (Nat.le_refl _) _)
  have XZ : Hid ((w.alloc (.cells #[.int .i64 c.k, .int .i64 c.r, .int .i64 c.s, .int .i64 c.w, .int .i64 c.b, .int .i64 c.q, .int .i64 c.u, .int .i64 c.t, .int .i64 c.o, .int .i64 c.x, .int .i64 c.i] 23)).heap.size = w.heap.size + 1) := Lib.hid (by simp)
  rw [← HV] at XB XZ
  have X0 : Hid (At V w.heap.size 23 [.int .i64 c.k, .int .i64 c.r, .int .i64 c.s, .int .i64 c.w, .int .i64 c.b, .int .i64 c.q, .int .i64 c.u, .int .i64 c.t, .int .i64 c.o, .int .i64 c.x, .int .i64 c.i]) := Lib.hid (by rw [HV]; exact X0.out)
  have KP : Hid (∀ W, Below V.heap.size V W → W.cell? ⟨w.heap.size, 0, none⟩ = some (.int .i64 c.k) ∧ W.cell? ⟨w.heap.size, 1, none⟩ = some (.int .i64 c.r) ∧ W.cell? ⟨w.heap.size, 2, none⟩ = some (.int .i64 c.s) ∧ W.cell? ⟨w.heap.size, 3, none⟩ = some (.int .i64 c.w) ∧ W.cell? ⟨w.heap.size, 4, none⟩ = some (.int .i64 c.b) ∧ W.cell? ⟨w.heap.size, 5, none⟩ = some (.int .i64 c.q) ∧ W.cell? ⟨w.heap.size, 6, none⟩ = some (.int .i64 c.u) ∧ W.cell? ⟨w.heap.size, 7, none⟩ = some (.int .i64 c.t) ∧ W.cell? ⟨w.heap.size, 8, none⟩ = some (.int .i64 c.o) ∧ W.cell? ⟨w.heap.size, 9, none⟩ = some (.int .i64 c.x) ∧ W.cell? ⟨w.heap.size, 10, none⟩ = some (.int .i64 c.i)) := Lib.hid fun W hW => by
    have d := X0.out.below hW X0.out.lt
    exact ⟨d.cell 0 rfl, d.cell 1 rfl, d.cell 2 rfl, d.cell 3 rfl, d.cell 4 rfl, d.cell 5 rfl, d.cell 6 rfl, d.cell 7 rfl, d.cell 8 rfl, d.cell 9 rfl, d.cell 10 rfl⟩
  obtain ⟨k0, k1, k2, k3, k4, k5, k6, k7, k8, k9, k10⟩ := KP.out V (Below.refl _ _)
  rw [hcv] at HS HG HRN
  show Calls Try.prog _ #[.agg #[.int .i64 c.k, .int .i64 c.r, .int .i64 c.s, .int .i64 c.w, .int .i64 c.b, .int .i64 c.q, .int .i64 c.u, .int .i64 c.t, .int .i64 c.o, .int .i64 c.x, .int .i64 c.i], .slice A m cp] w _
  clear hcv
  go_enter Try.func3, Try.ntmps3
  go_upto_region 1 with fail
  rw [← HV]; clear HV
  go_wp2_with fail
  refine (HS.out _).mono ?_; rintro e w2 ⟨rfl, g2⟩
  have Q2 := Lib.hid g2
  clear g2 k0 k1 k2 k3 k4 k5 k6 k7 k8 k9 k10
  obtain ⟨k0, k1, k2, k3, k4, k5, k6, k7, k8, k9, k10⟩ := KP.out _ Q2.out
  go_wp2_with fail
  refine (HG.out _).mono ?_; rintro e w3 ⟨Y, rfl, ib3, b3, o3⟩
  have Q3 := Lib.hid (Q2.out.trans (b3.mono Q2.out.size))
  have IB3 := Lib.hid ib3
  have OW3 : Hid (∀ i, Y.own i → w.heap.size ≤ i) := Lib.hid fun i hi => by have := o3 i hi; have := Q2.out.size; have := XZ.out; omega
  clear ib3 b3 o3 k0 k1 k2 k3 k4 k5 k6 k7 k8 k9 k10
  obtain ⟨k0, k1, k2, k3, k4, k5, k6, k7, k8, k9, k10⟩ := KP.out _ Q3.out
  go_wp2_with fail
  refine (HRN.out _).mono ?_; rintro e w4 ⟨rfl, ri4, b4⟩
  have Q4 := Lib.hid (Q3.out.trans (b4.mono Q3.out.size))
  have IB4 := Lib.hid (IB3.out.below b4)
  have RI4 := Lib.hid ri4
  clear ri4 b4 k0 k1 k2 k3 k4 k5 k6 k7 k8 k9 k10 IB3
  have HZ4 := Lib.hid (At.new w4 tI riZ)
  have al4 : Below w4.heap.size w4 (w4.alloc (.cells riZ.toArray tI)) := (Below.refl _ _).alloc (Nat.le_refl _) _
  have IB5 := Lib.hid (IB4.out.below al4)
  have RI5 := Lib.hid (RI4.out.below al4)
  have Q5 := Lib.hid (Q4.out.trans (al4.mono Q4.out.size))
  have XB4 : Hid (w.heap.size < w4.heap.size) := Lib.hid (by have := Q4.out.size; have := XZ.out; omega)
  clear al4 IB4 RI4
  go_upto_region 8 with (refine wpi_store (c := c) (M := M0) (p := ⟨none, 0, 0, none, 0, 0⟩) (b := w4.heap.size) (w := w4.alloc (.cells riZ.toArray tI)) rfl _ _ rfl rfl rfl HZ4.out rfl ?_; intro w6 ha6 ht6; have HA6 := Lib.hid ha6; have HT6 := Lib.hid ht6; clear ha6 ht6)
  obtain ⟨xb, hxb⟩ : ∃ b, w4.heap.size = b := ⟨_, rfl⟩
  have PL0 : Hid (PlayI w Y.i xb c 0 w6 Y M0 ⟨none, 0, 0, none, 0, 0⟩ [] []) := Lib.hid (by
    rw [← hxb]
    have S5 := X0.out.below Q5.out X0.out.lt
    have hne : w.heap.size ≠ w4.heap.size := by have := XB4.out; omega
    exact ⟨BothI.mk (IB5.out.tn_i HZ4.out HT6.out) (RI5.out.tn HZ4.out HT6.out) HV0.out HCQ.out.1 HCQ.out.2.1, rfl, HA6.out, S5.tn HT6.out hne, HT6.out.below (XB.out.trans (Q5.out.mono XB.out.size)) (XB.out.trans (Q5.out.mono XB.out.size)).size (fun i hi e => by have e : i = w4.heap.size := e; have := XB4.out; omega), OW3.out, XB4.out⟩)
  rw [hxb]
  clear HA6 HT6 HZ4 IB5 RI5 Q5 Q4 Q3 Q2 X0 XB XZ KP OW3 HV0 HG HRN HS XB4 hxb
  generalize hYi : Y.i = iy at *
  have HYI := Lib.hid hYi
  clear hYi
  go_wp2_with fail
  go_loopw [10] (fun i wr => ∃ k : Nat, k ≤ m ∧ i = .int .i64 k ∧ ∃ Y M p S X, PlayI w iy xb c k wr Y M p S X) (fun i _ => m - (intOf i).toNat)
  case atStart => exact ⟨0, by omega, rfl, _, _, _, _, _, PL0.out⟩
  case round =>
    obtain ⟨k, hk, rfl, Y1, M, p, S, X, hpl⟩ := hrel
    have HPL := Lib.hid hpl
    clear PL0 hpl
    by_cases hlt : k < m
    · obtain ⟨ad, rfl, hx, hcs⟩ := HL.out.at_ hlt
      have hlt' : (k : Int) < (m : Int) := by omega
      have hk0 : (0 : Int) ≤ (k : Int) := Int.natCast_nonneg _
      have hk60 : k ≤ 60 := by omega
      have HCS := Lib.hid hcs
      have HU : Hid (U32 (di_ ds k).x) := Lib.hid hx
      clear hcs hx
      generalize di_ ds k = d at *
      obtain ⟨kd, x, s, z⟩ := d
      dsimp only at HU
      obtain ⟨d0, d1, d2, d3⟩ := HCS.out _ HPL.out.bel
      dsimp only at d0 d1 d2 d3
      by_cases hbig : (300 : Int) < (s.size : Int)
      · go_wp2_with fail
        go_roundw
        case rel => exact ⟨k + 1, by omega, by go_num, Y1, M, p, S, X, ⟨HPL.out.both.ib, HPL.out.both.ri, HPL.out.both.sv.more, HPL.out.both.cw, HPL.out.both.cq⟩, HPL.out.i, HPL.out.box, HPL.out.set, HPL.out.bel, HPL.out.own, HPL.out.xb0⟩
        case measure => simp [intOf]; omega
      · have hs1 : s.size ≤ 1048576 := by omega
        have PQ : Hid (PlayI w iy xb c k wr.drew Y1 M p S X) := Lib.hid (HPL.out.below (Below.refl _ _).drew)
        have PB : Hid (PlayI w iy xb c k (wr.drew.alloc (.cells riZ.toArray tI)) Y1 M p S X) := Lib.hid (PQ.out.below ((Below.refl _ _).alloc (Nat.le_refl _) _))
        have HZB : Hid (At (wr.drew.alloc (.cells riZ.toArray tI)) wr.heap.size tI riZ) := Lib.hid (At.new wr.drew tI riZ)
        have HDO : Hid (∀ W, PlayI w iy xb c k W Y1 M p S X → Calls Try.prog 10 #[ibp Y, riV c M p, .agg #[.int .i64 kd, .int .u32 x, .string s, .int .i64 z]] W (GivesDo c k Y1 W)) := Lib.hid fun W h => by
          have e : ibp Y = ibp Y1 := by unfold ibp; rw [HYI.out, h.i]
          rw [e]
          exact ido_any c M p S X Y1 k ⟨kd, x, s, z⟩ W h.both (by omega) HU.out hs1
        obtain ⟨Mid, hmid⟩ : ∃ Mid : Value → World → Prop, Mid = fun u wx => PlayM w iy xb c (k + 1) M p wx u := ⟨_, rfl⟩
        have HMID := Lib.hid hmid
        clear hmid
        go_upto_region 12 with fail
        go_cut [11, 12] (fun u v wx => v = .bool true ∧ Mid u wx)
        case first =>
          refine wp_region_held_drew (S := fun W => At W xb tI (ri c M p) ∧ Below w.heap.size w W) (by kernel_rfl) ⟨PQ.out.box, PQ.out.bel⟩ (fun hHeld => ?_)
          refine wpAnyH_take (i := 0) (v := ibp Y) (by simp only [List.getElem?_toArray, List.getElem?_cons_zero]; rfl) (by kernel_rfl) (by kernel_rfl) (by kernel_rfl) (by exact fun _ _ _ h => h) (Or.inl ⟨by rfl, fun V hV => by go_simp⟩) hHeld ?_
          simp only [Act.put, List.setIfInBounds_toArray, List.set_cons_zero, List.set_cons_succ]
          refine wpAnyH_take (i := 1) (v := riV c M p) (by simp only [List.getElem?_toArray, List.getElem?_cons_zero, List.getElem?_cons_succ]; rfl) (by kernel_rfl) (by kernel_rfl) (by kernel_rfl) (by exact fun _ _ _ h => h) (yieldsIf_load_mid (by rfl) tI _ (by rfl) xb 0 (by rfl) (ri c M p) _ (fun W h => h.1.range) Try.underlying38 rfl (by rw [ri_len]; exact tI_size)) hHeld ?_
          simp only [Act.put, List.setIfInBounds_toArray, List.set_cons_zero, List.set_cons_succ]
          refine wpAnyH_take (i := 2) (v := .slice (some ad) m cp) (by simp only [List.getElem?_toArray, List.getElem?_cons_zero, List.getElem?_cons_succ]; rfl) (by kernel_rfl) (by kernel_rfl) (by kernel_rfl) (by exact fun _ _ _ h => h) (Or.inl ⟨by rfl, fun V hV => by go_simp⟩) hHeld ?_
          simp only [Act.put, List.setIfInBounds_toArray, List.set_cons_zero, List.set_cons_succ]
          refine wpAnyH_take (i := 3) (v := .int .i64 (k : Nat)) (by simp only [List.getElem?_toArray, List.getElem?_cons_zero, List.getElem?_cons_succ]; rfl) (by kernel_rfl) (by kernel_rfl) (by kernel_rfl) (by exact fun _ _ _ h => h) (Or.inl ⟨by rfl, fun V hV => by go_simp⟩) hHeld ?_
          simp only [Act.put, List.setIfInBounds_toArray, List.set_cons_zero, List.set_cons_succ]
          refine wpAnyH_take (i := 4) (v := .pointer (some (ad.add (k * 4)))) (by simp only [List.getElem?_toArray, List.getElem?_cons_zero, List.getElem?_cons_succ]; rfl) (by kernel_rfl) (by kernel_rfl) (by kernel_rfl) (by exact fun _ _ _ h => h) (Or.inl ⟨by rfl, fun V hV => by go_simp⟩) hHeld ?_
          simp only [Act.put, List.setIfInBounds_toArray, List.set_cons_zero, List.set_cons_succ]
          refine wpAnyH_take (i := 5) (v := .agg #[.int .i64 kd, .int .u32 x, .string s, .int .i64 z]) (by simp only [List.getElem?_toArray, List.getElem?_cons_zero, List.getElem?_cons_succ]; rfl) (by kernel_rfl) (by kernel_rfl) (by kernel_rfl) (by exact fun _ _ _ h => h) (Or.inl ⟨by rfl, fun V hV => by have d0 := (HCS.out _ hV.2).c0; have d1 := (HCS.out _ hV.2).c1; have d2 := (HCS.out _ hV.2).c2; have d3 := (HCS.out _ hV.2).c3; dsimp only at d0 d1 d2 d3; go_simp⟩) hHeld ?_
          simp only [Act.put, List.setIfInBounds_toArray, List.set_cons_zero, List.set_cons_succ]
          refine wpAnyH_ready (rs := [6, 10]) (by kernel_rfl) (by simp) ?_
          refine AllReadyH.cons (by simp only [List.getElem?_toArray, List.getElem?_cons_zero, List.getElem?_cons_succ]; rfl) (fun K hK => ?_) (AllReadyH.cons (by simp only [List.getElem?_toArray, List.getElem?_cons_zero, List.getElem?_cons_succ]; rfl) (fun K hK => ?_) AllReadyH.nil)
          · go_simp
            refine (HDO.out _ PQ.out).mono ?_; rintro e w5 ⟨Y2, M2, p2, S2, X2, rfl, hb5, ht5⟩
            have PD := Lib.hid (PQ.out.deed hb5 ht5)
            clear hb5 ht5 hHeld
            go_wp2_with fail
            refine hK.out _ _ ⟨PD.out.box, PD.out.bel⟩ (fun hHeld => ?_)
            clear hK K
            try simp only [Act.put, List.setIfInBounds_toArray, List.set_cons_zero, List.set_cons_succ]
            refine wpAnyH_take (i := 7) (v := .tuple #[riV c M2 p2, .bool true]) (by simp only [List.getElem?_toArray, List.getElem?_cons_zero, List.getElem?_cons_succ]; rfl) (by kernel_rfl) (by kernel_rfl) (by kernel_rfl) (by exact fun _ _ _ h => h) (Or.inl ⟨by rfl, fun V hV => by go_simp⟩) hHeld ?_
            simp only [Act.put, List.setIfInBounds_toArray, List.set_cons_zero, List.set_cons_succ]
            refine wpAnyH_take (i := 8) (v := riV c M2 p2) (by simp only [List.getElem?_toArray, List.getElem?_cons_zero, List.getElem?_cons_succ]; rfl) (by kernel_rfl) (by kernel_rfl) (by kernel_rfl) (by exact fun _ _ _ h => h) (Or.inl ⟨by rfl, fun V hV => by go_simp⟩) hHeld ?_
            simp only [Act.put, List.setIfInBounds_toArray, List.set_cons_zero, List.set_cons_succ]
            refine wpAnyH_take (i := 9) (v := .bool true) (by simp only [List.getElem?_toArray, List.getElem?_cons_zero, List.getElem?_cons_succ]; rfl) (by kernel_rfl) (by kernel_rfl) (by kernel_rfl) (by exact fun _ _ _ h => h) (Or.inl ⟨by rfl, fun V hV => by go_simp⟩) hHeld ?_
            simp only [Act.put, List.setIfInBounds_toArray, List.set_cons_zero, List.set_cons_succ]
            refine wpAnyH_ready (rs := [10]) (by kernel_rfl) (by simp) ?_
            refine AllReadyH.cons (by simp only [List.getElem?_toArray, List.getElem?_cons_zero, List.getElem?_cons_succ]; rfl) (fun K hK => ?_) AllReadyH.nil
            go_simp
            change K _ (w5.alloc (.cells riZ.toArray tI))
            have PE := Lib.hid (PD.out.below ((Below.refl _ _).alloc (Nat.le_refl _) (.cells riZ.toArray tI)))
            have HZ6 := Lib.hid (At.new w5 tI riZ)
            have HYB : Hid (xb ≠ w5.heap.size ∧ w.heap.size < w5.heap.size) := Lib.hid (by have := PD.out.box.lt; have := PD.out.xb0; omega)
            clear hHeld
            generalize w5.alloc (.cells riZ.toArray tI) = w6 at *
            generalize w5.heap.size = yb at *
            have HF := Lib.hid (PE.out.store HZ6.out HYB.out.1 HYB.out.2)
            refine hK.out _ _ ⟨PE.out.box, PE.out.bel⟩ (fun hHeld => ?_)
            clear hK K
            try simp only [Act.put, List.setIfInBounds_toArray, List.set_cons_zero, List.set_cons_succ]
            refine wpAnyH_ready (rs := [11]) (by kernel_rfl) (by simp) ?_
            refine AllReadyH.cons (by simp only [List.getElem?_toArray, List.getElem?_cons_zero, List.getElem?_cons_succ]; rfl) (fun K hK => ?_) AllReadyH.nil
            rw [if_pos (by rfl)]
            refine wp_store_mid tI _ _ (by rfl) yb 0 (ri c M2 p2).toArray (by rfl) (by rfl) (HZ6.out.there rfl) tI_size (all_oneCell_toArray (ri_one c M2 p2)) ?_
            change K _ (riSet w6 yb c M2 p2)
            refine hK.out _ _ HF.out.2 (fun hHeld => ?_)
            clear hK K
            try simp only [Act.put]
            refine wpAnyH_take (i := 12) (v := .bool true) (by simp only [List.getElem?_toArray, List.getElem?_cons_zero, List.getElem?_cons_succ]; rfl) (by kernel_rfl) (by kernel_rfl) (by kernel_rfl) (by exact fun _ _ _ h => h) (Or.inl ⟨by rfl, fun V hV => by go_simp⟩) hHeld ?_
            simp only [Act.put, List.setIfInBounds_toArray, List.set_cons_zero, List.set_cons_succ]
            refine wpAnyH_done (by kernel_rfl) ?_ _
            go_wp2_with fail
            go_meet
            rw [HMID.out]
            exact ⟨rfl, HF.out.1⟩
          · go_simp
            change K _ (wr.drew.alloc (.cells riZ.toArray tI))
            clear hHeld
            have HYB : Hid (xb ≠ wr.heap.size ∧ w.heap.size < wr.heap.size) := Lib.hid (by have := HPL.out.box.lt; have := PQ.out.xb0; omega)
            generalize wr.drew.alloc (.cells riZ.toArray tI) = w4 at *
            generalize wr.heap.size = yb at *
            refine hK.out _ _ ⟨PB.out.box, PB.out.bel⟩ (fun hHeld => ?_)
            clear hK K
            try simp only [Act.put, List.setIfInBounds_toArray, List.set_cons_zero, List.set_cons_succ]
            refine wpAnyH_ready (rs := [6]) (by kernel_rfl) (by simp) ?_
            refine AllReadyH.cons (by simp only [List.getElem?_toArray, List.getElem?_cons_zero, List.getElem?_cons_succ]; rfl) (fun K hK => ?_) AllReadyH.nil
            go_simp
            refine (HDO.out _ PB.out).mono ?_; rintro e w6 ⟨Y2, M2, p2, S2, X2, rfl, hb5, ht5⟩
            have PD := Lib.hid (PB.out.deed hb5 ht5)
            have HZ6 := Lib.hid (PB.out.both.ib.m.at_stays ht5.tn HZB.out tI_not)
            have HF := Lib.hid (PD.out.store HZ6.out HYB.out.1 HYB.out.2)
            clear hb5 ht5 hHeld
            go_wp2_with fail
            refine hK.out _ _ ⟨PD.out.box, PD.out.bel⟩ (fun hHeld => ?_)
            clear hK K
            try simp only [Act.put, List.setIfInBounds_toArray, List.set_cons_zero, List.set_cons_succ]
            refine wpAnyH_take (i := 7) (v := .tuple #[riV c M2 p2, .bool true]) (by simp only [List.getElem?_toArray, List.getElem?_cons_zero, List.getElem?_cons_succ]; rfl) (by kernel_rfl) (by kernel_rfl) (by kernel_rfl) (by exact fun _ _ _ h => h) (Or.inl ⟨by rfl, fun V hV => by go_simp⟩) hHeld ?_
            simp only [Act.put, List.setIfInBounds_toArray, List.set_cons_zero, List.set_cons_succ]
            refine wpAnyH_take (i := 8) (v := riV c M2 p2) (by simp only [List.getElem?_toArray, List.getElem?_cons_zero, List.getElem?_cons_succ]; rfl) (by kernel_rfl) (by kernel_rfl) (by kernel_rfl) (by exact fun _ _ _ h => h) (Or.inl ⟨by rfl, fun V hV => by go_simp⟩) hHeld ?_
            simp only [Act.put, List.setIfInBounds_toArray, List.set_cons_zero, List.set_cons_succ]
            refine wpAnyH_take (i := 9) (v := .bool true) (by simp only [List.getElem?_toArray, List.getElem?_cons_zero, List.getElem?_cons_succ]; rfl) (by kernel_rfl) (by kernel_rfl) (by kernel_rfl) (by exact fun _ _ _ h => h) (Or.inl ⟨by rfl, fun V hV => by go_simp⟩) hHeld ?_
            simp only [Act.put, List.setIfInBounds_toArray, List.set_cons_zero, List.set_cons_succ]
            refine wpAnyH_ready (rs := [11]) (by kernel_rfl) (by simp) ?_
            refine AllReadyH.cons (by simp only [List.getElem?_toArray, List.getElem?_cons_zero, List.getElem?_cons_succ]; rfl) (fun K hK => ?_) AllReadyH.nil
            rw [if_pos (by rfl)]
            refine wp_store_mid tI _ _ (by rfl) yb 0 (ri c M2 p2).toArray (by rfl) (by rfl) (HZ6.out.there rfl) tI_size (all_oneCell_toArray (ri_one c M2 p2)) ?_
            change K _ (riSet w6 yb c M2 p2)
            refine hK.out _ _ HF.out.2 (fun hHeld => ?_)
            clear hK K
            try simp only [Act.put]
            refine wpAnyH_take (i := 12) (v := .bool true) (by simp only [List.getElem?_toArray, List.getElem?_cons_zero, List.getElem?_cons_succ]; rfl) (by kernel_rfl) (by kernel_rfl) (by kernel_rfl) (by exact fun _ _ _ h => h) (Or.inl ⟨by rfl, fun V hV => by go_simp⟩) hHeld ?_
            simp only [Act.put, List.setIfInBounds_toArray, List.set_cons_zero, List.set_cons_succ]
            refine wpAnyH_done (by kernel_rfl) ?_ _
            go_wp2_with fail
            go_meet
            rw [HMID.out]
            exact ⟨rfl, HF.out.1⟩
        case rest =>
          obtain ⟨rfl, hcut⟩ := hcut
          rw [HMID.out] at hcut
          obtain ⟨yb, Y2, M2, p2, S2, X2, rfl, ya, hn, hb, hyi, xa, sa, bl, ow, hx0⟩ := hcut
          have HA7 := Lib.hid ya
          have HX7 := Lib.hid xa
          have HB7 := Lib.hid (And.intro hb (And.intro hyi (And.intro sa (And.intro bl (And.intro ow hx0)))))
          clear ya hn hb hyi xa sa bl ow hx0 HPL HMID d0 d1 d2 d3 PQ PB HZB HDO
          go_upto_region 14 with (first | (refine wpi_load rfl _ rfl rfl HA7.out ?_) | (refine wpi_store rfl _ _ rfl rfl rfl HX7.out rfl ?_; intro w7 ha7 ht7; have HA8 := Lib.hid ha7; have HT8 := Lib.hid ht7; clear ha7 ht7))
          have P8 : Hid (PlayI w iy xb c (k + 1) w7 Y2 M2 p2 S2 X2) := Lib.hid (by
            obtain ⟨hb, hyi, sa, bl, ow, hx0⟩ := HB7.out
            have hne : ¬ w.heap.size = xb := by omega
            exact ⟨hb.tn HX7.out HT8.out, hyi, HA8.out, sa.tn HT8.out hne, HT8.out.below bl bl.size (fun i hi e => by have e : i = xb := e; omega), ow, hx0⟩)
          clear HA7 HX7 HB7 HA8 HT8
          have HYE : Hid (∀ (W : World), PlayI w iy xb c (k + 1) W Y2 M2 p2 S2 X2 → ibp Y = ibp Y2) := Lib.hid fun W h => by unfold ibp; rw [HYI.out, h.i]
          have HACK : Hid (∀ W, PlayI w iy xb c (k + 1) W Y2 M2 p2 S2 X2 → Calls Try.prog 11 #[ibp Y] W fun e w' => e = .returned (.tuple #[.int .u32 (ackZ M2), .int .i64 M2.n]) ∧ ∃ q, w' = W.drewN q) := Lib.hid fun W h => by
            rw [HYE.out W h]; exact ib_ack Y2 M2 W h.both.ib.m
          have HEND : Hid (∀ W, PlayI w iy xb c (k + 1) W Y2 M2 p2 S2 X2 → Calls Try.prog 13 #[ibp Y] W fun e w' => e = .returned (.bool (endZ M2)) ∧ Below W.heap.size W w') := Lib.hid fun W h => by
            rw [HYE.out W h]
            refine (ib_ended Y2 M2 W h.both.ib.m).mono ?_
            rintro e w' ⟨rfl, q, rfl⟩
            exact ⟨rfl, bel_drewN (Below.refl _ _) (Nat.le_refl _) q⟩
          have HHLD : Hid (∀ W, PlayI w iy xb c (k + 1) W Y2 M2 p2 S2 X2 → Calls Try.prog 18 #[ibp Y] W fun e w' => e = .returned (.int .i64 M2.hd) ∧ W = w') := Lib.hid fun W h => by
            rw [HYE.out W h]; exact ib_held Y2 M2 W h.both.ib.m
          have HLCK : Hid (∀ W, PlayI w iy xb c (k + 1) W Y2 M2 p2 S2 X2 → Calls Try.prog 16 #[ibp Y] W (GivesU W (lkL M2.B M2.L M2.k))) := Lib.hid fun W h => by
            rw [HYE.out W h]; exact ib_lacks Y2 M2 W h.both.ib
          have HRA := Lib.hid (fun W => ri_ack c M2 p2 W)
          have HRE := Lib.hid (fun W => ri_ended c M2 p2 W)
          have HRL : Hid (∀ W, PlayI w iy xb c (k + 1) W Y2 M2 p2 S2 X2 → Calls Try.prog 17 #[riV c M2 p2] W (GivesU W (lkL M2.B M2.L M2.k))) := Lib.hid fun W h => by
            obtain ⟨dd, h1, h2⟩ := h.both.sv.sv
            have h3 := h.both.sv.few
            exact ri_lacks c M2 p2 S2 X2 dd W h.both.ri h2 h.both.ib.k64 (by omega) (by omega) h.both.ib.m.u32 h.both.ib.m.od.n64
          have HRH : Hid (∀ W, PlayI w iy xb c (k + 1) W Y2 M2 p2 S2 X2 → Calls Try.prog 19 #[riV c M2 p2] W fun e w' => e = .returned (.int .i64 M2.hd) ∧ Below W.heap.size W w') := Lib.hid fun W h => by
            have h1 := h.both.ib.m.rg.size
            have h2 := h.both.ib.m.rg.room
            exact ri_held c M2 p2 S2 X2 W h.both.ri h.both.ib.i h.both.ib.m.u32 h.both.ib.m.od.n64 (by omega)
          have HLE : Hid ((lkL M2.B M2.L M2.k).length ≤ 1000) := Lib.hid (by have := lk_len M2.B M2.L M2.k; have := P8.out.both.ib.k64; omega)
          go_wp2_with fail
          refine (HACK.out _ P8.out).mono ?_; rintro e w8 ⟨rfl, q, hq⟩
          have P9 : Hid (PlayI w iy xb c (k + 1) w8.drew Y2 M2 p2 S2 X2) := Lib.hid (by rw [hq]; exact (P8.out.below (bel_drewN (Below.refl _ _) (Nat.le_refl _) q)).below (Below.refl _ _).drew)
          clear hq P8 HACK
          generalize lkL M2.B M2.L M2.k = lk at *
          generalize endZ M2 = ez at *
          generalize ackZ M2 = az at *
          go_upto_region 15 with fail
          refine wp_region_held_drew (S := fun W => PlayI w iy xb c (k + 1) W Y2 M2 p2 S2 X2) (by kernel_rfl) P9.out (fun hHeld => ?_)
          refine wpAnyH_take (i := 0) (v := .bool true) (by simp only [List.getElem?_toArray, List.getElem?_cons_zero]; rfl) (by kernel_rfl) (by kernel_rfl) (by kernel_rfl) (by exact fun _ _ _ h => h) (Or.inl ⟨by rfl, fun V hV => by go_simp⟩) hHeld ?_
          simp only [Act.put, List.setIfInBounds_toArray, List.set_cons_zero, List.set_cons_succ]
          refine wpAnyH_take (i := 1) (v := .bool false) (by simp only [List.getElem?_toArray, List.getElem?_cons_zero, List.getElem?_cons_succ]; rfl) (by kernel_rfl) (by kernel_rfl) (by kernel_rfl) (by exact fun _ _ _ h => h) (Or.inl ⟨by rfl, fun V hV => by go_simp⟩) hHeld ?_
          simp only [Act.put, List.setIfInBounds_toArray, List.set_cons_zero, List.set_cons_succ]
          refine wpAnyH_take (i := 2) (v := .bool false) (by simp only [List.getElem?_toArray, List.getElem?_cons_zero, List.getElem?_cons_succ]; rfl) (by kernel_rfl) (by kernel_rfl) (by kernel_rfl) (by exact fun _ _ _ h => h) (Or.inl ⟨by rfl, fun V hV => by go_simp⟩) hHeld ?_
          simp only [Act.put, List.setIfInBounds_toArray, List.set_cons_zero, List.set_cons_succ]
          refine wpAnyH_take (i := 3) (v := .int .u32 az) (by simp only [List.getElem?_toArray, List.getElem?_cons_zero, List.getElem?_cons_succ]; rfl) (by kernel_rfl) (by kernel_rfl) (by kernel_rfl) (by exact fun _ _ _ h => h) (Or.inl ⟨by rfl, fun V hV => by go_simp⟩) hHeld ?_
          simp only [Act.put, List.setIfInBounds_toArray, List.set_cons_zero, List.set_cons_succ]
          refine wpAnyH_take (i := 4) (v := riV c M2 p2) (by simp only [List.getElem?_toArray, List.getElem?_cons_zero, List.getElem?_cons_succ]; rfl) (by kernel_rfl) (by kernel_rfl) (by kernel_rfl) (by exact fun _ _ _ h => h) (yieldsIf_load_mid (by rfl) tI _ (by rfl) xb 0 (by rfl) (ri c M2 p2) _ (fun W h => h.box.range) Try.underlying38 rfl (by rw [ri_len]; exact tI_size)) hHeld ?_
          simp only [Act.put, List.setIfInBounds_toArray, List.set_cons_zero, List.set_cons_succ]
          refine wpAnyH_ready (rs := [5]) (by kernel_rfl) (by simp) ?_
          refine AllReadyH.cons (by simp only [List.getElem?_toArray, List.getElem?_cons_zero, List.getElem?_cons_succ]; rfl) (fun K hK => ?_) AllReadyH.nil
          go_simp
          refine (HRA.out _).mono ?_; rintro e wq5 ⟨rfl, g⟩; have P10 := Lib.hid (P9.out.below g); clear g hHeld
          go_wp2_with fail
          refine hK.out _ _ P10.out (fun hHeld => ?_)
          clear hK K
          try simp only [Act.put, List.setIfInBounds_toArray, List.set_cons_zero, List.set_cons_succ]
          refine wpAnyH_take (i := 6) (v := .bool false) (by simp only [List.getElem?_toArray, List.getElem?_cons_zero, List.getElem?_cons_succ]; rfl) (by kernel_rfl) (by kernel_rfl) (by kernel_rfl) (by exact fun _ _ _ h => h) (Or.inl ⟨by rfl, fun V hV => by go_simp⟩) hHeld ?_
          simp only [Act.put, List.setIfInBounds_toArray, List.set_cons_zero, List.set_cons_succ]
          refine wpAnyH_take (i := 7) (v := .bool false) (by simp only [List.getElem?_toArray, List.getElem?_cons_zero, List.getElem?_cons_succ]; rfl) (by kernel_rfl) (by kernel_rfl) (by kernel_rfl) (by exact fun _ _ _ h => h) (Or.inl ⟨by rfl, fun V hV => by go_simp⟩) hHeld ?_
          simp only [Act.put, List.setIfInBounds_toArray, List.set_cons_zero, List.set_cons_succ]
          refine wpAnyH_take (i := 8) (v := .bool false) (by simp only [List.getElem?_toArray, List.getElem?_cons_zero, List.getElem?_cons_succ]; rfl) (by kernel_rfl) (by kernel_rfl) (by kernel_rfl) (by exact fun _ _ _ h => h) (Or.inl ⟨by rfl, fun V hV => by go_simp⟩) hHeld ?_
          simp only [Act.put, List.setIfInBounds_toArray, List.set_cons_zero, List.set_cons_succ]
          refine wpAnyH_take (i := 9) (v := .int .i64 M2.n) (by simp only [List.getElem?_toArray, List.getElem?_cons_zero, List.getElem?_cons_succ]; rfl) (by kernel_rfl) (by kernel_rfl) (by kernel_rfl) (by exact fun _ _ _ h => h) (Or.inl ⟨by rfl, fun V hV => by go_simp⟩) hHeld ?_
          simp only [Act.put, List.setIfInBounds_toArray, List.set_cons_zero, List.set_cons_succ]
          refine wpAnyH_take (i := 10) (v := .pointer (some ⟨w.heap.size, 3, none⟩)) (by simp only [List.getElem?_toArray, List.getElem?_cons_zero, List.getElem?_cons_succ]; rfl) (by kernel_rfl) (by kernel_rfl) (by kernel_rfl) (by exact fun _ _ _ h => h) (Or.inl ⟨by rfl, fun V hV => by go_simp⟩) hHeld ?_
          simp only [Act.put, List.setIfInBounds_toArray, List.set_cons_zero, List.set_cons_succ]
          refine wpAnyH_take (i := 11) (v := .int .i64 M2.n) (by simp only [List.getElem?_toArray, List.getElem?_cons_zero, List.getElem?_cons_succ]; rfl) (by kernel_rfl) (by kernel_rfl) (by kernel_rfl) (by exact fun _ _ _ h => h) (Or.inl ⟨by rfl, fun V hV => by have kx := hV.set.cell 3 rfl; rw [hV.both.cw] at kx; go_simp⟩) hHeld ?_
          simp only [Act.put, List.setIfInBounds_toArray, List.set_cons_zero, List.set_cons_succ]
          refine wpAnyH_take (i := 12) (v := .bool false) (by simp only [List.getElem?_toArray, List.getElem?_cons_zero, List.getElem?_cons_succ]; rfl) (by kernel_rfl) (by kernel_rfl) (by kernel_rfl) (by exact fun _ _ _ h => h) (Or.inl ⟨by rfl, fun V hV => by go_simp⟩) hHeld ?_
          simp only [Act.put, List.setIfInBounds_toArray, List.set_cons_zero, List.set_cons_succ]
          refine wpAnyH_take (i := 13) (v := .bool false) (by simp only [List.getElem?_toArray, List.getElem?_cons_zero, List.getElem?_cons_succ]; rfl) (by kernel_rfl) (by kernel_rfl) (by kernel_rfl) (by exact fun _ _ _ h => h) (Or.inl ⟨by rfl, fun V hV => by go_simp⟩) hHeld ?_
          simp only [Act.put, List.setIfInBounds_toArray, List.set_cons_zero, List.set_cons_succ]
          refine wpAnyH_take (i := 14) (v := .bool false) (by simp only [List.getElem?_toArray, List.getElem?_cons_zero, List.getElem?_cons_succ]; rfl) (by kernel_rfl) (by kernel_rfl) (by kernel_rfl) (by exact fun _ _ _ h => h) (Or.inl ⟨by rfl, fun V hV => by go_simp⟩) hHeld ?_
          simp only [Act.put, List.setIfInBounds_toArray, List.set_cons_zero, List.set_cons_succ]
          refine wpAnyH_take (i := 15) (v := ibp Y) (by simp only [List.getElem?_toArray, List.getElem?_cons_zero, List.getElem?_cons_succ]; rfl) (by kernel_rfl) (by kernel_rfl) (by kernel_rfl) (by exact fun _ _ _ h => h) (Or.inl ⟨by rfl, fun V hV => by go_simp⟩) hHeld ?_
          simp only [Act.put, List.setIfInBounds_toArray, List.set_cons_zero, List.set_cons_succ]
          refine wpAnyH_take (i := 17) (v := riV c M2 p2) (by simp only [List.getElem?_toArray, List.getElem?_cons_zero, List.getElem?_cons_succ]; rfl) (by kernel_rfl) (by kernel_rfl) (by kernel_rfl) (by exact fun _ _ _ h => h) (yieldsIf_load_mid (by rfl) tI _ (by rfl) xb 0 (by rfl) (ri c M2 p2) _ (fun W h => h.box.range) Try.underlying38 rfl (by rw [ri_len]; exact tI_size)) hHeld ?_
          simp only [Act.put, List.setIfInBounds_toArray, List.set_cons_zero, List.set_cons_succ]
          refine wpAnyH_ready (rs := [16]) (by kernel_rfl) (by simp) ?_
          refine AllReadyH.cons (by simp only [List.getElem?_toArray, List.getElem?_cons_zero, List.getElem?_cons_succ]; rfl) (fun K hK => ?_) AllReadyH.nil
          go_simp
          refine (HEND.out _ P10.out).mono ?_; rintro e wq16 ⟨rfl, g⟩; have P11 := Lib.hid (P10.out.below g); clear g hHeld
          go_wp2_with fail
          refine hK.out _ _ P11.out (fun hHeld => ?_)
          clear hK K
          try simp only [Act.put, List.setIfInBounds_toArray, List.set_cons_zero, List.set_cons_succ]
          refine wpAnyH_ready (rs := [18]) (by kernel_rfl) (by simp) ?_
          refine AllReadyH.cons (by simp only [List.getElem?_toArray, List.getElem?_cons_zero, List.getElem?_cons_succ]; rfl) (fun K hK => ?_) AllReadyH.nil
          go_simp
          refine (HRE.out _).mono ?_; rintro e wq18 ⟨rfl, g⟩; have P12 := Lib.hid (P11.out.below g); clear g hHeld
          go_wp2_with fail
          refine hK.out _ _ P12.out (fun hHeld => ?_)
          clear hK K
          try simp only [Act.put, List.setIfInBounds_toArray, List.set_cons_zero, List.set_cons_succ]
          refine wpAnyH_take (i := 19) (v := .bool false) (by simp only [List.getElem?_toArray, List.getElem?_cons_zero, List.getElem?_cons_succ]; rfl) (by kernel_rfl) (by kernel_rfl) (by kernel_rfl) (by exact fun _ _ _ h => h) (Or.inl ⟨by rfl, fun V hV => by go_simp⟩) hHeld ?_
          simp only [Act.put, List.setIfInBounds_toArray, List.set_cons_zero, List.set_cons_succ]
          refine wpAnyH_take (i := 20) (v := .bool false) (by simp only [List.getElem?_toArray, List.getElem?_cons_zero, List.getElem?_cons_succ]; rfl) (by kernel_rfl) (by kernel_rfl) (by kernel_rfl) (by exact fun _ _ _ h => h) (Or.inl ⟨by rfl, fun V hV => by go_simp⟩) hHeld ?_
          simp only [Act.put, List.setIfInBounds_toArray, List.set_cons_zero, List.set_cons_succ]
          refine wpAnyH_take (i := 21) (v := .bool false) (by simp only [List.getElem?_toArray, List.getElem?_cons_zero, List.getElem?_cons_succ]; rfl) (by kernel_rfl) (by kernel_rfl) (by kernel_rfl) (by exact fun _ _ _ h => h) (Or.inl ⟨by rfl, fun V hV => by go_simp⟩) hHeld ?_
          simp only [Act.put, List.setIfInBounds_toArray, List.set_cons_zero, List.set_cons_succ]
          refine wpAnyH_take (i := 22) (v := ibp Y) (by simp only [List.getElem?_toArray, List.getElem?_cons_zero, List.getElem?_cons_succ]; rfl) (by kernel_rfl) (by kernel_rfl) (by kernel_rfl) (by exact fun _ _ _ h => h) (Or.inl ⟨by rfl, fun V hV => by go_simp⟩) hHeld ?_
          simp only [Act.put, List.setIfInBounds_toArray, List.set_cons_zero, List.set_cons_succ]
          refine wpAnyH_take (i := 24) (v := riV c M2 p2) (by simp only [List.getElem?_toArray, List.getElem?_cons_zero, List.getElem?_cons_succ]; rfl) (by kernel_rfl) (by kernel_rfl) (by kernel_rfl) (by exact fun _ _ _ h => h) (yieldsIf_load_mid (by rfl) tI _ (by rfl) xb 0 (by rfl) (ri c M2 p2) _ (fun W h => h.box.range) Try.underlying38 rfl (by rw [ri_len]; exact tI_size)) hHeld ?_
          simp only [Act.put, List.setIfInBounds_toArray, List.set_cons_zero, List.set_cons_succ]
          refine wpAnyH_ready (rs := [23]) (by kernel_rfl) (by simp) ?_
          refine AllReadyH.cons (by simp only [List.getElem?_toArray, List.getElem?_cons_zero, List.getElem?_cons_succ]; rfl) (fun K hK => ?_) AllReadyH.nil
          go_simp
          refine (HLCK.out _ P12.out).mono ?_; rintro e wq23 ⟨A1, c1, rfl, _, _, hu, g⟩; have P13 := Lib.hid (P12.out.below g); have U13 := Lib.hid hu; clear g hu hHeld
          go_wp2_with fail
          refine hK.out _ _ P13.out (fun hHeld => ?_)
          clear hK K
          try simp only [Act.put, List.setIfInBounds_toArray, List.set_cons_zero, List.set_cons_succ]
          refine wpAnyH_ready (rs := [25]) (by kernel_rfl) (by simp) ?_
          refine AllReadyH.cons (by simp only [List.getElem?_toArray, List.getElem?_cons_zero, List.getElem?_cons_succ]; rfl) (fun K hK => ?_) AllReadyH.nil
          go_simp
          refine (HRL.out _ P13.out).mono ?_; rintro e wq25 ⟨A2, c2, rfl, _, _, hu, g⟩; have P14 := Lib.hid (P13.out.below g); have U14 := Lib.hid (U13.out.below g); have V14 := Lib.hid hu; clear g hu hHeld U13
          go_wp2_with fail
          refine hK.out _ _ P14.out (fun hHeld => ?_)
          clear hK K
          try simp only [Act.put, List.setIfInBounds_toArray, List.set_cons_zero, List.set_cons_succ]
          refine wpAnyH_ready (rs := [26]) (by kernel_rfl) (by simp) ?_
          refine AllReadyH.cons (by simp only [List.getElem?_toArray, List.getElem?_cons_zero, List.getElem?_cons_succ]; rfl) (fun K hK => ?_) AllReadyH.nil
          go_simp
          refine (ri_numbers A1 A2 lk.length c1 c2 lk _ U14.out V14.out HLE.out).mono ?_; rintro e wq26 ⟨rfl, g⟩; have P15 := Lib.hid (P14.out.below g); clear g hHeld
          go_wp2_with fail
          refine hK.out _ _ P15.out (fun hHeld => ?_)
          clear hK K
          try simp only [Act.put, List.setIfInBounds_toArray, List.set_cons_zero, List.set_cons_succ]
          refine wpAnyH_take (i := 27) (v := .bool false) (by simp only [List.getElem?_toArray, List.getElem?_cons_zero, List.getElem?_cons_succ]; rfl) (by kernel_rfl) (by kernel_rfl) (by kernel_rfl) (by exact fun _ _ _ h => h) (Or.inl ⟨by rfl, fun V hV => by go_simp⟩) hHeld ?_
          simp only [Act.put, List.setIfInBounds_toArray, List.set_cons_zero, List.set_cons_succ]
          refine wpAnyH_take (i := 28) (v := .bool false) (by simp only [List.getElem?_toArray, List.getElem?_cons_zero, List.getElem?_cons_succ]; rfl) (by kernel_rfl) (by kernel_rfl) (by kernel_rfl) (by exact fun _ _ _ h => h) (Or.inl ⟨by rfl, fun V hV => by go_simp⟩) hHeld ?_
          simp only [Act.put, List.setIfInBounds_toArray, List.set_cons_zero, List.set_cons_succ]
          refine wpAnyH_take (i := 29) (v := .bool false) (by simp only [List.getElem?_toArray, List.getElem?_cons_zero, List.getElem?_cons_succ]; rfl) (by kernel_rfl) (by kernel_rfl) (by kernel_rfl) (by exact fun _ _ _ h => h) (Or.inl ⟨by rfl, fun V hV => by go_simp⟩) hHeld ?_
          simp only [Act.put, List.setIfInBounds_toArray, List.set_cons_zero, List.set_cons_succ]
          refine wpAnyH_take (i := 30) (v := ibp Y) (by simp only [List.getElem?_toArray, List.getElem?_cons_zero, List.getElem?_cons_succ]; rfl) (by kernel_rfl) (by kernel_rfl) (by kernel_rfl) (by exact fun _ _ _ h => h) (Or.inl ⟨by rfl, fun V hV => by go_simp⟩) hHeld ?_
          simp only [Act.put, List.setIfInBounds_toArray, List.set_cons_zero, List.set_cons_succ]
          refine wpAnyH_take (i := 32) (v := riV c M2 p2) (by simp only [List.getElem?_toArray, List.getElem?_cons_zero, List.getElem?_cons_succ]; rfl) (by kernel_rfl) (by kernel_rfl) (by kernel_rfl) (by exact fun _ _ _ h => h) (yieldsIf_load_mid (by rfl) tI _ (by rfl) xb 0 (by rfl) (ri c M2 p2) _ (fun W h => h.box.range) Try.underlying38 rfl (by rw [ri_len]; exact tI_size)) hHeld ?_
          simp only [Act.put, List.setIfInBounds_toArray, List.set_cons_zero, List.set_cons_succ]
          refine wpAnyH_ready (rs := [31]) (by kernel_rfl) (by simp) ?_
          refine AllReadyH.cons (by simp only [List.getElem?_toArray, List.getElem?_cons_zero, List.getElem?_cons_succ]; rfl) (fun K hK => ?_) AllReadyH.nil
          go_simp
          refine (HHLD.out _ P15.out).mono ?_; rintro e wq31 ⟨rfl, rfl⟩; clear hHeld
          go_wp2_with fail
          refine hK.out _ _ P15.out (fun hHeld => ?_)
          clear hK K
          try simp only [Act.put, List.setIfInBounds_toArray, List.set_cons_zero, List.set_cons_succ]
          refine wpAnyH_ready (rs := [33]) (by kernel_rfl) (by simp) ?_
          refine AllReadyH.cons (by simp only [List.getElem?_toArray, List.getElem?_cons_zero, List.getElem?_cons_succ]; rfl) (fun K hK => ?_) AllReadyH.nil
          go_simp
          refine (HRH.out _ P15.out).mono ?_; rintro e wq33 ⟨rfl, g⟩; have P16 := Lib.hid (P15.out.below g); clear g hHeld
          go_wp2_with fail
          refine hK.out _ _ P16.out (fun hHeld => ?_)
          clear hK K
          try simp only [Act.put, List.setIfInBounds_toArray, List.set_cons_zero, List.set_cons_succ]
          refine wpAnyH_take (i := 34) (v := .bool false) (by simp only [List.getElem?_toArray, List.getElem?_cons_zero, List.getElem?_cons_succ]; rfl) (by kernel_rfl) (by kernel_rfl) (by kernel_rfl) (by exact fun _ _ _ h => h) (Or.inl ⟨by rfl, fun V hV => by go_simp⟩) hHeld ?_
          simp only [Act.put, List.setIfInBounds_toArray, List.set_cons_zero, List.set_cons_succ]
          refine wpAnyH_take (i := 35) (v := .bool false) (by simp only [List.getElem?_toArray, List.getElem?_cons_zero, List.getElem?_cons_succ]; rfl) (by kernel_rfl) (by kernel_rfl) (by kernel_rfl) (by exact fun _ _ _ h => h) (Or.inl ⟨by rfl, fun V hV => by go_simp⟩) hHeld ?_
          simp only [Act.put, List.setIfInBounds_toArray, List.set_cons_zero, List.set_cons_succ]
          refine wpAnyH_done (by kernel_rfl) ?_ _
          go_wp2_with fail
          go_roundw
          case rel => exact ⟨k + 1, by omega, by go_num, Y2, M2, p2, S2, X2, hHeld⟩
          case measure => simp [intOf]; omega
    · obtain rfl : k = m := by omega
      go_wp2_with fail
      refine (ib_awake_any _).mono ?_; rintro e w3 ⟨rfl, g3⟩
      have R4 := Lib.hid (HPL.out.bel.trans (g3.mono HPL.out.bel.size))
      clear g3
      go_wp2_with fail
      go_ret
      exact ⟨rfl, R4.out⟩
end Go.Proofs.Ytedecminaopgaaa

/- Proved: the walk of the law that plays streams, for all settings and deeds. Conditions: those that the theorem names. -/
namespace Go.Proofs.Ytedecminaopgaaa
open Go.ChangeShapes Go.WideShapes Go.ChangeAt Go.RowKit

theorem ib_play_walk (c : Cf) (hi : c.In) (A : Option Addr) (m cp : Nat) (ds : List Di) (w : World) (hd : Dis w A m ds) :
    Calls Try.prog 3 #[c.val, .slice A m cp] w fun e w' => e = .returned (.bool true) ∧ Below w.heap.size w w' := by
  cases h : smB c
  · exact ib_play_great c hi A m cp w (.inl h)
  · by_cases hm : m ≤ 60
    · exact ib_play_main c hi A m cp ds w hd h hm
    · exact ib_play_great c hi A m cp w (.inr ⟨h, by omega⟩)
end Go.Proofs.Ytedecminaopgaaa

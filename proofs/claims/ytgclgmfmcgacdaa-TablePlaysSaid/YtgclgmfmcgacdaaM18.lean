/- Proved: lemmas of one statement's proof, merged by program: what each part proves stands ahead of it. Conditions: those that the lemmas name. -/
import Derived.Test.YtgclgmfmcgacdaaM8
import Derived.Test.YtgclgmfmcgacdaaM11
import Derived.Test.YtgclgmfmcgacdaaM16
import Derived.Test.YtgclgmfmcgacdaaM17

/- Proved: which part a key is in. Conditions: those that the theorems name. -/
namespace Go.Proofs.Ytgclgmfmcgacdaa
open Go.ChangeShapes Go.WideShapes Go.ChangeAt Go.RowKit

set_option maxRecDepth 100000 in
set_option maxHeartbeats 800000 in
theorem tb_part {w : World} {b gp n : Nat} {r : List Value} (hT : At w b 65 (.slice (some ⟨gp, 0, none⟩) n n :: r)) (hn : 1 ≤ n ∧ n ≤ 64) {k : Ky} (hk : KyOk k) :
    Calls Try.prog 24 #[ptv b, kyV k] w fun e w' => e = .returned (.pointer (some ⟨gp, pj n k * 3, none⟩)) ∧ Tn Nil w w' := by
  have hT1 := hT.alloc (.cells #[.int .i64 k.1, .int .u32 k.2] 35)
  have HT : Hid (Tn Nil w (w.alloc (.cells #[.int .i64 k.1, .int .u32 k.2] 35))) := Lib.hid ((Tn.refl _ w).alloc _)
  have HX := At.new w 35 [.int .i64 k.1, .int .u32 k.2]
  have c0 := hT1.cell 0 rfl
  have x0 := HX.cell 0 rfl
  have x1 := HX.cell 1 rfl
  have s0 := hk.s0
  have s1 := hk.s1
  have b0 := hk.b0
  have b1 := hk.b1
  clear hT hT1 HX hk
  have hn1 := hn.1
  have hn2 := hn.2
  have hwn : IntKind.u64.wrap (n : Int) = n := by rw [IntKind.wrap_u64]; omega
  have hwa : IntKind.u64.wrap k.1 = k.1 % 18446744073709551616 := IntKind.wrap_u64 _
  have hwb : IntKind.u64.wrap k.2 = k.2 := by rw [IntKind.wrap_u64]; omega
  have hwc : IntKind.u64.wrap (k.1 % 18446744073709551616 + k.2) = (k.1 % 18446744073709551616 + k.2) % 18446744073709551616 := IntKind.wrap_u64 _
  have hz : ¬ ((n : Int) = 0) := by omega
  have hi0 : 0 ≤ (k.1 + k.2) % 18446744073709551616 % (n : Int) := Int.emod_nonneg _ (by omega)
  have hi1 : (k.1 + k.2) % 18446744073709551616 % (n : Int) < n := Int.emod_lt_of_pos _ (by omega)
  unfold pj
  go_enter Try.func24, Try.ntmps24
  go_wp2_with fail
  generalize w.heap.size = bx at *
  generalize hw1 : w.alloc (.cells #[.int .i64 k.1, .int .u32 k.2] 35) = w1 at *
  go_quiet (fail)
  go_wp2_with fail
  go_ret
  exact ⟨rfl, HT.out.drewN _⟩
end Go.Proofs.Ytgclgmfmcgacdaa

/- Proved: what begin and add of package table leave. Conditions: those that the theorems name. -/
namespace Go.Proofs.Ytgclgmfmcgacdaa
open Go.ChangeShapes Go.WideShapes Go.ChangeAt Go.RowKit Go.MuLone

/-- entries that may be. -/
structure Wf (X : List En) (room : Nat) : Prop where
  ok : ∀ e ∈ X, EnOk e
  kn : (X.map En.k).Nodup
  len : X.length ≤ room
  room : room ≤ 65536
/-- those that are not ready, in order. -/
def lineP (X : List En) : List Nat := (X.filter fun e => !e.ready).map En.p
theorem lineP_mem {X : List En} {q : Nat} : q ∈ lineP X ↔ ∃ e ∈ X, e.ready = false ∧ e.p = q := by
  unfold lineP
  simp only [List.mem_map, List.mem_filter, Bool.not_eq_true']
  exact ⟨fun ⟨e, ⟨a, b⟩, c⟩ => ⟨e, a, b, c⟩, fun ⟨e, a, b, c⟩ => ⟨e, ⟨a, b⟩, c⟩⟩
theorem findE_some {X : List En} {k : Ky} {e : En} (h : findE X k = some e) : e ∈ X ∧ e.k = k := by
  unfold findE at h
  exact ⟨List.mem_of_find?_eq_some h, by simpa using List.find?_some h⟩
theorem findE_none {X : List En} {k : Ky} (h : findE X k = none) : ∀ e ∈ X, e.k ≠ k := by
  unfold findE at h
  rw [List.find?_eq_none] at h
  exact fun e he f => h e he (by simp [f])
theorem key_one {X : List En} (h : (X.map En.k).Nodup) {a b : En} (ha : a ∈ X) (hb : b ∈ X) (e : a.k = b.k) : a = b := by
  induction X with
  | nil => cases ha
  | cons x r ih =>
    rw [List.map_cons, List.nodup_cons] at h
    rcases List.mem_cons.1 ha with ea | ha <;> rcases List.mem_cons.1 hb with eb | hb
    · rw [ea, eb]
    · exact absurd (List.mem_map.2 ⟨b, hb, by rw [← e, ea]⟩) h.1
    · exact absurd (List.mem_map.2 ⟨a, ha, by rw [e, eb]⟩) h.1
    · exact ih h.2 ha hb
theorem findE_mem {X : List En} (h : (X.map En.k).Nodup) {e : En} (he : e ∈ X) : findE X e.k = some e := by
  cases hf : findE X e.k with
  | none => exact absurd rfl (findE_none hf e he)
  | some a =>
    obtain ⟨ha, hk⟩ := findE_some hf
    rw [key_one h ha he hk]
theorem findE_app (X : List En) (a : En) (k : Ky) : findE (X ++ [a]) k = match findE X k with | some e => some e | none => if a.k = k then some a else none := by
  unfold findE
  rw [List.find?_append]
  cases List.find? (fun e => decide (e.k = k)) X with
  | some e => rfl
  | none =>
    by_cases h : a.k = k <;> simp [h]
theorem fOf_app {X : List En} {a : En} {n j : Nat} (h : findE X a.k = none) (k : Ky) : fOf (X ++ [a]) n j k = if pj n a.k = j ∧ k = a.k then some a.p else fOf X n j k := by
  unfold fOf
  rw [findE_app]
  by_cases e : k = a.k
  · subst e
    by_cases f : pj n a.k = j <;> simp [h, f]
  · have e' : ¬ a.k = k := fun g => e g.symm
    cases hk : findE X k <;> simp [e, e']
theorem cntJ_app (X : List En) (a : En) (n j : Nat) : cntJ (X ++ [a]) n j = cntJ X n j + if pj n a.k = j then 1 else 0 := by
  unfold cntJ
  rw [List.filter_append, List.length_append]
  by_cases h : pj n a.k = j <;> simp [h]
theorem cntJ_le (X : List En) (n j : Nat) : cntJ X n j ≤ X.length := List.length_filter_le _ _

section
variable {w w' : World} {L : Ly} {n room : Nat} {many : Int} {XM XN : List En} {U : List Nat} {ls : Int} {sp : Nat → Int}
/-- one map turns. -/
theorem St.remap {XM' : List En} {j : Nat} (h : St w L n room many XM XN U ls sp) (hj : j < n) (h64 : n ≤ 64) (t : Tn (fun i => i = L.mp j) w w') {f : Ky → Option Nat} {m : Nat} (hm : Mq w' (L.mp j) f m)
    (e0 : ∀ i, i < n → i ≠ j → (∀ k, fOf XM' n i k = fOf XM n i k) ∧ cntJ XM' n i = cntJ XM n i) (e1 : ∀ k, KyOk k → fOf XM' n j k = f k) (e2 : cntJ XM' n j = m) : St w' L n room many XM' XN U ls sp := by
  obtain ⟨ah, bh, h1, h2, h3⟩ := h.nodes
  have q : ∀ {g : Nat} {v : Int}, L.col g = v → v ≠ 100 + j → ¬ g = L.mp j := fun e hv f => hv (by rw [← e, f]; exact h.cm j hj)
  refine ⟨h.tab.tn t (q h.cb (by omega)), h.par.tn t (q h.cg (by omega)), fun i hi => ?_, ⟨ah, bh, h1.tn t (q h.cz (by omega)), fun e he => (h2 e he).tn t fun g _ f => ?_, h3⟩, h.ln, h.lu, h.pn, h.cb, h.cg, h.cz, h.cm, fun i hi => h.ahead i (Nat.le_trans t.size hi)⟩
  · by_cases e : i = j
    · subst e
      rw [e2]
      exact hm.congr e1
    · have hne : L.mp i ≠ L.mp j := fun f => by
        have a := h.cm i hi
        rw [f, h.cm j hj] at a
        omega
      rw [(e0 i hi e).2]
      exact ((h.maps i hi).tn t hne).congr fun k _ => (e0 i hi e).1 k
  · rw [show g = L.mp j from f, h.cm j hj]; omega
theorem mine_m (h : St w L n room many XM XN U ls sp) {j : Nat} (hj : j < n) (t : Tn (fun i => i = L.mp j) w w') : Tn (Mine L) w w' :=
  t.mono fun g _ e => by rw [show g = L.mp j from e]; show L.col _ ≠ -1; rw [h.cm j hj]; omega
/-- what a new entry's coming in tells. -/
def newN (a : En) : Int := if a.ready = true then 3 else 0
set_option maxRecDepth 100000 in
set_option maxHeartbeats 1600000 in
theorem tb_begin_full {X : List En} {a : En} (h : St w L n room X.length X (X ++ [a]) U 0 sp) (hf : X.length = room) (j : Nat) :
    Calls Try.prog 28 #[ptv L.b, .pointer (some ⟨L.gp, j, none⟩), ptv a.p] w fun e w' => e = .returned (.int .i64 2) ∧ St w' L n room X.length X (X ++ [a]) U 0 sp ∧ Tn (Mine L) w w' := by
  have HE := Lib.hid (tb_enter_full h (by rw [hf]) a.p)
  clear h hf
  go_enter Try.func28, Try.ntmps28
  go_wp2_with fail
  refine HE.out.mono ?_; rintro e w1 ⟨rfl, h1, t1⟩
  have H1 := Lib.hid (And.intro h1 t1)
  clear h1 t1
  go_wp2_with fail
  go_ret
  exact ⟨rfl, H1.out⟩
set_option maxRecDepth 100000 in
set_option maxHeartbeats 1600000 in
theorem tb_begin {X : List En} {a : En} (h : St w L n room X.length X (X ++ [a]) U 0 sp) (hX : Wf X room) (hn : 1 ≤ n ∧ n ≤ 64) (ha : EnOk a) (hf : findE X a.k = none) (hp : a.p ∉ U) (hr : X.length ≠ room) :
    Calls Try.prog 28 #[ptv L.b, .pointer (some ⟨L.gp, pj n a.k * 3, none⟩), ptv a.p] w fun e w' => e = .returned (.int .i64 (newN a)) ∧ St w' L n room (X.length + 1 : Nat) (X ++ [a]) (X ++ [a]) (enterU a U) 0 sp ∧ Tn (Mine L) w w' := by
  have hj := pj_lt (n := n) (by omega) a.k
  have HE := Lib.hid (tb_enter h (by omega) (by have := hX.len; have := hX.room; omega) (a := a) (by simp) hp ha.l0)
  have HJ := Lib.hid hj
  have HN := Lib.hid hn
  have HA := Lib.hid ha
  have HF := Lib.hid hf
  have HLE : Hid (∀ i, cntJ X n i ≤ 65536) := Lib.hid fun i => by have := cntJ_le X n i; have := hX.len; have := hX.room; omega
  clear h hX hn ha hf hp hr hj
  go_enter Try.func28, Try.ntmps28
  go_wp2_with fail
  refine HE.out.mono ?_; rintro e w1 ⟨rfl, h1, t1⟩
  have H1 := Lib.hid h1
  have T1 := Lib.hid t1
  clear h1 t1 HE
  have c2 := (H1.out.pcell HJ.out).2
  obtain ⟨_, s, v, x, y, hn, _, hsr⟩ := H1.out.entry (e := a) (by simp)
  have HND := Lib.hid hn
  have p0 := At.cell hn 0 rfl
  have p1 := At.cell hn 1 rfl
  clear hn hsr
  go_wp2_with fail
  refine wp_region_still_tail 9 (by kernel_rfl) (by kernel_rfl) ?_
  simp only [List.take_succ_cons, List.take_zero, List.drop_succ_cons, List.drop_zero]
  repeat still_step
  refine wpStill_nil ?_
  change wpList _ _ _ _ _ w1.drew
  have TD : Tn Nil w1 w1.drew := (Tn.refl Nil w1).drew
  have H2 := Lib.hid (H1.out.free TD)
  have T2 := Lib.hid (T1.out.trans (TD.mono (d := Mine L) fun _ _ e => e.elim))
  clear TD c2 p0 p1 H1 T1
  generalize w1.drew = w2 at *
  have hfo : fOf X n (pj n a.k) a.k = none := by unfold fOf; rw [if_pos rfl, HF.out]; rfl
  obtain ⟨w3, hrun, hm3, hg3⟩ := mq_put (H2.out.maps _ HJ.out) (HLE.out _) HA.out.key hfo a.p
  have ht3 : Tn (fun i => i = L.mp (pj n a.k)) w2 w3 := tn_grown hg3 (fun g e => by injection e with e; exact e.symm)
  have H3 : Hid (St w3 L n room (X.length + 1 : Nat) (X ++ [a]) (X ++ [a]) (enterU a U) 0 sp) := Lib.hid (by
    have := H2.out.remap (XM' := X ++ [a]) HJ.out HN.out.2 ht3 hm3 (fun i _ hi => ⟨fun k => by rw [fOf_app HF.out, if_neg (fun g => hi g.1.symm)], by rw [cntJ_app, if_neg (fun g => hi g.symm)]; rfl⟩) (fun k _ => by
      rw [fOf_app HF.out]
      by_cases e : k = a.k
      · subst e; rw [if_pos ⟨rfl, rfl⟩]; simp
      · rw [if_neg (fun g => e g.2)]; simp [e]) (by rw [cntJ_app, if_pos rfl])
    rw [show ((X.length + 1 : Nat) : Int) = (X.length : Int) + 1 by omega]
    exact this)
  have T3 := Lib.hid (T2.out.trans (mine_m H2.out HJ.out ht3))
  clear hm3 hg3 ht3 hfo HND H2 T2
  obtain ⟨_, s, v, x, y, hn, _, hsr⟩ := H3.out.entry (e := a) (by simp)
  obtain ⟨g2, cap2, cur2, rfl, _⟩ := hsr.form (by rw [List.length_map]; have := HA.out.l0; omega)
  have HRD := Lib.hid (nd_ready hn rfl)
  have hrd : decide ((a.l.map (·.2)).length = a.need) = a.ready := by rw [List.length_map]; rfl
  rw [hrd] at HRD
  clear hn hsr hrd
  go_wp2_with fail
  refine HRD.out.mono ?_; rintro e w4 ⟨rfl, g4⟩
  have TD := tn_below Nil (two_drawn (B := w3.heap.size) g4)
  have H4 := Lib.hid (H3.out.free TD)
  have T4 := Lib.hid (T3.out.trans (TD.mono fun _ _ e => e.elim))
  clear TD g4 HRD H3 T3 hrun
  cases hready : a.ready with
  | true =>
    have HV : Hid (newN a = 3) := Lib.hid (by unfold newN; rw [if_pos hready])
    clear hready
    go_wp2_with fail
    go_ret
    exact ⟨by rw [HV.out]; rfl, H4.out, T4.out⟩
  | false =>
    have HV : Hid (newN a = 0) := Lib.hid (by unfold newN; rw [if_neg (by rw [hready]; decide)])
    clear hready
    go_wp2_with fail
    go_ret
    exact ⟨by rw [HV.out]; rfl, H4.out, T4.out⟩
end
end Go.Proofs.Ytgclgmfmcgacdaa

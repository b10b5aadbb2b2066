/- Proved: lemmas of one statement's proof, merged by program: what each part proves stands ahead of it. Conditions: those that the lemmas name. -/
import Derived.Test.YtgclgmfmcgacdaaM10
import Derived.Shelf.Spec.SlicesInsert
import Derived.Shelf.Spec.SlicesInsertGrow
import Derived.Test.YtgclgmfmcgacdaaProg

/- Proved: what leave and forget of package table leave. Conditions: those that the theorems name. -/
namespace Go.Proofs.Ytgclgmfmcgacdaa
open Go.ChangeShapes Go.WideShapes Go.ChangeAt Go.RowKit Go.MuLone

section
variable {w : World} {L : Ly} {n room : Nat} {many : Int} {XM XN : List En} {U : List Nat} {sp : Nat → Int}
/-! ### leave -/
/-- .. of unlink, in a table. -/
theorem tb_unlink {ls : Int} {p : Nat} {A B : List Nat} (h : St w L n room many XM XN (A ++ p :: B) ls sp) :
    Calls Try.prog 46 #[ptv p] w fun e w' => e = .returned (.tuple #[]) ∧ St w' L n room many XM XN (A ++ B) ls sp ∧ Tn (Mine L) w w' := by
  obtain ⟨⟨k, need, s, v, hp⟩, ⟨k1, n1, s1, v1, a1, b1, hx⟩, ⟨k2, n2, s2, v2, a2, b2, hy⟩, d1, d2⟩ := h.unl_at
  refine (nd_unlink hp hx hy d1 d2).mono ?_
  rintro e w' ⟨rfl, hU, ht⟩
  refine ⟨rfl, h.unl hU ht, ht.mono fun g _ f => ?_⟩
  have hg : g = L.z ∨ g ∈ A ++ p :: B := by
    rcases f with rfl | rfl | rfl
    · exact .inr (by simp)
    · rcases lst_mem L.z A with e | e
      · exact .inl e
      · exact .inr (List.mem_append_left _ e)
    · cases B with
      | nil => exact .inl rfl
      | cons b r => exact .inr (by simp)
  have := (h.node hg).1
  show L.col g ≠ -1
  omega
set_option maxRecDepth 100000 in
set_option maxHeartbeats 800000 in
theorem tb_leave {p : Nat} {A B : List Nat} (h : St w L n room many XM XN (A ++ p :: B) 0 sp) :
    Calls Try.prog 45 #[.pointer (some ⟨L.b, 1, none⟩), ptv p] w fun e w' => e = .returned (.tuple #[]) ∧ St w' L n room many XM XN (A ++ B) 0 sp ∧ Tn (Mine L) w w' := by
  have H0 := Lib.hid h
  clear h
  go_enter_defers Try.func45, Try.ntmps45
  go_wp2_with fail
  refine (tb_lock H0.out).mono ?_; rintro e w1 ⟨rfl, h1, t1⟩
  have H1 := Lib.hid h1
  have T1 := Lib.hid (t1.b H0.out)
  clear h1 t1
  go_wp2_with fail
  refine (tb_unlink H1.out).mono ?_; rintro e w2 ⟨rfl, h2, t2⟩
  have H2 := Lib.hid h2
  have T2 := Lib.hid (T1.out.trans t2)
  clear h2 t2
  go_wp2_with fail
  refine leaves_cons (f := 26) (args := #[.pointer (some ⟨L.b, 1, none⟩)]) (by simp) (by simp [go_sem]) ?_
  refine (tb_unlock H2.out .returning).mono ?_
  rintro e u' w5 ⟨rfl, rfl, h5, t5⟩
  exact ⟨_, results_none rfl _ _ _, rfl, h5, T2.out.trans (t5.b H2.out)⟩
/-! ### forget -/
/-- those of the line that are not among the first k of some. -/
def restU (U gs : List Nat) (k : Nat) : List Nat := U.filter fun q => decide (q ∉ gs.take k)
theorem restU_zero (U gs : List Nat) : restU U gs 0 = U := by unfold restU; simp
theorem restU_next {U gs : List Nat} {k : Nat} (hk : k < gs.length) : restU U gs (k + 1) = (restU U gs k).filter fun q => decide (q ≠ gs.getD k 0) := by
  unfold restU
  rw [List.filter_filter]
  refine List.filter_congr fun q _ => ?_
  have e : gs.take (k + 1) = gs.take k ++ [gs.getD k 0] := by
    rw [List.take_add_one, List.getElem?_eq_getElem hk, List.getD_eq_getElem?_getD, List.getElem?_eq_getElem hk]; rfl
  rw [Bool.eq_iff_iff]
  simp only [e, List.mem_append, List.mem_singleton, decide_eq_true_eq, Bool.and_eq_true]
  exact ⟨fun f => ⟨fun g => f (.inr g), fun g => f (.inl g)⟩, fun f g => g.elim f.2 f.1⟩
theorem restU_out {U gs : List Nat} {k : Nat} (hk : k < gs.length) (h : gs.getD k 0 ∉ U) : restU U gs (k + 1) = restU U gs k := by
  rw [restU_next hk, List.filter_eq_self]
  intro q hq
  have : q ∈ U := (List.mem_filter.1 hq).1
  simp only [decide_eq_true_eq]
  intro e
  exact h (e ▸ this)
theorem filter_one {l A B : List Nat} {p : Nat} (h : l = A ++ p :: B) (hn : l.Nodup) : (l.filter fun q => decide (q ≠ p)) = A ++ B := by
  subst h
  obtain ⟨_, nB, nAB⟩ := List.nodup_append.1 hn
  rw [List.filter_append, List.filter_cons, if_neg (by simp)]
  rw [List.filter_eq_self.2 (fun q hq => by simp; exact fun e => nAB q hq p (by simp) e), List.filter_eq_self.2 (fun q hq => by simp; exact fun e => (List.nodup_cons.1 nB).1 (e ▸ hq))]
theorem restU_in {U gs : List Nat} {k : Nat} (hk : k < gs.length) (h : gs.getD k 0 ∈ U) (hn : U.Nodup) (hg : gs.Nodup) : ∃ A B, restU U gs k = A ++ gs.getD k 0 :: B ∧ restU U gs (k + 1) = A ++ B := by
  have hm : gs.getD k 0 ∈ restU U gs k := by
    refine List.mem_filter.2 ⟨h, ?_⟩
    simp only [decide_eq_true_eq]
    rw [List.getD_eq_getElem?_getD, List.getElem?_eq_getElem hk]
    show gs[k] ∉ gs.take k
    intro f
    obtain ⟨j, hj, e⟩ := List.getElem_of_mem f
    rw [List.length_take] at hj
    rw [List.getElem_take] at e
    have := (List.getElem_inj hg).1 e
    omega
  obtain ⟨A, B, e⟩ := List.append_of_mem hm
  exact ⟨A, B, e, by rw [restU_next hk]; exact filter_one e (hn.sublist List.filter_sublist)⟩
set_option maxRecDepth 100000 in
set_option maxHeartbeats 1600000 in
theorem tb_forget {v : Value} {gs : List Nat} (h : St w L n room many XM XN U 0 sp) (hb : 0 ≤ many ∧ many ≤ 65536) (hr : Rr w (fun g => L.col g = -1) v gs) (hgn : gs.Nodup) (hgl : (gs.length : Int) ≤ many)
    (hg : ∀ g ∈ gs, ∃ e ∈ XN, e.p = g ∧ 1 ≤ e.l.length ∧ (g ∈ U ↔ e.ready = false)) :
    Calls Try.prog 32 #[.pointer (some ⟨L.b, 1, none⟩), v] w fun e w' => e = .returned (.tuple #[]) ∧ St w' L n room (many - gs.length) XM XN (restU U gs gs.length) 0 sp ∧ Tn (Mine L) w w' := by
  have H0 := Lib.hid h
  have HR := Lib.hid hr
  have HG := Lib.hid hg
  have HGN := Lib.hid hgn
  have HUN : Hid U.Nodup := Lib.hid (List.nodup_cons.1 h.ln).2
  obtain ⟨A, cap, rfl⟩ := hr.len
  have hb0 := hb.1
  have hb1 := hb.2
  have hl0 : (0 : Int) ≤ (gs.length : Int) := Int.natCast_nonneg _
  clear h hr hg hgn hb
  generalize hgl2 : gs.length = m at *
  have HM := Lib.hid hgl2
  clear hgl2
  go_enter_defers Try.func32, Try.ntmps32
  go_wp2_with fail
  refine (tb_lock H0.out).mono ?_; rintro e w1 ⟨rfl, h1, t1⟩
  have H1 := Lib.hid h1
  have T1 := Lib.hid (t1.b H0.out)
  have HR1 := Lib.hid (HR.out.tn T1.out (fun g _ e f => f e))
  have c4 := h1.tab.cell 4 rfl
  have f4 := h1.tab.free 4
  clear h1 t1
  go_wp2_with fail
  have H2 := Lib.hid (H1.out.count (many - m))
  have T2 : Hid (Tn (Mine L) w (w1.setCell ⟨L.b, 4, none⟩ (.int .i64 (many - m)))) := Lib.hid (T1.out.trans (((Tn.refl (fun i => i = L.b) w1).set ⟨L.b, 4, none⟩ _ (fun _ => rfl)).b H1.out))
  have HR2 := Lib.hid (HR.out.tn T2.out (fun g _ e f => f e))
  clear c4 f4 H1 T1 HR1
  generalize w1.setCell ⟨L.b, 4, none⟩ (.int .i64 (many - m)) = w2 at *
  go_loopw [24] (fun j wr => ∃ k : Nat, k ≤ m ∧ j = .int .i64 k ∧ St wr L n room (many - m) XM XN (restU U gs k) 1 sp ∧ Tn (Mine L) w wr) (fun j _ => m - (intOf j).toNat)
  case atStart => exact ⟨0, by omega, rfl, by rw [restU_zero]; exact H2.out, T2.out⟩
  case round =>
    obtain ⟨k, hk, rfl, hs, ht⟩ := hrel
    have HS := Lib.hid hs
    have HT := Lib.hid ht
    clear hs ht
    have hk0 : (0 : Int) ≤ (k : Int) := Int.natCast_nonneg _
    by_cases hlt : k < m
    · have hlt' : (k : Int) < (m : Int) := by omega
      have hkl : k < gs.length := by rw [HM.out]; exact hlt
      have HKL := Lib.hid hkl
      obtain ⟨g, rfl, _, hmg, hcap, hc⟩ := (HR.out.tn HT.out (fun g _ e f => f e)).cell (by omega)
      clear hmg hcap
      have ck := hc k hkl
      obtain ⟨e, he, hep, hel, hiff⟩ := HG.out (gs.getD k 0) (by rw [List.getD_eq_getElem?_getD, List.getElem?_eq_getElem hkl]; exact List.getElem_mem hkl)
      obtain ⟨_, s, v, x, y, hn, _, hsr⟩ := HS.out.entry he
      obtain ⟨g2, cap2, cur2, rfl, _⟩ := hsr.form (by rw [List.length_map]; omega)
      rw [hep] at hn
      have HRD := Lib.hid (nd_ready hn rfl)
      have HN := Lib.hid hn
      have HIF := Lib.hid hiff
      have hrd : decide ((e.l.map (·.2)).length = e.need) = e.ready := by rw [List.length_map]; rfl
      rw [hrd] at HRD
      clear hc hn hsr hep hel hiff hk hrd
      generalize hgk : gs.getD k 0 = p at *
      have HGK := Lib.hid hgk
      clear hgk hkl
      go_wp2_with fail
      refine HRD.out.mono ?_; rintro e' w4 ⟨rfl, g4⟩
      have TD := tn_below Nil (two_drawn (B := wr.heap.size) g4)
      have H4 := Lib.hid (HS.out.free TD)
      have T4 := Lib.hid (HT.out.trans (TD.mono fun _ _ e => e.elim))
      clear TD HS HT g4 HRD HN ck
      cases hready : e.ready with
      | true =>
        have HE : Hid (restU U gs (k + 1) = restU U gs k) := Lib.hid (restU_out HKL.out (by rw [HGK.out, HIF.out, hready]; decide))
        clear hready
        go_wp2_with fail
        go_roundw
        case rel => exact ⟨k + 1, by omega, by go_num, by rw [HE.out]; exact H4.out, T4.out⟩
        case measure => simp [intOf]; omega
      | false =>
        obtain ⟨A, B, e1, e2⟩ := restU_in HKL.out (by rw [HGK.out]; exact HIF.out.2 hready) HUN.out HGN.out
        rw [HGK.out] at e1
        rw [e1] at H4
        have HE := Lib.hid e2
        clear hready e1 e2
        go_wp2_with fail
        refine (tb_unlink H4.out).mono ?_; rintro e' w5 ⟨rfl, h5, t5⟩
        have H5 := Lib.hid h5
        have T5 := Lib.hid (T4.out.trans t5)
        clear h5 t5 H4 T4
        go_wp2_with fail
        go_roundw
        case rel => exact ⟨k + 1, by omega, by go_num, by rw [HE.out]; exact H5.out, T5.out⟩
        case measure => simp [intOf]; omega
    · obtain rfl : k = m := by omega
      go_wp2_with fail
      refine leaves_cons (f := 26) (args := #[.pointer (some ⟨L.b, 1, none⟩)]) (by simp) (by simp [go_sem]) ?_
      refine (tb_unlock HS.out .returning).mono ?_
      rintro e u' w5 ⟨rfl, rfl, h5, t5⟩
      exact ⟨_, results_none rfl _ _ _, rfl, h5, HT.out.trans (t5.b HS.out)⟩
end
end Go.Proofs.Ytgclgmfmcgacdaa

/- Proved: what slices.Insert at texts does in this program, by the kit's contract of it, laid by the kit's command in plain words. Conditions: those that the contract names. -/
namespace Go.Proofs
open Go.Shelf
def Try.ins_ren : Go.Shelf.Ren := ⟨fun | 22 => 61 | 29 => 69 | 30 => 70 | 36 => 71 | 17 => 72 | n => n, fun | 24 => 93 | 9 => 9 | 3 => 3 | 4 => 4 | 0 => 0 | n => n, fun | n => n⟩
theorem Try.ins : Go.Proofs.Lays2.n22 Try.prog Try.ins_ren := {
  mixed := by kernel_rfl
  f17 := Try.func72.trans (congrArg some (by kernel_rfl))
  f22 := Try.func61.trans (congrArg some (by kernel_rfl))
  f29 := Try.func69.trans (congrArg some (by kernel_rfl))
  f30 := Try.func70.trans (congrArg some (by kernel_rfl))
  f36 := Try.func71.trans (congrArg some (by kernel_rfl))
  t0 := Try.underlying0
  a0 := Try.isAgg0
  z0 := Try.sizeOf0
  v0 := Try.zeroValue0
  t3 := Try.underlying3
  a3 := Try.isAgg3
  z3 := Try.sizeOf3
  v3 := Try.zeroValue3
  t4 := Try.underlying4
  a4 := Try.isAgg4
  z4 := Try.sizeOf4
  v4 := Try.zeroValue4
  t9 := Try.underlying9
  a9 := Try.isAgg9
  z9 := Try.sizeOf9
  v9 := Try.zeroValue9
  t24 := Try.underlying93
  a24 := Try.isAgg93
  z24 := Try.sizeOf93
  v24 := Try.zeroValue93
  i9 := by kernel_rfl }
end Go.Proofs

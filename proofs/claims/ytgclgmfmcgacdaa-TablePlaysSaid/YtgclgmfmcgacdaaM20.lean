/- Proved: lemmas of one statement's proof, merged by program: what each part proves stands ahead of it. Conditions: those that the lemmas name. -/
import Derived.Test.YtgclgmfmcgacdaaM19

/- Proved: what Get, Len and Oldest of package table answer. Conditions: those that the theorems name. -/
namespace Go.Proofs.Ytgclgmfmcgacdaa
open Go.ChangeShapes Go.WideShapes Go.ChangeAt Go.RowKit Go.MuLone

def getL (X : List En) (k : Ky) : List Shd := match findE X k with | some e => e.l | none => []
/-- shards come back, and whether there is an entry. -/
def GivesG (w : World) (l : List Shd) (b : Bool) (e : Ending) (w' : World) : Prop := ∃ v, e = .returned (.tuple #[v, .bool b]) ∧ w'.ownsRow w.heap.size 32 2 v l.length (hcells l)
theorem own_base2 {w : World} {base base' n : Nat} {v : Value} {l : List Shd} (h : w.ownsRow base 32 2 v n (hcells l)) (hb : base' ≤ base) : w.ownsRow base' 32 2 v n (hcells l) := by
  refine ⟨h.1, ?_⟩
  rcases h.2 with hn | ⟨g, cap, cur, rfl, hg, r⟩
  · exact .inl hn
  · exact .inr ⟨g, cap, cur, rfl, Nat.le_trans hb hg, r⟩
/-- the key's box. -/
theorem one_box (k : Ky) (w : World) : ∃ w1, w1 = w.alloc (.cells #[.int .i64 k.1, .int .u32 k.2] 35) ∧ Tn Nil w w1 ∧ At w1 w.heap.size 35 [.int .i64 k.1, .int .u32 k.2] :=
  ⟨_, rfl, (Tn.refl _ w).alloc _, At.new w _ [.int .i64 k.1, .int .u32 k.2]⟩
set_option maxRecDepth 100000 in
set_option maxHeartbeats 800000 in
theorem tblen_none (w : World) : Calls Try.prog 11 #[.pointer none] w fun e w' => e = .returned (.int .i64 0) ∧ w = w' := by
  go_enter Try.func11, Try.ntmps11
  go_wp2_with fail
  go_ret
  exact ⟨rfl, rfl⟩
set_option maxRecDepth 100000 in
set_option maxHeartbeats 800000 in
theorem tbget_none (k : Ky) (w : World) : Calls Try.prog 13 #[.pointer none, kyV k] w fun e w' => e = .returned (.tuple #[.slice none 0 0, .bool false]) ∧ Tn Nil w w' := by
  obtain ⟨w1, hw1, t1, _⟩ := one_box k w
  have T1 := Lib.hid t1
  clear t1
  go_enter_defers Try.func13, Try.ntmps13
  go_wp2_with fail
  rw [← hw1]
  exact ⟨_, results_tmp2 rfl _ _ _, rfl, T1.out⟩
set_option maxRecDepth 100000 in
set_option maxHeartbeats 800000 in
theorem tbtake_none (k : Ky) (w : World) : Calls Try.prog 14 #[.pointer none, kyV k] w fun e w' => e = .returned (.tuple #[.slice none 0 0, .bool false]) ∧ Tn Nil w w' := by
  obtain ⟨w1, hw1, t1, _⟩ := one_box k w
  have T1 := Lib.hid t1
  clear t1
  go_enter_defers Try.func14, Try.ntmps14
  go_wp2_with fail
  rw [← hw1]
  exact ⟨_, results_tmp2 rfl _ _ _, rfl, T1.out⟩
set_option maxRecDepth 100000 in
set_option maxHeartbeats 800000 in
theorem tbdrop_none (s : Int) (w : World) : Calls Try.prog 15 #[.pointer none, .int .i64 s] w fun e w' => e = .returned (.int .i64 0) ∧ w = w' := by
  go_enter_defers Try.func15, Try.ntmps15
  go_wp2_with fail
  exact ⟨_, results_tmp rfl _ _ _, rfl, rfl⟩
theorem res_tbold {T : Array Value} {W : World} {b : Nat} {x0 x1 : Int} {z : Bool} (h2 : T.getD 2 undef = .pointer (some ⟨b, 0, none⟩)) (h3 : T.getD 3 undef = .bool z) (h : At W b 35 [.int .i64 x0, .int .u32 x1]) : (results Try.f9 T).run Try.prog W = .ok (.tuple #[.agg #[.int .i64 x0, .int .u32 x1], .bool z]) W := by
  have c0 := h.cell 0 rfl
  have c1 := h.cell 1 rfl
  rw [results_cell_tmp rfl, h2, h3]
  simp [go_sem, asAddr, c0, c1, Result.andThen]
set_option maxRecDepth 100000 in
set_option maxHeartbeats 800000 in
theorem tboldest_none (w : World) : Calls Try.prog 9 #[.pointer none] w fun e w' => e = .returned (.tuple #[kyV (0, 0), .bool false]) ∧ Tn Nil w w' := by
  have HX := Lib.hid (At.new w 35 [.int .i64 0, .int .u32 0])
  have T := Lib.hid ((Tn.refl Nil w).alloc (.cells #[.int .i64 0, .int .u32 0] 35))
  have HL : Hid (szW w ≤ w.heap.size) := Lib.hid (Nat.le_refl _)
  have x0 := HX.out.cell 0 rfl
  have x1 := HX.out.cell 1 rfl
  have f0 := HX.out.free 0
  have f1 := HX.out.free 1
  go_enter Try.func9, Try.ntmps9
  go_wp2_with fail
  refine bodyPost_ret (v := .tuple #[.agg #[.int .i64 0, .int .u32 0], .bool false]) (res_tbold rfl rfl ?_) rfl ⟨rfl, ?_⟩
  · exact HX.out
  · exact T.out
section
variable {w : World} {L : Ly} {n room : Nat} {X : List En}
set_option maxRecDepth 100000 in
set_option maxHeartbeats 800000 in
theorem tb_len (h : Tb w L n room X) : Calls Try.prog 11 #[ptv L.b] w fun e w' => e = .returned (.int .i64 X.length) ∧ Tb w' L n room X ∧ Tn (Mine L) w w' := by
  have HC := Lib.hid (tb_count h.st)
  have HW := Lib.hid h
  clear h
  go_enter Try.func11, Try.ntmps11
  go_wp2_with fail
  refine HC.out.mono ?_; rintro e w1 ⟨rfl, h1, t1⟩
  have H1 : Hid (Tb w1 L n room X ∧ Tn (Mine L) w w1) := Lib.hid ⟨⟨h1, HW.out.wf, HW.out.n1, HW.out.n64⟩, t1⟩
  clear h1 t1
  go_wp2_with fail
  go_ret
  exact ⟨rfl, H1.out⟩
/-- the oldest one of those that are not ready. -/
def oldE (X : List En) : Option En := X.find? fun e => !e.ready
theorem oldE_line (X : List En) : (oldE X).map En.p = (lineP X).head? := by
  unfold oldE lineP
  induction X with
  | nil => rfl
  | cons a r ih =>
    rw [List.find?_cons, List.filter_cons]
    cases h : a.ready with
    | true => exact ih
    | false => rfl
def oldK (X : List En) : Ky := match oldE X with | some e => e.k | none => (0, 0)
theorem ptr_one {X : List En} (h : (X.map En.p).Nodup) {a b : En} (ha : a ∈ X) (hb : b ∈ X) (e : a.p = b.p) : a = b := by
  induction X with
  | nil => cases ha
  | cons x r ih =>
    rw [List.map_cons, List.nodup_cons] at h
    rcases List.mem_cons.1 ha with ea | ha <;> rcases List.mem_cons.1 hb with eb | hb
    · rw [ea, eb]
    · exact absurd (List.mem_map.2 ⟨b, hb, by rw [← e, ea]⟩) h.1
    · exact absurd (List.mem_map.2 ⟨a, ha, by rw [e, eb]⟩) h.1
    · exact ih h.2 ha hb
set_option maxRecDepth 100000 in
set_option maxHeartbeats 800000 in
theorem tb_oldest (h : Tb w L n room X) : Calls Try.prog 9 #[ptv L.b] w fun e w' => e = .returned (.tuple #[kyV (oldK X), .bool (oldE X).isSome]) ∧ Tb w' L n room X ∧ Tn (Mine L) w w' := by
  have HX := Lib.hid (At.new w 35 [.int .i64 0, .int .u32 0])
  have TA : Tn Nil w (w.alloc (.cells #[.int .i64 0, .int .u32 0] 35)) := (Tn.refl _ w).alloc _
  have HO : Hid (Calls Try.prog 21 #[.pointer (some ⟨L.b, 1, none⟩)] (w.alloc (.cells #[.int .i64 0, .int .u32 0] 35)) fun e w' => e = .returned (.tuple #[kyV (oldK X), .bool (oldE X).isSome]) ∧ Tb w' L n room X ∧ Tn (Mine L) (w.alloc (.cells #[.int .i64 0, .int .u32 0] 35)) w') := Lib.hid (by
    have h1 := h.free TA
    have hl := oldE_line X
    unfold oldK
    cases ho : oldE X with
    | none =>
      rw [ho] at hl
      have e : lineP X = [] := by cases hh : lineP X with | nil => rfl | cons a r => rw [hh] at hl; cases hl
      have := h1.st
      rw [e] at this
      refine (tb_oldest_none this).mono ?_
      rintro e' w' ⟨rfl, h2, t2⟩
      exact ⟨rfl, ⟨by rw [e]; exact h2, h.wf, h.n1, h.n64⟩, t2⟩
    | some a =>
      rw [ho] at hl
      obtain ⟨r, e⟩ : ∃ r, lineP X = a.p :: r := by
        cases hh : lineP X with
        | nil => rw [hh] at hl; cases hl
        | cons b r => rw [hh] at hl; injection hl with hl; exact ⟨r, by rw [← hl]⟩
      have := h1.st
      rw [e] at this
      refine (tb_oldest_some this).mono ?_
      rintro e' w' ⟨c, hc, hcp, rfl, h2, t2⟩
      have ha : a ∈ X := List.mem_of_find?_eq_some ho
      obtain rfl : c = a := by
        exact ptr_one h2.pn hc ha hcp
      exact ⟨rfl, ⟨by rw [e]; exact h2, h.wf, h.n1, h.n64⟩, t2⟩)
  have HL := Lib.hid h.st.ahead
  have T0 := Lib.hid (TA.mono (d := Mine L) fun _ _ e => e.elim)
  clear h TA
  generalize oldK X = ok at *
  generalize (oldE X).isSome = ob at *
  go_enter Try.func9, Try.ntmps9
  go_wp2_with fail
  have HXC : Hid (L.col w.heap.size = -1) := Lib.hid (HL.out _ (Nat.le_refl _))
  have HBX : Hid (szW w ≤ w.heap.size) := Lib.hid (Nat.le_refl _)
  generalize w.heap.size = bx at *
  generalize w.alloc (.cells #[.int .i64 0, .int .u32 0] 35) = w1 at *
  refine HO.out.mono ?_; rintro e w2 ⟨rfl, h2, t2⟩
  have H2 := Lib.hid h2
  have T2 := Lib.hid (T0.out.trans t2)
  have HX2 := Lib.hid (HX.out.tn t2 (fun e => e HXC.out))
  clear h2 t2 HX T0 HO
  have x0 := HX2.out.cell 0 rfl
  have x1 := HX2.out.cell 1 rfl
  have f0 := HX2.out.free 0
  have f1 := HX2.out.free 1
  go_wp2_with fail
  have TS : Tn (fun i => i = bx) w2 ((w2.setCell ⟨bx, 0, none⟩ (.int .i64 ok.1)).setCell ⟨bx, 1, none⟩ (.int .u32 ok.2)) := ((Tn.refl (fun i => i = bx) w2).set ⟨bx, 0, none⟩ _ (fun _ => rfl)).set ⟨bx, 1, none⟩ _ (fun _ => rfl)
  refine bodyPost_ret (v := .tuple #[.agg #[.int .i64 ok.1, .int .u32 ok.2], .bool ob]) (res_tbold rfl rfl ((HX2.out.set_ 0 (.int .i64 ok.1)).set_ 1 (.int .u32 ok.2))) rfl ⟨rfl, H2.out.tn TS (fun g _ e => by rw [show g = bx from e]; exact HXC.out), T2.out.trans' TS (fun g hg e => by have := HBX.out; rw [show g = bx from e] at hg; exact absurd hg (Nat.not_lt.2 this))⟩
/-- the end of each way, with what the last step leaves. -/
theorem put_close2 {w5 : World} {X' : List En} {j : Nat} (hs : St w5 L n room X'.length X' X' (lineP X') 0 (upd (fun _ => 0) j 1)) (hj : j < n) (hw : Wf X' room) (hn : 1 ≤ n ∧ n ≤ 64) (ht : Tn (Mine L) w w5) :
    CallsD Try.prog 26 #[.pointer (some ⟨L.gp, j * 3, none⟩)] .returning w5 fun e u' w'' => u' = .returning ∧ (e = .returned (.tuple #[]) ∧ Tb w'' L n room X' ∧ Tn (Mine L) w w'' ∧ Tn (Mine L) w5 w'') := by
  refine (lx_unlock (Lx.refl w5 L) hs hj (upd_same ..)).mono ?_
  rintro e u' w6 ⟨rfl, rfl, h6, t6⟩
  exact ⟨rfl, rfl, ⟨h6.locks (fun i _ => (zero_lock j i).symm), hw, hn.1, hn.2⟩, ht.trans t6, t6⟩
set_option maxRecDepth 100000 in
set_option maxHeartbeats 1600000 in
theorem tb_get {k : Ky} (h : Tb w L n room X) (hk : KyOk k) :
    Calls Try.prog 13 #[ptv L.b, kyV k] w fun e w' => GivesG w (getL X k) (findE X k).isSome e w' ∧ Tb w' L n room X ∧ Tn (Mine L) w w' := by
  obtain ⟨w1, hw1, t1, hkb⟩ := one_box k w
  have T1 := Lib.hid t1
  have H1 := Lib.hid (h.free t1)
  have HKB := Lib.hid hkb
  have HW := Lib.hid h.wf
  have HN := Lib.hid (And.intro h.n1 h.n64)
  have HK := Lib.hid hk
  have k0 := hkb.cell 0 rfl
  have k1 := hkb.cell 1 rfl
  have HJ := Lib.hid (pj_lt (n := n) (by have := h.n1; omega) k)
  have HSB : Hid (L.col w.heap.size = -1) := Lib.hid (h.st.ahead _ (Nat.le_refl _))
  clear h hk hkb t1
  go_enter_defers Try.func13, Try.ntmps13
  go_wp2_with fail
  rw [← hw1]
  generalize w.heap.size = bk at *
  clear hw1
  refine (tb_part H1.out.st.tab HN.out HK.out).mono ?_; rintro e w2 ⟨rfl, t2⟩
  have H2 := Lib.hid (H1.out.free t2)
  have T2 := Lib.hid (T1.out.trans t2)
  have HKB2 := Lib.hid (HKB.out.tn t2 (fun e => e))
  clear t2 T1 H1 HKB k0 k1
  go_wp2_with fail
  refine (tb_plock H2.out.st HJ.out rfl).mono ?_; rintro e w3 ⟨rfl, h3, t3⟩
  have H3 := Lib.hid h3
  have T3 : Hid (Tn (Mine L) w w3) := Lib.hid ((T2.out.mono fun _ _ e => e.elim).trans (t3.g H2.out.st))
  have HKB3 := Lib.hid (HKB2.out.tn t3 (fun e => by have := HSB.out; rw [e, h3.cg] at this; exact absurd this (by decide)))
  have c2 := (h3.pcell HJ.out).2
  have k0 := HKB3.out.cell 0 rfl
  have k1 := HKB3.out.cell 1 rfl
  have hlook : ∀ q, (Instr.lookup 66 (.map (some (L.mp (pj n k)))) (kyV k) false).run Try.prog (w3.drewN q) = .ok (ptO ((findE X k).map En.p)) (w3.drewN q) := fun q => by
    have := mq_look ((h3.maps _ HJ.out).tn ((Tn.refl Nil w3).drewN q) (fun e => e)) HK.out
    unfold fOf at this
    rwa [if_pos rfl] at this
  clear h3 t3 T2 H2 HKB2
  generalize hpo : (findE X k).map En.p = po at *
  have HPO := Lib.hid hpo
  clear hpo
  go_wp2_with fail
  go_quiet (fail)
  have TD : Tn Nil w3 (w3.drewN nq) := (Tn.refl Nil w3).drewN nq
  have H4 := Lib.hid (H3.out.free TD)
  have T4 := Lib.hid (T3.out.trans (TD.mono fun _ _ e => e.elim))
  clear TD c2 k0 k1 hlook H3 T3 HKB3
  generalize w3.drewN nq = w4 at *
  cases hfe : findE X k with
  | none =>
    obtain rfl : po = none := by rw [← HPO.out, hfe]; rfl
    have HV : Hid (getL X k = [] ∧ (findE X k).isSome = false) := Lib.hid ⟨by unfold getL; rw [hfe], by rw [hfe]; rfl⟩
    clear hfe
    unfold ptO
    go_wp2_with fail
    refine (shards_none w4).mono ?_; rintro e w5 ⟨v, rfl, hown, t5⟩
    have H5 := Lib.hid (H4.out.free t5)
    have T5 := Lib.hid (T4.out.trans (t5.mono fun _ _ e => e.elim))
    have HO := Lib.hid hown
    clear t5 hown
    go_wp2_with fail
    refine leaves_cons (f := 26) (args := #[.pointer (some ⟨L.gp, pj n k * 3, none⟩)]) (by simp) (by simp [go_sem]) ?_
    refine (put_close2 H5.out HJ.out HW.out HN.out T5.out).mono ?_
    rintro e u' w6 ⟨rfl, rfl, h6, t6, t7⟩
    exact ⟨_, results_tmp2 rfl _ _ _, ⟨v, by rw [HV.out.2]; rfl, by rw [HV.out.1]; exact own_base2 (own_tn HO.out t7 (fun g hb _ e => e (H4.out.ahead g hb))) T4.out.size⟩, h6, t6⟩
  | some e =>
    obtain rfl : po = some e.p := by rw [← HPO.out, hfe]; rfl
    obtain ⟨hem, hek⟩ := findE_some hfe
    have HV : Hid (getL X k = e.l ∧ (findE X k).isSome = true) := Lib.hid ⟨by unfold getL; rw [hfe], by rw [hfe]; rfl⟩
    have heo := HW.out.ok e hem
    obtain ⟨_, s, v0, y, z, hn, hI, hS⟩ := H4.out.entry hem
    have HRL := Lib.hid (nd_shards hn hI heo.sh hS ⟨heo.l0, by have := heo.l1; have := heo.n1; omega⟩)
    clear hfe hem hek heo hn hI hS
    unfold ptO
    go_wp2_with fail
    refine HRL.out.mono ?_; rintro e' w5 ⟨v, rfl, hown, t5⟩
    have H5 := Lib.hid (H4.out.free t5)
    have T5 := Lib.hid (T4.out.trans (t5.mono fun _ _ e => e.elim))
    have HO := Lib.hid hown
    clear t5 hown HRL
    go_wp2_with fail
    refine leaves_cons (f := 26) (args := #[.pointer (some ⟨L.gp, pj n k * 3, none⟩)]) (by simp) (by simp [go_sem]) ?_
    refine (put_close2 H5.out HJ.out HW.out HN.out T5.out).mono ?_
    rintro e' u' w6 ⟨rfl, rfl, h6, t6, t7⟩
    exact ⟨_, results_tmp2 rfl _ _ _, ⟨v, by rw [HV.out.2]; rfl, by rw [HV.out.1]; exact own_base2 (own_tn HO.out t7 (fun g hb _ e => e (H4.out.ahead g hb))) T4.out.size⟩, h6, t6⟩
end
end Go.Proofs.Ytgclgmfmcgacdaa

/- Proved: what Take of package table leaves. Conditions: those that the theorems name. -/
namespace Go.Proofs.Ytgclgmfmcgacdaa
open Go.ChangeShapes Go.WideShapes Go.ChangeAt Go.RowKit Go.MuLone

/-- those whose keys stay. -/
def keepX (X : List En) (P : Ky → Bool) : List En := X.filter fun e => P e.k
theorem findE_keep (X : List En) (P : Ky → Bool) (k : Ky) : findE (keepX X P) k = if P k = true then findE X k else none := by
  unfold findE keepX
  induction X with
  | nil => simp
  | cons a r ih =>
    rw [List.filter_cons, List.find?_cons]
    by_cases hP : P a.k = true
    · rw [if_pos hP, List.find?_cons, ih]
      by_cases h : a.k = k
      · simp [h, h ▸ hP]
      · simp [h]
    · rw [if_neg hP, ih]
      by_cases h : a.k = k
      · have : ¬ P k = true := h ▸ hP
        rw [if_neg this, if_neg this]
      · simp [h]
theorem fOf_keep (X : List En) (P : Ky → Bool) (n j : Nat) (k : Ky) : fOf (keepX X P) n j k = if P k = true then fOf X n j k else none := by
  unfold fOf
  rw [findE_keep]
  by_cases h : P k = true
  · rw [if_pos h, if_pos h]
  · rw [if_neg h, if_neg h]; simp
theorem keep_keep (X : List En) (P Q : Ky → Bool) : keepX (keepX X P) Q = keepX X fun k => P k && Q k := by
  unfold keepX
  rw [List.filter_filter]
  exact List.filter_congr fun e _ => Bool.and_comm ..
theorem keep_all (X : List En) : keepX X (fun _ => true) = X := by unfold keepX; simp
theorem keep_nodup {X : List En} (h : (X.map En.k).Nodup) (P : Ky → Bool) : ((keepX X P).map En.k).Nodup := h.sublist (List.Sublist.map _ List.filter_sublist)
/-- all but one. -/
def butK (k : Ky) : Ky → Bool := fun i => decide (i ≠ k)
theorem keep_but {A B : List En} {e : En} (h : ((A ++ e :: B).map En.k).Nodup) : keepX (A ++ e :: B) (butK e.k) = A ++ B := by
  rw [List.map_append, List.map_cons, List.nodup_append] at h
  unfold keepX butK
  rw [List.filter_append, List.filter_cons, if_neg (by simp)]
  rw [List.filter_eq_self.2 (fun a ha => by simp; exact fun f => h.2.2 a.k (List.mem_map.2 ⟨a, ha, rfl⟩) e.k (by simp) f), List.filter_eq_self.2 (fun a ha => by simp; exact fun f => (List.nodup_cons.1 h.2.1).1 (List.mem_map.2 ⟨a, ha, f⟩))]
theorem cntJ_but {X : List En} (h : (X.map En.k).Nodup) {e : En} (he : e ∈ X) (n j : Nat) : cntJ X n j = cntJ (keepX X (butK e.k)) n j + if pj n e.k = j then 1 else 0 := by
  obtain ⟨A, B, rfl⟩ := List.append_of_mem he
  rw [keep_but h]
  unfold cntJ
  rw [List.filter_append, List.filter_append, List.filter_cons, List.length_append, List.length_append]
  by_cases f : pj n e.k = j
  · simp [f]; omega
  · simp [f]
/-- the line without those of some. -/
theorem line_rest {X : List En} (P : Ky → Bool) {gs : List Nat} (h : ∀ e ∈ X, e.p ∈ gs ↔ P e.k = false) : restU (lineP X) gs gs.length = lineP (keepX X P) := by
  unfold restU lineP keepX
  rw [List.take_length]
  induction X with
  | nil => rfl
  | cons a r ih =>
    have ih := ih fun e he => h e (List.mem_cons_of_mem _ he)
    have ha := h a (by simp)
    rw [List.filter_cons, List.filter_cons]
    cases hr : a.ready with
    | true =>
      simp only [Bool.not_true, Bool.false_eq_true, if_false]
      rw [ih]
      cases hP : P a.k with
      | true => simp [hr]
      | false => simp
    | false =>
      simp only [Bool.not_false, if_true, List.map_cons]
      rw [List.filter_cons]
      cases hP : P a.k with
      | true =>
        rw [if_pos (by simp only [decide_eq_true_eq]; rw [ha, hP]; decide), ih]
        simp [hr]
      | false =>
        rw [if_neg (by simp only [decide_eq_true_eq]; rw [ha, hP]; simp), ih]
        simp
theorem wf_keep {X : List En} {room : Nat} (h : Wf X room) (P : Ky → Bool) : Wf (keepX X P) room :=
  ⟨fun e he => h.ok e (List.mem_filter.1 he).1, keep_nodup h.kn P, Nat.le_trans (List.length_filter_le _ _) h.len, h.room⟩
theorem line_sub {X : List En} (P : Ky → Bool) {U : List Nat} (h : U = lineP (keepX X P)) : ∀ q ∈ U, ∃ e ∈ keepX X P, e.p = q := fun q hq => by
  rw [h] at hq
  obtain ⟨e, he, _, f⟩ := lineP_mem.1 hq
  exact ⟨e, he, f⟩
section
variable {w : World} {L : Ly} {n room : Nat} {X : List En}
theorem ready_line {X : List En} (hp : (X.map En.p).Nodup) {e : En} (he : e ∈ X) : e.p ∈ lineP X ↔ e.ready = false := by
  rw [lineP_mem]
  constructor
  · rintro ⟨a, ha, hr, f⟩
    rw [← ptr_one hp ha he f]; exact hr
  · exact fun hr => ⟨e, he, hr, rfl⟩
set_option maxRecDepth 100000 in
set_option maxHeartbeats 3200000 in
theorem tb_take {k : Ky} (h : Tb w L n room X) (hk : KyOk k) :
    Calls Try.prog 14 #[ptv L.b, kyV k] w fun e w' => GivesG w (getL X k) (findE X k).isSome e w' ∧ Tb w' L n room (keepX X (butK k)) ∧ Tn (Mine L) w w' := by
  obtain ⟨w1, hw1, t1, hkb⟩ := one_box k w
  have T1 := Lib.hid t1
  have H1 := Lib.hid (h.free t1)
  have HKB := Lib.hid hkb
  have HW := Lib.hid h.wf
  have HN := Lib.hid (And.intro h.n1 h.n64)
  have HK := Lib.hid hk
  have k0 := hkb.cell 0 rfl
  have k1 := hkb.cell 1 rfl
  have HJ := Lib.hid (pj_lt (n := n) (by have := h.n1; omega) k)
  have HSB : Hid (L.col w.heap.size = -1) := Lib.hid (h.st.ahead _ (Nat.le_refl _))
  clear h hk hkb t1
  go_enter_defers Try.func14, Try.ntmps14
  go_wp2_with fail
  rw [← hw1]
  generalize w.heap.size = bk at *
  clear hw1
  refine (tb_part H1.out.st.tab HN.out HK.out).mono ?_; rintro e w2 ⟨rfl, t2⟩
  have H2 := Lib.hid (H1.out.free t2)
  have T2 := Lib.hid (T1.out.trans t2)
  have HKB2 := Lib.hid (HKB.out.tn t2 (fun e => e))
  clear t2 T1 H1 HKB k0 k1
  go_wp2_with fail
  refine (tb_plock H2.out.st HJ.out rfl).mono ?_; rintro e w3 ⟨rfl, h3, t3⟩
  have H3 := Lib.hid h3
  have T3 : Hid (Tn (Mine L) w w3) := Lib.hid ((T2.out.mono fun _ _ e => e.elim).trans (t3.g H2.out.st))
  have HKB3 := Lib.hid (HKB2.out.tn t3 (fun e => by have := HSB.out; rw [e, h3.cg] at this; exact absurd this (by decide)))
  have c2 := (h3.pcell HJ.out).2
  have k0 := HKB3.out.cell 0 rfl
  have k1 := HKB3.out.cell 1 rfl
  have hlook : ∀ q, (Instr.lookup 66 (.map (some (L.mp (pj n k)))) (kyV k) false).run Try.prog (w3.drewN q) = .ok (ptO ((findE X k).map En.p)) (w3.drewN q) := fun q => by
    have := mq_look ((h3.maps _ HJ.out).tn ((Tn.refl Nil w3).drewN q) (fun e => e)) HK.out
    unfold fOf at this
    rwa [if_pos rfl] at this
  clear h3 t3 T2 H2 HKB2
  generalize hpo : (findE X k).map En.p = po at *
  have HPO := Lib.hid hpo
  clear hpo
  go_wp2_with fail
  go_quiet (fail)
  have TD : Tn Nil w3 (w3.drewN nq) := (Tn.refl Nil w3).drewN nq
  have H4 := Lib.hid (H3.out.free TD)
  have T4 := Lib.hid (T3.out.trans (TD.mono fun _ _ e => e.elim))
  have HKB4 := Lib.hid (HKB3.out.tn TD (fun e => e))
  clear TD c2 k0 k1 hlook H3 T3 HKB3
  generalize w3.drewN nq = w4 at *
  cases hfe : findE X k with
  | none =>
    obtain rfl : po = none := by rw [← HPO.out, hfe]; rfl
    have HV : Hid (getL X k = [] ∧ (findE X k).isSome = false ∧ keepX X (butK k) = X) := Lib.hid ⟨by unfold getL; rw [hfe], by rw [hfe]; rfl, by
      unfold keepX butK
      rw [List.filter_eq_self]
      intro e he
      simp only [decide_eq_true_eq]
      exact findE_none hfe e he⟩
    clear hfe
    unfold ptO
    go_wp2_with fail
    refine leaves_cons (f := 26) (args := #[.pointer (some ⟨L.gp, pj n k * 3, none⟩)]) (by simp) (by simp [go_sem]) ?_
    refine (put_close2 H4.out HJ.out HW.out HN.out T4.out).mono ?_
    rintro e u' w6 ⟨rfl, rfl, h6, t6, t7⟩
    exact ⟨_, results_tmp2 rfl _ _ _, ⟨.slice none 0 0, by rw [HV.out.2.1]; rfl, by rw [HV.out.1]; exact World.ownsRow_nil w6 _ _ 2⟩, by rw [HV.out.2.2]; exact h6, t6⟩
  | some e =>
    obtain rfl : po = some e.p := by rw [← HPO.out, hfe]; rfl
    obtain ⟨hem, hek⟩ := findE_some hfe
    have HV : Hid (getL X k = e.l ∧ (findE X k).isSome = true) := Lib.hid ⟨by unfold getL; rw [hfe], by rw [hfe]; rfl⟩
    have HEM := Lib.hid hem
    have HEK := Lib.hid hek
    have HFE := Lib.hid hfe
    have c2 := (H4.out.pcell HJ.out).2
    have k0 := HKB4.out.cell 0 rfl
    have k1 := HKB4.out.cell 1 rfl
    clear hfe hem hek
    unfold ptO
    go_wp2_with fail
    refine wp_region_still_tail 5 (by kernel_rfl) (by kernel_rfl) ?_
    simp only [List.take_succ_cons, List.take_zero, List.drop_succ_cons, List.drop_zero]
    repeat still_step
    refine wpStill_nil ?_
    change wpList _ _ _ _ _ w4.drew
    have TD : Tn Nil w4 w4.drew := (Tn.refl Nil w4).drew
    have H5 := Lib.hid (H4.out.free TD)
    have T5 := Lib.hid (T4.out.trans (TD.mono (d := Mine L) fun _ _ e => e.elim))
    clear TD c2 k0 k1 H4 T4 HKB4
    generalize w4.drew = w5 at *
    have hcnt : ∀ j, cntJ X n j = cntJ (keepX X (butK k)) n j + if pj n k = j then 1 else 0 := fun j => by
      have := cntJ_but HW.out.kn HEM.out n j
      rwa [HEK.out] at this
    have hfo : (fOf X n (pj n k) k).isSome = true := by unfold fOf; rw [if_pos rfl, HFE.out]; rfl
    have hmap := H5.out.maps _ HJ.out
    rw [hcnt, if_pos rfl] at hmap
    obtain ⟨w6, hrun, hm6, hg6⟩ := mq_del hmap HK.out hfo 0
    have ht6 : Tn (fun i => i = L.mp (pj n k)) w5 w6 := tn_grown hg6 (fun g e => by injection e with e; exact e.symm)
    have H6 := Lib.hid (H5.out.remap (XM' := keepX X (butK k)) HJ.out HN.out.2 ht6 hm6 (fun i _ hi => ⟨fun k' => by
      rw [fOf_keep]
      unfold butK
      by_cases e : k' = k
      · subst e
        rw [if_neg (by simp)]
        unfold fOf
        rw [if_neg (fun g => hi g.symm)]
      · rw [if_pos (by simp [e])], by rw [hcnt, if_neg (fun g => hi g.symm)]; rfl⟩) (fun k' _ => by
      rw [fOf_keep]
      unfold butK
      by_cases e : k' = k
      · rw [if_neg (by simp [e])]; simp [e]
      · rw [if_pos (by simp [e])]; simp [e]) rfl)
    have T6 := Lib.hid (T5.out.trans (mine_m H5.out HJ.out ht6))
    clear hmap hm6 hg6 ht6 hcnt hfo
    go_wp2_with fail
    have TA : Tn Nil w6 (w6.alloc (.cells #[ptv e.p] 60)) := (Tn.refl Nil w6).alloc _
    have hrr := (rr_one w6 e.p).mono (d := fun g => L.col g = -1) fun g _ f => by rw [show g = w6.heap.size from f]; exact H6.out.ahead _ (Nat.le_refl _)
    have hlen : 0 < X.length := List.length_pos_of_mem HEM.out
    have hpn := H6.out.pn
    have hfg := tb_forget (H6.out.free TA) ⟨by omega, by have := HW.out.len; have := HW.out.room; omega⟩ hrr (by simp) (by simp; omega) (fun g hg => by
      obtain rfl : g = e.p := List.mem_singleton.1 hg
      exact ⟨e, HEM.out, rfl, (HW.out.ok e HEM.out).l0, ready_line hpn HEM.out⟩)
    have hln : restU (lineP X) [e.p] [e.p].length = lineP (keepX X (butK k)) := line_rest (butK k) (gs := [e.p]) fun a ha => by
      rw [List.mem_singleton]
      unfold butK
      simp only [decide_eq_false_iff_not, Decidable.not_not]
      constructor
      · intro f; rw [ptr_one hpn ha HEM.out f]; exact HEK.out
      · intro f
        have h1 := findE_mem HW.out.kn ha
        rw [f, HFE.out] at h1
        injection h1 with h1
        rw [h1]
    have hcx : ((keepX X (butK k)).length : Int) = (X.length : Int) - ([e.p].length : Nat) := by
      obtain ⟨A, B, hAB⟩ := List.append_of_mem HEM.out
      have hk1 := HW.out.kn
      rw [hAB] at hk1
      have := keep_but hk1
      rw [HEK.out, ← hAB] at this
      rw [this, hAB]
      simp only [List.length_append, List.length_cons, List.length_nil]
      omega
    rw [hln, ← hcx] at hfg
    have T7 := Lib.hid (T6.out.trans (TA.mono (d := Mine L) fun _ _ e => e.elim))
    refine hfg.mono ?_
    rintro e' w8 ⟨rfl, h8, t8⟩
    have H8 := Lib.hid h8
    have T8 := Lib.hid (T7.out.trans t8)
    have heo := HW.out.ok e HEM.out
    obtain ⟨_, s, v0, y, z, hn, hI, hS⟩ := h8.entry HEM.out
    have HRL := Lib.hid (nd_shards hn hI heo.sh hS ⟨heo.l0, by have := heo.l1; have := heo.n1; omega⟩)
    clear TA hrr hlen hpn hfg hln hcx T7 h8 t8 heo hn hI hS hrun T6
    go_wp2_with fail
    refine HRL.out.mono ?_; rintro e' w9 ⟨v, rfl, hown, t9⟩
    have H9 := Lib.hid ((H8.out.free t9).sub (XN' := keepX X (butK k)) List.filter_sublist (line_sub (butK k) rfl))
    have T9 := Lib.hid (T8.out.trans (t9.mono fun _ _ e => e.elim))
    have HO := Lib.hid hown
    clear t9 hown HRL
    go_wp2_with fail
    refine leaves_cons (f := 26) (args := #[.pointer (some ⟨L.gp, pj n k * 3, none⟩)]) (by simp) (by simp [go_sem]) ?_
    refine (put_close2 H9.out HJ.out (wf_keep HW.out _) HN.out T9.out).mono ?_
    rintro e' u' w10 ⟨rfl, rfl, h10, t10, t11⟩
    exact ⟨_, results_tmp2 rfl _ _ _, ⟨v, by rw [HV.out.2]; rfl, by rw [HV.out.1]; exact own_base2 (own_tn HO.out t11 (fun g hb _ e => e (H8.out.ahead g hb))) T8.out.size⟩, h10, t10⟩
end
end Go.Proofs.Ytgclgmfmcgacdaa

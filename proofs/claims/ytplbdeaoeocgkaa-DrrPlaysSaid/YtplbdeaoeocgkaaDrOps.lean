/- Proved: what New, Len, Waiting and Remove answer and leave. Conditions: those that the theorems name. -/
import Derived.Test.YtplbdeaoeocgkaaDrNext
namespace Go.Proofs.Ytplbdeaoeocgkaa
open Go.ChangeShapes Go.WideShapes Go.ChangeAt Go.RowKit

/-! ### New -/
def newL (w : World) : Ly := { b := w.heap.size + 1, m := w.heap.size, col := fun i => if i = w.heap.size + 1 then 256 else if i = w.heap.size then 257 else -1, ptr := fun _ => 0 }
theorem dr_new (Q : Int) (w : World) (h : 1 ≤ Q ∧ Q ≤ 65536) :
    Calls Try.prog 7 #[.int .i64 Q] w fun e w' => ∃ L, e = .returned (.tuple #[ptv L.b, .int .i64 0]) ∧ Sr w' L Q [] [] ∧ (∀ i, i < w.heap.size → L.col i = -1) ∧ w.heap.size ≤ L.b ∧ Below w.heap.size w w' := by
  have hmm := @run_makeMap Try.prog
  have h1 : ¬ Q < 1 := by omega
  have h2 : ¬ 65536 < Q := by omega
  go_enter Try.func7, Try.ntmps7
  go_wp2_with fail
  go_ret2
  refine ⟨newL w, rfl, ?_, fun i hi => ?_, by show w.heap.size ≤ w.heap.size + 1; omega, ((Below.refl _ _).alloc (Nat.le_refl _) _).alloc (by simp) _⟩
  · have ha : At ((w.alloc (.map #[] 0)).alloc (.cells #[.int .i64 Q, .map (some w.heap.size), .slice none 0 0] 56)) (w.heap.size + 1) 56 [.int .i64 Q, .map (some w.heap.size), .slice none 0 0] := by
      have := At.new (w.alloc (.map #[] 0)) 56 [.int .i64 Q, .map (some w.heap.size), .slice none 0 0]
      rwa [show (w.alloc (.map #[] 0)).heap.size = w.heap.size + 1 by simp] at this
    refine ⟨⟨_, ha, Rr.nil _ _⟩, if_pos rfl, ?_, ?_, fun q hq => by simp at hq, fun x hx => by simp at hx, fun i hi => ?_⟩
    · show (if w.heap.size = w.heap.size + 1 then (256 : Int) else if w.heap.size = w.heap.size then 257 else -1) = 257
      rw [if_neg (by omega), if_pos rfl]
    · exact (Mq.new w).tn (tn_below (fun _ => False) ((Below.refl _ _).alloc (Nat.le_refl _) _)) (fun e => e)
    · simp at hi
      show (if i = w.heap.size + 1 then (256 : Int) else if i = w.heap.size then 257 else -1) = -1
      rw [if_neg (by omega), if_neg (by omega)]
  · show (if i = w.heap.size + 1 then (256 : Int) else if i = w.heap.size then 257 else -1) = -1
    rw [if_neg (by omega), if_neg (by omega)]
theorem dr_new_bad (Q : Int) (w : World) (h : Q < 1 ∨ 65536 < Q) :
    Calls Try.prog 7 #[.int .i64 Q] w fun e w' => e = .returned (.tuple #[.pointer none, .int .i64 1]) ∧ w = w' := by
  rcases h with h | h
  · go_enter Try.func7, Try.ntmps7
    go_wp2_with fail
    go_ret2
    exact ⟨rfl, rfl⟩
  · have h1 : ¬ Q < 1 := by omega
    go_enter Try.func7, Try.ntmps7
    go_wp2_with fail
    go_ret2
    exact ⟨rfl, rfl⟩

/-! ### Len -/
theorem Sr.look {w : World} {L : Ly} {Q : Int} {W : List (Int × Int)} {R : List Qd} (hs : Sr w L Q W R) {id : Int} (hi : I64 id) :
    (Instr.lookup 53 (.map (some L.m)) (.int .i64 id) false).run Try.prog w = .ok (ptO (fOf W L id)) w := mq_look hs.map hi
theorem fOf_yes {W : List (Int × Int)} {L : Ly} {id : Int} (h : inW W id = true) : fOf W L id = some (L.ptr id) := if_pos h
theorem fOf_no {W : List (Int × Int)} {L : Ly} {id : Int} (h : inW W id = false) : fOf W L id = none := if_neg (by rw [h]; decide)
theorem dr_len_nil (id : Int) (w : World) : Calls Try.prog 11 #[.pointer none, .int .i64 id] w fun e w' => e = .returned (.int .i64 0) ∧ w = w' := by
  go_enter Try.func11, Try.ntmps11
  go_wp2_with fail
  go_ret
  exact ⟨rfl, rfl⟩
/-- a queue that is there. -/
theorem Sr.one {w : World} {L : Ly} {Q M : Int} {W : List (Int × Int)} {R : List Qd} (hs : Sr w L Q W R) (o : Ok Q M W R) {id : Int} (h : inW W id = true) :
    ∃ q : Qd, q.id = id ∧ (id, q.w) ∈ W ∧ Qr w L q ∧ q.l.length = lenR R id ∧ ((q ∈ R ∧ isR R id = true) ∨ (isR R id = false ∧ q = ⟨id, q.w, 0, false, []⟩)) := by
  obtain ⟨wt, hwt⟩ := inW_iff.1 h
  cases hr : isR R id with
  | true =>
    obtain ⟨q, hq, rfl⟩ := isR_iff.1 hr
    exact ⟨q, rfl, o.rw q hq, hs.busy q hq, (o.lenR hq).symm, Or.inl ⟨hq, rfl⟩⟩
  | false => exact ⟨⟨id, wt, 0, false, []⟩, rfl, hwt, hs.idle _ hwt hr, (lenR_not hr).symm, Or.inr ⟨rfl, rfl⟩⟩
set_option maxRecDepth 100000 in
theorem dr_len {w : World} {L : Ly} {Q M : Int} {W : List (Int × Int)} {R : List Qd} (hs : Sr w L Q W R) (o : Ok Q M W R) {id : Int} (hi : I64 id) :
    Calls Try.prog 11 #[ptv L.b, .int .i64 id] w fun e w' => e = .returned (.int .i64 (lenR R id : Nat)) ∧ w = w' := by
  obtain ⟨rv, hb, _⟩ := hs.sched
  have k1 := hb.cell 1 rfl
  have hl := hs.look hi
  cases hw : inW W id with
  | false =>
    rw [fOf_no hw] at hl
    have e0 : lenR R id = 0 := lenR_not (isR_not.2 fun q hq e => by
      have := inW_not.1 hw _ (o.rw q hq)
      exact this e)
    rw [e0]
    have hl' : (Instr.lookup 53 (.map (some L.m)) (.int .i64 id) false).run Try.prog w = .ok (.pointer none) w := hl
    clear hs o hi hb hl hw e0
    go_enter Try.func11, Try.ntmps11
    go_wp2_with fail
    go_ret
    exact ⟨rfl, rfl⟩
  | true =>
    rw [fOf_yes hw] at hl
    obtain ⟨q, rfl, _, ⟨_, v, ha, hir⟩, hlen, _⟩ := hs.one o hw
    obtain ⟨A, cap, rfl⟩ := hir.form
    have p3 := ha.cell 3 rfl
    have hl' : (Instr.lookup 53 (.map (some L.m)) (.int .i64 q.id) false).run Try.prog w = .ok (ptv (L.ptr q.id)) w := hl
    rw [hlen] at p3
    clear hs o hi hb hl hw ha hir hlen
    generalize lenR R q.id = n at *
    go_enter Try.func11, Try.ntmps11
    go_wp2_with fail
    go_ret
    exact ⟨rfl, rfl⟩

/-! ### Waiting -/
theorem dr_waiting_nil (w : World) : Calls Try.prog 9 #[.pointer none] w fun e w' => e = .returned (.int .i64 0) ∧ w = w' := by
  go_enter Try.func9, Try.ntmps9
  go_wp2_with fail
  go_ret
  exact ⟨rfl, rfl⟩
theorem waitR_app (A B : List Qd) : waitR (A ++ B) = waitR A + waitR B := by unfold waitR; rw [List.map_append, List.sum_append]
theorem waitR_cons (q : Qd) (B : List Qd) : waitR (q :: B) = q.l.length + waitR B := rfl
theorem Ok.wait {Q M : Int} {W : List (Int × Int)} {R : List Qd} (k : Ok Q M W R) : waitR R ≤ 256 * 65536 := by
  have h1 := k.few
  have : ∀ S : List Qd, (∀ x ∈ S, x.l.length ≤ 65536) → waitR S ≤ S.length * 65536 := by
    intro S
    induction S with
    | nil => intro _; exact Nat.zero_le _
    | cons a r ih =>
      intro h
      have h2 := ih fun x hx => h x (List.mem_cons_of_mem _ hx)
      have h3 := h a (List.mem_cons_self ..)
      rw [waitR_cons, List.length_cons]
      omega
  exact Nat.le_trans (this R fun x hx => (k.r x hx).len) (Nat.mul_le_mul_right _ h1)
set_option maxRecDepth 100000 in
set_option maxHeartbeats 800000 in
theorem dr_waiting {w : World} {L : Ly} {Q M : Int} {W : List (Int × Int)} {R : List Qd} (hs : Sr w L Q W R) (o : Ok Q M W R) :
    Calls Try.prog 9 #[ptv L.b] w fun e w' => e = .returned (.int .i64 (waitR R : Nat)) ∧ w = w' := by
  obtain ⟨rv, hb, hr⟩ := hs.sched
  have HS := Lib.hid hs
  have HR := Lib.hid hr
  have hfew := o.few
  have hwt := o.wait
  obtain ⟨A0, cap, rfl⟩ := hr.len
  have hpl : (R.map fun q => L.ptr q.id).length = R.length := List.length_map ..
  rw [hpl] at hb
  have k2 := hb.cell 2 rfl
  have HPL := Lib.hid hpl
  generalize hN : R.length = n at *
  have HN := Lib.hid hN
  clear hs o hb hr hpl hN
  go_enter Try.func9, Try.ntmps9
  go_wp2_with fail
  go_loop [3, 13] (fun v i => ∃ A B : List Qd, R = A ++ B ∧ i = .int .i64 (A.length : Nat) ∧ v = .int .i64 (waitR A : Nat)) (fun _ i => n - (intOf i).toNat)
  case atStart => exact ⟨[], R, rfl, rfl, rfl⟩
  case round =>
    obtain ⟨A, B, hR, rfl, rfl⟩ := hrel
    have HRR := Lib.hid hR
    have hnl : n = A.length + B.length := by rw [← HN.out, hR, List.length_append]
    have hww : waitR R = waitR A + waitR B := by rw [hR, waitR_app]
    cases B with
    | nil =>
      have hj : A.length = n := by simp at hnl; omega
      have hA : A = R := by rw [hR, List.append_nil]
      subst hA
      rw [hj]
      clear hR hnl hww hj
      generalize hx : waitR A = x
      have HX := Lib.hid hx
      clear hx
      go_wp2_with fail
      go_ret
      exact ⟨by rw [HX.out]; rfl, rfl⟩
    | cons q B =>
      rw [waitR_cons] at hww
      have hqm : q ∈ R := by rw [hR]; simp
      obtain ⟨_, v, ha, hir⟩ := HS.out.busy q hqm
      obtain ⟨A2, cap2, rfl⟩ := hir.form
      have p3 := ha.cell 3 rfl
      obtain ⟨g, cap3, e2, _, _, _, hcell⟩ := HR.out.form (by rw [HPL.out, hnl, List.length_cons]; omega)
      have hcq : w.cell? ⟨g, A.length, none⟩ = some (ptv (L.ptr q.id)) := by
        rw [hcell A.length (by rw [HPL.out, hnl, List.length_cons]; omega), hR, List.map_append, List.map_cons, List.getD_eq_getElem?_getD, List.getElem?_append_right (by rw [List.length_map]; exact Nat.le_refl _), List.length_map, Nat.sub_self]
        rfl
      have e3 : A0 = some ⟨g, 0, none⟩ := by injection e2
      subst e3
      have hlt : (A.length : Int) < (n : Int) := by rw [hnl, List.length_cons]; omega
      have hlt2 : A.length < n := by omega
      have HJ1 : Hid (A.length + 1 = (A ++ [q]).length) := Lib.hid (by simp)
      have HJ2 : Hid (waitR A + q.l.length = waitR (A ++ [q])) := Lib.hid (by rw [waitR_app, waitR_cons]; rfl)
      clear hR hnl hqm ha hir hcell e2
      generalize hja : A.length = j at *
      generalize hxa : waitR A = x at *
      generalize hya : q.l.length = y at *
      generalize waitR B = z at *
      have hj0 : (0 : Int) ≤ (j : Int) := Int.natCast_nonneg _
      have hxy : x + y ≤ 256 * 65536 := by omega
      clear hww hwt hja hxa hya
      go_wp2_with fail
      go_round
      case rel => exact ⟨A ++ [q], B, by rw [HRR.out]; simp, by rw [← HJ1.out]; go_num, by rw [← HJ2.out]; go_num⟩
      case measure => simp [intOf]; omega

/-! ### Remove -/
theorem dr_remove_nil (id : Int) (w : World) : Calls Try.prog 17 #[.pointer none, .int .i64 id] w fun e w' => e = .returned (.int .i64 17) ∧ w = w' := by
  go_enter Try.func17, Try.ntmps17
  go_wp2_with fail
  go_ret
  exact ⟨rfl, rfl⟩
theorem remW_not {W : List (Int × Int)} {id : Int} (h : inW W id = false) : remW W id = W := List.filter_eq_self.2 fun x hx => by
  have := inW_not.1 h x hx
  simp [this]
theorem remR_not {R : List Qd} {id : Int} (h : isR R id = false) : remR R id = R := List.filter_eq_self.2 fun x hx => by
  have := isR_not.1 h x hx
  simp [this]
theorem remW_len {W : List (Int × Int)} {id : Int} (hn : (W.map (·.1)).Nodup) (h : inW W id = true) : W.length = (remW W id).length + 1 := by
  unfold remW
  induction W with
  | nil => cases h
  | cons x r ih =>
    rw [List.map_cons, List.nodup_cons] at hn
    by_cases e : x.1 = id
    · rw [List.filter_cons_of_neg (by simp [e]), List.length_cons]
      congr 1
      rw [List.filter_eq_self.2]
      intro y hy
      have : y.1 ≠ id := fun f => hn.1 (List.mem_map.2 ⟨y, hy, by rw [f, e]⟩)
      simp [this]
    · rw [List.filter_cons_of_pos (by simp [e]), List.length_cons, List.length_cons]
      congr 1
      refine ih hn.2 ?_
      unfold inW at h ⊢
      rw [List.any_cons, show (x.1 == id) = false from beq_eq_false_iff_ne.2 e, Bool.false_or] at h
      exact h
theorem inW_rem {W : List (Int × Int)} {id k : Int} : inW (remW W id) k = if k = id then false else inW W k := by
  split
  · rename_i e
    subst e
    refine inW_not.2 fun x hx => ?_
    have := (List.mem_filter.1 hx).2
    simpa using this
  · rename_i e
    cases h : inW W k with
    | true =>
      obtain ⟨wt, hwt⟩ := inW_iff.1 h
      exact inW_iff.2 ⟨wt, List.mem_filter.2 ⟨hwt, by simp [e]⟩⟩
    | false => exact inW_not.2 fun x hx => inW_not.1 h x (List.mem_filter.1 hx).1
theorem keepP_ids {L : Ly} {R : List Qd} {id : Int} (h : ∀ q ∈ R, L.col (L.ptr q.id) = q.id) (hid : L.col (L.ptr id) = id) : keepP (L.ptr id) (R.map fun q => L.ptr q.id) = (remR R id).map fun q => L.ptr q.id := by
  unfold keepP remR
  induction R with
  | nil => rfl
  | cons q r ih =>
    have ih := ih fun x hx => h x (List.mem_cons_of_mem _ hx)
    have hq := h q (List.mem_cons_self ..)
    by_cases e : q.id = id
    · rw [List.map_cons, List.filter_cons_of_neg (by simp [e]), List.filter_cons_of_neg (by simp [e]), ih]
    · have e2 : L.ptr q.id ≠ L.ptr id := fun f => e (by rw [← hq, f, hid])
      rw [List.map_cons, List.filter_cons_of_pos (by simp [e2]), List.filter_cons_of_pos (by simp [e]), List.map_cons, ih]
set_option maxRecDepth 100000 in
set_option maxHeartbeats 1600000 in
theorem dr_remove {w : World} {L : Ly} {Q M : Int} {W : List (Int × Int)} {R : List Qd} (hs : Sr w L Q W R) (o : Ok Q M W R) {id : Int} (hi : I64 id) :
    Calls Try.prog 17 #[ptv L.b, .int .i64 id] w fun e w' => e = .returned (.int .i64 (remE W id)) ∧ Sr w' L Q (remW W id) (remR R id) ∧ Tn (fun i => L.col i ≠ -1) w w' := by
  obtain ⟨rv, hb, hr⟩ := hs.sched
  have k1 := hb.cell 1 rfl
  have hl := hs.look hi
  cases hw : inW W id with
  | false =>
    rw [fOf_no hw] at hl
    have e1 : remE W id = 7 := if_neg (by rw [hw]; decide)
    have e2 : isR R id = false := isR_not.2 fun q hq e => inW_not.1 hw _ (o.rw q hq) e
    rw [e1, remW_not hw, remR_not e2]
    have HS := Lib.hid hs
    have hl' : (Instr.lookup 53 (.map (some L.m)) (.int .i64 id) false).run Try.prog w = .ok (.pointer none) w := hl
    clear hs o hi hb hr hl hw e1 e2
    go_enter Try.func17, Try.ntmps17
    go_wp2_with fail
    go_ret
    exact ⟨rfl, HS.out, Tn.refl _ _⟩
  | true =>
    rw [fOf_yes hw] at hl
    have e1 : remE W id = 0 := if_pos hw
    rw [e1]
    obtain ⟨q, rfl, hqw, ⟨hcq, v, ha, hir⟩, hlen, hcase⟩ := hs.one o hw
    have hqi := o.w _ hqw
    have hrok := o.rok
    have hl' : (Instr.lookup 53 (.map (some L.m)) (.int .i64 q.id) false).run Try.prog w = .ok (ptv (L.ptr q.id)) w := hl
    have HLV := Lib.hid (dr_leave hb hr ha (by rw [hs.cb]; omega) (by rw [hcq]; have := hqi.1; have := hqi.2.1; omega) (fun e => by have := hs.cb; rw [e, hcq] at this; have := hqi.1; have := hqi.2.1; omega) (fun i hi => by rw [hs.ahead i hi]; omega) (by rw [hs.len]; have := o.few; omega) (fun p hp => by
      obtain ⟨x, hx, rfl⟩ := List.mem_map.1 hp
      obtain ⟨_, vv, hat, _⟩ := hs.busy x hx
      exact ⟨_, hat⟩))
    have HS := Lib.hid hs
    have HO := Lib.hid o
    have HQI := Lib.hid hqi
    have HCQ := Lib.hid hcq
    have HW := Lib.hid hw
    have HI := Lib.hid hi
    clear hs o hi hb hr hl hw e1 hqw hcq ha hir hlen hcase hqi hrok
    go_enter Try.func17, Try.ntmps17
    go_wp2_with fail
    refine HLV.out.mono ?_; rintro e w2 ⟨rfl, ⟨rv2, hb2, hr2⟩, hp2, ht2⟩
    have hcol : ∀ i, (i = L.b ∨ i = L.ptr q.id ∨ L.col i = 258) → L.col i = 256 ∨ L.col i = q.id ∨ L.col i = 258 := fun i e => e.elim (fun e => Or.inl (by rw [e]; exact HS.out.cb)) (fun e => e.elim (fun e => Or.inr (Or.inl (by rw [e]; exact HCQ.out))) (fun e => Or.inr (Or.inr e)))
    have hq0 := HQI.out.1
    have hq1 : q.id ≤ 255 := HQI.out.2.1
    have hq0' : 0 ≤ q.id := hq0
    have hm2 := HS.out.map.tn ht2 (fun e => by have := hcol _ e; rw [HS.out.cm] at this; omega)
    have hfs : (fOf W L q.id).isSome = true := by rw [fOf_yes HW.out]; rfl
    rw [remW_len HO.out.wn HW.out] at hm2
    obtain ⟨w3, hrun, hm3, hg3⟩ := mq_del hm2 HI.out hfs 0
    have ht3 : Tn (fun i => i = L.m) w2 w3 := tn_grown hg3 (fun g e => by injection e with e; exact e.symm)
    have hmb : L.m ≠ L.b := fun e => by have h1 := HS.out.cb; have h2 := HS.out.cm; rw [e] at h2; omega
    have hmp : L.m ≠ L.ptr q.id := fun e => by have h2 := HS.out.cm; rw [e, HCQ.out] at h2; omega
    have HB2 := Lib.hid hb2
    have HB3 := Lib.hid (hb2.tn ht3 (fun e => hmb e.symm))
    have HR3 := Lib.hid (hr2.tn ht3 (fun g _ e f => by have f : g = L.m := f; have e : L.col g = 258 := e; rw [f, HS.out.cm] at e; omega))
    have HM3 := Lib.hid hm3
    have HT2 := Lib.hid ht2
    have HT3 := Lib.hid ht3
    have HCOL := Lib.hid hcol
    have k1 := hb2.cell 1 rfl
    clear hb2 hr2 hp2 ht2 hm2 hm3 hg3 ht3 hcol hq0 hmb hmp hfs
    go_wp2_with fail
    go_ret
    have hTT : Tn (fun i => L.col i = 256 ∨ L.col i = q.id ∨ L.col i = 258 ∨ L.col i = 257) w w3 := (HT2.out.mono (fun i _ e => (HCOL.out i e).elim Or.inl (fun e => e.elim (fun e => Or.inr (Or.inl e)) (fun e => Or.inr (Or.inr (Or.inl e)))))).trans' HT3.out (fun i _ e => by have e : i = L.m := e; rw [e]; exact Or.inr (Or.inr (Or.inr HS.out.cm)))
    have hidc : ∀ x ∈ R, L.col (L.ptr x.id) = x.id := fun x hx => (HS.out.busy x hx).1
    have hkp := keepP_ids hidc HCQ.out
    have hR3 := HR3.out
    rw [hkp] at hR3
    refine ⟨rfl, ⟨⟨rv2, HB3.out, hR3⟩, HS.out.cb, HS.out.cm, ?_, fun x hx => ?_, fun x hx hn => ?_, fun i hi => HS.out.ahead i (Nat.le_trans hTT.size hi)⟩, hTT.mono fun i _ e => ?_⟩
    · have e : fOf (remW W q.id) L = fun i => if i = q.id then none else fOf W L i := by
        funext i
        unfold fOf
        rw [inW_rem]
        by_cases e : i = q.id
        · rw [if_pos e, if_pos e]; rfl
        · rw [if_neg e, if_neg e]
      rw [e]; exact HM3.out
    · have hm := List.mem_filter.1 hx
      have hne : x.id ≠ q.id := by simpa using hm.2
      have h2 := HO.out.rok.id hm.1
      exact (HS.out.busy x hm.1).tn hTT fun g _ e => by omega
    · have hm := List.mem_filter.1 hx
      have hne : x.1 ≠ q.id := by simpa using hm.2
      have h2 := HO.out.rok.w x hm.1
      have hn2 : isR R x.1 = false := isR_not.2 fun y hy e => isR_not.1 hn y (List.mem_filter.2 ⟨hy, by simp [e, hne]⟩) e
      exact (HS.out.idle x hm.1 hn2).tn hTT fun g _ e => by
        show L.col g ≠ x.1 ∧ L.col g ≠ 1000 + x.1
        omega
    · omega
end Go.Proofs.Ytplbdeaoeocgkaa

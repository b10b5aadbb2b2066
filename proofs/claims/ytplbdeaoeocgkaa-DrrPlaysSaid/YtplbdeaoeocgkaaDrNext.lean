/- Proved: what Next answers and leaves. Conditions: those that the theorems name. -/
import Derived.Test.YtplbdeaoeocgkaaDrBegin
import Derived.WalkMore
import Derived.ScopeJumps
import Derived.Deep.LoopGhost
namespace Go.Proofs.Ytplbdeaoeocgkaa
open Go.ChangeShapes Go.WideShapes Go.ChangeAt Go.RowKit

theorem res_next {T : Array Value} {W : World} {b : Nat} {x y : Int} {s : Bool} (h2 : T.getD 2 undef = .pointer (some ⟨b, 0, none⟩)) (h3 : T.getD 3 undef = .bool s) (A : At W b 35 [.int .i64 x, .int .i64 y]) : (results Try.f15 T).run Try.prog W = .ok (.tuple #[.agg #[.int .i64 x, .int .i64 y], .bool s]) W := by
  have h2' : T[2]?.getD undef = .pointer (some ⟨b, 0, none⟩) := by simpa using h2
  have h3' : T[3]?.getD undef = .bool s := by simpa using h3
  have c0 := A.cell 0 rfl
  have c1 := A.cell 1 rfl
  simp [results, Try.results15, h2', h3', c0, c1, go_sem]
set_option maxRecDepth 100000 in
theorem dr_next_nil (w : World) :
    Calls Try.prog 15 #[.pointer none] w fun e w' => e = .returned (.tuple #[.agg #[.int .i64 0, .int .i64 0], .bool false]) ∧ Below w.heap.size w w' := by
  have HX : Hid (At (w.alloc (.cells #[.int .i64 0, .int .i64 0] 35)) w.heap.size 35 [.int .i64 0, .int .i64 0]) := Lib.hid (At.new w _ _)
  have HB : Hid (Below w.heap.size w (w.alloc (.cells #[.int .i64 0, .int .i64 0] 35))) := Lib.hid ((Below.refl _ _).alloc (Nat.le_refl _) _)
  have x0 := HX.out.cell 0 rfl
  have x1 := HX.out.cell 1 rfl
  have y0 := HX.out.free 0
  have y1 := HX.out.free 1
  go_enter Try.func15, Try.ntmps15
  go_wp2_with fail
  go_step3
  go_wp2_with fail
  try rw [Exit.noGoto_ret]
  exact bodyPost_ret (v := .tuple #[.agg #[.int .i64 0, .int .i64 0], .bool false]) (res_next rfl rfl HX.out) rfl ⟨rfl, HB.out⟩
set_option maxRecDepth 100000 in
set_option maxHeartbeats 800000 in
theorem dr_next_none {w : World} {L : Ly} {Q : Int} {W : List (Int × Int)} (hs : Sr w L Q W []) :
    Calls Try.prog 15 #[ptv L.b] w fun e w' => e = .returned (.tuple #[.agg #[.int .i64 0, .int .i64 0], .bool false]) ∧ Below w.heap.size w w' := by
  obtain ⟨rv, hb, hr⟩ := hs.sched
  obtain ⟨A, cap, rfl⟩ := hr.len
  have HX : Hid (At (w.alloc (.cells #[.int .i64 0, .int .i64 0] 35)) w.heap.size 35 [.int .i64 0, .int .i64 0]) := Lib.hid (At.new w _ _)
  have HB : Hid (Below w.heap.size w (w.alloc (.cells #[.int .i64 0, .int .i64 0] 35))) := Lib.hid ((Below.refl _ _).alloc (Nat.le_refl _) _)
  have x0 := HX.out.cell 0 rfl
  have x1 := HX.out.cell 1 rfl
  have y0 := HX.out.free 0
  have y1 := HX.out.free 1
  have k2 := (hb.alloc (.cells #[.int .i64 0, .int .i64 0] 35)).cell 2 rfl
  have e0 : (([] : List Qd).map fun q => L.ptr q.id).length = 0 := rfl
  rw [e0] at k2
  clear hs hb hr
  go_enter Try.func15, Try.ntmps15
  go_wp2_with fail
  go_step3
  go_wp2_with fail
  go_step3
  go_wp2_with fail
  go_loop [5] (fun _ => True) (fun _ => 0)
  case atStart => trivial
  case round =>
    go_wp2_with fail
    exact bodyPost_ret (v := .tuple #[.agg #[.int .i64 0, .int .i64 0], .bool false]) (res_next rfl rfl HX.out) rfl ⟨rfl, HB.out⟩
/-- an item comes back, and what is left. -/
def NextIs (w : World) (L : Ly) (Q : Int) (W : List (Int × Int)) (R : List Qd) (e : Ending) (w' : World) : Prop :=
  ∃ (x : It) (R' : List Qd) (L' : Ly), e = .returned (.tuple #[.agg #[.int .i64 x.1, .int .i64 x.2], .bool true]) ∧ DrGoes Q R x R' ∧ Lx w L L' ∧ L'.ptr = L.ptr ∧ Sr w' L' Q W R' ∧ Tn (fun i => L.col i ≠ -1) w w'
/-- between two rounds. -/
def Turning (W1 : World) (L : Ly) (Q M : Int) (W : List (Int × Int)) (R : List Qd) (k : Nat) (wr : World) : Prop :=
  ∃ (h : Qd) (t : List Qd) (L1 : Ly), mR (h :: t) ≤ k ∧ (∀ x R', DrGoes Q (h :: t) x R' → DrGoes Q R x R') ∧ Lx W1 L L1 ∧ L1.ptr = L.ptr ∧ Sr wr L1 Q W (h :: t) ∧ Ok Q M W (h :: t) ∧ Tn (fun i => L.col i ≠ -1) W1 wr
/-- within a round. -/
def Passing (W1 : World) (L L1 : Ly) (Q : Int) (W : List (Int × Int)) (S : List Qd) (rv : Value) (i : Value) (wr : World) : Prop :=
  ∃ (A B : List Qd), S = A ++ B ∧ i = .int .i64 (A.length : Nat) ∧ (∀ x ∈ A, (x.serve Q).may = false) ∧ Sr wr L1 Q W (A.map (Qd.fail Q) ++ B) ∧ Tn (fun i => L.col i ≠ -1) W1 wr ∧ Rr wr (fun g => L1.col g = 258) rv (S.map fun q => L1.ptr q.id)
theorem nodup_few : ∀ (n : Nat) (l : List Int), l.Nodup → (∀ x ∈ l, 0 ≤ x ∧ x < (n : Int)) → l.length ≤ n := by
  intro n
  induction n with
  | zero =>
    intro l _ hx
    cases l with
    | nil => exact Nat.le_refl _
    | cons a r => have := hx a (List.mem_cons_self ..); omega
  | succ n ih =>
    intro l hl hx
    have h1 : ∀ (l : List Int), l.Nodup → l.length ≤ (l.filter fun x => !(x == (n : Int))).length + 1 := by
      intro l
      induction l with
      | nil => intro _; exact Nat.zero_le _
      | cons a r ih =>
        intro h
        rw [List.nodup_cons] at h
        by_cases e : a = (n : Int)
        · rw [List.filter_cons_of_neg (by simp [e])]
          have : r.filter (fun x => !(x == (n : Int))) = r := List.filter_eq_self.2 fun x hx => by
            have : x ≠ (n : Int) := fun f => h.1 (by rw [e, ← f]; exact hx)
            simp [this]
          rw [this, List.length_cons]
          omega
        · rw [List.filter_cons_of_pos (by simp [e]), List.length_cons, List.length_cons]
          have := ih h.2
          omega
    have h2 := h1 l hl
    have h3 := ih (l.filter fun x => !(x == (n : Int))) (hl.sublist List.filter_sublist) fun x hm => by
      have := List.mem_filter.1 hm
      have h4 := hx x this.1
      have h5 : x ≠ (n : Int) := by simpa using this.2
      omega
    omega
theorem Ok.few {Q M : Int} {W : List (Int × Int)} {R : List Qd} (k : Ok Q M W R) : R.length ≤ 256 := by
  have := nodup_few 256 (R.map Qd.id) k.rn fun x hx => by
    obtain ⟨q, hq, rfl⟩ := List.mem_map.1 hx
    have := k.rok.id hq
    omega
  rwa [List.length_map] at this
theorem Ok.fewW {Q M : Int} {W : List (Int × Int)} {R : List Qd} (k : Ok Q M W R) : W.length ≤ 256 := by
  have := nodup_few 256 (W.map (·.1)) k.wn fun x hx => by
    obtain ⟨q, hq, rfl⟩ := List.mem_map.1 hx
    have := k.rok.w q hq
    omega
  rwa [List.length_map] at this

set_option maxRecDepth 100000 in
set_option maxHeartbeats 3200000 in
theorem dr_next {w : World} {L : Ly} {Q M : Int} {W : List (Int × Int)} {R : List Qd} (hs : Sr w L Q W R) (o : Ok Q M W R) (hR : R ≠ []) :
    Calls Try.prog 15 #[ptv L.b] w (NextIs w L Q W R) := by
  have HX1 : Hid (At (w.alloc (.cells #[.int .i64 0, .int .i64 0] 35)) w.heap.size 35 [.int .i64 0, .int .i64 0]) := Lib.hid (At.new w _ _)
  have HC1 : Hid (L.col w.heap.size = -1) := Lib.hid (hs.ahead _ (Nat.le_refl _))
  have hT1 : Tn (fun _ => False) w (w.alloc (.cells #[.int .i64 0, .int .i64 0] 35)) := (Tn.refl _ w).alloc _
  have HT1 := Lib.hid hT1
  have hs1 : Turning (w.alloc (.cells #[.int .i64 0, .int .i64 0] 35)) L Q M W R (mR R) (w.alloc (.cells #[.int .i64 0, .int .i64 0] 35)) := by
    cases R with
    | nil => exact absurd rfl hR
    | cons h t => exact ⟨h, t, L, Nat.le_refl _, fun _ _ g => g, Lx.refl _ _, rfl, hs.free o.rok hT1, o, Tn.refl _ _⟩
  have HS1 := Lib.hid hs1
  have hsz : (w.alloc (.cells #[.int .i64 0, .int .i64 0] 35)).heap.size = w.heap.size + 1 := by simp
  have HSZ := Lib.hid hsz
  clear hs o hR hT1 hs1 hsz
  go_enter Try.func15, Try.ntmps15
  go_wp2_with fail
  go_step3
  go_wp2_with fail
  go_step3
  go_wp2_with fail
  generalize hBX : w.heap.size = bx at *
  have HBX := Lib.hid hBX
  clear hBX
  generalize hW1 : w.alloc (.cells #[.int .i64 0, .int .i64 0] 35) = W1 at *
  clear hW1
  go_loopg [5] (mR R) (fun k _ wr => Turning W1 L Q M W R k wr)
  case atStart => exact HS1.out
  case round =>
    obtain ⟨h, t, L1, hm, hg, hlx, hptr, hsr, hok, htn⟩ := hrel
    have hb1 : L1.b = L.b := hlx.b
    have HX2 : Hid (At wr bx 35 [.int .i64 0, .int .i64 0]) := Lib.hid (HX1.out.tn htn (fun e => e HC1.out))
    have hcb1 : L1.col bx = -1 := (hlx.col bx (by rw [HSZ.out]; omega)).trans HC1.out
    have HCB1 := Lib.hid hcb1
    obtain ⟨rv, hb, hr⟩ := hsr.sched
    have hn := hok.few
    have hpl : ((h :: t).map fun q => L1.ptr q.id).length = (h :: t).length := List.length_map ..
    obtain ⟨g, cap, rfl, hcg, hgl, hle, hcell⟩ := hr.form (by rw [hpl]; simp)
    rw [hpl] at hcell hle hr hb
    have hc0 : wr.cell? ⟨g, 0, none⟩ = some (ptv (L1.ptr h.id)) := hcell 0 (by simp)
    have hn0 : (0 : Int) < ((h :: t).length : Int) := by simp
    generalize hnn : (h :: t).length = nn at *
    have HNN := Lib.hid hnn
    clear hnn
    have hh := hok.head
    have HM := Lib.hid (dr_may (hsr.busy h (List.mem_cons_self ..)) hh.ne)
    have k2 := hb.cell 2 rfl
    rw [hb1] at k2
    have HSR := Lib.hid hsr
    have HOK := Lib.hid hok
    have HTN := Lib.hid htn
    have HLX := Lib.hid hlx
    have HPT := Lib.hid hptr
    have HG := Lib.hid hg
    have HMR := Lib.hid hm
    have HRR := Lib.hid hr
    have HB1 := Lib.hid hb1
    have HGC := Lib.hid (And.intro hcg hgl)
    cases hmay : h.may with
    | true =>
      rw [hmay] at HM
      have hsv := hh.served hmay
      have hz := hh.size
      have hd := (dmay_iff h).1 hmay
      have HH := Lib.hid hh
      have HSV := Lib.hid hsv
      have HMY := Lib.hid hmay
      have hqw : Q * h.w ≤ 65536 * 255 := Int.mul_le_mul hok.q.2 hh.w.2 (by have := hh.w; omega) (by omega)
      have hd2 := hh.d2
      have hMM := hok.m
      have HZ : Hid (0 ≤ h.hd.2 ∧ h.hd.2 ≤ 65536 ∧ h.hd.2 ≤ h.d ∧ h.d ≤ 1099511627776) := Lib.hid ⟨by omega, by omega, hd, by omega⟩
      clear hm hg hlx hptr hsr hok htn hb hr hpl hcell hh hsv hz hd hqw hd2 hMM hcg hgl hmay hb1 hcb1
      go_wp2_with fail
      refine HM.out.mono ?_; rintro e w2 ⟨rfl, nd, rfl⟩
      have hT2 : Tn (fun _ => False) wr (wr.drewN nd) := (Tn.refl _ wr).drewN nd
      have HT2 := Lib.hid hT2
      have HS2 := Lib.hid (HSR.out.free HOK.out.rok hT2)
      have HX3 := Lib.hid (HX2.out.tn hT2 (fun e => e))
      have HTK := dr_take HS2.out HOK.out.rok HH.out.ne HZ.out HH.out.len (by rw [HNN.out]; omega)
      rw [HB1.out] at HTK
      have HTK' := Lib.hid HTK
      clear hT2 HTK k2 hc0 HM
      generalize wr.drewN nd = w2 at *
      go_wp2_with fail
      refine HTK'.out.mono ?_; rintro e w3 ⟨rfl, hs3, ht3⟩
      have HS3 := Lib.hid hs3
      have HT3 := Lib.hid ht3
      have HX4 := Lib.hid (HX3.out.tn ht3 (fun e => e HCB1.out))
      have x0 := HX4.out.cell 0 rfl
      have x1 := HX4.out.cell 1 rfl
      have y0 := HX4.out.free 0
      have y1 := HX4.out.free 1
      clear hs3 ht3
      go_wp2_with fail
      rw [Exit.noGoto_ret]
      refine bodyPost_ret (v := .tuple #[.agg #[.int .i64 h.hd.1, .int .i64 h.hd.2], .bool true]) (res_next rfl rfl ((HX4.out.set_ 0 _).set_ 1 _)) rfl ?_
      have hW : w.heap.size ≤ W1.heap.size := HT1.out.size
      have hsb := HBX.out
      have hA : Tn (fun i => L.col i ≠ -1) w wr := (HT1.out.mono (fun _ _ e => e.elim)).trans' HTN.out (fun _ _ e => e)
      have hB : Tn (fun i => L.col i ≠ -1) w w2 := hA.trans' HT2.out (fun _ _ e => e.elim)
      have hC : Tn (fun i => L.col i ≠ -1) w w3 := hB.trans' HT3.out (fun i hi e => by rw [HLX.out.col i (by omega)] at e; exact e)
      have hF : Tn (fun i => i = bx) w3 ((w3.setCell ⟨bx, 0, none⟩ (.int .i64 h.hd.1)).setCell ⟨bx, 1, none⟩ (.int .i64 h.hd.2)) := ((Tn.refl (fun i => i = bx) w3).set ⟨bx, 0, none⟩ _ (fun _ => rfl)).set ⟨bx, 1, none⟩ _ (fun _ => rfl)
      have hgo : DrGoes Q (h :: t) h.hd (tookR h t) := by
        have := DrGoes.now (Q := Q) (h := h) (t := t) (by rw [serve_of HSV.out]; exact HMY.out)
        rwa [serve_of HSV.out] at this
      exact ⟨h.hd, tookR h t, L1, rfl, HG.out _ _ hgo, (Lx.refl w L).trans hW HLX.out, HPT.out, HS3.out.tn (HOK.out.took HSV.out HMY.out).rok hF (fun g _ e => by have e : g = bx := e; rw [e]; exact HCB1.out), hC.trans' hF (fun i hi e => by have e : i = bx := e; omega)⟩
    | false =>
      rw [hmay] at HM
      have HMY := Lib.hid hmay
      have hQ := hok.q
      clear hm hg hlx hptr hsr hok htn hr hpl hcell hh hcg hgl hmay hcb1
      go_wp2_with fail
      refine HM.out.mono ?_; rintro e w2 ⟨rfl, nd, rfl⟩
      have hT2 : Tn (fun _ => False) wr (wr.drewN nd) := (Tn.refl _ wr).drewN nd
      have HP2 : Hid (Passing W1 L L1 Q W (h :: t) (.slice (some ⟨g, 0, none⟩) nn cap) (.int .i64 ((0 : Nat) : Int)) (wr.drewN nd)) := Lib.hid ⟨[], h :: t, rfl, rfl, fun x hx => by simp at hx, HSR.out.free HOK.out.rok hT2, HTN.out.trans' hT2 (fun _ _ e => e.elim), HRR.out.tn hT2 (fun _ _ _ e => e)⟩
      have hb2 := hb.tn hT2 (fun e => e)
      rw [hb1] at hb2
      clear k2 hb hb1
      have k2 := hb2.cell 2 rfl
      clear hT2 HM hb2 HSR HX2 HRR hc0
      generalize wr.drewN nd = w2 at *
      go_wp2_with fail
      go_loopw [29] (fun i wq => Passing W1 L L1 Q W (h :: t) (.slice (some ⟨g, 0, none⟩) nn cap) i wq) (fun i _ => nn - (intOf i).toNat)
      case atStart => exact HP2.out
      case round =>
        obtain ⟨A, B, hS, rfl, hA, hsq, htq, hrq⟩ := hrel
        have HS := Lib.hid hS
        have HA := Lib.hid hA
        have HSQ := Lib.hid hsq
        have HTQ := Lib.hid htq
        have HRQ := Lib.hid hrq
        have hnl : nn = A.length + B.length := by rw [← HNN.out, hS, List.length_append]
        cases B with
        | nil =>
          have hj : A.length = nn := by simp at hnl; omega
          have HJ := Lib.hid hj
          rw [hj]
          clear hS hA hsq htq hrq hnl hj k2 HP2
          go_wp2_with fail
          have hA2 : A = h :: t := by have := HS.out; rw [List.append_nil] at this; exact this.symm
          subst hA2
          have hre : DrReach Q (h :: t) ((h :: t).map (Qd.fail Q)) := by
            have := DrReach.pass (h :: t) [] HA.out
            rwa [List.append_nil, List.nil_append] at this
          have hsr2 := HSQ.out
          rw [List.append_nil] at hsr2
          have hlt : muR ((h :: t).map (Qd.fail Q)) < muR (h :: t) := muR_pass hQ.1 HOK.out.m (h :: t) (by simp) HOK.out.r HA.out
          have hle2 := mR_le ((h :: t).map (Qd.fail Q))
          have hm2 := HMR.out
          rw [mR_not HMY.out] at hm2
          go_roundg (mR ((h :: t).map (Qd.fail Q)))
          case measure => omega
          case rel => exact ⟨h.fail Q, t.map (Qd.fail Q), L1, Nat.le_refl _, fun x R' g => HG.out x R' (DrGoes.after hre g), HLX.out, HPT.out, hsr2, HOK.out.reach hre, HTQ.out⟩
        | cons q B =>
          have hjl : A.length < nn := by rw [hnl, List.length_cons]; omega
          have hqm : q ∈ h :: t := by rw [hS]; simp
          have hqo := HOK.out.r q hqm
          have hqs := hqo.size
          have hd1 := hqo.d1
          have hMM := HOK.out.m
          have ho1 : Rok W (A ++ q :: B) := by rw [← hS]; exact HOK.out.rok
          have hsame : ∀ y : Qd, y.id = q.id → y.w = q.w → Rok W (A.map (Qd.fail Q) ++ y :: B) := fun y e1 e2 => ho1.same (by
            rw [List.map_append, List.map_append, List.map_cons, List.map_cons, List.map_map, e1, e2]
            congr 1
            exact List.map_congr_left fun x _ => by show ((x.fail Q).id, (x.fail Q).w) = _; rw [fail_id, fail_w])
          have HSM := Lib.hid hsame
          have hqr := hsq.busy q (by simp)
          have HSV := Lib.hid (dr_serve hqr HOK.out.q hqo.w ⟨hqo.d0, fun e => by have := hd1 e; omega⟩)
          obtain ⟨g2, cap2, e2, _, _, _, hcell2⟩ := hrq.form (by rw [List.length_map, HNN.out]; omega)
          have hgg : g = g2 := by
            injection e2 with e2 _ _
            injection e2 with e2
            injection e2 with e2
          subst hgg
          clear e2
          have hcq : wr.cell? ⟨g, A.length, none⟩ = some (ptv (L1.ptr q.id)) := by
            rw [hcell2 A.length (by rw [List.length_map, HNN.out]; exact hjl), hS, List.map_append, List.map_cons, List.getD_eq_getElem?_getD, List.getElem?_append_right (by rw [List.length_map]; exact Nat.le_refl _), List.length_map, Nat.sub_self]
            rfl
          obtain ⟨rv2, hbq, _⟩ := hsq.sched
          have HBQ := Lib.hid hbq
          rw [HB1.out] at hbq
          have q0 := hbq.cell 0 rfl
          have hQO := Lib.hid hqo
          have HQN : Hid (q.id ≠ 256) := Lib.hid (by have := ho1.id (q := q) (by simp); omega)
          have HPC : Hid (L1.col (L1.ptr q.id) = q.id) := Lib.hid hqr.1
          have HPL : Hid (L1.ptr q.id < wr.heap.size) := Lib.hid hqr.lt
          have HLA : Hid (A.length = A.length) := Lib.hid rfl
          generalize hj : A.length = j at *
          have HJ := Lib.hid hj
          have hlt' : (j : Int) < (nn : Int) := by omega
          have hj0 : (0 : Int) ≤ (j : Int) := Int.natCast_nonneg _
          clear hS hA hsq htq hrq hnl k2 HP2 hqm hqo hqs hd1 hMM ho1 hsame hqr hcell2 hbq hj
          go_wp2_with fail
          refine HSV.out.mono ?_; rintro e w3 ⟨rfl, hq3, ht3⟩
          have HQ3 := Lib.hid hq3
          have HT3 := Lib.hid ht3
          have HS3 := Lib.hid (HSQ.out.turn (HSM.out q rfl rfl) (serve_id Q q) ht3 (fun g _ e => by have e : g = L1.ptr q.id := e; rw [e]; exact Or.inl HPC.out) hq3)
          have HM3 := dr_may hq3 (by rw [serve_l]; exact hQO.out.ne)
          rw [serve_id] at HM3
          clear hq3 ht3 HSV q0 hcq
          cases hm3 : (q.serve Q).may with
          | true =>
            rw [hm3] at HM3
            have HM3' := Lib.hid HM3
            have HMT := Lib.hid hm3
            clear HM3 hm3
            go_wp2_with fail
            refine HM3'.out.mono ?_; rintro e w4 ⟨rfl, nd4, rfl⟩
            have hT4 : Tn (fun _ => False) w3 (w3.drewN nd4) := (Tn.refl _ w3).drewN nd4
            have HT4 := Lib.hid hT4
            have HBG := dr_begin (A := A.map (Qd.fail Q)) (B := q.serve Q :: B) (HS3.out.free (HSM.out _ (serve_id Q q) (serve_w Q q)) hT4) (HSM.out _ (serve_id Q q) (serve_w Q q)) (by simp) (by
              have := HNN.out
              rw [HS.out, List.length_append, List.length_cons] at this
              rw [List.length_append, List.length_map, List.length_cons]
              omega)
            rw [List.length_map, HJ.out, HB1.out] at HBG
            have HBG' := Lib.hid HBG
            clear hT4 HBG HM3'
            generalize w3.drewN nd4 = w4 at *
            go_wp2_with fail
            refine HBG'.out.mono ?_; rintro e w5 ⟨rfl, ⟨L2, hl2, hp2, hs5⟩, ht5⟩
            have HL2 := Lib.hid hl2
            have HP2 := Lib.hid hp2
            have HS5 := Lib.hid hs5
            have HT5 := Lib.hid ht5
            clear hl2 hp2 hs5 ht5
            go_wp2_with fail
            have hre : DrReach Q (h :: t) (q :: (B ++ A.map (Qd.fail Q))) := by
              have := DrReach.pass A (q :: B) HA.out
              rw [← HS.out] at this
              rwa [List.cons_append] at this
            have hm2 := HMR.out
            rw [mR_not HMY.out] at hm2
            have hsr5 := HS5.out
            rw [List.cons_append] at hsr5
            go_roundg 0
            case measure => omega
            case rel =>
              refine ⟨q.serve Q, B ++ A.map (Qd.fail Q), L2, by rw [mR_may HMT.out]; exact Nat.le_refl _, fun x R' k => HG.out x R' (DrGoes.after hre (DrReach.serve_head k HMT.out)), ?_, ?_, hsr5, (HOK.out.reach hre).serve, ?_⟩
              · exact HLX.out.trans HTQ.out.size ((Lx.refl wr L1).trans (Nat.le_trans HT3.out.size HT4.out.size) HL2.out)
              · rw [HP2.out]; exact HPT.out
              · refine ((HTQ.out.trans' HT3.out (fun i hi e => ?_)).trans' HT4.out (fun _ _ e => e.elim)).trans' HT5.out (fun i hi e => ?_)
                · have e : i = L1.ptr q.id := e
                  rw [← HLX.out.col i hi, e, HPC.out]
                  have := (HSM.out q rfl rfl).id (q := q) (by simp)
                  omega
                · rwa [← HLX.out.col i hi]
          | false =>
            rw [hm3] at HM3
            have HM3' := Lib.hid HM3
            have HMT := Lib.hid hm3
            clear HM3 hm3
            go_wp2_with fail
            refine HM3'.out.mono ?_; rintro e w4 ⟨rfl, nd4, rfl⟩
            have hT4 : Tn (fun _ => False) w3 (w3.drewN nd4) := (Tn.refl _ w3).drewN nd4
            have HT4 := Lib.hid hT4
            have HS4 := Lib.hid (HS3.out.free (HSM.out _ (serve_id Q q) (serve_w Q q)) hT4)
            obtain ⟨_, v4, ha4, hi4⟩ := HQ3.out.tn hT4 (fun _ _ e => e.elim)
            rw [serve_id] at ha4 hi4
            have HA4 := Lib.hid ha4
            have HI4 := Lib.hid hi4
            have p2 := ha4.cell 2 rfl
            have f2 := ha4.free 2
            clear hT4 ha4 hi4 HM3'
            generalize w3.drewN nd4 = w4 at *
            go_wp2_with fail
            have hT5 : Tn (fun i => i = L1.ptr q.id) w4 (w4.setCell ⟨L1.ptr q.id, 2, none⟩ (.bool false)) := (Tn.refl (fun i => i = L1.ptr q.id) w4).set ⟨L1.ptr q.id, 2, none⟩ _ (fun _ => rfl)
            have hqi := (HSM.out q rfl rfl).id (q := q) (by simp)
            have hq5 : Qr (w4.setCell ⟨L1.ptr q.id, 2, none⟩ (.bool false)) L1 (q.fail Q) := by
              refine ⟨by rw [fail_id]; exact HPC.out, v4, ?_, ?_⟩
              · rw [fail_id]
                exact HA4.out.set_ 2 _
              · rw [fail_id]
                exact HI4.out.tn hT5 (fun g _ e f => by have f : g = L1.ptr q.id := f; have e : L1.col g = 1000 + q.id := e; rw [f, HPC.out] at e; omega)
            have hs5 := HS4.out.turn (q' := q.fail Q) (HSM.out _ (serve_id Q q) (serve_w Q q)) (by rw [fail_id, serve_id]) hT5 (fun g _ e => by have e : g = L1.ptr q.id := e; rw [e, serve_id]; exact Or.inl HPC.out) hq5
            have hT35 : Tn (fun i => i = L1.ptr q.id) wr (w4.setCell ⟨L1.ptr q.id, 2, none⟩ (.bool false)) := (HT3.out.trans' HT4.out (fun _ _ e => e.elim)).trans hT5
            refine ⟨⟨A ++ [q], B, by rw [HS.out]; simp, ?_, fun x hx => ?_, ?_, ?_, ?_⟩, by simp [intOf]; omega⟩
            · rw [List.length_append, HJ.out]; go_num
            · rcases List.mem_append.1 hx with hx | hx
              · exact HA.out x hx
              · rw [List.mem_singleton] at hx; rw [hx]; exact HMT.out
            · rw [List.map_append, List.map_cons, List.map_nil, List.append_assoc]; exact hs5
            · refine HTQ.out.trans' hT35 (fun i hi e => ?_)
              have e : i = L1.ptr q.id := e
              rw [← HLX.out.col i hi, e, HPC.out]
              omega
            · refine HRQ.out.tn hT35 (fun g _ e f => ?_)
              have f : g = L1.ptr q.id := f
              have e : L1.col g = 258 := e
              rw [f, HPC.out] at e
              omega
end Go.Proofs.Ytplbdeaoeocgkaa

/- Proved: what Add answers and leaves. Conditions: those that the theorems name. -/
import Derived.Test.YtplbdeaoeocgkaaDrOps
namespace Go.Proofs.Ytplbdeaoeocgkaa
open Go.ChangeShapes Go.WideShapes Go.ChangeAt Go.RowKit

theorem dr_add_nil (id wt : Int) (w : World) : Calls Try.prog 13 #[.pointer none, .int .i64 id, .int .i64 wt] w fun e w' => e = .returned (.int .i64 17) ∧ w = w' := by
  go_enter Try.func13, Try.ntmps13
  go_wp2_with fail
  go_ret
  exact ⟨rfl, rfl⟩
theorem dr_add_range (b : Nat) (id wt : Int) (w : World) (h : id < 0 ∨ 255 < id ∨ wt < 1 ∨ 255 < wt) : Calls Try.prog 13 #[ptv b, .int .i64 id, .int .i64 wt] w fun e w' => e = .returned (.int .i64 2) ∧ w = w' := by
  by_cases h1 : id < 0
  · clear h
    go_enter Try.func13, Try.ntmps13
    go_wp2_with fail
    go_ret
    exact ⟨rfl, rfl⟩
  by_cases h2 : 256 ≤ id
  · clear h
    go_enter Try.func13, Try.ntmps13
    go_wp2_with fail
    go_ret
    exact ⟨rfl, rfl⟩
  by_cases h3 : wt < 1
  · clear h
    go_enter Try.func13, Try.ntmps13
    go_wp2_with fail
    go_ret
    exact ⟨rfl, rfl⟩
  have h4 : 255 < wt := by omega
  clear h
  go_enter Try.func13, Try.ntmps13
  go_wp2_with fail
  go_ret
  exact ⟨rfl, rfl⟩
def dAddL (L : Ly) (g : Nat) (id : Int) : Ly := { L with col := fun i => if i = g then id else L.col i, ptr := fun i => if i = id then g else L.ptr i }
theorem addL_col (L : Ly) {g i : Nat} (id : Int) (h : i ≠ g) : (dAddL L g id).col i = L.col i := if_neg h
theorem addL_ptr (L : Ly) (g : Nat) {id k : Int} (h : k ≠ id) : (dAddL L g id).ptr k = L.ptr k := if_neg h
theorem inW_app {W : List (Int × Int)} {id wt k : Int} (hne : k ≠ id) : inW (W ++ [(id, wt)]) k = inW W k := by
  unfold inW
  rw [List.any_append]
  simp [Ne.symm hne]
set_option maxRecDepth 100000 in
set_option maxHeartbeats 1600000 in
theorem dr_add {w : World} {L : Ly} {Q M : Int} {W : List (Int × Int)} {R : List Qd} (hs : Sr w L Q W R) (o : Ok Q M W R) {id : Int} (hi : I64 id) (wt : Int) :
    Calls Try.prog 13 #[ptv L.b, .int .i64 id, .int .i64 wt] w fun e w' => e = .returned (.int .i64 (addE W id wt)) ∧ (∃ L', Lx w L L' ∧ Sr w' L' Q (addW W id wt) R) ∧ Tn (fun i => L.col i ≠ -1) w w' := by
  by_cases hg : id < 0 ∨ 255 < id ∨ wt < 1 ∨ 255 < wt
  · have e1 : addE W id wt = 2 := if_pos hg
    have e2 : addW W id wt = W := by unfold addW; rw [e1]; rfl
    rw [e1, e2]
    refine (dr_add_range L.b id wt w hg).mono ?_
    rintro e w' ⟨rfl, rfl⟩
    exact ⟨rfl, ⟨L, Lx.refl _ _, hs⟩, Tn.refl _ _⟩
  · have h1 : ¬ id < 0 := by omega
    have h2 : ¬ 256 ≤ id := by omega
    have h3 : ¬ wt < 1 := by omega
    have h4 : ¬ 255 < wt := by omega
    obtain ⟨rv, hb, hr⟩ := hs.sched
    have k1 := hb.cell 1 rfl
    have hl := hs.look hi
    cases hw : inW W id with
    | true =>
      have e1 : addE W id wt = 8 := by unfold addE; rw [if_neg hg, if_pos hw]
      have e2 : addW W id wt = W := by unfold addW; rw [e1]; rfl
      rw [e1, e2]
      rw [fOf_yes hw] at hl
      have hl' : (Instr.lookup 53 (.map (some L.m)) (.int .i64 id) false).run Try.prog w = .ok (ptv (L.ptr id)) w := hl
      have HS := Lib.hid hs
      clear hs o hi hb hr hl hw e1 e2 hg
      go_enter Try.func13, Try.ntmps13
      go_wp2_with fail
      go_ret
      exact ⟨rfl, ⟨L, Lx.refl _ _, HS.out⟩, Tn.refl _ _⟩
    | false =>
      have e1 : addE W id wt = 0 := by unfold addE; rw [if_neg hg, if_neg (by rw [hw]; decide)]
      have e2 : addW W id wt = W ++ [(id, wt)] := by unfold addW; rw [e1]; rfl
      rw [e1, e2]
      have hf := fOf_no (L := L) hw
      rw [hf] at hl
      have hl' : (Instr.lookup 53 (.map (some L.m)) (.int .i64 id) false).run Try.prog w = .ok (.pointer none) w := hl
      have hT1 : Tn (fun _ => False) w (w.alloc (.cells #[.int .i64 wt, .int .i64 0, .bool false, .slice none 0 0] 66)) := (Tn.refl _ w).alloc _
      have hA1 := At.new w 66 [.int .i64 wt, .int .i64 0, .bool false, .slice none 0 0]
      obtain ⟨w2, hrun, hm2, hg2⟩ := mq_put (hs.map.tn hT1 (fun e => e)) (by have := o.fewW; omega) hi hf w.heap.size
      have hT2 : Tn (fun i => i = L.m) (w.alloc (.cells #[.int .i64 wt, .int .i64 0, .bool false, .slice none 0 0] 66)) w2 := tn_grown hg2 (fun g e => by injection e with e; exact e.symm)
      have HT : Hid (Tn (fun i => i = L.m) w w2) := Lib.hid ((hT1.mono (fun _ _ e => e.elim)).trans hT2)
      have hml := hs.map.lt
      have HA : Hid (At w2 w.heap.size 66 [.int .i64 wt, .int .i64 0, .bool false, .slice none 0 0]) := Lib.hid (hA1.tn hT2 (fun e => by omega))
      have HM := Lib.hid hm2
      have HS := Lib.hid hs
      have HO := Lib.hid o
      have HW := Lib.hid hw
      have HI : Hid (0 ≤ id ∧ id ≤ 255) := Lib.hid (by omega)
      have hrun' := hrun
      clear hs o hi hb hr hl hw e1 e2 hg hf hT1 hA1 hm2 hg2 hT2 hml hrun
      go_enter Try.func13, Try.ntmps13
      go_wp2_with fail
      go_ret
      have hs := HS.out
      have hml := hs.map.lt
      have hid := HI.out
      have hnot := inW_not.1 HW.out
      have hRid : ∀ x ∈ R, x.id ≠ id := fun x hx e => hnot _ (HO.out.rw x hx) e
      have hsz := HT.out.size
      have hcol : ∀ i, i < w.heap.size → (dAddL L w.heap.size id).col i = L.col i := fun i hi => addL_col L id (by omega)
      have hlt2 : w.heap.size < w2.heap.size := HA.out.lt
      have hq : ∀ q : Qd, q.id ≠ id → (0 ≤ q.id ∧ q.id ≤ 255) → Qr w L q → Qr w2 (dAddL L w.heap.size id) q := fun q hne hrg h => by
        have hlt := h.lt
        obtain ⟨a, v, b, c⟩ := h.tn HT.out (fun g _ e => by have e : g = L.m := e; rw [e, hs.cm]; omega)
        refine ⟨?_, v, ?_, c.mono fun g _ e => ?_⟩
        · rw [addL_ptr L _ hne, hcol _ hlt]; exact a
        · rw [addL_ptr L _ hne]; exact b
        · have e : L.col g = 1000 + q.id := e
          show (dAddL L w.heap.size id).col g = 1000 + q.id
          rw [addL_col L id (fun f => by rw [f, hs.ahead _ (Nat.le_refl _)] at e; omega)]; exact e
      obtain ⟨rv, hb, hr⟩ := hs.sched
      refine ⟨rfl, ⟨dAddL L w.heap.size id, ⟨rfl, rfl, hcol⟩, ⟨⟨rv, ?_, ?_⟩, ?_, ?_, ?_, fun q hq' => hq q (hRid q hq') (HO.out.rok.id hq') (hs.busy q hq'), fun x hx hn => ?_, fun i hi => ?_⟩⟩, HT.out.mono fun i _ e => by have e : i = L.m := e; rw [e, hs.cm]; omega⟩
      · exact hb.tn HT.out (fun e => by have h1 := hs.cb; have e : L.b = L.m := e; rw [e, hs.cm] at h1; omega)
      · have e : (R.map fun q => (dAddL L w.heap.size id).ptr q.id) = R.map fun q => L.ptr q.id := List.map_congr_left fun q hq' => addL_ptr L _ (hRid q hq')
        rw [e]
        refine (hr.tn HT.out (fun g _ e f => by have f : g = L.m := f; have e : L.col g = 258 := e; rw [f, hs.cm] at e; omega)).mono fun g hg' e => ?_
        have e : L.col g = 258 := e
        show (dAddL L w.heap.size id).col g = 258
        rw [addL_col L id (fun f => by rw [f, hs.ahead _ (Nat.le_refl _)] at e; omega)]; exact e
      · exact (hcol _ hb.lt).trans hs.cb
      · exact (hcol _ hml).trans hs.cm
      · have e : fOf (W ++ [(id, wt)]) (dAddL L w.heap.size id) = fun i => if i = id then some w.heap.size else fOf W L i := by
          funext i
          by_cases e : i = id
          · subst e
            rw [if_pos rfl, fOf_yes (inW_iff.2 ⟨wt, by simp⟩)]
            exact congrArg some (if_pos rfl)
          · rw [if_neg e]
            unfold fOf
            rw [inW_app e, addL_ptr L _ e]
        rw [e, List.length_append, List.length_singleton]
        exact HM.out
      · rcases List.mem_append.1 hx with hx | hx
        · exact hq _ (hnot x hx) (HO.out.rok.w x hx) (hs.idle x hx hn)
        · rw [List.mem_singleton] at hx
          subst hx
          refine ⟨?_, _, ?_, Ir.nil _ _⟩
          · show (dAddL L w.heap.size id).col ((dAddL L w.heap.size id).ptr id) = id
            rw [show (dAddL L w.heap.size id).ptr id = w.heap.size from if_pos rfl]
            exact if_pos rfl
          · show At w2 ((dAddL L w.heap.size id).ptr id) _ _
            rw [show (dAddL L w.heap.size id).ptr id = w.heap.size from if_pos rfl]
            exact HA.out
      · rw [addL_col L id (by omega)]
        exact hs.ahead i (by omega)
end Go.Proofs.Ytplbdeaoeocgkaa

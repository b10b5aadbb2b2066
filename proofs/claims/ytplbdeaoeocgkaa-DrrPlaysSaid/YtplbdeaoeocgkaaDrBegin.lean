/- Proved: what begin leaves. Conditions: those that the theorems name. -/
import Derived.Test.YtplbdeaoeocgkaaDrCat
namespace Go.Proofs.Ytplbdeaoeocgkaa
open Go.ChangeShapes Go.WideShapes Go.ChangeAt Go.RowKit

/-- the same scheduler, of whose blocks those that were there are whose they were. -/
structure Lx (w : World) (L L' : Ly) : Prop where
  b : L'.b = L.b
  m : L'.m = L.m
  col : ∀ i, i < w.heap.size → L'.col i = L.col i
theorem Lx.refl (w : World) (L : Ly) : Lx w L L := ⟨rfl, rfl, fun _ _ => rfl⟩
theorem Lx.trans {w w1 : World} {L L1 L2 : Ly} (h : Lx w L L1) (hw : w.heap.size ≤ w1.heap.size) (k : Lx w1 L1 L2) : Lx w L L2 :=
  ⟨k.b.trans h.b, k.m.trans h.m, fun i hi => (k.col i (Nat.lt_of_lt_of_le hi hw)).trans (h.col i hi)⟩
/-- L, in which block g is k's. -/
def Ly.paint (L : Ly) (g : Nat) (k : Int) : Ly := { L with col := fun i => if i = g then k else L.col i }
theorem paint_at (L : Ly) (g : Nat) (k : Int) : (L.paint g k).col g = k := if_pos rfl
theorem paint_far (L : Ly) {g i : Nat} (k : Int) (h : i ≠ g) : (L.paint g k).col i = L.col i := if_neg h
theorem Qr.paint {w : World} {L : Ly} {q : Qd} (h : Qr w L q) {g : Nat} (k : Int) (hg : L.col g ≠ q.id ∧ L.col g ≠ 1000 + q.id) : Qr w (L.paint g k) q := by
  obtain ⟨h1, v, h2, h3⟩ := h
  refine ⟨?_, v, h2, h3.mono fun i _ e => ?_⟩
  · show (L.paint g k).col (L.ptr q.id) = q.id
    rw [paint_far L k (fun e => hg.1 (by rw [← e]; exact h1))]; exact h1
  · rw [paint_far L k (fun f => hg.2 (by rw [← f]; exact e))]; exact e
/-- the round lies anew, with the same queues in another order. -/
theorem Sr.anew {w w' : World} {L : Ly} {Q : Int} {W : List (Int × Int)} {R S : List Qd} {rv : Value} {g : Nat} {c : Nat → Prop} (hs : Sr w L Q W R) (o : Rok W R) (k : Tn c w w')
    (hc : ∀ i, i < w.heap.size → c i → L.col i = 256 ∨ L.col i = 258 ∨ L.col i = -1)
    (hg : L.col g = 258 ∨ w.heap.size ≤ g) (hgl : g < w'.heap.size)
    (hb : At w' L.b 56 [.int .i64 Q, .map (some L.m), rv]) (hr : Rr w' (fun i => i = g) rv (S.map fun q => L.ptr q.id)) (hS : ∀ q, q ∈ S ↔ q ∈ R) :
    Sr w' (L.paint g 258) Q W S ∧ Lx w L (L.paint g 258) := by
  have hcol : ∀ i, i < w.heap.size → (L.paint g 258).col i = L.col i := fun i hi => by
    by_cases e : i = g
    · subst e
      rw [paint_at]
      rcases hg with hg | hg
      · exact hg.symm
      · omega
    · exact paint_far L 258 e
  have hgf : L.col g = 258 ∨ L.col g = -1 := hg.imp id fun h => hs.ahead g h
  have hir : ∀ id, isR S id = isR R id := fun id => by
    cases h : isR R id with
    | true => obtain ⟨q, hq, e⟩ := isR_iff.1 h; exact isR_iff.2 ⟨q, (hS q).2 hq, e⟩
    | false => exact isR_not.2 fun q hq => isR_not.1 h q ((hS q).1 hq)
  have hff : fOf W (L.paint g 258) = fOf W L := rfl
  refine ⟨⟨⟨rv, hb, hr.mono fun i _ e => by have e : i = g := e; rw [e]; exact paint_at L g 258⟩, ?_, ?_, ?_, fun q hq => ?_, fun x hx hn => ?_, fun i hi => ?_⟩, rfl, rfl, hcol⟩
  · obtain ⟨_, h1, _⟩ := hs.sched
    exact (hcol _ h1.lt).trans hs.cb
  · exact (hcol _ hs.map.lt).trans hs.cm
  · rw [hff]
    exact hs.map.tn k (fun e => by have := hc _ hs.map.lt e; rw [hs.cm] at this; omega)
  · have hq' := (hS q).1 hq
    have hi := o.id hq'
    exact ((hs.busy q hq').tn k fun i hi' e => by have := hc i hi' e; omega).paint 258 (by omega)
  · rw [hir] at hn
    have hi := o.w x hx
    exact ((hs.idle x hx hn).tn k fun i hi' e => by
      have := hc i hi' e
      show L.col i ≠ x.1 ∧ L.col i ≠ 1000 + x.1
      omega).paint 258 (by show L.col g ≠ x.1 ∧ L.col g ≠ 1000 + x.1; omega)
  · rw [paint_far L 258 (by omega)]
    exact hs.ahead i (Nat.le_trans k.size hi)

theorem own_base {w : World} {base : Nat} {e : TypeId} {size : Nat} {v : Value} {n : Nat} {xs : List Value} (h : w.ownsRow base e size v n xs) : w.ownsRow 0 e size v n xs := ⟨h.1, h.2.imp id fun ⟨g, cap, cur, a, _, r⟩ => ⟨g, cap, cur, a, Nat.zero_le _, r⟩⟩
set_option maxRecDepth 100000 in
set_option maxHeartbeats 1600000 in
theorem dr_begin {w : World} {L : Ly} {Q : Int} {W : List (Int × Int)} {A B : List Qd} (hs : Sr w L Q W (A ++ B)) (o : Rok W (A ++ B)) (hB : B ≠ []) (hn : (A ++ B).length ≤ 65536) :
    Calls Try.prog 26 #[ptv L.b, .int .i64 (A.length : Nat)] w fun e w' => e = .returned (.tuple #[]) ∧ (∃ L', Lx w L L' ∧ L'.ptr = L.ptr ∧ Sr w' L' Q W (B ++ A)) ∧ Tn (fun i => L.col i ≠ -1) w w' := by
  obtain ⟨rv, hb, hr⟩ := hs.sched
  have hlen : ((A ++ B).map fun q => L.ptr q.id).length = A.length + B.length := by rw [List.length_map, List.length_append]
  have hB0 : 0 < B.length := List.length_pos_iff.2 hB
  obtain ⟨g, cap, rfl, hcg, hgl, hle, hcell⟩ := hr.form (by rw [hlen]; omega)
  rw [hlen] at hle hcell
  rw [hlen] at hb
  rw [List.length_append] at hn
  obtain ⟨i0, hi0, hz0, hz1, hz2⟩ := info_parts infoPt
  have hu : Try.prog.underlying 54 = some (.slice (Try.prog.elem 54)) := by kernel_rfl
  have he : Try.prog.elem 54 = 63 := by kernel_rfl
  have hs1 : ∀ W : World, (Instr.slice 54 (.slice (some ⟨g, 0, none⟩) (A.length + B.length) cap) (some (.int .i64 (A.length : Nat))) none none).run Try.prog W = .ok (.slice (some ⟨g, A.length, none⟩) B.length (cap - A.length)) W := fun W => by
    rw [run_slice_l W 54 (some ⟨g, 0, none⟩) (A.length + B.length) cap hu .i64 (A.length : Int) (by omega) (by omega), he]
    have e1 : cap ≠ A.length := by omega
    have e2 : A.length + B.length - A.length = B.length := by omega
    have e3 : (⟨g, 0, none⟩ : Addr).add A.length = ⟨g, A.length, none⟩ := by unfold Addr.add; split <;> simp_all
    simp [sizeOf, typeInfo, hi0, hz1, sliced, e1, e2, e3]
  have hs2 : ∀ W : World, (Instr.slice 54 (.slice (some ⟨g, 0, none⟩) (A.length + B.length) cap) none (some (.int .i64 (A.length : Nat))) none).run Try.prog W = .ok (.slice (some ⟨g, 0, none⟩) A.length cap) W := fun W => by
    rw [run_slice_h W 54 (some ⟨g, 0, none⟩) (A.length + B.length) cap hu .i64 (A.length : Int) (by omega) (by omega), he]
    simp [sizeOf, typeInfo, hi0, hz1, sliced, Addr.add]
  have hpa : Pr w ⟨g, A.length, none⟩ (B.map fun q => L.ptr q.id) := ⟨hgl, fun j hj => by
    rw [List.length_map] at hj
    have := hcell (A.length + j) (by omega)
    rw [Addr.add_lit, this, List.map_append]
    congr 2
    rw [List.getD_eq_getElem?_getD, List.getD_eq_getElem?_getD, List.getElem?_append_right (by rw [List.length_map]; omega), List.length_map, Nat.add_sub_cancel_left]⟩
  have hpb : Pr w ⟨g, 0, none⟩ (A.map fun q => L.ptr q.id) := ⟨hgl, fun j hj => by
    rw [List.length_map] at hj
    have := hcell j (by omega)
    rw [Addr.add_lit, Nat.zero_add, this, List.map_append]
    congr 2
    rw [List.getD_eq_getElem?_getD, List.getD_eq_getElem?_getD, List.getElem?_append_left (by rw [List.length_map]; omega)]⟩
  have hal : Below w.heap.size w (w.alloc (.cells #[.slice (some ⟨g, A.length, none⟩) B.length (cap - A.length), .slice (some ⟨g, 0, none⟩) A.length cap] 54)) := (Below.refl _ _).alloc (Nat.le_refl _) _
  have hald : Below w.heap.size w (w.alloc (.cells #[.slice (some ⟨g, A.length, none⟩) B.length (cap - A.length), .slice (some ⟨g, 0, none⟩) A.length cap] 54)).drew := hal.drew
  have HAL := Lib.hid hald
  have hat : At (w.alloc (.cells #[.slice (some ⟨g, A.length, none⟩) B.length (cap - A.length), .slice (some ⟨g, 0, none⟩) A.length cap] 54)).drew w.heap.size 54 [.slice (some ⟨g, A.length, none⟩) B.length (cap - A.length), .slice (some ⟨g, 0, none⟩) A.length cap] := At.new w _ _
  have HC := Lib.hid (dr_concat hat (List.length_map ..).symm (List.length_map ..).symm (hpa.tn hald) (hpb.tn hald) (by omega) (by omega))
  have HB := Lib.hid hb
  have HS := Lib.hid hs
  have HO := Lib.hid o
  have k2 := hb.cell 2 rfl
  have HSZ : Hid ((w.alloc (.cells #[.slice (some ⟨g, A.length, none⟩) B.length (cap - A.length), .slice (some ⟨g, 0, none⟩) A.length cap] 54)).drew.heap.size = w.heap.size + 1) := Lib.hid (by simp [World.drew])
  clear hs o hb hr hal hald hat hpa hpb hcell hlen hu he hi0 hz0 hz1 hz2
  go_enter Try.func26, Try.ntmps26
  go_wp2_with fail
  go_region_with (go_at_call 30; refine HC.out.mono ?_; rintro e wq ⟨v, rfl, hown, hbl⟩; obtain ⟨g', cap', rfl, hge, hlt⟩ := hown.form (by rw [List.length_append, List.length_map, List.length_map]; omega); have HBQ : Hid (At wq L.b 56 [.int .i64 Q, .map (some L.m), .slice (some ⟨g, 0, none⟩) (A.length + B.length) cap]) := Lib.hid ((HB.out.below HAL.out HB.out.lt).below hbl (HB.out.below HAL.out HB.out.lt).lt); have f2 := HBQ.out.free 2; have q2 := HBQ.out.cell 2 rfl; have HOW := Lib.hid hown; have HBL := Lib.hid hbl; clear hown hbl)
  all_goals
    go_end0
    have hge' : w.heap.size ≤ g' := by have := hge; rw [HSZ.out] at this; omega
    have hbl := (HS.out.sched).choose_spec.1.lt
    have hgb : g' ≠ L.b := by omega
    have hT0 : Tn (fun i => i = L.b) w wq := (tn_below (fun i => i = L.b) HAL.out).trans (tn_below (fun i => i = L.b) HBL.out)
    have hT : Tn (fun i => i = L.b) wq (wq.setCell ⟨L.b, 2, none⟩ (.slice (some ⟨g', 0, none⟩) (B.length + A.length) cap')) := (Tn.refl (fun i => i = L.b) wq).set ⟨L.b, 2, none⟩ _ (fun _ => rfl)
    have hR : Rr wq (fun i => i = g') (.slice (some ⟨g', 0, none⟩) (B.length + A.length) cap') ((B ++ A).map fun q => L.ptr q.id) := by
      refine ⟨?_, fun j e => by simp [Value.ownBlock] at e; exact e.symm⟩
      have := HOW.out
      rw [← List.map_append] at this
      have := own_base this
      simpa using this
    have hfin := HS.out.anew (S := B ++ A) HO.out (hT0.trans hT) (fun i _ e => by have e : i = L.b := e; rw [e]; exact Or.inl HS.out.cb) (Or.inr hge') (Nat.lt_of_lt_of_le hlt hT.size) (HBQ.out.set_ 2 _) (hR.tn hT (fun j _ e f => by have e : j = g' := e; have f : j = L.b := f; omega)) (fun q => by simp [or_comm])
    exact ⟨rfl, ⟨_, hfin.2, rfl, hfin.1⟩, (hT0.trans hT).mono fun i _ e => by have e : i = L.b := e; rw [e, HS.out.cb]; omega⟩
end Go.Proofs.Ytplbdeaoeocgkaa

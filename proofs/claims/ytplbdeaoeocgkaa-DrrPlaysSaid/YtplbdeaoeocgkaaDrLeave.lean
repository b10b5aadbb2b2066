/- Proved: what leave leaves. Conditions: those that the theorems name. -/
import Derived.Test.YtplbdeaoeocgkaaDrDel
namespace Go.Proofs.Ytplbdeaoeocgkaa
open Go.ChangeShapes Go.WideShapes Go.ChangeAt Go.RowKit

set_option maxRecDepth 100000 in
set_option maxHeartbeats 800000 in
theorem dr_leave {w : World} {b m p : Nat} {Q wt d : Int} {s : Bool} {v rv : Value} {ps : List Nat} {c : Nat → Prop}
    (hb : At w b 56 [.int .i64 Q, .map (some m), rv]) (hr : Rr w c rv ps) (hp : At w p 66 [.int .i64 wt, .int .i64 d, .bool s, v]) (hcb : ¬ c b) (hcp : ¬ c p) (hbp : b ≠ p) (hca : ∀ i, w.heap.size ≤ i → ¬ c i)
    (hn : ps.length ≤ 65536) (hl : ∀ p ∈ ps, ∃ xs, At w p 66 xs) :
    Calls Try.prog 27 #[ptv b, ptv p] w fun e w' => e = .returned (.tuple #[]) ∧ (∃ rv', At w' b 56 [.int .i64 Q, .map (some m), rv'] ∧ Rr w' c rv' (keepP p ps)) ∧
      At w' p 66 [.int .i64 wt, .int .i64 0, .bool false, .slice none 0 0] ∧ Tn (fun i => i = b ∨ i = p ∨ c i) w w' := by
  have HB0 := Lib.hid hb
  have HT1 : Hid (Tn (fun i => i = b ∨ i = p ∨ c i) w (w.alloc (.cells #[ptv p] 63))) := Lib.hid ((Tn.refl _ w).alloc _)
  have HF1 : Hid (Tn (fun _ => False) w (w.alloc (.cells #[ptv p] 63))) := Lib.hid ((Tn.refl _ w).alloc _)
  have hb1 := hb.tn HF1.out (fun e => e)
  have hp1 := hp.tn HF1.out (fun e => e)
  have hx1 := At.new w 63 [ptv p]
  have HB1 := Lib.hid hb1
  have HP1 := Lib.hid hp1
  have HX1 := Lib.hid hx1
  have HD := Lib.hid (dr_delete (hr.tn HF1.out (fun _ _ _ e => e)) p w.heap.size hx1 (hca _ (Nat.le_refl _)) hn (fun x hx => by obtain ⟨xs, h⟩ := hl x hx; exact ⟨xs, h.tn HF1.out (fun e => e)⟩) ⟨_, hp1⟩)
  have HXB : Hid (w.heap.size ≠ b ∧ w.heap.size ≠ p ∧ ¬ c w.heap.size) := Lib.hid ⟨by have := hb.lt; omega, by have := hp.lt; omega, hca _ (Nat.le_refl _)⟩
  have HCB := Lib.hid hcb
  have HCP := Lib.hid hcp
  have HBP := Lib.hid hbp
  have c0 := hb1.cell 0 rfl
  have c2 := hb1.cell 2 rfl
  clear hb hr hp hcb hcp hbp hca hl hb1 hp1 hx1 HF1
  go_enter Try.func27, Try.ntmps27
  go_wp2_with fail
  generalize w.heap.size = bx at *
  generalize w.alloc (.cells #[ptv p] 63) = w1 at *
  refine HD.out.mono ?_; rintro e w2 ⟨rv', rfl, hr2, ht2⟩
  obtain ⟨A', cap', rfl⟩ := hr2.len
  generalize hN : (keepP p ps).length = N at *
  have HN := Lib.hid hN
  clear hN
  have HT2 : Hid (Tn c w1 w2) := Lib.hid ht2
  have HR2 := Lib.hid hr2
  have HB2 : Hid (At w2 b 56 [.int .i64 Q, .map (some m), rv]) := Lib.hid (HB1.out.tn ht2 HCB.out)
  have HP2 : Hid (At w2 p 66 [.int .i64 wt, .int .i64 d, .bool s, v]) := Lib.hid (HP1.out.tn ht2 HCP.out)
  have HX2 : Hid (At w2 bx 63 [ptv p]) := Lib.hid (HX1.out.tn ht2 HXB.out.2.2)
  clear hr2 ht2 c0 c2 HB1 HP1 HX1 HD HB0
  have c2 := HB2.out.cell 2 rfl
  have f2 := HB2.out.free 2
  go_wp2_with fail
  have HB3 : Hid (At (w2.setCell ⟨b, 2, none⟩ (.slice A' N cap')) b 56 [.int .i64 Q, .map (some m), .slice A' N cap']) := Lib.hid (HB2.out.set_ 2 _)
  have HT3 : Hid (Tn (fun i => i = b) w2 (w2.setCell ⟨b, 2, none⟩ (.slice A' N cap'))) := Lib.hid ((Tn.refl _ w2).set _ _ (fun _ => rfl))
  have HP3 := Lib.hid (HP2.out.tn HT3.out (fun e => HBP.out e.symm))
  have HX3 := Lib.hid (HX2.out.tn HT3.out (fun e => HXB.out.1 e))
  have HR3 := Lib.hid (HR2.out.tn HT3.out (fun g _ e f => by have f : g = b := f; rw [f] at e; exact HCB.out e))
  clear c2 f2 HB2 HP2 HX2 HR2
  generalize w2.setCell ⟨b, 2, none⟩ (.slice A' N cap') = w3 at *
  have x0 := HX3.out.cell 0 rfl
  have q0 := HP3.out.cell 0 rfl
  refine wp_region_still_tail 7 (by kernel_rfl) (by kernel_rfl) ?_
  simp only [List.take_succ_cons, List.take_zero, List.drop_succ_cons, List.drop_zero]
  repeat still_step
  refine wpStill_nil ?_
  change wpList _ _ _ _ _ w3.drew
  have HD4 : Hid (Tn (fun _ => False) w3 w3.drew) := Lib.hid (Tn.refl _ w3).drew
  have HP4 := Lib.hid (HP3.out.tn HD4.out (fun e => e))
  have HB4 := Lib.hid (HB3.out.tn HD4.out (fun e => e))
  have HR4 := Lib.hid (HR3.out.tn HD4.out (fun _ _ _ e => e))
  clear x0 q0 HP3 HB3 HX3 HR3
  generalize w3.drew = w4 at *
  have q0 := HP4.out.cell 0 rfl
  have q1 := HP4.out.cell 1 rfl
  have q2 := HP4.out.cell 2 rfl
  have q3 := HP4.out.cell 3 rfl
  have f0 := HP4.out.free 0
  have f1 := HP4.out.free 1
  have f2 := HP4.out.free 2
  have f3 := HP4.out.free 3
  go_wp2_with fail
  go_end0
  have HT5 : Tn (fun i => i = p) w4 ((((w4.setCell ⟨p, 0, none⟩ (.int .i64 wt)).setCell ⟨p, 1, none⟩ (.int .i64 0)).setCell ⟨p, 2, none⟩ (.bool false)).setCell ⟨p, 3, none⟩ (.slice none 0 0)) :=
    ((((Tn.refl (fun i => i = p) w4).set ⟨p, 0, none⟩ _ (fun _ => rfl)).set ⟨p, 1, none⟩ _ (fun _ => rfl)).set ⟨p, 2, none⟩ _ (fun _ => rfl)).set ⟨p, 3, none⟩ _ (fun _ => rfl)
  refine ⟨rfl, ⟨_, HB4.out.tn HT5 HBP.out, HR4.out.tn HT5 (fun g _ e f => by have f : g = p := f; rw [f] at e; exact HCP.out e)⟩, (((HP4.out.set_ 0 _).set_ 1 _).set_ 2 _).set_ 3 _, ?_⟩
  exact (((HT1.out.trans' HT2.out (fun _ _ e => Or.inr (Or.inr e))).trans' HT3.out (fun _ _ e => Or.inl e)).trans' HD4.out (fun _ _ e => e.elim)).trans' HT5 (fun _ _ e => Or.inr (Or.inl e))
end Go.Proofs.Ytplbdeaoeocgkaa

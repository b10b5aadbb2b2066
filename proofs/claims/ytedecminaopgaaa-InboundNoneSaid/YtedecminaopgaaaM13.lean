/- Proved: lemmas of one statement's proof, merged by program: what each part proves stands ahead of it. Conditions: those that the lemmas name. -/
import Derived.Test.YtedecminaopgaaaM12
import Derived.Deep.RegionHeld3

/- Proved: what Put of package order answers, of an order and of none. Conditions: those that the theorems name. -/
namespace Go.Proofs.Ytedecminaopgaaa
open Go.ChangeShapes Go.WideShapes Go.ChangeAt Go.RowKit

/-- a number comes back, and the order as it stands then. -/
def GivesPut (b : Nat) (B n : Int) (r : Option Nat) (L : List ByteArray) (z : Int) (W : World) (e : Ending) (w' : World) : Prop :=
  ∃ r' v', e = .returned (.int .i64 z) ∧ Od w' b B n r' v' L ∧ (r' = r ∨ ∃ g, r' = some g ∧ W.heap.size ≤ g) ∧ Tn (OdOwn b r) W w'
theorem Od.drewN {w : World} {b : Nat} {B n : Int} {r : Option Nat} {v : Value} {L : List ByteArray} (h : Od w b B n r v L) (q : Nat) : Od (w.drewN q) b B n r v L := h.below (bel_drewN (Below.refl _ _) (Nat.le_refl _) q)
theorem Od.drew {w : World} {b : Nat} {B n : Int} {r : Option Nat} {v : Value} {L : List ByteArray} (h : Od w b B n r v L) : Od w.drew b B n r v L := h.below (Below.refl _ _).drew
set_option maxRecDepth 100000 in
set_option maxHeartbeats 1600000 in
theorem or_put_any (b : Nat) (B n : Int) (r : Option Nat) (v : Value) (L : List ByteArray) (x : Int) (s : ByteArray) (w : World) (h : Od w b B n r v L) (hx : U32 x) :
    Calls Try.prog 47 #[.pointer (some ⟨b, 0, none⟩), .int .u32 x, .string s] w (GivesPut b B n r (putO B n L x s) (putE B n L x s) w) := by
  have HL := Lib.hid (fun W => less_any x B hx h.u32 W)
  have HI := Lib.hid (fun W => within_any x B n hx h.u32 W)
  have HH := Lib.hid (fun W (g : Od W b B n r v L) => or_has_any (some ⟨b, 0, none⟩) B v L x W g.odo hx)
  have HA := Lib.hid (fun W => ahead_any B x h.u32 hx W)
  have HO := Lib.hid h
  have c0 := h.own.cell 0 rfl
  have c1 := h.own.cell 1 rfl
  have e0 := em_same s
  clear h hx
  by_cases h1 : 0 < ah x B
  · obtain ⟨e1, e2⟩ := pt_less (n := n) (L := L) (s := s) h1
    rw [decide_eq_true h1] at HL
    rw [e1, e2]
    clear e1 e2 h1
    go_enter Try.func47, Try.ntmps47
    go_wp2_with fail
    refine (HL.out _).mono ?_; rintro e w1 ⟨rfl, rfl⟩
    go_wp2_with fail
    go_ret
    exact ⟨r, v, rfl, HO.out, .inl rfl, Tn.refl _ _⟩
  rw [decide_eq_false h1] at HL
  cases h2 : inZ x B n
  · obtain ⟨e1, e2⟩ := pt_past (L := L) (s := s) h1 h2
    rw [h2] at HI
    rw [e1, e2]
    clear e1 e2 h1 h2
    go_enter Try.func47, Try.ntmps47
    go_wp2_with fail
    refine (HL.out _).mono ?_; rintro e w1 ⟨rfl, rfl⟩
    go_wp2_with fail
    go_quiet ((go_at_call 44; exact Calls.quiet_of_same ((HI.out _).mono fun _ _ h => ⟨h.1, h.2.symm⟩)))
    go_wp2_with fail
    go_ret
    exact ⟨r, v, rfl, HO.out.drewN _, .inl rfl, (Tn.refl _ w).drewN _⟩
  rw [h2] at HI
  cases h3 : hasO B L x
  · cases h4 : emB s
    · obtain ⟨e1, e2⟩ := pt_new h1 h2 h3 h4
      rw [h3] at HH
      obtain ⟨p, hp, hpn⟩ := in_place h2
      rw [hp] at HA
      rw [hp, show (p : Int).toNat = p from rfl] at e2
      rw [e1, e2]
      have e5 : s.toList.isEmpty = false := h4
      rw [h4] at e0
      have HP := Lib.hid (fun W (g : Od W b B n r v L) => row_put_any b B n r v L p s W g hpn)
      clear e1 e2 h1 h2 h3 h4 hp hpn
      go_enter Try.func47, Try.ntmps47
      go_wp2_with fail
      refine (HL.out _).mono ?_; rintro e w1 ⟨rfl, rfl⟩
      go_wp2_with fail
      go_quiet ((go_at_call 44; exact Calls.quiet_of_same ((HI.out _).mono fun _ _ h => ⟨h.1, h.2.symm⟩)))
      have HO1 := Lib.hid (HO.out.drewN nq)
      have T1 := Lib.hid ((Tn.refl (OdOwn b r) w).drewN nq)
      clear c0 c1
      generalize w.drewN nq = w1 at *
      go_wp2_with fail
      refine (HH.out _ HO1.out).mono ?_; rintro e w2 ⟨rfl, q, hw2⟩
      have HO2 := Lib.hid (HO1.out.drewN q)
      have T2 := Lib.hid (T1.out.drewN q)
      rw [← hw2] at HO2 T2
      clear hw2 HO1 T1
      have QQ : Hid (Od w2.drew b B n r v L ∧ Tn (OdOwn b r) w w2.drew) := Lib.hid ⟨HO2.out.drew, T2.out.drew⟩
      have c0 := QQ.out.1.own.cell 0 rfl
      go_wp2_with fail
      go_region_held3 (fun w' => w'.cell? ⟨b, 0, none⟩ = some (.int .u32 B))
        (first | go_keep | exact KS.out)
        (first
        | ((with_reducible refine (HA.out _).mono ?_); rintro e wq ⟨rfl, rfl⟩)
        | ((with_reducible refine (HP.out _ QQ.out.1).mono ?_); rintro e wq ⟨r', v', rfl, ho, hr', ht⟩; have HE := Lib.hid (And.intro ho (And.intro hr' (QQ.out.2.trans ht))); have KS := Lib.hid (ho.own.cell 0 rfl); clear ho hr' ht))
      go_wp2_with fail
      go_ret
      refine ⟨r', v', rfl, HE.out.1, ?_, HE.out.2.2⟩
      rcases HE.out.2.1 with e | ⟨g, e, hg⟩
      · exact .inl e
      · exact .inr ⟨g, e, Nat.le_trans T2.out.size hg⟩
    · obtain ⟨e1, e2⟩ := pt_none h1 h2 h3 h4
      rw [h3] at HH
      rw [e1, e2]
      obtain rfl := em_is.1 h4
      clear e1 e2 h1 h2 h3 h4 e0
      go_enter Try.func47, Try.ntmps47
      go_wp2_with fail
      refine (HL.out _).mono ?_; rintro e w1 ⟨rfl, rfl⟩
      go_wp2_with fail
      go_quiet ((go_at_call 44; exact Calls.quiet_of_same ((HI.out _).mono fun _ _ h => ⟨h.1, h.2.symm⟩)))
      have HO1 := Lib.hid (HO.out.drewN nq)
      have T1 := Lib.hid ((Tn.refl (OdOwn b r) w).drewN nq)
      clear c0 c1
      generalize w.drewN nq = w1 at *
      go_wp2_with fail
      refine (HH.out _ HO1.out).mono ?_; rintro e w2 ⟨rfl, q, rfl⟩
      go_wp2_with fail
      go_ret
      exact ⟨r, v, rfl, HO1.out.drewN _, .inl rfl, T1.out.drewN _⟩
  · obtain ⟨e1, e2⟩ := pt_old (s := s) h1 h2 h3
    rw [h3] at HH
    rw [e1, e2]
    clear e1 e2 h1 h2 h3
    go_enter Try.func47, Try.ntmps47
    go_wp2_with fail
    refine (HL.out _).mono ?_; rintro e w1 ⟨rfl, rfl⟩
    go_wp2_with fail
    go_quiet ((go_at_call 44; exact Calls.quiet_of_same ((HI.out _).mono fun _ _ h => ⟨h.1, h.2.symm⟩)))
    have HO1 := Lib.hid (HO.out.drewN nq)
    have T1 := Lib.hid ((Tn.refl (OdOwn b r) w).drewN nq)
    clear c0 c1
    generalize w.drewN nq = w1 at *
    go_wp2_with fail
    refine (HH.out _ HO1.out).mono ?_; rintro e w2 ⟨rfl, q, rfl⟩
    go_wp2_with fail
    go_ret
    exact ⟨r, v, rfl, HO1.out.drewN _, .inl rfl, T1.out.drewN _⟩
end Go.Proofs.Ytedecminaopgaaa

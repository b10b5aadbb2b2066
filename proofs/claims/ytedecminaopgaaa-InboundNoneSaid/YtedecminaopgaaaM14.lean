/- Proved: lemmas of one statement's proof, merged by program: what each part proves stands ahead of it. Conditions: those that the lemmas name. -/
import Derived.Test.YtedecminaopgaaaM13

/- Proved: what Next of package order answers, of an order and of none. Conditions: those that the theorems name. -/
namespace Go.Proofs.Ytedecminaopgaaa
open Go.ChangeShapes Go.WideShapes Go.ChangeAt Go.RowKit

/-! ### the first one is taken out -/
set_option maxRecDepth 100000 in
set_option maxHeartbeats 2000000 in
theorem del_text (g o d cap : Nat) (L : List ByteArray) (w : World) (r : Option Nat) (hq : Qu w r 9 1 (.slice (some ⟨g, o, none⟩) (d + 1) cap) (d + 1) (scells L)) (hn : d + 1 ≤ 64) :
    Calls Try.prog 72 #[.slice (some ⟨g, o, none⟩) (d + 1) cap, .int .i64 0, .int .i64 1] w fun e w' =>
      e = .returned (.slice (some ⟨g, o, none⟩) d cap) ∧ Qu w' r 9 1 (.slice (some ⟨g, o, none⟩) d cap) d (scells (L.drop 1)) ∧ Tn (fun i => r = some i) w w' := by
  obtain ⟨hc, A, W1, W2, hA, hap, hclr, hQ, hT⟩ := hq.del (t := 91) Try.underlying91 Try.infoString rfl Try.zeroValue9 zeros_text_one (scells_one L) (by decide : 0 < 1)
  rw [Nat.mul_one, scells_drop] at hQ
  simp only [Nat.mul_one] at hA hclr
  have HE := Lib.hid (And.intro hQ hT)
  have hd0 : (0 : Int) ≤ (d : Int) := Int.natCast_nonneg _
  have h1 : (1 : Int) ≤ (d : Int) + 1 := by omega
  have h2 : (1 : Int) ≤ ((d + 1 : Nat) : Int) := by omega
  have h3 : 1 ≤ cap := by omega
  have h4 : d ≤ cap := by omega
  have h5 : (d : Int) ≤ (d : Int) + 1 := by omega
  have h6 : d + 1 - d = 1 := by omega
  have h7 : ¬ cap = d := by omega
  have h8 : d + 1 - 1 = d := by omega
  clear hq hQ hT
  go_enter Try.func72, Try.ntmps72
  go_wp2_with fail
  go_region_law (refine step_append_run rfl _ _ _ _ rfl _ _ rfl rfl _ _ (hap _) ?_)
  go_wp2_with fail
  go_ret
  exact ⟨rfl, HE.out⟩
theorem Od.shift_ {w w' : World} {b : Nat} {B n : Int} {r : Option Nat} {v v' : Value} {L : List ByteArray} (h : Od w b B n r v L) (hq : Qs w' r v' (L.drop 1)) (t : Tn (fun i => r = some i) w w') : Od (w'.setCell ⟨b, 2, none⟩ v') b B n r v' (L.drop 1) ∧ Tn (OdOwn b r) w (w'.setCell ⟨b, 2, none⟩ v') := by
  have a1 := h.own.tn t (fun e => h.ne b e rfl)
  have t2 : Tn (fun i => i = b) w' (w'.setCell ⟨b, 2, none⟩ v') := (Tn.refl (fun i => i = b) w').set _ _ (fun _ => rfl)
  exact ⟨⟨a1.set_ 2 v', hq.tn t2 (fun g e => h.ne g e), h.ne, h.u32, h.low, h.high, by have := h.few; rw [List.length_drop]; omega⟩, (t.mono fun i _ e => .inr e).trans (t2.mono fun i _ e => .inl e)⟩
set_option maxRecDepth 100000 in
set_option maxHeartbeats 1600000 in
theorem row_shift_any (b : Nat) (B n : Int) (r : Option Nat) (v : Value) (L : List ByteArray) (w : World) (h : Od w b B n r v L) (h0 : 0 < L.length) :
    Calls Try.prog 67 #[.pointer (some ⟨b, 2, none⟩)] w fun e w' => ∃ v', e = .returned (.tuple #[]) ∧ Od w' b B n r v' (L.drop 1) ∧ Tn (OdOwn b r) w w' := by
  obtain ⟨d, hd⟩ : ∃ d, L.length = d + 1 := ⟨L.length - 1, by omega⟩
  obtain ⟨g, o, cap, hr, hv, _, _, _, _⟩ := h.row.head (by omega)
  have hq : Qu w r 9 1 v L.length (scells L) := h.row
  rw [hd] at hv hq
  rw [hv] at hq
  have HD := Lib.hid (del_text g o d cap L w r hq (by have := h.n64; omega))
  have HS : Hid (∀ w' v', Qu w' r 9 1 v' d (scells (L.drop 1)) → Tn (fun i => r = some i) w w' → w'.cell? ⟨b, 2, none⟩ = some v ∧ w'.frozen? ⟨b, 2, none⟩ = false ∧ Od (w'.setCell ⟨b, 2, none⟩ v') b B n r v' (L.drop 1) ∧ Tn (OdOwn b r) w (w'.setCell ⟨b, 2, none⟩ v')) := Lib.hid fun w' v' q t => by
    have a1 := h.own.tn t (fun e => h.ne b e rfl)
    refine ⟨a1.cell 2 rfl, a1.free 2, h.shift_ (v' := v') ?_ t⟩
    show Qu _ _ _ _ _ _ _
    rw [List.length_drop, hd]
    exact q
  have c0 := h.own.cell 2 rfl
  subst hv
  clear h hq h0
  go_enter Try.func67, Try.ntmps67
  go_wp2_with fail
  refine HD.out.mono ?_; rintro e w1 ⟨rfl, hq1, ht1⟩
  obtain ⟨c1, f1, ho, ht⟩ := HS.out _ _ hq1 ht1
  have HE := Lib.hid (And.intro ho ht)
  clear ho ht hq1 ht1
  go_wp2_with fail
  go_end0
  exact ⟨_, rfl, HE.out⟩

/-! ### Next -/
/-- a body comes back, or none, and the order as it stands then. -/
def GivesNx (b : Nat) (B n : Int) (r : Option Nat) (L : List ByteArray) (s : ByteArray) (is : Bool) (W : World) (e : Ending) (w' : World) : Prop :=
  ∃ v', e = .returned (.tuple #[.string s, .bool is]) ∧ Od w' b B n r v' L ∧ Tn (OdOwn b r) W w'
set_option maxRecDepth 100000 in
set_option maxHeartbeats 1600000 in
theorem or_next_any (b : Nat) (B n : Int) (r : Option Nat) (v : Value) (L : List ByteArray) (room : Int) (w : World) (h : Od w b B n r v L) :
    Calls Try.prog 49 #[.pointer (some ⟨b, 0, none⟩), .int .i64 room] w (GivesNx b (nxBs B L room) n r (nxL L room) (nxS L room) (nxO L room) w) := by
  have HB := Lib.hid (or_base_any (some ⟨b, 0, none⟩) B v L w h.odo)
  have HA := Lib.hid (or_at_any (some ⟨b, 0, none⟩) B v L B w h.odo h.u32)
  rw [atO_head] at HA
  have HO := Lib.hid h
  have h0 : 0 < L.length ∨ st_ L 0 = S0 := by
    rcases Nat.eq_zero_or_pos L.length with e | e
    · exact .inr (st_none (by omega))
    · exact .inl e
  have e0 := em_same (st_ L 0)
  by_cases h1 : emB (st_ L 0) = true
  · obtain ⟨e1, e2, e3, e4⟩ := nx_no (B := B) (L := L) (room := room) (.inl h1)
    rw [e1, e2, e3, e4]
    rw [em_is.1 h1] at HA
    clear e1 e2 e3 e4 e0 h1 h0 h
    go_enter Try.func49, Try.ntmps49
    go_wp2_with fail
    refine HB.out.mono ?_; rintro e w1 ⟨rfl, rfl⟩
    go_wp2_with fail
    refine HA.out.mono ?_; rintro e w2 ⟨rfl, q, rfl⟩
    go_wp2_with fail
    go_ret2
    exact ⟨v, rfl, HO.out.drewN q, (Tn.refl _ w).drewN q⟩
  have h1 : emB (st_ L 0) = false := by simpa using h1
  have h5 : (st_ L 0).toList.isEmpty = false := h1
  rw [h1] at e0
  by_cases h2 : room < ((st_ L 0).size : Int)
  · obtain ⟨e1, e2, e3, e4⟩ := nx_no (B := B) (L := L) (room := room) (.inr h2)
    rw [e1, e2, e3, e4]
    generalize st_ L 0 = s at *
    clear e1 e2 e3 e4 h1 h0 h
    go_enter Try.func49, Try.ntmps49
    go_wp2_with fail
    refine HB.out.mono ?_; rintro e w1 ⟨rfl, rfl⟩
    go_wp2_with fail
    refine HA.out.mono ?_; rintro e w2 ⟨rfl, q, rfl⟩
    go_wp2_with fail
    go_ret2
    exact ⟨v, rfl, HO.out.drewN q, (Tn.refl _ w).drewN q⟩
  · obtain ⟨e1, e2, e3, e4⟩ := nx_yes (B := B) (L := L) (room := room) h1 (by omega)
    rw [e1, e2, e3, e4]
    have hl : 0 < L.length := st_in h1
    have HS := Lib.hid (fun W (g : Od W b B n r v L) => row_shift_any b B n r v L W g hl)
    have hw : (B + 1) % 4294967296 = wpl B 1 := rfl
    generalize st_ L 0 = s at *
    clear e1 e2 e3 e4 h1 h0 h hl
    go_enter Try.func49, Try.ntmps49
    go_wp2_with fail
    refine HB.out.mono ?_; rintro e w1 ⟨rfl, rfl⟩
    go_wp2_with fail
    refine HA.out.mono ?_; rintro e w2 ⟨rfl, q, hw2⟩
    have HO2 := Lib.hid (HO.out.drewN q)
    have T2 := Lib.hid ((Tn.refl (OdOwn b r) w).drewN q)
    rw [← hw2] at HO2 T2
    clear hw2 HO
    go_wp2_with fail
    refine (HS.out _ HO2.out).mono ?_; rintro e w3 ⟨v', rfl, ho, ht⟩
    have HO3 := Lib.hid ho
    have T3 := Lib.hid (T2.out.trans ht)
    have c0 := ho.own.cell 0 rfl
    have f0 := ho.own.free 0
    clear ho ht
    go_wp2_with fail
    go_ret2
    have t4 : Tn (fun i => i = b) w3 (w3.setCell ⟨b, 0, none⟩ (.int .u32 (wpl B 1))) := (Tn.refl (fun i => i = b) w3).set _ _ (fun _ => rfl)
    refine ⟨v', rfl, ⟨HO3.out.own.set_ 0 _, HO3.out.row.tn t4 (fun g e => HO3.out.ne g e), HO3.out.ne, wpl_u32 _ _, HO3.out.low, HO3.out.high, HO3.out.few⟩, T3.out.trans (t4.mono fun i _ e => .inl e)⟩
end Go.Proofs.Ytedecminaopgaaa

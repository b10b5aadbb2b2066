/- Proved: what Next of package timers answers. Conditions: those that the theorems name. -/
import Derived.Test.YtmjnlmcbcclbkaaTmRng
namespace Go.Proofs.Ytmjnlmcbcclbkaa
open Go.ChangeShapes Go.WideShapes Go.ChangeAt Go.RowKit

/-- the earliest so far of those that have come. -/
def NextOk (l : List Tm) (p : Tm → Bool) (z : Int) : Prop := z ≤ 1099511627776 ∧ (∀ x ∈ l, p x = false → z ≤ x.2) ∧ (z = 1099511627776 ∨ ∃ x ∈ l, x.2 = z)
theorem NextOk.step {l : List Tm} {p : Tm → Bool} {z : Int} (h : NextOk l p z) {x : Tm} (hx : x ∈ l) : NextOk l (fun y => p y && !decide (y = x)) (min z x.2) := by
  obtain ⟨h1, h2, h3⟩ := h
  refine ⟨by omega, fun y hy hp => ?_, ?_⟩
  · by_cases e : y = x
    · subst e; omega
    · have := h2 y hy (by simpa [e] using hp)
      omega
  · rcases Int.le_total z x.2 with h | h
    · rw [Int.min_eq_left h]; exact h3
    · rw [Int.min_eq_right h]; exact Or.inr ⟨x, hx, rfl⟩
theorem first_le {l : List Tm} (h : Good l) {x : Tm} (hx : x ∈ l) : (tm_ l 0).2 ≤ x.2 := by
  obtain ⟨j, hj, rfl⟩ := List.getElem_of_mem hx
  rcases Nat.eq_zero_or_pos j with e | e
  · subst e
    rw [tm_at hj]; exact Int.le_refl _
  · have := tm_less h e hj
    rw [tm_at hj, lessT_iff] at this
    omega
theorem NextOk.is {l : List Tm} {p : Tm → Bool} {z : Int} (hl : Good l) (h0 : 0 < l.length) (h : NextOk l p z) (hp : ∀ x ∈ l, p x = false) : z = (tm_ l 0).2 := by
  obtain ⟨h1, h2, h3⟩ := h
  have hm := tm_mem h0
  have h4 := h2 _ hm (hp _ hm)
  have h5 := (hl.ok _ hm).2.2
  rcases h3 with h3 | ⟨x, hx, rfl⟩
  · omega
  · have := first_le hl hx
    omega
set_option maxRecDepth 100000 in
set_option maxHeartbeats 1600000 in
theorem tm_next_some {b m : Nat} {l : List Tm} {w : World} (h : Tk w b m l) (h0 : 0 < l.length) (hn : l.length ≤ 1000) :
    Calls Try.prog 11 #[.pointer (some ⟨b, 0, none⟩)] w fun e w' => e = .returned (.tuple #[.int .i64 (tm_ l 0).2, .bool true]) ∧ Below w.heap.size w w' := by
  have HT := Lib.hid h
  have hlen := fun W (g : Tk W b m l) => tm_len g
  have HLen := Lib.hid hlen
  have hpos : ¬ ((l.length : Nat) : Int) = 0 := by omega
  clear h hlen
  go_enter Try.func11, Try.ntmps11
  go_wp2_with fail
  refine (HLen.out _ HT.out).mono ?_; rintro e w1 ⟨rfl, q, hw1⟩
  have HB1 := Lib.hid (below_grown (grown_drewN w q none) (Nat.le_refl w.heap.size) (by simp))
  have HT1 := Lib.hid (HT.out.kept (grown_drewN w q none) (by simp) (by simp))
  rw [← hw1] at HB1 HT1
  have hc := HT1.out.1.cell 0 rfl
  have HM := Lib.hid HT1.out.2
  clear hw1 HT HT1 HLen
  go_wp2_with (first | (at_range; refine rng_start _ rfl _ rfl m l rfl HM.out ?_; intro w2 hr2 hg2 hs2))
  go_frame
  have HR2 := Lib.hid hr2
  have HB2 := Lib.hid (HB1.out.grown hg2 HB1.out.size (by simp))
  have HL : Hid (w.heap.size ≤ w1.heap.size) := Lib.hid HB1.out.size
  clear hr2 hg2 hs2 HM HB1 hc
  generalize w1.heap.size = r at *
  go_loopw [4] (fun v wr => ∃ p cnt z, v = .int .i64 z ∧ NextOk l p z ∧ Rng wr m r l p cnt ∧ Below w.heap.size w wr) (fun _ wr => wr.rangeLeft m r)
  case atStart => exact ⟨_, _, _, rfl, ⟨by omega, fun x _ h => by simp at h, Or.inl rfl⟩, HR2.out, HB2.out⟩
  case round =>
    obtain ⟨p, cnt, z, rfl, hok, hrng, hbel⟩ := hrel
    have HO := Lib.hid hok
    have HR := Lib.hid hrng
    have HB := Lib.hid hbel
    clear hok hrng hbel HR2 HB2
    go_wp2_with (first
      | (at_next; refine rng_next _ rfl _ rfl m r l p cnt rfl HR.out ?_ ?_))
    · intro hd
      have hz := HO.out.is HR.out.good h0 (fun x hx => hd x.1.1 x.1.2 x.2 hx)
      subst hz
      clear hd
      go_wp2_with fail
      go_ret2
      exact ⟨rfl, HB.out⟩
    · intro x0 x1 x2 w3 cnt' hx hp hr3 hlt hg3 hs3 hen
      have HR3 := Lib.hid hr3
      have HO3 := Lib.hid (HO.out.step hx)
      have HB3 := Lib.hid (HB.out.grown hg3 HB.out.size (fun q e => by injection e with e; subst e; exact HL.out))
      have HLT := Lib.hid hlt
      have hmr := HR.out.left_eq
      have HMR := Lib.hid hmr
      clear hr3 hg3 hx hp hlt hmr
      obtain ⟨mn, hmn⟩ : ∃ mn, min z x2 = mn := ⟨_, rfl⟩
      go_wp2_with fail
      go_roundw
      case rel => exact ⟨_, by rw [← hmn]; exact HO3.out, ⟨_, HR3.out⟩, HB3.out⟩
      case measure => rw [HR3.out.left_eq, HMR.out]; exact HLT.out
theorem tm_next_none {b m : Nat} {l : List Tm} {w : World} (h : Tk w b m l) (h0 : l.length = 0) :
    Calls Try.prog 11 #[.pointer (some ⟨b, 0, none⟩)] w fun e w' => e = .returned (.tuple #[.int .i64 0, .bool false]) ∧ Below w.heap.size w w' := by
  have HLen := Lib.hid (tm_len h)
  rw [h0] at HLen
  clear h h0
  go_enter Try.func11, Try.ntmps11
  go_wp2_with fail
  refine HLen.out.mono ?_; rintro e w1 ⟨rfl, q, hw1⟩
  have HB1 := Lib.hid (below_grown (grown_drewN w q none) (Nat.le_refl w.heap.size) (by simp))
  rw [← hw1] at HB1
  clear hw1
  go_wp2_with fail
  go_ret2
  exact ⟨rfl, HB1.out⟩
theorem tm_next_any {b m : Nat} {l : List Tm} {w : World} (h : Tk w b m l) (hn : l.length ≤ 1000) :
    Calls Try.prog 11 #[.pointer (some ⟨b, 0, none⟩)] w fun e w' => e = .returned (.tuple #[.int .i64 (tm_ l 0).2, .bool (decide (0 < l.length))]) ∧ Below w.heap.size w w' := by
  rcases Nat.eq_zero_or_pos l.length with e | e
  · have := tm_next_none h e
    obtain rfl : l = [] := List.eq_nil_of_length_eq_zero e
    exact this
  · rw [decide_eq_true e]
    exact tm_next_some h e hn
theorem tm_next_nil (w : World) :
    Calls Try.prog 11 #[.pointer none] w fun e w' => e = .returned (.tuple #[.int .i64 0, .bool false]) ∧ w = w' := by
  go_enter Try.func11, Try.ntmps11
  go_wp2_with fail
  refine (tm_len_nil _).mono ?_; rintro e w1 ⟨rfl, rfl⟩
  go_wp2_with fail
  go_ret2
  exact ⟨rfl, rfl⟩
end Go.Proofs.Ytmjnlmcbcclbkaa

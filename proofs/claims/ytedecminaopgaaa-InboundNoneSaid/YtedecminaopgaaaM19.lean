/- Proved: lemmas of one statement's proof, merged by program: what each part proves stands ahead of it. Conditions: those that the lemmas name. -/
import Derived.Test.YtedecminaopgaaaM18
import Derived.Deep.QuietTactic
import Derived.BigQuiet
import Derived.Lib.Hide

/- Proved: what isOld, isBeyondFin, see, waitsFrom, Ended, Ack, Held of package inbound answer, for every state. Conditions: those that the theorems name. -/
namespace Go.Proofs.Ytedecminaopgaaa
open Go.ChangeShapes Go.WideShapes Go.ChangeAt Go.RowKit

/-- A value comes back, and what a stream takes as it stands then. -/
def GivesIb (W : World) (Y : IbY) (M : IbM) (v : Value) (e : Ending) (w' : World) : Prop := e = .returned v ∧ ∃ Y', Ib w' Y' M ∧ IbT W w' Y Y'
abbrev ibp (Y : IbY) : Value := .pointer (some ⟨Y.i, 0, none⟩)

theorem ib_old (Y : IbY) (M : IbM) (x : Int) (w : World) (h : Ibm w Y M) (hx : U32 x) :
    Calls Try.prog 43 #[ibp Y, .int .u32 x] w fun e w' => e = .returned (.bool (decide (0 < ah x M.B))) ∧ w = w' := by
  have HB := Lib.hid (fun W (g : Ibm W Y M) => or_base_any (some ⟨Y.o, 0, none⟩) M.B Y.v M.L W g.odo)
  have HL := Lib.hid (fun W => less_any x M.B hx h.u32 W)
  have HH := Lib.hid h
  have c1 := h.own.cell 1 rfl
  clear h hx
  go_enter Try.func43, Try.ntmps43
  go_wp2_with fail
  refine (HB.out _ HH.out).mono ?_; rintro e w1 ⟨rfl, rfl⟩
  go_wp2_with fail
  refine (HL.out _).mono ?_; rintro e w1 ⟨rfl, rfl⟩
  go_wp2_with fail
  go_ret
  exact ⟨rfl, rfl⟩
theorem ib_beyond (Y : IbY) (M : IbM) (x : Int) (w : World) (h : Ibm w Y M) (hx : U32 x) (hf : U32 M.fi) :
    Calls Try.prog 45 #[ibp Y, .int .u32 x] w fun e w' => e = .returned (.bool (bfZ M x)) ∧ w = w' := by
  have HL := Lib.hid (fun W => less_any x M.fi hx hf W)
  have c5 := h.own.cell 5 rfl
  have c6 := h.own.cell 6 rfl
  unfold bfZ
  clear h hx hf
  cases hq : M.hf
  · rw [hq] at c6
    go_enter Try.func45, Try.ntmps45
    go_wp2_with fail
    go_ret
    exact ⟨rfl, rfl⟩
  · rw [hq] at c6
    go_enter Try.func45, Try.ntmps45
    go_wp2_with fail
    refine (HL.out _).mono ?_; rintro e w1 ⟨rfl, rfl⟩
    go_wp2_with fail
    go_ret
    exact ⟨rfl, rfl⟩
theorem ib_see (Y : IbY) (M : IbM) (x : Int) (w : World) (h : Ibm w Y M) (hx : U32 x) (hk : M.k ≤ 64) (hi : inZ x M.B M.n = true) :
    Calls Try.prog 46 #[ibp Y, .int .u32 x] w fun e w' => e = .returned (.tuple #[]) ∧ Ibm w' Y (seeM M x) ∧ IbT w w' Y Y := by
  obtain ⟨p, hp, hpn⟩ := in_place hi
  have hn := h.n64
  have hxp := in_wpl h.u32 hx hp
  have hx1 : (x + 1) % 4294967296 = wpl M.B (p + 1) := by rw [hxp, wpl_next]
  have hm := max_wpl (B := M.B) (i := M.k) (j := p + 1) (by omega) (by omega)
  have hs : max M.k (p + 1) = (seeM M x).k := by show _ = max M.k ((ah M.B x).toNat + 1); rw [hp]; rfl
  have HM := Lib.hid (fun W => smax_any (wpl M.B M.k) (wpl M.B (p + 1)) (wpl_u32 _ _) (wpl_u32 _ _) W)
  rw [hm, hs] at HM
  have HT : Hid (Ibm (w.setCell ⟨Y.i, 3, none⟩ (.int .u32 (wpl M.B (seeM M x).k))) Y (seeM M x) ∧ IbT w (w.setCell ⟨Y.i, 3, none⟩ (.int .u32 (wpl M.B (seeM M x).k))) Y Y) := Lib.hid (h.top_ (seeM M x).k)
  have c3 := h.own.cell 3 rfl
  have f3 := h.own.free 3
  clear h hx hk hi hp hpn hn hxp hm hs
  generalize wpl M.B (seeM M x).k = y at *
  go_enter Try.func46, Try.ntmps46
  go_wp2_with fail
  refine (HM.out _).mono ?_; rintro e w1 ⟨rfl, rfl⟩
  go_wp2_with fail
  go_end0
  exact ⟨rfl, HT.out⟩
theorem ib_ended (Y : IbY) (M : IbM) (w : World) (h : Ibm w Y M) :
    Calls Try.prog 13 #[ibp Y] w fun e w' => e = .returned (.bool (endZ M)) ∧ ∃ q, w' = w.drewN q := by
  have HB := Lib.hid (fun q => or_base_any (some ⟨Y.o, 0, none⟩) M.B Y.v M.L (w.drewN q) (h.drewN q).odo)
  have c1 := h.own.cell 1 rfl
  have c5 := h.own.cell 5 rfl
  have c6 := h.own.cell 6 rfl
  unfold endZ
  clear h
  cases hq : M.hf
  · rw [hq] at c6
    go_enter Try.func13, Try.ntmps13
    go_wp2_with fail
    go_quiet (fail)
    go_wp2_with fail
    go_ret
    exact ⟨rfl, _, rfl⟩
  · rw [hq] at c6
    go_enter Try.func13, Try.ntmps13
    go_wp2_with fail
    go_quiet ((go_at_call 36; exact Calls.quiet_of_same ((HB.out _).mono fun _ _ h => ⟨h.1, h.2.symm⟩)))
    go_wp2_with fail
    go_ret
    exact ⟨rfl, _, rfl⟩
theorem ib_held (Y : IbY) (M : IbM) (w : World) (h : Ibm w Y M) :
    Calls Try.prog 18 #[ibp Y] w fun e w' => e = .returned (.int .i64 M.hd) ∧ w = w' := by
  have c4 := h.own.cell 4 rfl
  clear h
  go_enter Try.func18, Try.ntmps18
  go_wp2_with fail
  go_ret
  exact ⟨rfl, rfl⟩
theorem ib_ack (Y : IbY) (M : IbM) (w : World) (h : Ibm w Y M) :
    Calls Try.prog 11 #[ibp Y] w fun e w' => e = .returned (.tuple #[.int .u32 (ackZ M), .int .i64 M.n]) ∧ ∃ q, w' = w.drewN q := by
  have HB := Lib.hid (or_base_any (some ⟨Y.o, 0, none⟩) M.B Y.v M.L w h.odo)
  have HE := Lib.hid (ib_ended Y M w h)
  have c1 := h.own.cell 1 rfl
  have c0 : ∀ q, (w.drewN q).cell? ⟨Y.i, 0, none⟩ = some (.int .i64 M.n) := fun q => (h.drewN q).own.cell 0 rfl
  have hw : (M.B + 1) % 4294967296 = wpl M.B 1 := rfl
  unfold ackZ
  clear h
  cases hq : endZ M
  · rw [hq] at HE
    go_enter Try.func11, Try.ntmps11
    go_wp2_with fail
    refine HB.out.mono ?_; rintro e w1 ⟨rfl, rfl⟩
    go_wp2_with fail
    refine HE.out.mono ?_; rintro e w1 ⟨rfl, q, rfl⟩
    have c0 := c0 q
    generalize hW : w.drewN q = w1 at *
    go_wp2_with fail
    go_quiet (fail)
    go_wp2_with fail
    go_ret2
    subst hW
    exact ⟨rfl, _, World.drewN_drewN _ _ _⟩
  · rw [hq] at HE
    go_enter Try.func11, Try.ntmps11
    go_wp2_with fail
    refine HB.out.mono ?_; rintro e w1 ⟨rfl, rfl⟩
    go_wp2_with fail
    refine HE.out.mono ?_; rintro e w1 ⟨rfl, q, rfl⟩
    have c0 := c0 q
    generalize hW : w.drewN q = w1 at *
    go_wp2_with fail
    go_quiet (fail)
    go_wp2_with fail
    go_ret2
    subst hW
    exact ⟨rfl, _, World.drewN_drewN _ _ _⟩
end Go.Proofs.Ytedecminaopgaaa

/- Proved: lemmas of one statement's proof, merged by program: what each part proves stands ahead of it. Conditions: those that the lemmas name. -/
import Derived.Test.YtedecminaopgaaaM26
import Derived.Test.YtedecminaopgaaaM23
import Derived.Test.YtedecminaopgaaaM16

/- Proved: streams that were made since the call began, in steps whose states are known. Conditions: those that the theorems name. -/
namespace Go.Proofs.Ytedecminaopgaaa
open Go.ChangeShapes Go.WideShapes Go.ChangeAt Go.RowKit

/-- Block i is a stream's that was made since w; of what was there in w nothing has turned. -/
def IX (w wi : World) (i : Nat) (M : IbM) : Prop := ∃ Y : IbY, Y.i = i ∧ Ib wi Y M ∧ Below w.heap.size w wi ∧ ∀ j, Y.own j → w.heap.size ≤ j
/-- rows of numbers stay. -/
def KeepsU (w w' : World) : Prop := ∀ (A : Option Addr) (n : Nat) (l : List Int), Uw w A n l → Uw w' A n l
section
variable {w wi w' : World} {i : Nat} {M M' : IbM}
theorem IX.bel (h : IX w wi i M) : Below w.heap.size w wi := by
  obtain ⟨_, _, _, h, _⟩ := h
  exact h
theorem IX.below (h : IX w wi i M) (k : Below wi.heap.size wi w') : IX w w' i M := by
  obtain ⟨Y, e, h1, h2, h3⟩ := h
  exact ⟨Y, e, h1.below k, h2.trans (k.mono h2.size), h3⟩
theorem ix_new (w wi : World) (c : Cf) (st : Int) (hl : Below w.heap.size w wi) (h : c.ok = true) (h0 : 0 ≤ st) (h1 : st < 256) :
    Calls Try.prog 6 #[c.val, .int .i64 st] wi fun e w' => ∃ i, e = .returned (.tuple #[.pointer (some ⟨i, 0, none⟩), .int .i64 0]) ∧ IX w w' i (ibM0 c) ∧ Below wi.heap.size wi w' := by
  refine (ib_new c st wi h h0 h1).mono ?_
  rintro e w' ⟨Y, rfl, hi, hb, ho⟩
  exact ⟨Y.i, rfl, ⟨Y, rfl, hi, hl.trans (hb.mono hl.size), fun j hj => Nat.le_trans hl.size (ho j hj)⟩, hb⟩
theorem IX.step {Y Y' : IbY} (h1 : Ib wi Y M) (h2 : Below w.heap.size w wi) (h3 : ∀ j, Y.own j → w.heap.size ≤ j) (g : Ib w' Y' M') (t : IbT wi w' Y Y') : IX w w' Y.i M' ∧ KeepsU wi w' := by
  obtain ⟨a, b⟩ := t.from_ h2 h3
  exact ⟨⟨Y', t.i, g, a, b⟩, fun _ _ _ u => u.move fun _ _ _ hg => h1.m.stays t.tn hg tU_not⟩
theorem ix_saw (h : IX w wi i M) (x z : Int) (hx : U32 x) (e : sawE M x = z ∧ sawM M x = M') :
    Calls Try.prog 22 #[.pointer (some ⟨i, 0, none⟩), .int .u32 x] wi fun e w' => e = .returned (.int .i64 z) ∧ IX w w' i M' ∧ KeepsU wi w' := by
  obtain ⟨Y, rfl, h1, h2, h3⟩ := h
  refine (ib_saw Y M x wi h1 hx).mono ?_
  rintro _ w' ⟨rfl, Y', g, t⟩
  rw [e.1]
  rw [e.2] at g
  exact ⟨rfl, IX.step h1 h2 h3 g t⟩
theorem ix_put (h : IX w wi i M) (x z : Int) (s : ByteArray) (hx : U32 x) (hs : s.size ≤ 1048576) (e : iputE M x s = z ∧ iputM M x s = M') :
    Calls Try.prog 23 #[.pointer (some ⟨i, 0, none⟩), .int .u32 x, .string s] wi fun e w' => e = .returned (.int .i64 z) ∧ IX w w' i M' ∧ KeepsU wi w' := by
  obtain ⟨Y, rfl, h1, h2, h3⟩ := h
  refine (ib_put Y M x s wi h1 hx hs).mono ?_
  rintro _ w' ⟨rfl, Y', g, t⟩
  rw [e.1]
  rw [e.2] at g
  exact ⟨rfl, IX.step h1 h2 h3 g t⟩
theorem ix_fin (h : IX w wi i M) (x z : Int) (hx : U32 x) (e : finE M x = z ∧ finM M x = M') :
    Calls Try.prog 24 #[.pointer (some ⟨i, 0, none⟩), .int .u32 x] wi fun e w' => e = .returned (.int .i64 z) ∧ IX w w' i M' ∧ KeepsU wi w' := by
  obtain ⟨Y, rfl, h1, h2, h3⟩ := h
  refine (ib_fin Y M x wi h1 hx).mono ?_
  rintro _ w' ⟨rfl, Y', g, t⟩
  rw [e.1]
  rw [e.2] at g
  exact ⟨rfl, IX.step h1 h2 h3 g t⟩
theorem ix_deliver (h : IX w wi i M) (z : Int) (e : dlM M = M' ∧ (M'.s.size : Int) - (M.s.size : Int) = z) :
    Calls Try.prog 25 #[.pointer (some ⟨i, 0, none⟩)] wi fun e w' => e = .returned (.int .i64 z) ∧ IX w w' i M' ∧ KeepsU wi w' := by
  obtain ⟨Y, rfl, h1, h2, h3⟩ := h
  refine (ib_deliver Y M wi h1).mono ?_
  rintro _ w' ⟨rfl, Y', g, t⟩
  rw [e.1, e.2]
  rw [e.1] at g
  exact ⟨rfl, IX.step h1 h2 h3 g t⟩
theorem ix_read (h : IX w wi i M) (n z : Int) (s : ByteArray) (e : rdE M n = z ∧ rdS M n = s ∧ rdM M n = M') :
    Calls Try.prog 20 #[.pointer (some ⟨i, 0, none⟩), .int .i64 n] wi fun e w' => e = .returned (.tuple #[.string s, .int .i64 z]) ∧ IX w w' i M' ∧ KeepsU wi w' := by
  obtain ⟨Y, rfl, h1, h2, h3⟩ := h
  refine (ib_read Y M n wi h1).mono ?_
  rintro _ w' ⟨rfl, Y', g, t⟩
  rw [e.1, e.2.1]
  rw [e.2.2] at g
  exact ⟨rfl, IX.step h1 h2 h3 g t⟩
theorem ix_lacks (h : IX w wi i M) (l : List Int) (e : lkL M.B M.L M.k = l) :
    Calls Try.prog 16 #[.pointer (some ⟨i, 0, none⟩)] wi (GivesU wi l) := by
  obtain ⟨Y, rfl, h1, h2, h3⟩ := h
  have := ib_lacks Y M wi h1
  rw [e] at this
  exact this
theorem ix_ended (h : IX w wi i M) (b : Bool) (e : endZ M = b) :
    Calls Try.prog 13 #[.pointer (some ⟨i, 0, none⟩)] wi fun e w' => e = .returned (.bool b) ∧ Below wi.heap.size wi w' := by
  obtain ⟨Y, rfl, h1, h2, h3⟩ := h
  refine (ib_ended Y M wi h1.m).mono ?_
  rintro _ w' ⟨rfl, q, rfl⟩
  rw [e]
  exact ⟨rfl, bel_drewN (Below.refl _ _) (Nat.le_refl _) q⟩
theorem ix_ack (h : IX w wi i M) (x n : Int) (e : ackZ M = x ∧ M.n = n) :
    Calls Try.prog 11 #[.pointer (some ⟨i, 0, none⟩)] wi fun e w' => e = .returned (.tuple #[.int .u32 x, .int .i64 n]) ∧ Below wi.heap.size wi w' := by
  obtain ⟨Y, rfl, h1, h2, h3⟩ := h
  refine (ib_ack Y M wi h1.m).mono ?_
  rintro _ w' ⟨rfl, q, rfl⟩
  rw [e.1, e.2]
  exact ⟨rfl, bel_drewN (Below.refl _ _) (Nat.le_refl _) q⟩
theorem ix_held (h : IX w wi i M) (z : Int) (e : M.hd = z) :
    Calls Try.prog 18 #[.pointer (some ⟨i, 0, none⟩)] wi fun e w' => e = .returned (.int .i64 z) ∧ wi = w' := by
  obtain ⟨Y, rfl, h1, h2, h3⟩ := h
  rw [← e]
  exact ib_held Y M wi h1.m
end

/-! ### the law's known states -/
abbrev ibab : ByteArray := ⟨#[97, 98]⟩
abbrev ibcd : ByteArray := ⟨#[99, 100]⟩
abbrev ibabc : ByteArray := ⟨#[97, 98, 99]⟩
abbrev ibabcd : ByteArray := ⟨#[97, 98, 99, 100]⟩
abbrev ibd : ByteArray := ⟨#[100]⟩
theorem em_ab : emB ibab = false := by unfold emB; rw [ByteArray.toList_eq]; rfl
theorem em_cd : emB ibcd = false := by unfold emB; rw [ByteArray.toList_eq]; rfl
theorem ib_in {x B n : Int} (p : Int) (h : ah B x = p) (h0 : 0 ≤ p) (h1 : p < n) : inZ x B n = true := by
  unfold inZ
  rw [h, decide_eq_true h0, decide_eq_true h1]; rfl
theorem ib_out {x B n : Int} (p : Int) (h : ah B x = p) (h1 : p < 0 ∨ n ≤ p) : inZ x B n = false := by
  unfold inZ
  rw [h]
  rcases h1 with h1 | h1
  · rw [decide_eq_false (by omega : ¬ 0 ≤ p), Bool.false_and]
  · rw [decide_eq_false (by omega : ¬ p < n), Bool.and_false]
theorem ib_hasn {B x : Int} {L : List ByteArray} (p : Nat) (h : ah B x = p) : hasO B L x = !emB (st_ L p) := by
  unfold hasO atO
  rw [h, atZ_nat]
abbrev iM0 : IbM := ⟨4, 256, 0, [], S0, 0, 0, 0, false⟩
abbrev iM1 : IbM := ⟨4, 256, 0, [], S0, 3, 0, 0, false⟩
abbrev iM2 : IbM := ⟨4, 256, 0, [ibab], S0, 3, 2, 0, false⟩
abbrev iM3 : IbM := ⟨4, 256, 0, [ibab, ibcd], S0, 3, 4, 0, false⟩
abbrev iM4 : IbM := ⟨4, 256, 2, [], ibabcd, 1, 4, 0, false⟩
abbrev iM5 : IbM := ⟨4, 256, 2, [], ibd, 1, 1, 0, false⟩
abbrev iM6 : IbM := ⟨4, 256, 2, [], ibd, 1, 1, 2, true⟩
abbrev iM7 : IbM := ⟨4, 256, 2, [], S0, 1, 0, 2, true⟩
theorem ia0 : ibM0 plainC = iM0 := rfl
theorem ia1 : sawE iM0 2 = 3 ∧ sawM iM0 2 = iM1 := by
  have h := sw_new (M := iM0) (x := 2) (by decide) (ib_in 2 (by decide) (by decide) (by decide)) rfl (by rw [ib_hasn 2 (by decide)]; show (!emB S0) = false; rw [em_S0]; rfl)
  exact ⟨h.1, h.2.trans rfl⟩
theorem ia2 : sawE iM1 4 = 1 ∧ sawM iM1 4 = iM1 := sw_past (by decide) (ib_out 4 (by decide) (.inr (by decide)))
theorem ia3 : lkL iM1.B iM1.L iM1.k = [0, 1, 2] := by
  have e : ∀ i, emB (st_ [] i) = true := fun i => by rw [st_none (Nat.zero_le _)]; exact em_S0
  show ((([] ++ if emB (st_ [] 0) = true then [wpl 0 0] else []) ++ if emB (st_ [] 1) = true then [wpl 0 1] else []) ++ if emB (st_ [] 2) = true then [wpl 0 2] else []) = [0, 1, 2]
  rw [if_pos (e 0), if_pos (e 1), if_pos (e 2)]
  rfl
theorem ia4 : iputE iM1 0 ibab = 3 ∧ iputM iM1 0 ibab = iM2 := by
  have h := pt_new (B := 0) (n := 4) (L := []) (x := 0) (s := ibab) (by decide) (ib_in 0 (by decide) (by decide) (by decide)) (by rw [ib_hasn 0 (by decide)]; show (!emB S0) = false; rw [em_S0]; rfl) em_ab
  have g : bfZ iM1 0 = false := rfl
  refine ⟨(ip_go (.inr g)).trans h.1, (ip_yes (.inr g) h.1).trans ?_⟩
  show ({ seeM iM1 0 with L := putO 0 4 [] 0 ibab, hd := _ } : IbM) = _
  rw [h.2]
  rfl
theorem ia5 : iputE iM2 1 ibcd = 3 ∧ iputM iM2 1 ibcd = iM3 := by
  have h := pt_new (B := 0) (n := 4) (L := [ibab]) (x := 1) (s := ibcd) (by decide) (ib_in 1 (by decide) (by decide) (by decide)) (by rw [ib_hasn 1 (by decide)]; show (!emB S0) = false; rw [em_S0]; rfl) em_cd
  have g : bfZ iM2 1 = false := rfl
  refine ⟨(ip_go (.inr g)).trans h.1, (ip_yes (.inr g) h.1).trans ?_⟩
  show ({ seeM iM2 1 with L := putO 0 4 [ibab] 1 ibcd, hd := _ } : IbM) = _
  rw [h.2]
  rfl
theorem ia6 : dlM iM3 = iM4 ∧ (iM4.s.size : Int) - (iM3.s.size : Int) = 4 := by
  refine ⟨?_, by decide⟩
  have h1 : nxO iM3.L ((iM3.q : Int) - (iM3.s.size : Int)) = true := (nx_yes (B := 0) (L := [ibab, ibcd]) (room := 256) em_ab (by decide)).1
  rw [dl_yes h1]
  have e1 : nextM iM3 = ⟨4, 256, 1, [ibcd], ibab, 2, 4, 0, false⟩ := by
    show (⟨4, 256, wpl 0 1, [ibcd], S0 ++ ibab, 2, 4, 0, false⟩ : IbM) = _
    rw [show S0 ++ ibab = ibab by decide +kernel]
    rfl
  rw [e1]
  have h2 : nxO [ibcd] ((256 : Int) - (ibab.size : Int)) = true := (nx_yes (B := 0) (L := [ibcd]) (room := (256 : Int) - (ibab.size : Int)) em_cd (by decide)).1
  rw [dl_yes h2]
  have e2 : nextM ⟨4, 256, 1, [ibcd], ibab, 2, 4, 0, false⟩ = iM4 := by
    show (⟨4, 256, wpl 1 1, [], ibab ++ ibcd, 1, 4, 0, false⟩ : IbM) = _
    rw [show ibab ++ ibcd = ibabcd by decide +kernel]
    rfl
  rw [e2]
  exact dl_no (nx_no (B := 0) (L := []) (room := (256 : Int) - (iM4.s.size : Int)) (.inl em_S0)).1
theorem ia7 : rdE iM4 3 = 0 ∧ rdS iM4 3 = ibabc ∧ rdM iM4 3 = iM5 := by
  have e : rdE iM4 3 = 0 := by decide
  refine ⟨e, (show rdS iM4 3 = _ from if_pos e).trans (by decide +kernel), (show rdM iM4 3 = _ from if_pos e).trans ?_⟩
  show (⟨4, 256, 2, [], ibabcd.extract 3 4, 1, _, 0, false⟩ : IbM) = _
  rw [show ibabcd.extract 3 4 = ibd by decide +kernel]
  rfl
theorem ia8 : finE iM5 1 = 2 ∧ finM iM5 1 = iM5 := fn_past (ib_out (-1) (by decide) (.inl (by decide)))
theorem ia9 : finE iM5 2 = 0 ∧ finM iM5 2 = iM6 := by
  have h := fn_set (M := iM5) (x := 2) (ib_in 0 (by decide) (by decide) (by decide)) rfl (by decide)
  exact ⟨h.1, h.2.trans rfl⟩
theorem ia10 : endZ iM6 = true := rfl
theorem ia11 : ackZ iM6 = 3 ∧ iM6.n = 4 := ⟨rfl, rfl⟩
theorem ia12 : rdE iM6 9 = 0 ∧ rdS iM6 9 = ibd ∧ rdM iM6 9 = iM7 := by
  have e : rdE iM6 9 = 0 := by decide
  refine ⟨e, (show rdS iM6 9 = _ from if_pos e).trans (by decide +kernel), (show rdM iM6 9 = _ from if_pos e).trans ?_⟩
  show (⟨4, 256, 2, [], ibd.extract 1 1, 1, _, 2, true⟩ : IbM) = _
  rw [show ibd.extract 1 1 = S0 by decide +kernel]
  rfl
theorem ia13 : rdE iM7 9 = 13 ∧ rdS iM7 9 = S0 ∧ rdM iM7 9 = iM7 := by
  have e : rdE iM7 9 = 13 := by decide
  exact ⟨e, if_neg (by rw [e]; decide), if_neg (by rw [e]; decide)⟩
theorem ia14 : rdE iM7 0 = 1 ∧ rdS iM7 0 = S0 ∧ rdM iM7 0 = iM7 := by
  have e : rdE iM7 0 = 1 := by decide
  exact ⟨e, if_neg (by rw [e]; decide), if_neg (by rw [e]; decide)⟩
theorem ia15 : sawE iM7 2 = 1 ∧ sawM iM7 2 = iM7 := sw_fin (by decide) (ib_in 0 (by decide) (by decide) (by decide)) rfl
theorem ia16 : sawE iM7 1 = 0 ∧ sawM iM7 1 = iM7 := sw_old (by decide)
end Go.Proofs.Ytedecminaopgaaa

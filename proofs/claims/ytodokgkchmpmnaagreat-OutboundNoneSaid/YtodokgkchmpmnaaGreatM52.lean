/- Proved: lemmas of one statement's proof, merged by program: what each part proves stands ahead of it. Conditions: those that the lemmas name. -/
import Derived.Test.YtodokgkchmpmnaaGreatM48
import Derived.Test.YtodokgkchmpmnaaGreatM50
import Derived.Test.YtodokgkchmpmnaaGreatM51
import Derived.Test.YtodokgkchmpmnaaGreatM34
import Derived.KernelRfl

/- Proved: what Pop of package outbound answers and leaves. Conditions: those that the theorems name. -/
namespace Go.Proofs.YtodokgkchmpmnaaGreat
open Go.ChangeShapes Go.WideShapes Go.ChangeAt Go.RowKit

section
variable {w : World} {Y : ObY} {M : ObM}
/-- the first one is taken: what stands then. -/
theorem ob_pop_rest {x y : Int} {U' : List (Int × Int)} (h : Ob w Y M) (hU : M.U = (x, y) :: U') : ∃ g o cap A cap', Y.vu = .slice (some ⟨g, o, none⟩) (U'.length + 1) cap ∧ w.cell? ⟨g, o, none⟩ = some (.int .u32 x) ∧ w.cell? ⟨g, o + 1, none⟩ = some (.int .i64 y) ∧ U'.length + 1 ≤ cap ∧
    (∀ W : World, (Instr.slice 48 (.slice (some ⟨g, o, none⟩) (U'.length + 1) cap) (some (.int .i64 1)) none none).run Tryz.prog W = .ok (.slice A U'.length cap') W) ∧
    Ob (w.setCell ⟨Y.o, 16, none⟩ (.slice A U'.length cap')) { Y with vu := .slice A U'.length cap' } { M with U := U' } ∧ ObT w (w.setCell ⟨Y.o, 16, none⟩ (.slice A U'.length cap')) Y { Y with vu := .slice A U'.length cap' } := by
  have un := h.m.p.un
  rw [hU] at un
  have un : Qu w Y.ru 52 2 Y.vu (U'.length + 1) (.int .u32 x :: .int .i64 y :: sncells U') := un
  obtain ⟨g, o, cap, hr, hv, _, hcap, hcs, _⟩ := un.head (Nat.succ_pos _)
  obtain ⟨v', hsl, hqr, A', cap', hv'⟩ := un.rest (t := 48) Tryz.underlying48 infoSend (by decide)
  subst hv'
  rw [hv] at hsl
  have hun := h.m.unsent_ (U' := U') (ru' := Y.ru) hqr (.inl rfl) (Tn.refl _ w)
  exact ⟨g, o, cap, A', cap', hv, hcs 0 _ rfl, hcs 1 _ rfl, hcap, hsl, ⟨hun.2.1, ⟨h.i.ok, h.i.same, h.i.good, h.i.fit⟩⟩, hun.2.2⟩
set_option maxRecDepth 100000 in
set_option maxHeartbeats 3200000 in
theorem ob_pop_data (h : Ob w Y M) {x : Int} {i j : Nat} {sf : ObS} {b : ByteArray} {ws : Bool} {U' : List (Int × Int)} (hU : M.U = (x, (j : Int)) :: U') (hx : x = fno M.nx M.L.length i) (hsf : M.S[i]? = some sf) (hj : sf.T[j]? = some (b, ws)) (hm : j < sf.m) :
    Calls Tryz.prog 4 #[.pointer (some ⟨Y.o, 0, none⟩)] w (GivesOb w Y (.tuple #[(obD M.st x j sf b).val, .bool true]) { M with S := M.S.set i { sf with T := sf.T.set j (b, false) }, U := U' }) := by
  obtain ⟨w1, HW, hx1, hb1⟩ := ob_zbox w
  have h1 := h.below hb1
  have hux : U32 x := by rw [hx]; exact wpl_u32 _ _
  have hB2 : Below w1.heap.size w1 (w1.alloc (.cells #[.int .u32 x, .int .i64 (j : Nat)] 52)) := (Below.refl _ _).alloc (Nat.le_refl _) _
  obtain ⟨gu, ou, cap, A', cap', hv, p0, p1, hcap, hsl, -, -⟩ := ob_pop_rest h1 hU
  obtain ⟨gu2, ou2, cap2, A2, cap2', hv2, -, -, -, hsl2, h3, t3⟩ := ob_pop_rest (h1.below hB2) hU
  rw [hv] at hv2
  injection hv2 with e1 _ e2
  injection e1 with e1
  injection e1 with e1 e3
  subst e1 e2 e3
  have e4 := (hsl w1).symm.trans (hsl2 w1)
  injection e4 with e4
  injection e4 with e4 _ e5
  subst e4 e5
  clear hsl2
  have k16 : w1.cell? ⟨Y.o, 16, none⟩ = some (.slice (some ⟨gu, ou, none⟩) (U'.length + 1) cap) := by rw [← hv]; exact h1.m.own.cell 16 rfl
  have h2 := h1.below hB2
  have k16b : (w1.alloc (.cells #[.int .u32 x, .int .i64 (j : Nat)] 52)).cell? ⟨Y.o, 16, none⟩ = some (.slice (some ⟨gu, ou, none⟩) (U'.length + 1) cap) := by rw [← hv]; exact h2.m.own.cell 16 rfl
  have f16b := h2.m.own.free 16
  obtain ⟨g, hg⟩ : ∃ g, Y.hs[i]? = some g := ⟨_, List.getElem?_eq_getElem (by rw [h.m.p.hl]; exact (List.getElem?_eq_some_iff.1 hsf).1)⟩
  obtain ⟨Y3, hY3⟩ : ∃ Y3 : ObY, Y3 = { Y with vu := .slice A' U'.length cap' } := ⟨_, rfl⟩
  rw [← hY3] at h3 t3
  have HNO : Hid (∀ q, w.heap.size ≤ q → ¬ Y3.own q) := Lib.hid (by rw [hY3]; intro q hq e; have := h.m.lt (show Y.own q from e); omega)
  have HNY : Hid (∀ q, w.heap.size ≤ q → ¬ Y.own q) := Lib.hid (by intro q hq e; have := h.m.lt e; omega)
  have hg3 : Y3.hs[i]? = some g := by rw [hY3]; exact hg
  have ho3 : Y3.o = Y.o := by rw [hY3]
  have HSH := Lib.hid (ob_sheaf_in h3 (i := i) (g := g) (sf := sf) hg3 hsf)
  rw [ho3] at HSH
  have HO3 := Lib.hid (And.intro ho3 hg3)
  clear hY3 ho3 hg3
  have hbs := (h.i.good sf (List.mem_of_getElem? hsf)).text _ (List.mem_of_getElem? hj)
  have hj0 : (0 : Int) ≤ (j : Nat) := Int.natCast_nonneg _
  have hj2 : ((j : Nat) : Int) < (sf.T.length : Nat) := by have := (List.getElem?_eq_some_iff.1 hj).1; omega
  have hn0 : ((((U'.length + 1 : Nat) : Int)) == 0) = false := by simp; omega
  have hn1 : (0 : Int) < ((U'.length : Nat) : Int) + 1 := by omega
  have hn2 : (1 : Int) ≤ ((U'.length : Nat) : Int) + 1 := by omega
  have HX1 := Lib.hid hx1
  have HB1 := Lib.hid hb1
  have HH := Lib.hid h
  have H3 := Lib.hid (And.intro h3 t3)
  have HB2 := Lib.hid hB2
  have HN4 := Lib.hid (At.new w1 52 [.int .u32 x, .int .i64 (j : Nat)])
  have HF := Lib.hid (And.intro hg (And.intro hsf (And.intro hj (And.intro hbs (And.intro hux hx)))))
  rw [← hx] at HSH
  unfold ObS.v at HSH
  obtain ⟨X, hX⟩ : ∃ X : Nat, x.toNat = X := ⟨_, rfl⟩
  have hd : obD M.st x j sf b = ⟨1, M.st, X, (j : Nat), (sf.m : Nat), (sf.T.length : Nat), (sf.z : Nat), 0, ⟨#[]⟩, b⟩ := by unfold obD; rw [if_pos hm, hX]
  have HD := Lib.hid hd
  rw [hd]
  clear hd hX h h1 h2 h3 t3 hx1 hb1 hB2 hU hx hux hsf hj hg hbs hv hm
  generalize hoo : Y.o = o at *
  have HOO := Lib.hid hoo
  clear hoo
  go_enter Tryz.func4, Tryz.ntmps4
  go_upto_region 1 with fail
  rw [← HW]; clear HW
  go_wp2_with fail
  clear p0 p1 k16 k16b f16b hsl
  have HS4 : Hid ((w1.alloc (.cells #[.int .u32 x, .int .i64 (j : Nat)] 52)).heap.size = w1.heap.size + 1) := Lib.hid (by simp)
  have HE3 : Hid (Below w.heap.size w (w1.alloc (.cells #[.int .u32 x, .int .i64 (j : Nat)] 52)) ∧ At (w1.alloc (.cells #[.int .u32 x, .int .i64 (j : Nat)] 52)) w.heap.size 27 obZ.cells) := Lib.hid ⟨HB1.out.trans (HB2.out.mono HB1.out.size), HX1.out.alloc _⟩
  have HS1 : Hid (w.heap.size < w1.heap.size) := Lib.hid HX1.out.lt
  clear HX1 HB1 HB2
  generalize hwa : w1.alloc (.cells #[.int .u32 x, .int .i64 (j : Nat)] 52) = wa at *
  clear hwa
  generalize wa.setCell ⟨o, 16, none⟩ (.slice A' U'.length cap') = w3 at *
  refine HSH.out.mono ?_; rintro e w4 ⟨rfl, hb4⟩
  have hbx : Below w3.heap.size w3 (w4.alloc (.cells #[.slice (some ⟨g, 0, none⟩) sf.T.length sf.T.length, .int .i64 (sf.m : Nat), .int .i64 (sf.z : Nat)] 55)) := hb4.alloc hb4.size _
  have h5 := H3.out.1.below hbx
  have t5 := ((obt_below Y HE3.out.1).trans H3.out.2).trans (obt_below _ hbx)
  have hb2 := (HE3.out.2.tn H3.out.2.tn (HNY.out _ (Nat.le_refl _))).below hbx (Nat.lt_of_lt_of_le HE3.out.2.lt H3.out.2.tn.size)
  have hb4' := (HN4.out.tn H3.out.2.tn (HNY.out _ (Nat.le_of_lt HS1.out))).below hbx (Nat.lt_of_lt_of_le HN4.out.lt H3.out.2.tn.size)
  have hb5 := At.new w4 55 [.slice (some ⟨g, 0, none⟩) sf.T.length sf.T.length, .int .i64 (sf.m : Nat), .int .i64 (sf.z : Nat)]
  have H5 := Lib.hid (And.intro h5 (And.intro t5 (And.intro hb2 (And.intro hb4' hb5))))
  have HS5 : Hid (w1.heap.size < w4.heap.size ∧ w.heap.size < w4.heap.size) := Lib.hid (by
    have a := HN4.out.lt
    have b := H3.out.2.tn.size
    have c := hb4.size
    have d := HS1.out
    exact ⟨by omega, by omega⟩)
  have k40 := hb4'.cell 0 rfl
  have k41 := hb4'.cell 1 rfl
  have k50 := hb5.cell 0 rfl
  have k51 := hb5.cell 1 rfl
  have k52 := hb5.cell 2 rfl
  clear hbx h5 t5 hb2 hb4' hb5 hb4 HSH H3 HN4 HE3 HS4
  go_wp2_with fail
  generalize w4.alloc (.cells #[.slice (some ⟨g, 0, none⟩) sf.T.length sf.T.length, .int .i64 (sf.m : Nat), .int .i64 (sf.z : Nat)] 55) = w5 at *
  generalize hb4e : w1.heap.size = b4 at *
  generalize hb5e : w4.heap.size = b5 at *
  clear hb4e hb5e k40 k41 k50 k51 k52
  have HDG : Hid (∀ W, Below w5.heap.size w5 W → Calls Tryz.prog 17 #[.pointer (some ⟨o, 0, none⟩), .agg #[.int .u32 x, .int .i64 (j : Nat)], .agg #[.slice (some ⟨g, 0, none⟩) sf.T.length sf.T.length, .int .i64 (sf.m : Nat), .int .i64 (sf.z : Nat)]] W fun e W' => e = .returned (.agg #[.int .i64 1, .int .i64 M.st, .int .u32 (X : Nat), .int .i64 (j : Nat), .int .i64 (sf.m : Nat), .int .i64 (sf.T.length : Nat), .int .i64 (sf.z : Nat), .int .i64 0, .string ⟨#[]⟩, .string b]) ∧ Below W.heap.size W W') := Lib.hid fun W hW => by
    have r := H5.out.1.below hW
    have hA := r.m.p.rows i g _ HO3.out.2 HF.out.2.1
    have hk : W.cell? ⟨o, 11, none⟩ = some (.int .i64 M.st) := by rw [← HO3.out.1]; exact r.m.own.cell 11 rfl
    have := ob_dg o M.st x HF.out.2.2.2.2.1 j g sf b ws hk hA HF.out.2.2.1
    rw [HD.out] at this
    exact this
  have KP : Hid (∀ W, Below w5.heap.size w5 W → W.cell? ⟨b4, 0, none⟩ = some (.int .u32 x) ∧ W.cell? ⟨b4, 1, none⟩ = some (.int .i64 (j : Nat)) ∧ W.cell? ⟨b5, 0, none⟩ = some (.slice (some ⟨g, 0, none⟩) sf.T.length sf.T.length) ∧ W.cell? ⟨b5, 1, none⟩ = some (.int .i64 (sf.m : Nat)) ∧ W.cell? ⟨b5, 2, none⟩ = some (.int .i64 (sf.z : Nat))) := Lib.hid fun W hW => by
    have a := H5.out.2.2.2.1.below hW H5.out.2.2.2.1.lt
    have b := H5.out.2.2.2.2.below hW H5.out.2.2.2.2.lt
    exact ⟨a.cell 0 rfl, a.cell 1 rfl, b.cell 0 rfl, b.cell 1 rfl, b.cell 2 rfl⟩
  have QQ : Hid (Below w5.heap.size w5 w5.drew) := Lib.hid (Below.refl w5.heap.size w5).drew
  have QB : Hid (Below w5.heap.size w5 (w5.alloc (.cells #[.int .i64 0, .int .i64 0, .int .u32 0, .int .i64 0, .int .i64 0, .int .i64 0, .int .i64 0, .int .i64 0, .string ⟨#[]⟩, .string ⟨#[]⟩] 27)).drew) := Lib.hid ((Below.refl w5.heap.size w5).alloc (Nat.le_refl _) _).drew
  have HZ0 : Hid (At (w5.alloc (.cells #[.int .i64 0, .int .i64 0, .int .u32 0, .int .i64 0, .int .i64 0, .int .i64 0, .int .i64 0, .int .i64 0, .string ⟨#[]⟩, .string ⟨#[]⟩] 27)).drew w5.heap.size 27 obZ.cells) := Lib.hid (At.new w5 27 obZ.cells)
  have n4 : b4 ≠ w5.heap.size := by have := H5.out.2.2.2.1.lt; omega
  have n5 : b5 ≠ w5.heap.size := by have := H5.out.2.2.2.2.lt; omega
  obtain ⟨k40, k41, k50, k51, k52⟩ := KP.out _ QQ.out
  go_region_held3 (fun W => W.cell? ⟨b4, 0, none⟩ = some (.int .u32 x) ∧ W.cell? ⟨b4, 1, none⟩ = some (.int .i64 (j : Nat)) ∧ W.cell? ⟨b5, 0, none⟩ = some (.slice (some ⟨g, 0, none⟩) sf.T.length sf.T.length) ∧ W.cell? ⟨b5, 1, none⟩ = some (.int .i64 (sf.m : Nat)) ∧ W.cell? ⟨b5, 2, none⟩ = some (.int .i64 (sf.z : Nat)))
    (first | with_reducible exact KP.out _ QQ.out | with_reducible exact KP.out _ QB.out | with_reducible exact KP.out _ (QQ.out.alloc QQ.out.size _) | with_reducible exact HST.out | go_keep)
    (first
    | ((with_reducible refine (HDG.out _ QQ.out).mono ?_); rintro e wq ⟨rfl, gq⟩; have QN := Lib.hid (QQ.out.trans (gq.mono QQ.out.size)); clear gq QQ; have QQ := QN; clear QN)
    | ((with_reducible refine (HDG.out _ QB.out).mono ?_); rintro e wq ⟨rfl, gq⟩; have QN := Lib.hid (QB.out.trans (gq.mono QB.out.size)); have HZ1 := Lib.hid (HZ0.out.below gq HZ0.out.lt); clear gq QQ; have QQ := QN; clear QN; have z0 := HZ1.out.cell 0 rfl; have zf0 := HZ1.out.free 0; have z1 := HZ1.out.cell 1 rfl; have zf1 := HZ1.out.free 1; have z2 := HZ1.out.cell 2 rfl; have zf2 := HZ1.out.free 2; have z3 := HZ1.out.cell 3 rfl; have zf3 := HZ1.out.free 3; have z4 := HZ1.out.cell 4 rfl; have zf4 := HZ1.out.free 4; have z5 := HZ1.out.cell 5 rfl; have zf5 := HZ1.out.free 5; have z6 := HZ1.out.cell 6 rfl; have zf6 := HZ1.out.free 6; have z7 := HZ1.out.cell 7 rfl; have zf7 := HZ1.out.free 7; have z8 := HZ1.out.cell 8 rfl; have zf8 := HZ1.out.free 8; have z9 := HZ1.out.cell 9 rfl; have zf9 := HZ1.out.free 9; have HST : Hid (((((((((((wq.setCell ⟨w5.heap.size, 0, none⟩ (.int .i64 1)).setCell ⟨w5.heap.size, 1, none⟩ (.int .i64 M.st)).setCell ⟨w5.heap.size, 2, none⟩ (.int .u32 (X : Nat))).setCell ⟨w5.heap.size, 3, none⟩ (.int .i64 (j : Nat))).setCell ⟨w5.heap.size, 4, none⟩ (.int .i64 (sf.m : Nat))).setCell ⟨w5.heap.size, 5, none⟩ (.int .i64 (sf.T.length : Nat))).setCell ⟨w5.heap.size, 6, none⟩ (.int .i64 (sf.z : Nat))).setCell ⟨w5.heap.size, 7, none⟩ (.int .i64 0)).setCell ⟨w5.heap.size, 8, none⟩ (.string ⟨#[]⟩)).setCell ⟨w5.heap.size, 9, none⟩ (.string b)).cell? ⟨b4, 0, none⟩ = some (.int .u32 x) ∧ ((((((((((wq.setCell ⟨w5.heap.size, 0, none⟩ (.int .i64 1)).setCell ⟨w5.heap.size, 1, none⟩ (.int .i64 M.st)).setCell ⟨w5.heap.size, 2, none⟩ (.int .u32 (X : Nat))).setCell ⟨w5.heap.size, 3, none⟩ (.int .i64 (j : Nat))).setCell ⟨w5.heap.size, 4, none⟩ (.int .i64 (sf.m : Nat))).setCell ⟨w5.heap.size, 5, none⟩ (.int .i64 (sf.T.length : Nat))).setCell ⟨w5.heap.size, 6, none⟩ (.int .i64 (sf.z : Nat))).setCell ⟨w5.heap.size, 7, none⟩ (.int .i64 0)).setCell ⟨w5.heap.size, 8, none⟩ (.string ⟨#[]⟩)).setCell ⟨w5.heap.size, 9, none⟩ (.string b)).cell? ⟨b4, 1, none⟩ = some (.int .i64 (j : Nat)) ∧ ((((((((((wq.setCell ⟨w5.heap.size, 0, none⟩ (.int .i64 1)).setCell ⟨w5.heap.size, 1, none⟩ (.int .i64 M.st)).setCell ⟨w5.heap.size, 2, none⟩ (.int .u32 (X : Nat))).setCell ⟨w5.heap.size, 3, none⟩ (.int .i64 (j : Nat))).setCell ⟨w5.heap.size, 4, none⟩ (.int .i64 (sf.m : Nat))).setCell ⟨w5.heap.size, 5, none⟩ (.int .i64 (sf.T.length : Nat))).setCell ⟨w5.heap.size, 6, none⟩ (.int .i64 (sf.z : Nat))).setCell ⟨w5.heap.size, 7, none⟩ (.int .i64 0)).setCell ⟨w5.heap.size, 8, none⟩ (.string ⟨#[]⟩)).setCell ⟨w5.heap.size, 9, none⟩ (.string b)).cell? ⟨b5, 0, none⟩ = some (.slice (some ⟨g, 0, none⟩) sf.T.length sf.T.length) ∧ ((((((((((wq.setCell ⟨w5.heap.size, 0, none⟩ (.int .i64 1)).setCell ⟨w5.heap.size, 1, none⟩ (.int .i64 M.st)).setCell ⟨w5.heap.size, 2, none⟩ (.int .u32 (X : Nat))).setCell ⟨w5.heap.size, 3, none⟩ (.int .i64 (j : Nat))).setCell ⟨w5.heap.size, 4, none⟩ (.int .i64 (sf.m : Nat))).setCell ⟨w5.heap.size, 5, none⟩ (.int .i64 (sf.T.length : Nat))).setCell ⟨w5.heap.size, 6, none⟩ (.int .i64 (sf.z : Nat))).setCell ⟨w5.heap.size, 7, none⟩ (.int .i64 0)).setCell ⟨w5.heap.size, 8, none⟩ (.string ⟨#[]⟩)).setCell ⟨w5.heap.size, 9, none⟩ (.string b)).cell? ⟨b5, 1, none⟩ = some (.int .i64 (sf.m : Nat)) ∧ ((((((((((wq.setCell ⟨w5.heap.size, 0, none⟩ (.int .i64 1)).setCell ⟨w5.heap.size, 1, none⟩ (.int .i64 M.st)).setCell ⟨w5.heap.size, 2, none⟩ (.int .u32 (X : Nat))).setCell ⟨w5.heap.size, 3, none⟩ (.int .i64 (j : Nat))).setCell ⟨w5.heap.size, 4, none⟩ (.int .i64 (sf.m : Nat))).setCell ⟨w5.heap.size, 5, none⟩ (.int .i64 (sf.T.length : Nat))).setCell ⟨w5.heap.size, 6, none⟩ (.int .i64 (sf.z : Nat))).setCell ⟨w5.heap.size, 7, none⟩ (.int .i64 0)).setCell ⟨w5.heap.size, 8, none⟩ (.string ⟨#[]⟩)).setCell ⟨w5.heap.size, 9, none⟩ (.string b)).cell? ⟨b5, 2, none⟩ = some (.int .i64 (sf.z : Nat))) := Lib.hid (KP.out (obdset wq w5.heap.size (⟨1, M.st, X, (j : Nat), (sf.m : Nat), (sf.T.length : Nat), (sf.z : Nat), 0, ⟨#[]⟩, b⟩ : Dg)) (obdset_below (⟨1, M.st, X, (j : Nat), (sf.m : Nat), (sf.T.length : Nat), (sf.z : Nat), 0, ⟨#[]⟩, b⟩ : Dg) QQ.out (Nat.le_refl _) (Nat.le_refl _)))))
  · have a7 := At.new wq 27 ((⟨1, M.st, X, (j : Nat), (sf.m : Nat), (sf.T.length : Nat), (sf.z : Nat), 0, ⟨#[]⟩, b⟩ : Dg)).cells
    have hb7 : Below w5.heap.size w5 (wq.alloc (.cells #[.int .i64 1, .int .i64 M.st, .int .u32 (X : Nat), .int .i64 (j : Nat), .int .i64 (sf.m : Nat), .int .i64 (sf.T.length : Nat), .int .i64 (sf.z : Nat), .int .i64 0, .string ⟨#[]⟩, .string b] 27)) := QQ.out.alloc QQ.out.size _
    have H7 : Hid (At (wq.alloc (.cells #[.int .i64 1, .int .i64 M.st, .int .u32 (X : Nat), .int .i64 (j : Nat), .int .i64 (sf.m : Nat), .int .i64 (sf.T.length : Nat), .int .i64 (sf.z : Nat), .int .i64 0, .string ⟨#[]⟩, .string b] 27)) wq.heap.size 27 ((⟨1, M.st, X, (j : Nat), (sf.m : Nat), (sf.T.length : Nat), (sf.z : Nat), 0, ⟨#[]⟩, b⟩ : Dg)).cells ∧ Below w5.heap.size w5 (wq.alloc (.cells #[.int .i64 1, .int .i64 M.st, .int .u32 (X : Nat), .int .i64 (j : Nat), .int .i64 (sf.m : Nat), .int .i64 (sf.T.length : Nat), .int .i64 (sf.z : Nat), .int .i64 0, .string ⟨#[]⟩, .string b] 27)) ∧ w5.heap.size ≤ wq.heap.size) := Lib.hid ⟨a7, hb7, QQ.out.size⟩
    clear a7 hb7 k40 k41 k50 k51 k52 QQ QB HZ0 KP HDG n4 n5
    generalize wq.alloc (.cells #[.int .i64 1, .int .i64 M.st, .int .u32 (X : Nat), .int .i64 (j : Nat), .int .i64 (sf.m : Nat), .int .i64 (sf.T.length : Nat), .int .i64 (sf.z : Nat), .int .i64 0, .string ⟨#[]⟩, .string b] 27) = w7 at *
    generalize wq.heap.size = b7 at *
    have r7 := H5.out.1.below H7.out.2.1
    have T7 := H5.out.2.1.trans (obt_below _ H7.out.2.1)
    have a2 := H5.out.2.2.1.below H7.out.2.1 H5.out.2.2.1.lt
    have hw5 : w.heap.size ≤ w5.heap.size := by have := H5.out.2.2.1.lt; omega
    have hA7 := r7.m.p.rows i g sf HO3.out.2 HF.out.2.1
    have s1 := hA7.cell _ (obShc_at _ _ _ HF.out.2.2.1).2
    have s1f := hA7.free (j * 2 + 1)
    have hsd := r7.m.shard_ HO3.out.2 HF.out.2.1 (obShc_wait _ _ _ HF.out.2.2.1 false) (by simp)
    have a78 := H7.out.1.tn hsd.2.tn (HNO.out b7 (by have := H7.out.2.2; omega))
    have a28 := a2.tn hsd.2.tn (HNO.out _ (Nat.le_refl _))
    have T8 := T7.trans hsd.2
    have hI8 := obI_wait HH.out.i HF.out.2.1 (j := j) b HF.out.2.2.2.1 false U'
    have HE : Hid (At (obdset (w7.setCell ⟨g, j * 2 + 1, none⟩ (.bool false)) w.heap.size (⟨1, M.st, X, (j : Nat), (sf.m : Nat), (sf.T.length : Nat), (sf.z : Nat), 0, ⟨#[]⟩, b⟩ : Dg)) w.heap.size 27 ((⟨1, M.st, X, (j : Nat), (sf.m : Nat), (sf.T.length : Nat), (sf.z : Nat), 0, ⟨#[]⟩, b⟩ : Dg)).cells ∧ Ob (obdset (w7.setCell ⟨g, j * 2 + 1, none⟩ (.bool false)) w.heap.size (⟨1, M.st, X, (j : Nat), (sf.m : Nat), (sf.T.length : Nat), (sf.z : Nat), 0, ⟨#[]⟩, b⟩ : Dg)) Y3 { M with S := M.S.set i { sf with T := sf.T.set j (b, false) }, U := U' } ∧ ObT w (obdset (w7.setCell ⟨g, j * 2 + 1, none⟩ (.bool false)) w.heap.size (⟨1, M.st, X, (j : Nat), (sf.m : Nat), (sf.T.length : Nat), (sf.z : Nat), 0, ⟨#[]⟩, b⟩ : Dg)) Y Y3) := Lib.hid ⟨obdset_at (d0 := obZ) (⟨1, M.st, X, (j : Nat), (sf.m : Nat), (sf.T.length : Nat), (sf.z : Nat), 0, ⟨#[]⟩, b⟩ : Dg) a28, Ob.tn ⟨hsd.1, hI8⟩ (obdset_tn _ _ _) (fun q hq e => HNO.out _ (Nat.le_refl _) (by rw [← show q = w.heap.size from e]; exact hq)), ⟨T8.tn.trans' (obdset_tn _ _ _) (fun q hq e => by rw [show q = w.heap.size from e] at hq; omega), T8.new, T8.o⟩⟩
    obtain ⟨c0, c1, c2, c3, c4, c5, c6, c7, c8, c9⟩ : (w7.setCell ⟨g, j * 2 + 1, none⟩ (.bool false)).cell? ⟨b7, 0, none⟩ = some (.int .i64 1) ∧ (w7.setCell ⟨g, j * 2 + 1, none⟩ (.bool false)).cell? ⟨b7, 1, none⟩ = some (.int .i64 M.st) ∧ (w7.setCell ⟨g, j * 2 + 1, none⟩ (.bool false)).cell? ⟨b7, 2, none⟩ = some (.int .u32 (X : Nat)) ∧ (w7.setCell ⟨g, j * 2 + 1, none⟩ (.bool false)).cell? ⟨b7, 3, none⟩ = some (.int .i64 (j : Nat)) ∧ (w7.setCell ⟨g, j * 2 + 1, none⟩ (.bool false)).cell? ⟨b7, 4, none⟩ = some (.int .i64 (sf.m : Nat)) ∧ (w7.setCell ⟨g, j * 2 + 1, none⟩ (.bool false)).cell? ⟨b7, 5, none⟩ = some (.int .i64 (sf.T.length : Nat)) ∧ (w7.setCell ⟨g, j * 2 + 1, none⟩ (.bool false)).cell? ⟨b7, 6, none⟩ = some (.int .i64 (sf.z : Nat)) ∧ (w7.setCell ⟨g, j * 2 + 1, none⟩ (.bool false)).cell? ⟨b7, 7, none⟩ = some (.int .i64 0) ∧ (w7.setCell ⟨g, j * 2 + 1, none⟩ (.bool false)).cell? ⟨b7, 8, none⟩ = some (.string ⟨#[]⟩) ∧ (w7.setCell ⟨g, j * 2 + 1, none⟩ (.bool false)).cell? ⟨b7, 9, none⟩ = some (.string b) := ⟨a78.cell 0 rfl, a78.cell 1 rfl, a78.cell 2 rfl, a78.cell 3 rfl, a78.cell 4 rfl, a78.cell 5 rfl, a78.cell 6 rfl, a78.cell 7 rfl, a78.cell 8 rfl, a78.cell 9 rfl⟩
    obtain ⟨z0, z1, z2, z3, z4, z5, z6, z7, z8, z9⟩ : (w7.setCell ⟨g, j * 2 + 1, none⟩ (.bool false)).cell? ⟨w.heap.size, 0, none⟩ = some (.int .i64 0) ∧ (w7.setCell ⟨g, j * 2 + 1, none⟩ (.bool false)).cell? ⟨w.heap.size, 1, none⟩ = some (.int .i64 0) ∧ (w7.setCell ⟨g, j * 2 + 1, none⟩ (.bool false)).cell? ⟨w.heap.size, 2, none⟩ = some (.int .u32 0) ∧ (w7.setCell ⟨g, j * 2 + 1, none⟩ (.bool false)).cell? ⟨w.heap.size, 3, none⟩ = some (.int .i64 0) ∧ (w7.setCell ⟨g, j * 2 + 1, none⟩ (.bool false)).cell? ⟨w.heap.size, 4, none⟩ = some (.int .i64 0) ∧ (w7.setCell ⟨g, j * 2 + 1, none⟩ (.bool false)).cell? ⟨w.heap.size, 5, none⟩ = some (.int .i64 0) ∧ (w7.setCell ⟨g, j * 2 + 1, none⟩ (.bool false)).cell? ⟨w.heap.size, 6, none⟩ = some (.int .i64 0) ∧ (w7.setCell ⟨g, j * 2 + 1, none⟩ (.bool false)).cell? ⟨w.heap.size, 7, none⟩ = some (.int .i64 0) ∧ (w7.setCell ⟨g, j * 2 + 1, none⟩ (.bool false)).cell? ⟨w.heap.size, 8, none⟩ = some (.string ⟨#[]⟩) ∧ (w7.setCell ⟨g, j * 2 + 1, none⟩ (.bool false)).cell? ⟨w.heap.size, 9, none⟩ = some (.string ⟨#[]⟩) := ⟨a28.cell 0 rfl, a28.cell 1 rfl, a28.cell 2 rfl, a28.cell 3 rfl, a28.cell 4 rfl, a28.cell 5 rfl, a28.cell 6 rfl, a28.cell 7 rfl, a28.cell 8 rfl, a28.cell 9 rfl⟩
    obtain ⟨q0, q1, q2, q3, q4, q5, q6, q7, q8, q9⟩ : (w7.setCell ⟨g, j * 2 + 1, none⟩ (.bool false)).frozen? ⟨w.heap.size, 0, none⟩ = false ∧ (w7.setCell ⟨g, j * 2 + 1, none⟩ (.bool false)).frozen? ⟨w.heap.size, 1, none⟩ = false ∧ (w7.setCell ⟨g, j * 2 + 1, none⟩ (.bool false)).frozen? ⟨w.heap.size, 2, none⟩ = false ∧ (w7.setCell ⟨g, j * 2 + 1, none⟩ (.bool false)).frozen? ⟨w.heap.size, 3, none⟩ = false ∧ (w7.setCell ⟨g, j * 2 + 1, none⟩ (.bool false)).frozen? ⟨w.heap.size, 4, none⟩ = false ∧ (w7.setCell ⟨g, j * 2 + 1, none⟩ (.bool false)).frozen? ⟨w.heap.size, 5, none⟩ = false ∧ (w7.setCell ⟨g, j * 2 + 1, none⟩ (.bool false)).frozen? ⟨w.heap.size, 6, none⟩ = false ∧ (w7.setCell ⟨g, j * 2 + 1, none⟩ (.bool false)).frozen? ⟨w.heap.size, 7, none⟩ = false ∧ (w7.setCell ⟨g, j * 2 + 1, none⟩ (.bool false)).frozen? ⟨w.heap.size, 8, none⟩ = false ∧ (w7.setCell ⟨g, j * 2 + 1, none⟩ (.bool false)).frozen? ⟨w.heap.size, 9, none⟩ = false := ⟨a28.free 0, a28.free 1, a28.free 2, a28.free 3, a28.free 4, a28.free 5, a28.free 6, a28.free 7, a28.free 8, a28.free 9⟩
    clear r7 T7 a2 hA7 hsd a78 a28 T8 hI8 
    generalize hw0 : w.heap.size = w0 at *
    go_wp2_with fail
    change bodyPost _ _ _ _ _ (obdset (w7.setCell ⟨g, j * 2 + 1, none⟩ (.bool false)) w0 (⟨1, M.st, X, (j : Nat), (sf.m : Nat), (sf.T.length : Nat), (sf.z : Nat), 0, ⟨#[]⟩, b⟩ : Dg))
    exact bodyPost_ret (v := .tuple #[((⟨1, M.st, X, (j : Nat), (sf.m : Nat), (sf.T.length : Nat), (sf.z : Nat), 0, ⟨#[]⟩, b⟩ : Dg)).val, .bool true]) (res_pop rfl rfl HE.out.1) rfl ⟨rfl, _, HE.out.2⟩
  · have H7 : Hid (At ((((((((((wq.setCell ⟨w5.heap.size, 0, none⟩ (.int .i64 1)).setCell ⟨w5.heap.size, 1, none⟩ (.int .i64 M.st)).setCell ⟨w5.heap.size, 2, none⟩ (.int .u32 (X : Nat))).setCell ⟨w5.heap.size, 3, none⟩ (.int .i64 (j : Nat))).setCell ⟨w5.heap.size, 4, none⟩ (.int .i64 (sf.m : Nat))).setCell ⟨w5.heap.size, 5, none⟩ (.int .i64 (sf.T.length : Nat))).setCell ⟨w5.heap.size, 6, none⟩ (.int .i64 (sf.z : Nat))).setCell ⟨w5.heap.size, 7, none⟩ (.int .i64 0)).setCell ⟨w5.heap.size, 8, none⟩ (.string ⟨#[]⟩)).setCell ⟨w5.heap.size, 9, none⟩ (.string b)) w5.heap.size 27 ((⟨1, M.st, X, (j : Nat), (sf.m : Nat), (sf.T.length : Nat), (sf.z : Nat), 0, ⟨#[]⟩, b⟩ : Dg)).cells ∧ Below w5.heap.size w5 ((((((((((wq.setCell ⟨w5.heap.size, 0, none⟩ (.int .i64 1)).setCell ⟨w5.heap.size, 1, none⟩ (.int .i64 M.st)).setCell ⟨w5.heap.size, 2, none⟩ (.int .u32 (X : Nat))).setCell ⟨w5.heap.size, 3, none⟩ (.int .i64 (j : Nat))).setCell ⟨w5.heap.size, 4, none⟩ (.int .i64 (sf.m : Nat))).setCell ⟨w5.heap.size, 5, none⟩ (.int .i64 (sf.T.length : Nat))).setCell ⟨w5.heap.size, 6, none⟩ (.int .i64 (sf.z : Nat))).setCell ⟨w5.heap.size, 7, none⟩ (.int .i64 0)).setCell ⟨w5.heap.size, 8, none⟩ (.string ⟨#[]⟩)).setCell ⟨w5.heap.size, 9, none⟩ (.string b)) ∧ w5.heap.size ≤ w5.heap.size) := Lib.hid ⟨obdset_at (d0 := obZ) (⟨1, M.st, X, (j : Nat), (sf.m : Nat), (sf.T.length : Nat), (sf.z : Nat), 0, ⟨#[]⟩, b⟩ : Dg) HZ1.out, obdset_below (⟨1, M.st, X, (j : Nat), (sf.m : Nat), (sf.T.length : Nat), (sf.z : Nat), 0, ⟨#[]⟩, b⟩ : Dg) QQ.out (Nat.le_refl _) (Nat.le_refl _), Nat.le_refl _⟩
    clear z0 zf0 z1 zf1 z2 zf2 z3 zf3 z4 zf4 z5 zf5 z6 zf6 z7 zf7 z8 zf8 z9 zf9 HST k40 k41 k50 k51 k52 QQ QB HZ0 HZ1 KP HDG n4 n5
    generalize (((((((((wq.setCell ⟨w5.heap.size, 0, none⟩ (.int .i64 1)).setCell ⟨w5.heap.size, 1, none⟩ (.int .i64 M.st)).setCell ⟨w5.heap.size, 2, none⟩ (.int .u32 (X : Nat))).setCell ⟨w5.heap.size, 3, none⟩ (.int .i64 (j : Nat))).setCell ⟨w5.heap.size, 4, none⟩ (.int .i64 (sf.m : Nat))).setCell ⟨w5.heap.size, 5, none⟩ (.int .i64 (sf.T.length : Nat))).setCell ⟨w5.heap.size, 6, none⟩ (.int .i64 (sf.z : Nat))).setCell ⟨w5.heap.size, 7, none⟩ (.int .i64 0)).setCell ⟨w5.heap.size, 8, none⟩ (.string ⟨#[]⟩)).setCell ⟨w5.heap.size, 9, none⟩ (.string b) = w7 at *
    generalize hb7e : w5.heap.size = b7 at H7 ⊢
    rw [← hb7e] at H7
    have H7' : Hid (At w7 b7 27 ((⟨1, M.st, X, (j : Nat), (sf.m : Nat), (sf.T.length : Nat), (sf.z : Nat), 0, ⟨#[]⟩, b⟩ : Dg)).cells ∧ Below w5.heap.size w5 w7 ∧ w5.heap.size ≤ b7) := Lib.hid (by rw [← hb7e]; exact H7.out)
    clear H7
    have H7 := H7'
    clear H7' hb7e
    have r7 := H5.out.1.below H7.out.2.1
    have T7 := H5.out.2.1.trans (obt_below _ H7.out.2.1)
    have a2 := H5.out.2.2.1.below H7.out.2.1 H5.out.2.2.1.lt
    have hw5 : w.heap.size ≤ w5.heap.size := by have := H5.out.2.2.1.lt; omega
    have hA7 := r7.m.p.rows i g sf HO3.out.2 HF.out.2.1
    have s1 := hA7.cell _ (obShc_at _ _ _ HF.out.2.2.1).2
    have s1f := hA7.free (j * 2 + 1)
    have hsd := r7.m.shard_ HO3.out.2 HF.out.2.1 (obShc_wait _ _ _ HF.out.2.2.1 false) (by simp)
    have a78 := H7.out.1.tn hsd.2.tn (HNO.out b7 (by have := H7.out.2.2; omega))
    have a28 := a2.tn hsd.2.tn (HNO.out _ (Nat.le_refl _))
    have T8 := T7.trans hsd.2
    have hI8 := obI_wait HH.out.i HF.out.2.1 (j := j) b HF.out.2.2.2.1 false U'
    have HE : Hid (At (obdset (w7.setCell ⟨g, j * 2 + 1, none⟩ (.bool false)) w.heap.size (⟨1, M.st, X, (j : Nat), (sf.m : Nat), (sf.T.length : Nat), (sf.z : Nat), 0, ⟨#[]⟩, b⟩ : Dg)) w.heap.size 27 ((⟨1, M.st, X, (j : Nat), (sf.m : Nat), (sf.T.length : Nat), (sf.z : Nat), 0, ⟨#[]⟩, b⟩ : Dg)).cells ∧ Ob (obdset (w7.setCell ⟨g, j * 2 + 1, none⟩ (.bool false)) w.heap.size (⟨1, M.st, X, (j : Nat), (sf.m : Nat), (sf.T.length : Nat), (sf.z : Nat), 0, ⟨#[]⟩, b⟩ : Dg)) Y3 { M with S := M.S.set i { sf with T := sf.T.set j (b, false) }, U := U' } ∧ ObT w (obdset (w7.setCell ⟨g, j * 2 + 1, none⟩ (.bool false)) w.heap.size (⟨1, M.st, X, (j : Nat), (sf.m : Nat), (sf.T.length : Nat), (sf.z : Nat), 0, ⟨#[]⟩, b⟩ : Dg)) Y Y3) := Lib.hid ⟨obdset_at (d0 := obZ) (⟨1, M.st, X, (j : Nat), (sf.m : Nat), (sf.T.length : Nat), (sf.z : Nat), 0, ⟨#[]⟩, b⟩ : Dg) a28, Ob.tn ⟨hsd.1, hI8⟩ (obdset_tn _ _ _) (fun q hq e => HNO.out _ (Nat.le_refl _) (by rw [← show q = w.heap.size from e]; exact hq)), ⟨T8.tn.trans' (obdset_tn _ _ _) (fun q hq e => by rw [show q = w.heap.size from e] at hq; omega), T8.new, T8.o⟩⟩
    obtain ⟨c0, c1, c2, c3, c4, c5, c6, c7, c8, c9⟩ : (w7.setCell ⟨g, j * 2 + 1, none⟩ (.bool false)).cell? ⟨b7, 0, none⟩ = some (.int .i64 1) ∧ (w7.setCell ⟨g, j * 2 + 1, none⟩ (.bool false)).cell? ⟨b7, 1, none⟩ = some (.int .i64 M.st) ∧ (w7.setCell ⟨g, j * 2 + 1, none⟩ (.bool false)).cell? ⟨b7, 2, none⟩ = some (.int .u32 (X : Nat)) ∧ (w7.setCell ⟨g, j * 2 + 1, none⟩ (.bool false)).cell? ⟨b7, 3, none⟩ = some (.int .i64 (j : Nat)) ∧ (w7.setCell ⟨g, j * 2 + 1, none⟩ (.bool false)).cell? ⟨b7, 4, none⟩ = some (.int .i64 (sf.m : Nat)) ∧ (w7.setCell ⟨g, j * 2 + 1, none⟩ (.bool false)).cell? ⟨b7, 5, none⟩ = some (.int .i64 (sf.T.length : Nat)) ∧ (w7.setCell ⟨g, j * 2 + 1, none⟩ (.bool false)).cell? ⟨b7, 6, none⟩ = some (.int .i64 (sf.z : Nat)) ∧ (w7.setCell ⟨g, j * 2 + 1, none⟩ (.bool false)).cell? ⟨b7, 7, none⟩ = some (.int .i64 0) ∧ (w7.setCell ⟨g, j * 2 + 1, none⟩ (.bool false)).cell? ⟨b7, 8, none⟩ = some (.string ⟨#[]⟩) ∧ (w7.setCell ⟨g, j * 2 + 1, none⟩ (.bool false)).cell? ⟨b7, 9, none⟩ = some (.string b) := ⟨a78.cell 0 rfl, a78.cell 1 rfl, a78.cell 2 rfl, a78.cell 3 rfl, a78.cell 4 rfl, a78.cell 5 rfl, a78.cell 6 rfl, a78.cell 7 rfl, a78.cell 8 rfl, a78.cell 9 rfl⟩
    obtain ⟨z0, z1, z2, z3, z4, z5, z6, z7, z8, z9⟩ : (w7.setCell ⟨g, j * 2 + 1, none⟩ (.bool false)).cell? ⟨w.heap.size, 0, none⟩ = some (.int .i64 0) ∧ (w7.setCell ⟨g, j * 2 + 1, none⟩ (.bool false)).cell? ⟨w.heap.size, 1, none⟩ = some (.int .i64 0) ∧ (w7.setCell ⟨g, j * 2 + 1, none⟩ (.bool false)).cell? ⟨w.heap.size, 2, none⟩ = some (.int .u32 0) ∧ (w7.setCell ⟨g, j * 2 + 1, none⟩ (.bool false)).cell? ⟨w.heap.size, 3, none⟩ = some (.int .i64 0) ∧ (w7.setCell ⟨g, j * 2 + 1, none⟩ (.bool false)).cell? ⟨w.heap.size, 4, none⟩ = some (.int .i64 0) ∧ (w7.setCell ⟨g, j * 2 + 1, none⟩ (.bool false)).cell? ⟨w.heap.size, 5, none⟩ = some (.int .i64 0) ∧ (w7.setCell ⟨g, j * 2 + 1, none⟩ (.bool false)).cell? ⟨w.heap.size, 6, none⟩ = some (.int .i64 0) ∧ (w7.setCell ⟨g, j * 2 + 1, none⟩ (.bool false)).cell? ⟨w.heap.size, 7, none⟩ = some (.int .i64 0) ∧ (w7.setCell ⟨g, j * 2 + 1, none⟩ (.bool false)).cell? ⟨w.heap.size, 8, none⟩ = some (.string ⟨#[]⟩) ∧ (w7.setCell ⟨g, j * 2 + 1, none⟩ (.bool false)).cell? ⟨w.heap.size, 9, none⟩ = some (.string ⟨#[]⟩) := ⟨a28.cell 0 rfl, a28.cell 1 rfl, a28.cell 2 rfl, a28.cell 3 rfl, a28.cell 4 rfl, a28.cell 5 rfl, a28.cell 6 rfl, a28.cell 7 rfl, a28.cell 8 rfl, a28.cell 9 rfl⟩
    obtain ⟨q0, q1, q2, q3, q4, q5, q6, q7, q8, q9⟩ : (w7.setCell ⟨g, j * 2 + 1, none⟩ (.bool false)).frozen? ⟨w.heap.size, 0, none⟩ = false ∧ (w7.setCell ⟨g, j * 2 + 1, none⟩ (.bool false)).frozen? ⟨w.heap.size, 1, none⟩ = false ∧ (w7.setCell ⟨g, j * 2 + 1, none⟩ (.bool false)).frozen? ⟨w.heap.size, 2, none⟩ = false ∧ (w7.setCell ⟨g, j * 2 + 1, none⟩ (.bool false)).frozen? ⟨w.heap.size, 3, none⟩ = false ∧ (w7.setCell ⟨g, j * 2 + 1, none⟩ (.bool false)).frozen? ⟨w.heap.size, 4, none⟩ = false ∧ (w7.setCell ⟨g, j * 2 + 1, none⟩ (.bool false)).frozen? ⟨w.heap.size, 5, none⟩ = false ∧ (w7.setCell ⟨g, j * 2 + 1, none⟩ (.bool false)).frozen? ⟨w.heap.size, 6, none⟩ = false ∧ (w7.setCell ⟨g, j * 2 + 1, none⟩ (.bool false)).frozen? ⟨w.heap.size, 7, none⟩ = false ∧ (w7.setCell ⟨g, j * 2 + 1, none⟩ (.bool false)).frozen? ⟨w.heap.size, 8, none⟩ = false ∧ (w7.setCell ⟨g, j * 2 + 1, none⟩ (.bool false)).frozen? ⟨w.heap.size, 9, none⟩ = false := ⟨a28.free 0, a28.free 1, a28.free 2, a28.free 3, a28.free 4, a28.free 5, a28.free 6, a28.free 7, a28.free 8, a28.free 9⟩
    clear r7 T7 a2 hA7 hsd a78 a28 T8 hI8 
    generalize hw0 : w.heap.size = w0 at *
    go_wp2_with fail
    change bodyPost _ _ _ _ _ (obdset (w7.setCell ⟨g, j * 2 + 1, none⟩ (.bool false)) w0 (⟨1, M.st, X, (j : Nat), (sf.m : Nat), (sf.T.length : Nat), (sf.z : Nat), 0, ⟨#[]⟩, b⟩ : Dg))
    exact bodyPost_ret (v := .tuple #[((⟨1, M.st, X, (j : Nat), (sf.m : Nat), (sf.T.length : Nat), (sf.z : Nat), 0, ⟨#[]⟩, b⟩ : Dg)).val, .bool true]) (res_pop rfl rfl HE.out.1) rfl ⟨rfl, _, HE.out.2⟩
set_option maxRecDepth 100000 in
set_option maxHeartbeats 3200000 in
theorem ob_pop_rep (h : Ob w Y M) {x : Int} {i j : Nat} {sf : ObS} {b : ByteArray} {ws : Bool} {U' : List (Int × Int)} (hU : M.U = (x, (j : Int)) :: U') (hx : x = fno M.nx M.L.length i) (hsf : M.S[i]? = some sf) (hj : sf.T[j]? = some (b, ws)) (hm : ¬ j < sf.m) :
    Calls Tryz.prog 4 #[.pointer (some ⟨Y.o, 0, none⟩)] w (GivesOb w Y (.tuple #[(obD M.st x j sf b).val, .bool true]) { M with S := M.S.set i { sf with T := sf.T.set j (⟨#[]⟩, false) }, U := U' }) := by
  obtain ⟨w1, HW, hx1, hb1⟩ := ob_zbox w
  have h1 := h.below hb1
  have hux : U32 x := by rw [hx]; exact wpl_u32 _ _
  have hB2 : Below w1.heap.size w1 (w1.alloc (.cells #[.int .u32 x, .int .i64 (j : Nat)] 52)) := (Below.refl _ _).alloc (Nat.le_refl _) _
  obtain ⟨gu, ou, cap, A', cap', hv, p0, p1, hcap, hsl, -, -⟩ := ob_pop_rest h1 hU
  obtain ⟨gu2, ou2, cap2, A2, cap2', hv2, -, -, -, hsl2, h3, t3⟩ := ob_pop_rest (h1.below hB2) hU
  rw [hv] at hv2
  injection hv2 with e1 _ e2
  injection e1 with e1
  injection e1 with e1 e3
  subst e1 e2 e3
  have e4 := (hsl w1).symm.trans (hsl2 w1)
  injection e4 with e4
  injection e4 with e4 _ e5
  subst e4 e5
  clear hsl2
  have k16 : w1.cell? ⟨Y.o, 16, none⟩ = some (.slice (some ⟨gu, ou, none⟩) (U'.length + 1) cap) := by rw [← hv]; exact h1.m.own.cell 16 rfl
  have h2 := h1.below hB2
  have k16b : (w1.alloc (.cells #[.int .u32 x, .int .i64 (j : Nat)] 52)).cell? ⟨Y.o, 16, none⟩ = some (.slice (some ⟨gu, ou, none⟩) (U'.length + 1) cap) := by rw [← hv]; exact h2.m.own.cell 16 rfl
  have f16b := h2.m.own.free 16
  obtain ⟨g, hg⟩ : ∃ g, Y.hs[i]? = some g := ⟨_, List.getElem?_eq_getElem (by rw [h.m.p.hl]; exact (List.getElem?_eq_some_iff.1 hsf).1)⟩
  obtain ⟨Y3, hY3⟩ : ∃ Y3 : ObY, Y3 = { Y with vu := .slice A' U'.length cap' } := ⟨_, rfl⟩
  rw [← hY3] at h3 t3
  have HNO : Hid (∀ q, w.heap.size ≤ q → ¬ Y3.own q) := Lib.hid (by rw [hY3]; intro q hq e; have := h.m.lt (show Y.own q from e); omega)
  have HNY : Hid (∀ q, w.heap.size ≤ q → ¬ Y.own q) := Lib.hid (by intro q hq e; have := h.m.lt e; omega)
  have hg3 : Y3.hs[i]? = some g := by rw [hY3]; exact hg
  have ho3 : Y3.o = Y.o := by rw [hY3]
  have HSH := Lib.hid (ob_sheaf_in h3 (i := i) (g := g) (sf := sf) hg3 hsf)
  rw [ho3] at HSH
  have HO3 := Lib.hid (And.intro ho3 hg3)
  clear hY3 ho3 hg3
  have hbs := (h.i.good sf (List.mem_of_getElem? hsf)).text _ (List.mem_of_getElem? hj)
  have hj0 : (0 : Int) ≤ (j : Nat) := Int.natCast_nonneg _
  have hj2 : ((j : Nat) : Int) < (sf.T.length : Nat) := by have := (List.getElem?_eq_some_iff.1 hj).1; omega
  have hn0 : ((((U'.length + 1 : Nat) : Int)) == 0) = false := by simp; omega
  have hn1 : (0 : Int) < ((U'.length : Nat) : Int) + 1 := by omega
  have hn2 : (1 : Int) ≤ ((U'.length : Nat) : Int) + 1 := by omega
  have HX1 := Lib.hid hx1
  have HB1 := Lib.hid hb1
  have HH := Lib.hid h
  have H3 := Lib.hid (And.intro h3 t3)
  have HB2 := Lib.hid hB2
  have HN4 := Lib.hid (At.new w1 52 [.int .u32 x, .int .i64 (j : Nat)])
  have HF := Lib.hid (And.intro hg (And.intro hsf (And.intro hj (And.intro hbs (And.intro hux hx)))))
  rw [← hx] at HSH
  unfold ObS.v at HSH
  obtain ⟨X, hX⟩ : ∃ X : Nat, x.toNat = X := ⟨_, rfl⟩
  have hd : obD M.st x j sf b = ⟨2, M.st, X, (j : Nat), (sf.m : Nat), (sf.T.length : Nat), (sf.z : Nat), 0, ⟨#[]⟩, b⟩ := by unfold obD; rw [if_neg hm, hX]
  have HD := Lib.hid hd
  rw [hd]
  clear hd hX h h1 h2 h3 t3 hx1 hb1 hB2 hU hx hux hsf hj hg hbs hv hm
  generalize hoo : Y.o = o at *
  have HOO := Lib.hid hoo
  clear hoo
  go_enter Tryz.func4, Tryz.ntmps4
  go_upto_region 1 with fail
  rw [← HW]; clear HW
  go_wp2_with fail
  clear p0 p1 k16 k16b f16b hsl
  have HS4 : Hid ((w1.alloc (.cells #[.int .u32 x, .int .i64 (j : Nat)] 52)).heap.size = w1.heap.size + 1) := Lib.hid (by simp)
  have HE3 : Hid (Below w.heap.size w (w1.alloc (.cells #[.int .u32 x, .int .i64 (j : Nat)] 52)) ∧ At (w1.alloc (.cells #[.int .u32 x, .int .i64 (j : Nat)] 52)) w.heap.size 27 obZ.cells) := Lib.hid ⟨HB1.out.trans (HB2.out.mono HB1.out.size), HX1.out.alloc _⟩
  have HS1 : Hid (w.heap.size < w1.heap.size) := Lib.hid HX1.out.lt
  clear HX1 HB1 HB2
  generalize hwa : w1.alloc (.cells #[.int .u32 x, .int .i64 (j : Nat)] 52) = wa at *
  clear hwa
  generalize wa.setCell ⟨o, 16, none⟩ (.slice A' U'.length cap') = w3 at *
  refine HSH.out.mono ?_; rintro e w4 ⟨rfl, hb4⟩
  have hbx : Below w3.heap.size w3 (w4.alloc (.cells #[.slice (some ⟨g, 0, none⟩) sf.T.length sf.T.length, .int .i64 (sf.m : Nat), .int .i64 (sf.z : Nat)] 55)) := hb4.alloc hb4.size _
  have h5 := H3.out.1.below hbx
  have t5 := ((obt_below Y HE3.out.1).trans H3.out.2).trans (obt_below _ hbx)
  have hb2 := (HE3.out.2.tn H3.out.2.tn (HNY.out _ (Nat.le_refl _))).below hbx (Nat.lt_of_lt_of_le HE3.out.2.lt H3.out.2.tn.size)
  have hb4' := (HN4.out.tn H3.out.2.tn (HNY.out _ (Nat.le_of_lt HS1.out))).below hbx (Nat.lt_of_lt_of_le HN4.out.lt H3.out.2.tn.size)
  have hb5 := At.new w4 55 [.slice (some ⟨g, 0, none⟩) sf.T.length sf.T.length, .int .i64 (sf.m : Nat), .int .i64 (sf.z : Nat)]
  have H5 := Lib.hid (And.intro h5 (And.intro t5 (And.intro hb2 (And.intro hb4' hb5))))
  have HS5 : Hid (w1.heap.size < w4.heap.size ∧ w.heap.size < w4.heap.size) := Lib.hid (by
    have a := HN4.out.lt
    have b := H3.out.2.tn.size
    have c := hb4.size
    have d := HS1.out
    exact ⟨by omega, by omega⟩)
  have k40 := hb4'.cell 0 rfl
  have k41 := hb4'.cell 1 rfl
  have k50 := hb5.cell 0 rfl
  have k51 := hb5.cell 1 rfl
  have k52 := hb5.cell 2 rfl
  clear hbx h5 t5 hb2 hb4' hb5 hb4 HSH H3 HN4 HE3 HS4
  go_wp2_with fail
  generalize w4.alloc (.cells #[.slice (some ⟨g, 0, none⟩) sf.T.length sf.T.length, .int .i64 (sf.m : Nat), .int .i64 (sf.z : Nat)] 55) = w5 at *
  generalize hb4e : w1.heap.size = b4 at *
  generalize hb5e : w4.heap.size = b5 at *
  clear hb4e hb5e k40 k41 k50 k51 k52
  have HDG : Hid (∀ W, Below w5.heap.size w5 W → Calls Tryz.prog 17 #[.pointer (some ⟨o, 0, none⟩), .agg #[.int .u32 x, .int .i64 (j : Nat)], .agg #[.slice (some ⟨g, 0, none⟩) sf.T.length sf.T.length, .int .i64 (sf.m : Nat), .int .i64 (sf.z : Nat)]] W fun e W' => e = .returned (.agg #[.int .i64 2, .int .i64 M.st, .int .u32 (X : Nat), .int .i64 (j : Nat), .int .i64 (sf.m : Nat), .int .i64 (sf.T.length : Nat), .int .i64 (sf.z : Nat), .int .i64 0, .string ⟨#[]⟩, .string b]) ∧ Below W.heap.size W W') := Lib.hid fun W hW => by
    have r := H5.out.1.below hW
    have hA := r.m.p.rows i g _ HO3.out.2 HF.out.2.1
    have hk : W.cell? ⟨o, 11, none⟩ = some (.int .i64 M.st) := by rw [← HO3.out.1]; exact r.m.own.cell 11 rfl
    have := ob_dg o M.st x HF.out.2.2.2.2.1 j g sf b ws hk hA HF.out.2.2.1
    rw [HD.out] at this
    exact this
  have KP : Hid (∀ W, Below w5.heap.size w5 W → W.cell? ⟨b4, 0, none⟩ = some (.int .u32 x) ∧ W.cell? ⟨b4, 1, none⟩ = some (.int .i64 (j : Nat)) ∧ W.cell? ⟨b5, 0, none⟩ = some (.slice (some ⟨g, 0, none⟩) sf.T.length sf.T.length) ∧ W.cell? ⟨b5, 1, none⟩ = some (.int .i64 (sf.m : Nat)) ∧ W.cell? ⟨b5, 2, none⟩ = some (.int .i64 (sf.z : Nat))) := Lib.hid fun W hW => by
    have a := H5.out.2.2.2.1.below hW H5.out.2.2.2.1.lt
    have b := H5.out.2.2.2.2.below hW H5.out.2.2.2.2.lt
    exact ⟨a.cell 0 rfl, a.cell 1 rfl, b.cell 0 rfl, b.cell 1 rfl, b.cell 2 rfl⟩
  have QQ : Hid (Below w5.heap.size w5 w5.drew) := Lib.hid (Below.refl w5.heap.size w5).drew
  have QB : Hid (Below w5.heap.size w5 (w5.alloc (.cells #[.int .i64 0, .int .i64 0, .int .u32 0, .int .i64 0, .int .i64 0, .int .i64 0, .int .i64 0, .int .i64 0, .string ⟨#[]⟩, .string ⟨#[]⟩] 27)).drew) := Lib.hid ((Below.refl w5.heap.size w5).alloc (Nat.le_refl _) _).drew
  have HZ0 : Hid (At (w5.alloc (.cells #[.int .i64 0, .int .i64 0, .int .u32 0, .int .i64 0, .int .i64 0, .int .i64 0, .int .i64 0, .int .i64 0, .string ⟨#[]⟩, .string ⟨#[]⟩] 27)).drew w5.heap.size 27 obZ.cells) := Lib.hid (At.new w5 27 obZ.cells)
  have n4 : b4 ≠ w5.heap.size := by have := H5.out.2.2.2.1.lt; omega
  have n5 : b5 ≠ w5.heap.size := by have := H5.out.2.2.2.2.lt; omega
  obtain ⟨k40, k41, k50, k51, k52⟩ := KP.out _ QQ.out
  go_region_held3 (fun W => W.cell? ⟨b4, 0, none⟩ = some (.int .u32 x) ∧ W.cell? ⟨b4, 1, none⟩ = some (.int .i64 (j : Nat)) ∧ W.cell? ⟨b5, 0, none⟩ = some (.slice (some ⟨g, 0, none⟩) sf.T.length sf.T.length) ∧ W.cell? ⟨b5, 1, none⟩ = some (.int .i64 (sf.m : Nat)) ∧ W.cell? ⟨b5, 2, none⟩ = some (.int .i64 (sf.z : Nat)))
    (first | with_reducible exact KP.out _ QQ.out | with_reducible exact KP.out _ QB.out | with_reducible exact KP.out _ (QQ.out.alloc QQ.out.size _) | with_reducible exact HST.out | go_keep)
    (first
    | ((with_reducible refine (HDG.out _ QQ.out).mono ?_); rintro e wq ⟨rfl, gq⟩; have QN := Lib.hid (QQ.out.trans (gq.mono QQ.out.size)); clear gq QQ; have QQ := QN; clear QN)
    | ((with_reducible refine (HDG.out _ QB.out).mono ?_); rintro e wq ⟨rfl, gq⟩; have QN := Lib.hid (QB.out.trans (gq.mono QB.out.size)); have HZ1 := Lib.hid (HZ0.out.below gq HZ0.out.lt); clear gq QQ; have QQ := QN; clear QN; have z0 := HZ1.out.cell 0 rfl; have zf0 := HZ1.out.free 0; have z1 := HZ1.out.cell 1 rfl; have zf1 := HZ1.out.free 1; have z2 := HZ1.out.cell 2 rfl; have zf2 := HZ1.out.free 2; have z3 := HZ1.out.cell 3 rfl; have zf3 := HZ1.out.free 3; have z4 := HZ1.out.cell 4 rfl; have zf4 := HZ1.out.free 4; have z5 := HZ1.out.cell 5 rfl; have zf5 := HZ1.out.free 5; have z6 := HZ1.out.cell 6 rfl; have zf6 := HZ1.out.free 6; have z7 := HZ1.out.cell 7 rfl; have zf7 := HZ1.out.free 7; have z8 := HZ1.out.cell 8 rfl; have zf8 := HZ1.out.free 8; have z9 := HZ1.out.cell 9 rfl; have zf9 := HZ1.out.free 9; have HST : Hid (((((((((((wq.setCell ⟨w5.heap.size, 0, none⟩ (.int .i64 2)).setCell ⟨w5.heap.size, 1, none⟩ (.int .i64 M.st)).setCell ⟨w5.heap.size, 2, none⟩ (.int .u32 (X : Nat))).setCell ⟨w5.heap.size, 3, none⟩ (.int .i64 (j : Nat))).setCell ⟨w5.heap.size, 4, none⟩ (.int .i64 (sf.m : Nat))).setCell ⟨w5.heap.size, 5, none⟩ (.int .i64 (sf.T.length : Nat))).setCell ⟨w5.heap.size, 6, none⟩ (.int .i64 (sf.z : Nat))).setCell ⟨w5.heap.size, 7, none⟩ (.int .i64 0)).setCell ⟨w5.heap.size, 8, none⟩ (.string ⟨#[]⟩)).setCell ⟨w5.heap.size, 9, none⟩ (.string b)).cell? ⟨b4, 0, none⟩ = some (.int .u32 x) ∧ ((((((((((wq.setCell ⟨w5.heap.size, 0, none⟩ (.int .i64 2)).setCell ⟨w5.heap.size, 1, none⟩ (.int .i64 M.st)).setCell ⟨w5.heap.size, 2, none⟩ (.int .u32 (X : Nat))).setCell ⟨w5.heap.size, 3, none⟩ (.int .i64 (j : Nat))).setCell ⟨w5.heap.size, 4, none⟩ (.int .i64 (sf.m : Nat))).setCell ⟨w5.heap.size, 5, none⟩ (.int .i64 (sf.T.length : Nat))).setCell ⟨w5.heap.size, 6, none⟩ (.int .i64 (sf.z : Nat))).setCell ⟨w5.heap.size, 7, none⟩ (.int .i64 0)).setCell ⟨w5.heap.size, 8, none⟩ (.string ⟨#[]⟩)).setCell ⟨w5.heap.size, 9, none⟩ (.string b)).cell? ⟨b4, 1, none⟩ = some (.int .i64 (j : Nat)) ∧ ((((((((((wq.setCell ⟨w5.heap.size, 0, none⟩ (.int .i64 2)).setCell ⟨w5.heap.size, 1, none⟩ (.int .i64 M.st)).setCell ⟨w5.heap.size, 2, none⟩ (.int .u32 (X : Nat))).setCell ⟨w5.heap.size, 3, none⟩ (.int .i64 (j : Nat))).setCell ⟨w5.heap.size, 4, none⟩ (.int .i64 (sf.m : Nat))).setCell ⟨w5.heap.size, 5, none⟩ (.int .i64 (sf.T.length : Nat))).setCell ⟨w5.heap.size, 6, none⟩ (.int .i64 (sf.z : Nat))).setCell ⟨w5.heap.size, 7, none⟩ (.int .i64 0)).setCell ⟨w5.heap.size, 8, none⟩ (.string ⟨#[]⟩)).setCell ⟨w5.heap.size, 9, none⟩ (.string b)).cell? ⟨b5, 0, none⟩ = some (.slice (some ⟨g, 0, none⟩) sf.T.length sf.T.length) ∧ ((((((((((wq.setCell ⟨w5.heap.size, 0, none⟩ (.int .i64 2)).setCell ⟨w5.heap.size, 1, none⟩ (.int .i64 M.st)).setCell ⟨w5.heap.size, 2, none⟩ (.int .u32 (X : Nat))).setCell ⟨w5.heap.size, 3, none⟩ (.int .i64 (j : Nat))).setCell ⟨w5.heap.size, 4, none⟩ (.int .i64 (sf.m : Nat))).setCell ⟨w5.heap.size, 5, none⟩ (.int .i64 (sf.T.length : Nat))).setCell ⟨w5.heap.size, 6, none⟩ (.int .i64 (sf.z : Nat))).setCell ⟨w5.heap.size, 7, none⟩ (.int .i64 0)).setCell ⟨w5.heap.size, 8, none⟩ (.string ⟨#[]⟩)).setCell ⟨w5.heap.size, 9, none⟩ (.string b)).cell? ⟨b5, 1, none⟩ = some (.int .i64 (sf.m : Nat)) ∧ ((((((((((wq.setCell ⟨w5.heap.size, 0, none⟩ (.int .i64 2)).setCell ⟨w5.heap.size, 1, none⟩ (.int .i64 M.st)).setCell ⟨w5.heap.size, 2, none⟩ (.int .u32 (X : Nat))).setCell ⟨w5.heap.size, 3, none⟩ (.int .i64 (j : Nat))).setCell ⟨w5.heap.size, 4, none⟩ (.int .i64 (sf.m : Nat))).setCell ⟨w5.heap.size, 5, none⟩ (.int .i64 (sf.T.length : Nat))).setCell ⟨w5.heap.size, 6, none⟩ (.int .i64 (sf.z : Nat))).setCell ⟨w5.heap.size, 7, none⟩ (.int .i64 0)).setCell ⟨w5.heap.size, 8, none⟩ (.string ⟨#[]⟩)).setCell ⟨w5.heap.size, 9, none⟩ (.string b)).cell? ⟨b5, 2, none⟩ = some (.int .i64 (sf.z : Nat))) := Lib.hid (KP.out (obdset wq w5.heap.size (⟨2, M.st, X, (j : Nat), (sf.m : Nat), (sf.T.length : Nat), (sf.z : Nat), 0, ⟨#[]⟩, b⟩ : Dg)) (obdset_below (⟨2, M.st, X, (j : Nat), (sf.m : Nat), (sf.T.length : Nat), (sf.z : Nat), 0, ⟨#[]⟩, b⟩ : Dg) QQ.out (Nat.le_refl _) (Nat.le_refl _)))))
  · have a7 := At.new wq 27 ((⟨2, M.st, X, (j : Nat), (sf.m : Nat), (sf.T.length : Nat), (sf.z : Nat), 0, ⟨#[]⟩, b⟩ : Dg)).cells
    have hb7 : Below w5.heap.size w5 (wq.alloc (.cells #[.int .i64 2, .int .i64 M.st, .int .u32 (X : Nat), .int .i64 (j : Nat), .int .i64 (sf.m : Nat), .int .i64 (sf.T.length : Nat), .int .i64 (sf.z : Nat), .int .i64 0, .string ⟨#[]⟩, .string b] 27)) := QQ.out.alloc QQ.out.size _
    have H7 : Hid (At (wq.alloc (.cells #[.int .i64 2, .int .i64 M.st, .int .u32 (X : Nat), .int .i64 (j : Nat), .int .i64 (sf.m : Nat), .int .i64 (sf.T.length : Nat), .int .i64 (sf.z : Nat), .int .i64 0, .string ⟨#[]⟩, .string b] 27)) wq.heap.size 27 ((⟨2, M.st, X, (j : Nat), (sf.m : Nat), (sf.T.length : Nat), (sf.z : Nat), 0, ⟨#[]⟩, b⟩ : Dg)).cells ∧ Below w5.heap.size w5 (wq.alloc (.cells #[.int .i64 2, .int .i64 M.st, .int .u32 (X : Nat), .int .i64 (j : Nat), .int .i64 (sf.m : Nat), .int .i64 (sf.T.length : Nat), .int .i64 (sf.z : Nat), .int .i64 0, .string ⟨#[]⟩, .string b] 27)) ∧ w5.heap.size ≤ wq.heap.size) := Lib.hid ⟨a7, hb7, QQ.out.size⟩
    clear a7 hb7 k40 k41 k50 k51 k52 QQ QB HZ0 KP HDG n4 n5
    generalize wq.alloc (.cells #[.int .i64 2, .int .i64 M.st, .int .u32 (X : Nat), .int .i64 (j : Nat), .int .i64 (sf.m : Nat), .int .i64 (sf.T.length : Nat), .int .i64 (sf.z : Nat), .int .i64 0, .string ⟨#[]⟩, .string b] 27) = w7 at *
    generalize wq.heap.size = b7 at *
    have r7 := H5.out.1.below H7.out.2.1
    have T7 := H5.out.2.1.trans (obt_below _ H7.out.2.1)
    have a2 := H5.out.2.2.1.below H7.out.2.1 H5.out.2.2.1.lt
    have hw5 : w.heap.size ≤ w5.heap.size := by have := H5.out.2.2.1.lt; omega
    have hA7 := r7.m.p.rows i g sf HO3.out.2 HF.out.2.1
    have s1 := hA7.cell _ (obShc_at _ _ _ HF.out.2.2.1).2
    have s1f := hA7.free (j * 2 + 1)
    have hsd := r7.m.shard_ HO3.out.2 HF.out.2.1 (obShc_wait _ _ _ HF.out.2.2.1 false) (by simp)
    have a78 := H7.out.1.tn hsd.2.tn (HNO.out b7 (by have := H7.out.2.2; omega))
    have a28 := a2.tn hsd.2.tn (HNO.out _ (Nat.le_refl _))
    have T8 := T7.trans hsd.2
    have hsf8 : (M.S.set i { sf with T := sf.T.set j (b, false) })[i]? = some { sf with T := sf.T.set j (b, false) } := List.getElem?_set_self (List.getElem?_eq_some_iff.1 HF.out.2.1).1
    have hj8 : (sf.T.set j (b, false))[j]? = some (b, false) := List.getElem?_set_self (List.getElem?_eq_some_iff.1 HF.out.2.2.1).1
    have hA8 := hsd.1.p.rows i g _ HO3.out.2 hsf8
    have s0 := hA8.cell _ (obShc_at _ _ _ hj8).1
    have s0f := hA8.free (j * 2)
    have hsd2 := hsd.1.shard_ HO3.out.2 hsf8 (obShc_body _ _ _ hj8 ⟨#[]⟩) (by simp)
    rw [List.set_set] at hsd2
    have a79 := a78.tn hsd2.2.tn (HNO.out b7 (by have := H7.out.2.2; omega))
    have a29 := a28.tn hsd2.2.tn (HNO.out _ (Nat.le_refl _))
    have T9 := T8.trans hsd2.2
    have hI8 := obI_wait HH.out.i HF.out.2.1 (j := j) ⟨#[]⟩ (by decide) false U'
    have hm9 : Obm ((w7.setCell ⟨g, j * 2 + 1, none⟩ (.bool false)).setCell ⟨g, j * 2, none⟩ (.string ⟨#[]⟩)) Y3 { M with S := M.S.set i { sf with T := sf.T.set j (⟨#[]⟩, false) }, U := U' } := by
      have q := hsd2.1
      simp only [List.set_set] at q
      exact q
    have HE : Hid (At (obdset ((w7.setCell ⟨g, j * 2 + 1, none⟩ (.bool false)).setCell ⟨g, j * 2, none⟩ (.string ⟨#[]⟩)) w.heap.size (⟨2, M.st, X, (j : Nat), (sf.m : Nat), (sf.T.length : Nat), (sf.z : Nat), 0, ⟨#[]⟩, b⟩ : Dg)) w.heap.size 27 ((⟨2, M.st, X, (j : Nat), (sf.m : Nat), (sf.T.length : Nat), (sf.z : Nat), 0, ⟨#[]⟩, b⟩ : Dg)).cells ∧ Ob (obdset ((w7.setCell ⟨g, j * 2 + 1, none⟩ (.bool false)).setCell ⟨g, j * 2, none⟩ (.string ⟨#[]⟩)) w.heap.size (⟨2, M.st, X, (j : Nat), (sf.m : Nat), (sf.T.length : Nat), (sf.z : Nat), 0, ⟨#[]⟩, b⟩ : Dg)) Y3 { M with S := M.S.set i { sf with T := sf.T.set j (⟨#[]⟩, false) }, U := U' } ∧ ObT w (obdset ((w7.setCell ⟨g, j * 2 + 1, none⟩ (.bool false)).setCell ⟨g, j * 2, none⟩ (.string ⟨#[]⟩)) w.heap.size (⟨2, M.st, X, (j : Nat), (sf.m : Nat), (sf.T.length : Nat), (sf.z : Nat), 0, ⟨#[]⟩, b⟩ : Dg)) Y Y3) := Lib.hid ⟨obdset_at (d0 := obZ) (⟨2, M.st, X, (j : Nat), (sf.m : Nat), (sf.T.length : Nat), (sf.z : Nat), 0, ⟨#[]⟩, b⟩ : Dg) a29, Ob.tn ⟨hm9, hI8⟩ (obdset_tn _ _ _) (fun q hq e => HNO.out _ (Nat.le_refl _) (by rw [← show q = w.heap.size from e]; exact hq)), ⟨T9.tn.trans' (obdset_tn _ _ _) (fun q hq e => by rw [show q = w.heap.size from e] at hq; omega), T9.new, T9.o⟩⟩
    have x7 := a78.cell 0 rfl
    obtain ⟨c0, c1, c2, c3, c4, c5, c6, c7, c8, c9⟩ : ((w7.setCell ⟨g, j * 2 + 1, none⟩ (.bool false)).setCell ⟨g, j * 2, none⟩ (.string ⟨#[]⟩)).cell? ⟨b7, 0, none⟩ = some (.int .i64 2) ∧ ((w7.setCell ⟨g, j * 2 + 1, none⟩ (.bool false)).setCell ⟨g, j * 2, none⟩ (.string ⟨#[]⟩)).cell? ⟨b7, 1, none⟩ = some (.int .i64 M.st) ∧ ((w7.setCell ⟨g, j * 2 + 1, none⟩ (.bool false)).setCell ⟨g, j * 2, none⟩ (.string ⟨#[]⟩)).cell? ⟨b7, 2, none⟩ = some (.int .u32 (X : Nat)) ∧ ((w7.setCell ⟨g, j * 2 + 1, none⟩ (.bool false)).setCell ⟨g, j * 2, none⟩ (.string ⟨#[]⟩)).cell? ⟨b7, 3, none⟩ = some (.int .i64 (j : Nat)) ∧ ((w7.setCell ⟨g, j * 2 + 1, none⟩ (.bool false)).setCell ⟨g, j * 2, none⟩ (.string ⟨#[]⟩)).cell? ⟨b7, 4, none⟩ = some (.int .i64 (sf.m : Nat)) ∧ ((w7.setCell ⟨g, j * 2 + 1, none⟩ (.bool false)).setCell ⟨g, j * 2, none⟩ (.string ⟨#[]⟩)).cell? ⟨b7, 5, none⟩ = some (.int .i64 (sf.T.length : Nat)) ∧ ((w7.setCell ⟨g, j * 2 + 1, none⟩ (.bool false)).setCell ⟨g, j * 2, none⟩ (.string ⟨#[]⟩)).cell? ⟨b7, 6, none⟩ = some (.int .i64 (sf.z : Nat)) ∧ ((w7.setCell ⟨g, j * 2 + 1, none⟩ (.bool false)).setCell ⟨g, j * 2, none⟩ (.string ⟨#[]⟩)).cell? ⟨b7, 7, none⟩ = some (.int .i64 0) ∧ ((w7.setCell ⟨g, j * 2 + 1, none⟩ (.bool false)).setCell ⟨g, j * 2, none⟩ (.string ⟨#[]⟩)).cell? ⟨b7, 8, none⟩ = some (.string ⟨#[]⟩) ∧ ((w7.setCell ⟨g, j * 2 + 1, none⟩ (.bool false)).setCell ⟨g, j * 2, none⟩ (.string ⟨#[]⟩)).cell? ⟨b7, 9, none⟩ = some (.string b) := ⟨a79.cell 0 rfl, a79.cell 1 rfl, a79.cell 2 rfl, a79.cell 3 rfl, a79.cell 4 rfl, a79.cell 5 rfl, a79.cell 6 rfl, a79.cell 7 rfl, a79.cell 8 rfl, a79.cell 9 rfl⟩
    obtain ⟨z0, z1, z2, z3, z4, z5, z6, z7, z8, z9⟩ : ((w7.setCell ⟨g, j * 2 + 1, none⟩ (.bool false)).setCell ⟨g, j * 2, none⟩ (.string ⟨#[]⟩)).cell? ⟨w.heap.size, 0, none⟩ = some (.int .i64 0) ∧ ((w7.setCell ⟨g, j * 2 + 1, none⟩ (.bool false)).setCell ⟨g, j * 2, none⟩ (.string ⟨#[]⟩)).cell? ⟨w.heap.size, 1, none⟩ = some (.int .i64 0) ∧ ((w7.setCell ⟨g, j * 2 + 1, none⟩ (.bool false)).setCell ⟨g, j * 2, none⟩ (.string ⟨#[]⟩)).cell? ⟨w.heap.size, 2, none⟩ = some (.int .u32 0) ∧ ((w7.setCell ⟨g, j * 2 + 1, none⟩ (.bool false)).setCell ⟨g, j * 2, none⟩ (.string ⟨#[]⟩)).cell? ⟨w.heap.size, 3, none⟩ = some (.int .i64 0) ∧ ((w7.setCell ⟨g, j * 2 + 1, none⟩ (.bool false)).setCell ⟨g, j * 2, none⟩ (.string ⟨#[]⟩)).cell? ⟨w.heap.size, 4, none⟩ = some (.int .i64 0) ∧ ((w7.setCell ⟨g, j * 2 + 1, none⟩ (.bool false)).setCell ⟨g, j * 2, none⟩ (.string ⟨#[]⟩)).cell? ⟨w.heap.size, 5, none⟩ = some (.int .i64 0) ∧ ((w7.setCell ⟨g, j * 2 + 1, none⟩ (.bool false)).setCell ⟨g, j * 2, none⟩ (.string ⟨#[]⟩)).cell? ⟨w.heap.size, 6, none⟩ = some (.int .i64 0) ∧ ((w7.setCell ⟨g, j * 2 + 1, none⟩ (.bool false)).setCell ⟨g, j * 2, none⟩ (.string ⟨#[]⟩)).cell? ⟨w.heap.size, 7, none⟩ = some (.int .i64 0) ∧ ((w7.setCell ⟨g, j * 2 + 1, none⟩ (.bool false)).setCell ⟨g, j * 2, none⟩ (.string ⟨#[]⟩)).cell? ⟨w.heap.size, 8, none⟩ = some (.string ⟨#[]⟩) ∧ ((w7.setCell ⟨g, j * 2 + 1, none⟩ (.bool false)).setCell ⟨g, j * 2, none⟩ (.string ⟨#[]⟩)).cell? ⟨w.heap.size, 9, none⟩ = some (.string ⟨#[]⟩) := ⟨a29.cell 0 rfl, a29.cell 1 rfl, a29.cell 2 rfl, a29.cell 3 rfl, a29.cell 4 rfl, a29.cell 5 rfl, a29.cell 6 rfl, a29.cell 7 rfl, a29.cell 8 rfl, a29.cell 9 rfl⟩
    obtain ⟨q0, q1, q2, q3, q4, q5, q6, q7, q8, q9⟩ : ((w7.setCell ⟨g, j * 2 + 1, none⟩ (.bool false)).setCell ⟨g, j * 2, none⟩ (.string ⟨#[]⟩)).frozen? ⟨w.heap.size, 0, none⟩ = false ∧ ((w7.setCell ⟨g, j * 2 + 1, none⟩ (.bool false)).setCell ⟨g, j * 2, none⟩ (.string ⟨#[]⟩)).frozen? ⟨w.heap.size, 1, none⟩ = false ∧ ((w7.setCell ⟨g, j * 2 + 1, none⟩ (.bool false)).setCell ⟨g, j * 2, none⟩ (.string ⟨#[]⟩)).frozen? ⟨w.heap.size, 2, none⟩ = false ∧ ((w7.setCell ⟨g, j * 2 + 1, none⟩ (.bool false)).setCell ⟨g, j * 2, none⟩ (.string ⟨#[]⟩)).frozen? ⟨w.heap.size, 3, none⟩ = false ∧ ((w7.setCell ⟨g, j * 2 + 1, none⟩ (.bool false)).setCell ⟨g, j * 2, none⟩ (.string ⟨#[]⟩)).frozen? ⟨w.heap.size, 4, none⟩ = false ∧ ((w7.setCell ⟨g, j * 2 + 1, none⟩ (.bool false)).setCell ⟨g, j * 2, none⟩ (.string ⟨#[]⟩)).frozen? ⟨w.heap.size, 5, none⟩ = false ∧ ((w7.setCell ⟨g, j * 2 + 1, none⟩ (.bool false)).setCell ⟨g, j * 2, none⟩ (.string ⟨#[]⟩)).frozen? ⟨w.heap.size, 6, none⟩ = false ∧ ((w7.setCell ⟨g, j * 2 + 1, none⟩ (.bool false)).setCell ⟨g, j * 2, none⟩ (.string ⟨#[]⟩)).frozen? ⟨w.heap.size, 7, none⟩ = false ∧ ((w7.setCell ⟨g, j * 2 + 1, none⟩ (.bool false)).setCell ⟨g, j * 2, none⟩ (.string ⟨#[]⟩)).frozen? ⟨w.heap.size, 8, none⟩ = false ∧ ((w7.setCell ⟨g, j * 2 + 1, none⟩ (.bool false)).setCell ⟨g, j * 2, none⟩ (.string ⟨#[]⟩)).frozen? ⟨w.heap.size, 9, none⟩ = false := ⟨a29.free 0, a29.free 1, a29.free 2, a29.free 3, a29.free 4, a29.free 5, a29.free 6, a29.free 7, a29.free 8, a29.free 9⟩
    clear r7 T7 a2 hA7 hsd a78 a28 T8 hI8 hsf8 hj8 hA8 hsd2 a79 a29 T9 hm9
    generalize hw0 : w.heap.size = w0 at *
    go_wp2_with fail
    change bodyPost _ _ _ _ _ (obdset ((w7.setCell ⟨g, j * 2 + 1, none⟩ (.bool false)).setCell ⟨g, j * 2, none⟩ (.string ⟨#[]⟩)) w0 (⟨2, M.st, X, (j : Nat), (sf.m : Nat), (sf.T.length : Nat), (sf.z : Nat), 0, ⟨#[]⟩, b⟩ : Dg))
    exact bodyPost_ret (v := .tuple #[((⟨2, M.st, X, (j : Nat), (sf.m : Nat), (sf.T.length : Nat), (sf.z : Nat), 0, ⟨#[]⟩, b⟩ : Dg)).val, .bool true]) (res_pop rfl rfl HE.out.1) rfl ⟨rfl, _, HE.out.2⟩
  · have H7 : Hid (At ((((((((((wq.setCell ⟨w5.heap.size, 0, none⟩ (.int .i64 2)).setCell ⟨w5.heap.size, 1, none⟩ (.int .i64 M.st)).setCell ⟨w5.heap.size, 2, none⟩ (.int .u32 (X : Nat))).setCell ⟨w5.heap.size, 3, none⟩ (.int .i64 (j : Nat))).setCell ⟨w5.heap.size, 4, none⟩ (.int .i64 (sf.m : Nat))).setCell ⟨w5.heap.size, 5, none⟩ (.int .i64 (sf.T.length : Nat))).setCell ⟨w5.heap.size, 6, none⟩ (.int .i64 (sf.z : Nat))).setCell ⟨w5.heap.size, 7, none⟩ (.int .i64 0)).setCell ⟨w5.heap.size, 8, none⟩ (.string ⟨#[]⟩)).setCell ⟨w5.heap.size, 9, none⟩ (.string b)) w5.heap.size 27 ((⟨2, M.st, X, (j : Nat), (sf.m : Nat), (sf.T.length : Nat), (sf.z : Nat), 0, ⟨#[]⟩, b⟩ : Dg)).cells ∧ Below w5.heap.size w5 ((((((((((wq.setCell ⟨w5.heap.size, 0, none⟩ (.int .i64 2)).setCell ⟨w5.heap.size, 1, none⟩ (.int .i64 M.st)).setCell ⟨w5.heap.size, 2, none⟩ (.int .u32 (X : Nat))).setCell ⟨w5.heap.size, 3, none⟩ (.int .i64 (j : Nat))).setCell ⟨w5.heap.size, 4, none⟩ (.int .i64 (sf.m : Nat))).setCell ⟨w5.heap.size, 5, none⟩ (.int .i64 (sf.T.length : Nat))).setCell ⟨w5.heap.size, 6, none⟩ (.int .i64 (sf.z : Nat))).setCell ⟨w5.heap.size, 7, none⟩ (.int .i64 0)).setCell ⟨w5.heap.size, 8, none⟩ (.string ⟨#[]⟩)).setCell ⟨w5.heap.size, 9, none⟩ (.string b)) ∧ w5.heap.size ≤ w5.heap.size) := Lib.hid ⟨obdset_at (d0 := obZ) (⟨2, M.st, X, (j : Nat), (sf.m : Nat), (sf.T.length : Nat), (sf.z : Nat), 0, ⟨#[]⟩, b⟩ : Dg) HZ1.out, obdset_below (⟨2, M.st, X, (j : Nat), (sf.m : Nat), (sf.T.length : Nat), (sf.z : Nat), 0, ⟨#[]⟩, b⟩ : Dg) QQ.out (Nat.le_refl _) (Nat.le_refl _), Nat.le_refl _⟩
    clear z0 zf0 z1 zf1 z2 zf2 z3 zf3 z4 zf4 z5 zf5 z6 zf6 z7 zf7 z8 zf8 z9 zf9 HST k40 k41 k50 k51 k52 QQ QB HZ0 HZ1 KP HDG n4 n5
    generalize (((((((((wq.setCell ⟨w5.heap.size, 0, none⟩ (.int .i64 2)).setCell ⟨w5.heap.size, 1, none⟩ (.int .i64 M.st)).setCell ⟨w5.heap.size, 2, none⟩ (.int .u32 (X : Nat))).setCell ⟨w5.heap.size, 3, none⟩ (.int .i64 (j : Nat))).setCell ⟨w5.heap.size, 4, none⟩ (.int .i64 (sf.m : Nat))).setCell ⟨w5.heap.size, 5, none⟩ (.int .i64 (sf.T.length : Nat))).setCell ⟨w5.heap.size, 6, none⟩ (.int .i64 (sf.z : Nat))).setCell ⟨w5.heap.size, 7, none⟩ (.int .i64 0)).setCell ⟨w5.heap.size, 8, none⟩ (.string ⟨#[]⟩)).setCell ⟨w5.heap.size, 9, none⟩ (.string b) = w7 at *
    generalize hb7e : w5.heap.size = b7 at H7 ⊢
    rw [← hb7e] at H7
    have H7' : Hid (At w7 b7 27 ((⟨2, M.st, X, (j : Nat), (sf.m : Nat), (sf.T.length : Nat), (sf.z : Nat), 0, ⟨#[]⟩, b⟩ : Dg)).cells ∧ Below w5.heap.size w5 w7 ∧ w5.heap.size ≤ b7) := Lib.hid (by rw [← hb7e]; exact H7.out)
    clear H7
    have H7 := H7'
    clear H7' hb7e
    have r7 := H5.out.1.below H7.out.2.1
    have T7 := H5.out.2.1.trans (obt_below _ H7.out.2.1)
    have a2 := H5.out.2.2.1.below H7.out.2.1 H5.out.2.2.1.lt
    have hw5 : w.heap.size ≤ w5.heap.size := by have := H5.out.2.2.1.lt; omega
    have hA7 := r7.m.p.rows i g sf HO3.out.2 HF.out.2.1
    have s1 := hA7.cell _ (obShc_at _ _ _ HF.out.2.2.1).2
    have s1f := hA7.free (j * 2 + 1)
    have hsd := r7.m.shard_ HO3.out.2 HF.out.2.1 (obShc_wait _ _ _ HF.out.2.2.1 false) (by simp)
    have a78 := H7.out.1.tn hsd.2.tn (HNO.out b7 (by have := H7.out.2.2; omega))
    have a28 := a2.tn hsd.2.tn (HNO.out _ (Nat.le_refl _))
    have T8 := T7.trans hsd.2
    have hsf8 : (M.S.set i { sf with T := sf.T.set j (b, false) })[i]? = some { sf with T := sf.T.set j (b, false) } := List.getElem?_set_self (List.getElem?_eq_some_iff.1 HF.out.2.1).1
    have hj8 : (sf.T.set j (b, false))[j]? = some (b, false) := List.getElem?_set_self (List.getElem?_eq_some_iff.1 HF.out.2.2.1).1
    have hA8 := hsd.1.p.rows i g _ HO3.out.2 hsf8
    have s0 := hA8.cell _ (obShc_at _ _ _ hj8).1
    have s0f := hA8.free (j * 2)
    have hsd2 := hsd.1.shard_ HO3.out.2 hsf8 (obShc_body _ _ _ hj8 ⟨#[]⟩) (by simp)
    rw [List.set_set] at hsd2
    have a79 := a78.tn hsd2.2.tn (HNO.out b7 (by have := H7.out.2.2; omega))
    have a29 := a28.tn hsd2.2.tn (HNO.out _ (Nat.le_refl _))
    have T9 := T8.trans hsd2.2
    have hI8 := obI_wait HH.out.i HF.out.2.1 (j := j) ⟨#[]⟩ (by decide) false U'
    have hm9 : Obm ((w7.setCell ⟨g, j * 2 + 1, none⟩ (.bool false)).setCell ⟨g, j * 2, none⟩ (.string ⟨#[]⟩)) Y3 { M with S := M.S.set i { sf with T := sf.T.set j (⟨#[]⟩, false) }, U := U' } := by
      have q := hsd2.1
      simp only [List.set_set] at q
      exact q
    have HE : Hid (At (obdset ((w7.setCell ⟨g, j * 2 + 1, none⟩ (.bool false)).setCell ⟨g, j * 2, none⟩ (.string ⟨#[]⟩)) w.heap.size (⟨2, M.st, X, (j : Nat), (sf.m : Nat), (sf.T.length : Nat), (sf.z : Nat), 0, ⟨#[]⟩, b⟩ : Dg)) w.heap.size 27 ((⟨2, M.st, X, (j : Nat), (sf.m : Nat), (sf.T.length : Nat), (sf.z : Nat), 0, ⟨#[]⟩, b⟩ : Dg)).cells ∧ Ob (obdset ((w7.setCell ⟨g, j * 2 + 1, none⟩ (.bool false)).setCell ⟨g, j * 2, none⟩ (.string ⟨#[]⟩)) w.heap.size (⟨2, M.st, X, (j : Nat), (sf.m : Nat), (sf.T.length : Nat), (sf.z : Nat), 0, ⟨#[]⟩, b⟩ : Dg)) Y3 { M with S := M.S.set i { sf with T := sf.T.set j (⟨#[]⟩, false) }, U := U' } ∧ ObT w (obdset ((w7.setCell ⟨g, j * 2 + 1, none⟩ (.bool false)).setCell ⟨g, j * 2, none⟩ (.string ⟨#[]⟩)) w.heap.size (⟨2, M.st, X, (j : Nat), (sf.m : Nat), (sf.T.length : Nat), (sf.z : Nat), 0, ⟨#[]⟩, b⟩ : Dg)) Y Y3) := Lib.hid ⟨obdset_at (d0 := obZ) (⟨2, M.st, X, (j : Nat), (sf.m : Nat), (sf.T.length : Nat), (sf.z : Nat), 0, ⟨#[]⟩, b⟩ : Dg) a29, Ob.tn ⟨hm9, hI8⟩ (obdset_tn _ _ _) (fun q hq e => HNO.out _ (Nat.le_refl _) (by rw [← show q = w.heap.size from e]; exact hq)), ⟨T9.tn.trans' (obdset_tn _ _ _) (fun q hq e => by rw [show q = w.heap.size from e] at hq; omega), T9.new, T9.o⟩⟩
    have x7 := a78.cell 0 rfl
    obtain ⟨c0, c1, c2, c3, c4, c5, c6, c7, c8, c9⟩ : ((w7.setCell ⟨g, j * 2 + 1, none⟩ (.bool false)).setCell ⟨g, j * 2, none⟩ (.string ⟨#[]⟩)).cell? ⟨b7, 0, none⟩ = some (.int .i64 2) ∧ ((w7.setCell ⟨g, j * 2 + 1, none⟩ (.bool false)).setCell ⟨g, j * 2, none⟩ (.string ⟨#[]⟩)).cell? ⟨b7, 1, none⟩ = some (.int .i64 M.st) ∧ ((w7.setCell ⟨g, j * 2 + 1, none⟩ (.bool false)).setCell ⟨g, j * 2, none⟩ (.string ⟨#[]⟩)).cell? ⟨b7, 2, none⟩ = some (.int .u32 (X : Nat)) ∧ ((w7.setCell ⟨g, j * 2 + 1, none⟩ (.bool false)).setCell ⟨g, j * 2, none⟩ (.string ⟨#[]⟩)).cell? ⟨b7, 3, none⟩ = some (.int .i64 (j : Nat)) ∧ ((w7.setCell ⟨g, j * 2 + 1, none⟩ (.bool false)).setCell ⟨g, j * 2, none⟩ (.string ⟨#[]⟩)).cell? ⟨b7, 4, none⟩ = some (.int .i64 (sf.m : Nat)) ∧ ((w7.setCell ⟨g, j * 2 + 1, none⟩ (.bool false)).setCell ⟨g, j * 2, none⟩ (.string ⟨#[]⟩)).cell? ⟨b7, 5, none⟩ = some (.int .i64 (sf.T.length : Nat)) ∧ ((w7.setCell ⟨g, j * 2 + 1, none⟩ (.bool false)).setCell ⟨g, j * 2, none⟩ (.string ⟨#[]⟩)).cell? ⟨b7, 6, none⟩ = some (.int .i64 (sf.z : Nat)) ∧ ((w7.setCell ⟨g, j * 2 + 1, none⟩ (.bool false)).setCell ⟨g, j * 2, none⟩ (.string ⟨#[]⟩)).cell? ⟨b7, 7, none⟩ = some (.int .i64 0) ∧ ((w7.setCell ⟨g, j * 2 + 1, none⟩ (.bool false)).setCell ⟨g, j * 2, none⟩ (.string ⟨#[]⟩)).cell? ⟨b7, 8, none⟩ = some (.string ⟨#[]⟩) ∧ ((w7.setCell ⟨g, j * 2 + 1, none⟩ (.bool false)).setCell ⟨g, j * 2, none⟩ (.string ⟨#[]⟩)).cell? ⟨b7, 9, none⟩ = some (.string b) := ⟨a79.cell 0 rfl, a79.cell 1 rfl, a79.cell 2 rfl, a79.cell 3 rfl, a79.cell 4 rfl, a79.cell 5 rfl, a79.cell 6 rfl, a79.cell 7 rfl, a79.cell 8 rfl, a79.cell 9 rfl⟩
    obtain ⟨z0, z1, z2, z3, z4, z5, z6, z7, z8, z9⟩ : ((w7.setCell ⟨g, j * 2 + 1, none⟩ (.bool false)).setCell ⟨g, j * 2, none⟩ (.string ⟨#[]⟩)).cell? ⟨w.heap.size, 0, none⟩ = some (.int .i64 0) ∧ ((w7.setCell ⟨g, j * 2 + 1, none⟩ (.bool false)).setCell ⟨g, j * 2, none⟩ (.string ⟨#[]⟩)).cell? ⟨w.heap.size, 1, none⟩ = some (.int .i64 0) ∧ ((w7.setCell ⟨g, j * 2 + 1, none⟩ (.bool false)).setCell ⟨g, j * 2, none⟩ (.string ⟨#[]⟩)).cell? ⟨w.heap.size, 2, none⟩ = some (.int .u32 0) ∧ ((w7.setCell ⟨g, j * 2 + 1, none⟩ (.bool false)).setCell ⟨g, j * 2, none⟩ (.string ⟨#[]⟩)).cell? ⟨w.heap.size, 3, none⟩ = some (.int .i64 0) ∧ ((w7.setCell ⟨g, j * 2 + 1, none⟩ (.bool false)).setCell ⟨g, j * 2, none⟩ (.string ⟨#[]⟩)).cell? ⟨w.heap.size, 4, none⟩ = some (.int .i64 0) ∧ ((w7.setCell ⟨g, j * 2 + 1, none⟩ (.bool false)).setCell ⟨g, j * 2, none⟩ (.string ⟨#[]⟩)).cell? ⟨w.heap.size, 5, none⟩ = some (.int .i64 0) ∧ ((w7.setCell ⟨g, j * 2 + 1, none⟩ (.bool false)).setCell ⟨g, j * 2, none⟩ (.string ⟨#[]⟩)).cell? ⟨w.heap.size, 6, none⟩ = some (.int .i64 0) ∧ ((w7.setCell ⟨g, j * 2 + 1, none⟩ (.bool false)).setCell ⟨g, j * 2, none⟩ (.string ⟨#[]⟩)).cell? ⟨w.heap.size, 7, none⟩ = some (.int .i64 0) ∧ ((w7.setCell ⟨g, j * 2 + 1, none⟩ (.bool false)).setCell ⟨g, j * 2, none⟩ (.string ⟨#[]⟩)).cell? ⟨w.heap.size, 8, none⟩ = some (.string ⟨#[]⟩) ∧ ((w7.setCell ⟨g, j * 2 + 1, none⟩ (.bool false)).setCell ⟨g, j * 2, none⟩ (.string ⟨#[]⟩)).cell? ⟨w.heap.size, 9, none⟩ = some (.string ⟨#[]⟩) := ⟨a29.cell 0 rfl, a29.cell 1 rfl, a29.cell 2 rfl, a29.cell 3 rfl, a29.cell 4 rfl, a29.cell 5 rfl, a29.cell 6 rfl, a29.cell 7 rfl, a29.cell 8 rfl, a29.cell 9 rfl⟩
    obtain ⟨q0, q1, q2, q3, q4, q5, q6, q7, q8, q9⟩ : ((w7.setCell ⟨g, j * 2 + 1, none⟩ (.bool false)).setCell ⟨g, j * 2, none⟩ (.string ⟨#[]⟩)).frozen? ⟨w.heap.size, 0, none⟩ = false ∧ ((w7.setCell ⟨g, j * 2 + 1, none⟩ (.bool false)).setCell ⟨g, j * 2, none⟩ (.string ⟨#[]⟩)).frozen? ⟨w.heap.size, 1, none⟩ = false ∧ ((w7.setCell ⟨g, j * 2 + 1, none⟩ (.bool false)).setCell ⟨g, j * 2, none⟩ (.string ⟨#[]⟩)).frozen? ⟨w.heap.size, 2, none⟩ = false ∧ ((w7.setCell ⟨g, j * 2 + 1, none⟩ (.bool false)).setCell ⟨g, j * 2, none⟩ (.string ⟨#[]⟩)).frozen? ⟨w.heap.size, 3, none⟩ = false ∧ ((w7.setCell ⟨g, j * 2 + 1, none⟩ (.bool false)).setCell ⟨g, j * 2, none⟩ (.string ⟨#[]⟩)).frozen? ⟨w.heap.size, 4, none⟩ = false ∧ ((w7.setCell ⟨g, j * 2 + 1, none⟩ (.bool false)).setCell ⟨g, j * 2, none⟩ (.string ⟨#[]⟩)).frozen? ⟨w.heap.size, 5, none⟩ = false ∧ ((w7.setCell ⟨g, j * 2 + 1, none⟩ (.bool false)).setCell ⟨g, j * 2, none⟩ (.string ⟨#[]⟩)).frozen? ⟨w.heap.size, 6, none⟩ = false ∧ ((w7.setCell ⟨g, j * 2 + 1, none⟩ (.bool false)).setCell ⟨g, j * 2, none⟩ (.string ⟨#[]⟩)).frozen? ⟨w.heap.size, 7, none⟩ = false ∧ ((w7.setCell ⟨g, j * 2 + 1, none⟩ (.bool false)).setCell ⟨g, j * 2, none⟩ (.string ⟨#[]⟩)).frozen? ⟨w.heap.size, 8, none⟩ = false ∧ ((w7.setCell ⟨g, j * 2 + 1, none⟩ (.bool false)).setCell ⟨g, j * 2, none⟩ (.string ⟨#[]⟩)).frozen? ⟨w.heap.size, 9, none⟩ = false := ⟨a29.free 0, a29.free 1, a29.free 2, a29.free 3, a29.free 4, a29.free 5, a29.free 6, a29.free 7, a29.free 8, a29.free 9⟩
    clear r7 T7 a2 hA7 hsd a78 a28 T8 hI8 hsf8 hj8 hA8 hsd2 a79 a29 T9 hm9
    generalize hw0 : w.heap.size = w0 at *
    go_wp2_with fail
    change bodyPost _ _ _ _ _ (obdset ((w7.setCell ⟨g, j * 2 + 1, none⟩ (.bool false)).setCell ⟨g, j * 2, none⟩ (.string ⟨#[]⟩)) w0 (⟨2, M.st, X, (j : Nat), (sf.m : Nat), (sf.T.length : Nat), (sf.z : Nat), 0, ⟨#[]⟩, b⟩ : Dg))
    exact bodyPost_ret (v := .tuple #[((⟨2, M.st, X, (j : Nat), (sf.m : Nat), (sf.T.length : Nat), (sf.z : Nat), 0, ⟨#[]⟩, b⟩ : Dg)).val, .bool true]) (res_pop rfl rfl HE.out.1) rfl ⟨rfl, _, HE.out.2⟩
set_option maxRecDepth 100000 in
set_option maxHeartbeats 3200000 in
theorem ob_pop_gone (h : Ob w Y M) {x y : Int} {U' : List (Int × Int)} (hU : M.U = (x, y) :: U') (hux : U32 x) (hi : inZ x (fb M.nx M.L.length) (M.S.length : Nat) = false) :
    Calls Tryz.prog 4 #[.pointer (some ⟨Y.o, 0, none⟩)] w (GivesOb w Y (.tuple #[obZ.val, .bool false]) { M with U := U' }) := by
  obtain ⟨w1, HW, hx1, hb1⟩ := ob_zbox w
  have h1 := h.below hb1
  have hB2 : Below w1.heap.size w1 (w1.alloc (.cells #[.int .u32 x, .int .i64 y] 52)) := (Below.refl _ _).alloc (Nat.le_refl _) _
  obtain ⟨gu, ou, cap, A', cap', hv, p0, p1, hcap, hsl, -, -⟩ := ob_pop_rest h1 hU
  obtain ⟨gu2, ou2, cap2, A2, cap2', hv2, -, -, -, hsl2, h3, t3⟩ := ob_pop_rest (h1.below hB2) hU
  rw [hv] at hv2
  injection hv2 with e1 _ e2
  injection e1 with e1
  injection e1 with e1 e3
  subst e1 e2 e3
  have e4 := (hsl w1).symm.trans (hsl2 w1)
  injection e4 with e4
  injection e4 with e4 _ e5
  subst e4 e5
  clear hsl2
  have k16 : w1.cell? ⟨Y.o, 16, none⟩ = some (.slice (some ⟨gu, ou, none⟩) (U'.length + 1) cap) := by rw [← hv]; exact h1.m.own.cell 16 rfl
  have h2 := h1.below hB2
  have k16b : (w1.alloc (.cells #[.int .u32 x, .int .i64 y] 52)).cell? ⟨Y.o, 16, none⟩ = some (.slice (some ⟨gu, ou, none⟩) (U'.length + 1) cap) := by rw [← hv]; exact h2.m.own.cell 16 rfl
  have f16b := h2.m.own.free 16
  obtain ⟨Y3, hY3⟩ : ∃ Y3 : ObY, Y3 = { Y with vu := .slice A' U'.length cap' } := ⟨_, rfl⟩
  rw [← hY3] at h3 t3
  have HNO : Hid (∀ q, w.heap.size ≤ q → ¬ Y3.own q) := Lib.hid (by rw [hY3]; intro q hq e; have := h.m.lt (show Y.own q from e); omega)
  have HNY : Hid (∀ q, w.heap.size ≤ q → ¬ Y.own q) := Lib.hid (by intro q hq e; have := h.m.lt e; omega)
  have ho3 : Y3.o = Y.o := by rw [hY3]
  have HSH := Lib.hid (ob_sheaf_out h3 x hux hi)
  rw [ho3] at HSH
  clear hY3 ho3
  have hn0 : ((((U'.length + 1 : Nat) : Int)) == 0) = false := by simp; omega
  have hn1 : (0 : Int) < ((U'.length : Nat) : Int) + 1 := by omega
  have hn2 : (1 : Int) ≤ ((U'.length : Nat) : Int) + 1 := by omega
  have HX1 := Lib.hid hx1
  have HB1 := Lib.hid hb1
  have HH := Lib.hid h
  have H3 := Lib.hid (And.intro h3 t3)
  have HB2 := Lib.hid hB2
  clear h h1 h2 h3 t3 hx1 hb1 hB2 hU hux hi hv
  generalize hoo : Y.o = o at *
  have HOO := Lib.hid hoo
  clear hoo
  go_enter Tryz.func4, Tryz.ntmps4
  go_upto_region 1 with fail
  rw [← HW]; clear HW
  go_wp2_with fail
  clear p0 p1 k16 k16b f16b hsl
  have HE3 : Hid (Below w.heap.size w (w1.alloc (.cells #[.int .u32 x, .int .i64 y] 52)) ∧ At (w1.alloc (.cells #[.int .u32 x, .int .i64 y] 52)) w.heap.size 27 obZ.cells) := Lib.hid ⟨HB1.out.trans (HB2.out.mono HB1.out.size), HX1.out.alloc _⟩
  clear HX1 HB1 HB2
  generalize hwa : w1.alloc (.cells #[.int .u32 x, .int .i64 y] 52) = wa at *
  clear hwa
  generalize wa.setCell ⟨o, 16, none⟩ (.slice A' U'.length cap') = w3 at *
  refine HSH.out.mono ?_; rintro e w4 ⟨rfl, hb4⟩
  have hbx : Below w3.heap.size w3 (w4.alloc (.cells #[.slice none 0 0, .int .i64 0, .int .i64 0] 55)) := hb4.alloc hb4.size _
  have h5 := H3.out.1.below hbx
  have t5 := ((obt_below Y HE3.out.1).trans H3.out.2).trans (obt_below _ hbx)
  have a2 := (HE3.out.2.tn H3.out.2.tn (HNY.out _ (Nat.le_refl _))).below hbx (Nat.lt_of_lt_of_le HE3.out.2.lt H3.out.2.tn.size)
  have HE : Hid (At (obdset (w4.alloc (.cells #[.slice none 0 0, .int .i64 0, .int .i64 0] 55)) w.heap.size obZ) w.heap.size 27 obZ.cells ∧ Ob (obdset (w4.alloc (.cells #[.slice none 0 0, .int .i64 0, .int .i64 0] 55)) w.heap.size obZ) Y3 { M with U := U' } ∧ ObT w (obdset (w4.alloc (.cells #[.slice none 0 0, .int .i64 0, .int .i64 0] 55)) w.heap.size obZ) Y Y3) := Lib.hid ⟨obdset_at (d0 := obZ) obZ a2, h5.tn (obdset_tn _ _ _) (fun q hq e => HNO.out _ (Nat.le_refl _) (by rw [← show q = w.heap.size from e]; exact hq)), ⟨t5.tn.trans' (obdset_tn _ _ _) (fun q hq e => by rw [show q = w.heap.size from e] at hq; omega), t5.new, t5.o⟩⟩
  obtain ⟨z0, z1, z2, z3, z4, z5, z6, z7, z8, z9⟩ : (w4.alloc (.cells #[.slice none 0 0, .int .i64 0, .int .i64 0] 55)).cell? ⟨w.heap.size, 0, none⟩ = some (.int .i64 0) ∧ (w4.alloc (.cells #[.slice none 0 0, .int .i64 0, .int .i64 0] 55)).cell? ⟨w.heap.size, 1, none⟩ = some (.int .i64 0) ∧ (w4.alloc (.cells #[.slice none 0 0, .int .i64 0, .int .i64 0] 55)).cell? ⟨w.heap.size, 2, none⟩ = some (.int .u32 0) ∧ (w4.alloc (.cells #[.slice none 0 0, .int .i64 0, .int .i64 0] 55)).cell? ⟨w.heap.size, 3, none⟩ = some (.int .i64 0) ∧ (w4.alloc (.cells #[.slice none 0 0, .int .i64 0, .int .i64 0] 55)).cell? ⟨w.heap.size, 4, none⟩ = some (.int .i64 0) ∧ (w4.alloc (.cells #[.slice none 0 0, .int .i64 0, .int .i64 0] 55)).cell? ⟨w.heap.size, 5, none⟩ = some (.int .i64 0) ∧ (w4.alloc (.cells #[.slice none 0 0, .int .i64 0, .int .i64 0] 55)).cell? ⟨w.heap.size, 6, none⟩ = some (.int .i64 0) ∧ (w4.alloc (.cells #[.slice none 0 0, .int .i64 0, .int .i64 0] 55)).cell? ⟨w.heap.size, 7, none⟩ = some (.int .i64 0) ∧ (w4.alloc (.cells #[.slice none 0 0, .int .i64 0, .int .i64 0] 55)).cell? ⟨w.heap.size, 8, none⟩ = some (.string ⟨#[]⟩) ∧ (w4.alloc (.cells #[.slice none 0 0, .int .i64 0, .int .i64 0] 55)).cell? ⟨w.heap.size, 9, none⟩ = some (.string ⟨#[]⟩) := ⟨a2.cell 0 rfl, a2.cell 1 rfl, a2.cell 2 rfl, a2.cell 3 rfl, a2.cell 4 rfl, a2.cell 5 rfl, a2.cell 6 rfl, a2.cell 7 rfl, a2.cell 8 rfl, a2.cell 9 rfl⟩
  obtain ⟨q0, q1, q2, q3, q4, q5, q6, q7, q8, q9⟩ : (w4.alloc (.cells #[.slice none 0 0, .int .i64 0, .int .i64 0] 55)).frozen? ⟨w.heap.size, 0, none⟩ = false ∧ (w4.alloc (.cells #[.slice none 0 0, .int .i64 0, .int .i64 0] 55)).frozen? ⟨w.heap.size, 1, none⟩ = false ∧ (w4.alloc (.cells #[.slice none 0 0, .int .i64 0, .int .i64 0] 55)).frozen? ⟨w.heap.size, 2, none⟩ = false ∧ (w4.alloc (.cells #[.slice none 0 0, .int .i64 0, .int .i64 0] 55)).frozen? ⟨w.heap.size, 3, none⟩ = false ∧ (w4.alloc (.cells #[.slice none 0 0, .int .i64 0, .int .i64 0] 55)).frozen? ⟨w.heap.size, 4, none⟩ = false ∧ (w4.alloc (.cells #[.slice none 0 0, .int .i64 0, .int .i64 0] 55)).frozen? ⟨w.heap.size, 5, none⟩ = false ∧ (w4.alloc (.cells #[.slice none 0 0, .int .i64 0, .int .i64 0] 55)).frozen? ⟨w.heap.size, 6, none⟩ = false ∧ (w4.alloc (.cells #[.slice none 0 0, .int .i64 0, .int .i64 0] 55)).frozen? ⟨w.heap.size, 7, none⟩ = false ∧ (w4.alloc (.cells #[.slice none 0 0, .int .i64 0, .int .i64 0] 55)).frozen? ⟨w.heap.size, 8, none⟩ = false ∧ (w4.alloc (.cells #[.slice none 0 0, .int .i64 0, .int .i64 0] 55)).frozen? ⟨w.heap.size, 9, none⟩ = false := ⟨a2.free 0, a2.free 1, a2.free 2, a2.free 3, a2.free 4, a2.free 5, a2.free 6, a2.free 7, a2.free 8, a2.free 9⟩
  clear hbx h5 t5 a2 hb4 HSH H3 HE3
  generalize hw0 : w.heap.size = w0 at *
  go_wp2_with fail
  change bodyPost _ _ _ _ _ (obdset (w4.alloc (.cells #[.slice none 0 0, .int .i64 0, .int .i64 0] 55)) w0 obZ)
  exact bodyPost_ret (v := .tuple #[obZ.val, .bool false]) (res_pop rfl rfl HE.out.1) rfl ⟨rfl, _, HE.out.2⟩
end
end Go.Proofs.YtodokgkchmpmnaaGreat

/- Plain lemmas: what a stream sends, in the law's own first calls. No condition. -/
namespace Go.Proofs.YtodokgkchmpmnaaGreat
open Go.ChangeShapes Go.WideShapes Go.ChangeAt Go.RowKit

abbrev obA : ByteArray := ⟨#[97]⟩
abbrev obB : ByteArray := ⟨#[98]⟩
abbrev obAB : ByteArray := ⟨#[97, 98]⟩
abbrev obK1 : ByteArray := ⟨#[107]⟩
abbrev obK2 : ByteArray := ⟨#[229]⟩
theorem ob_shO : shO obAB 4 2 = [obA, obB, obK1, obK2] := by decide +kernel
abbrev obMk (s : ByteArray) (L : List Bl) (nx a : Int) (S : List ObS) (U : List (Int × Int)) (cl fin : Bool) : ObM := ⟨plainC, 3, s, nx, L, a, S, U, cl, fin⟩
abbrev obL1 : List Bl := [⟨obAB, 4, 0⟩]
abbrev obT (a b c d : ByteArray × Bool) : List ObS := [⟨[a, b, c, d], 2, 2⟩]
abbrev obE : ByteArray := ⟨#[]⟩
abbrev obM1 : ObM := obMk obAB [] 0 4 [] [] false false
abbrev obM2 : ObM := obMk obE obL1 1 4 (obT (obA, true) (obB, true) (obK1, true) (obK2, true)) [(0, 0), (0, 1), (0, 2), (0, 3)] false false
theorem ob_m1 : ({ obM0 plainC 3 with s := (obM0 plainC 3).s ++ obAB.extract 0 (wrK (obM0 plainC 3) obAB) } : ObM) = obM1 ∧ wrK (obM0 plainC 3) obAB = 2 := ⟨by kernel_rfl, by kernel_rfl⟩
theorem ob_f1 : goB obM1 = true := by kernel_rfl
theorem ob_f2 : goB obM2 = false := by kernel_rfl
theorem ob_cut1 : obM1.s.extract 0 (nxK (obn obM1) (flB obM1) obM1.s) = obAB ∧ ({ obM1 with s := obM1.s.extract (nxK (obn obM1) (flB obM1) obM1.s) obM1.s.size } : ObM) = obMk obE [] 0 4 [] [] false false := ⟨by kernel_rfl, by kernel_rfl⟩
theorem ob_fly1 : (flyM (obMk obE [] 0 4 [] [] false false) obAB 0).1 = obM2 ∧ (flyM (obMk obE [] 0 4 [] [] false false) obAB 0).2.length = 4 := by
  unfold flyM flyN
  rw [show (obMk obE [] 0 4 [] [] false false).c.k = 4 from rfl, show (obMk obE [] 0 4 [] [] false false).c.r = 2 from rfl, ob_shO]
  exact ⟨by kernel_rfl, by kernel_rfl⟩
theorem ob_fill1 : (fillM obM1 0).1 = obM2 ∧ (fillM obM1 0).2.length = 4 := by
  unfold fillM
  rw [show (64 : Nat) = 63 + 1 from rfl, fillF_more (s := (obM1, [])) ob_f1]
  unfold fillO
  dsimp only
  rw [ob_cut1.1, ob_cut1.2, ob_fly1.1, fillF_stop (s := (obM2, _)) ob_f2]
  exact ⟨rfl, by rw [List.nil_append]; exact ob_fly1.2⟩
/-- what lacks, once the first one is gone. -/
abbrev obM4 : ObM := obMk obE obL1 1 4 (obT (obA, false) (obB, true) (obK1, true) (obK2, true)) [(0, 1), (0, 2), (0, 3)] true false
abbrev obM5 : ObM := obMk obE obL1 1 4 (obT (obA, true) (obB, true) (obK1, true) (obK2, true)) [(0, 1), (0, 2), (0, 3), (0, 0)] true false
abbrev obM8 : ObM := obMk obE obL1 1 4 (obT (obA, true) (obB, false) (obE, false) (obE, false)) [(0, 0)] true false
theorem ob_of : ofS [1] = ⟨#[2, 0, 0, 0, 0, 0, 0, 0, 0, 0, 0, 0, 0, 0, 0, 0, 0, 0, 0, 0, 0, 0, 0, 0, 0, 0, 0, 0, 0, 0, 0, 0]⟩ := by decide +kernel
theorem ob_want : wantL 0 (ofS [1]) 4 2 = [(0, 0)] := by rw [ob_of]; decide +kernel
theorem ob_nk4 : nkL (ofS [1]) obM4 0 = [(0, 0)] := by
  unfold nkL
  rw [if_pos (by decide)]
  exact ob_want
theorem ob_nk8 : nkL (ofS [1]) obM8 0 = [(0, 0)] := by
  unfold nkL
  rw [if_pos (by decide)]
  exact ob_want
theorem ob_ag4 : (agF (nkL (ofS [1])) (obM4, []) [0]).1 = obM5 ∧ (agF (nkL (ofS [1])) (obM4, []) [0]).2.length = 1 := by
  unfold agF agO
  simp only [List.foldl_cons, List.foldl_nil]
  rw [ob_nk4]
  exact ⟨by kernel_rfl, by kernel_rfl⟩
theorem ob_ag8 : (agF (nkL (ofS [1])) (obM8, []) [0]).1 = obM8 ∧ (agF (nkL (ofS [1])) (obM8, []) [0]).2.length = 0 := by
  unfold agF agO
  simp only [List.foldl_cons, List.foldl_nil]
  rw [ob_nk8]
  exact ⟨by kernel_rfl, by kernel_rfl⟩
abbrev obM9 : ObM := obMk obE [] 1 6 [] [(0, 0)] true true
theorem ob_ack8 : ackD obM8 true 1 2 4 = obM9 ∧ ackN 1 1 1 = 1 := ⟨by kernel_rfl, by kernel_rfl⟩
end Go.Proofs.YtodokgkchmpmnaaGreat

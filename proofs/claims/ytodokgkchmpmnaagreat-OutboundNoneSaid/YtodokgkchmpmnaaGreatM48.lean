/- Proved: lemmas of one statement's proof, merged by program: what each part proves stands ahead of it. Conditions: those that the lemmas name. -/
import Derived.Test.YtodokgkchmpmnaaGreatM47
import Derived.Test.YtodokgkchmpmnaaGreatM36
import Derived.Test.YtodokgkchmpmnaaGreatM21
import Derived.Test.YtodokgkchmpmnaaGreatM29

/- Proved: what await of package outbound answers and leaves. Conditions: those that the theorem names. -/
namespace Go.Proofs.YtodokgkchmpmnaaGreat
open Go.ChangeShapes Go.WideShapes Go.ChangeAt Go.RowKit

/-- items come back, in a row of the call's own; what a stream sends stands then as M' says. -/
def GivesIt (W : World) (Y : ObY) (M' : ObM) (I : List (Int × Int)) (e : Ending) (w' : World) : Prop :=
  ∃ u ri, e = .returned u ∧ Qu w' ri 140 2 u I.length (obIt I) ∧ (∀ g, ri = some g → W.heap.size ≤ g) ∧ ∃ Y', Ob w' Y' M' ∧ ObT W w' Y Y'
section
variable {w : World} {Y : ObY} {M : ObM}
set_option maxRecDepth 100000 in
set_option maxHeartbeats 3200000 in
theorem ob_await (h : Ob w Y M) (l : List (Int × Int)) (A : Option Addr) (n cp : Nat) (hl : l.length = n) (hc : Cl w (fun g => ¬ Y.own g) A (sncells l)) (hv : ∀ p ∈ l, awV M.nx (obNs M) p) (hn : n ≤ 1000) (hu : M.U.length + n ≤ 65000) :
    Calls Tryz.prog 49 #[.pointer (some ⟨Y.o, 0, none⟩), .slice A n cp] w (GivesIt w Y (awF (M, []) l).1 (awF (M, []) l).2) := by
  have HH := Lib.hid h
  have HC := Lib.hid hc
  have HV := Lib.hid hv
  have HU := Lib.hid hu
  have HL := Lib.hid hl
  have HN := Lib.hid hn
  have HO : Hid (∀ (W : World) (Y' : ObY), ObT w W Y Y' → Y'.o = Y.o) := Lib.hid fun _ _ t => t.o
  clear h hc hv hu hl
  generalize hoo : Y.o = o at *
  go_enter Tryz.func49, Tryz.ntmps49
  go_wp2_with fail
  go_loopw [5, 13] (fun u i wr => ∃ k : Nat, k ≤ n ∧ i = .int .i64 k ∧ ∃ ri Y', Qu wr ri 140 2 u (awF (M, []) (l.take k)).2.length (obIt (awF (M, []) (l.take k)).2) ∧ (∀ g, ri = some g → w.heap.size ≤ g) ∧ Ob wr Y' (awF (M, []) (l.take k)).1 ∧ ObT w wr Y Y') (fun _ i _ => n - (intOf i).toNat)
  case atStart => exact ⟨0, by omega, rfl, none, Y, Qu.nil _ _ _, (fun g e => nomatch e), HH.out, ObT.refl _ _⟩
  case round =>
    obtain ⟨k, hk, rfl, ri, Y1, hq, hri, hob, htt⟩ := hrel
    by_cases hlt : k < n
    · obtain ⟨⟨x, y⟩, hp⟩ : ∃ p, l[k]? = some p := ⟨_, List.getElem?_eq_getElem (by rw [HL.out]; exact hlt)⟩
      have hsm := awF_same M [] (l.take k)
      have hvp := HV.out (x, y) (List.mem_of_getElem? hp)
      have hpl : (sncells l)[k * 2]? = some (.int .u32 x) ∧ (sncells l)[k * 2 + 1]? = some (.int .i64 y) := by
        have := sncells_at l k (by rw [HL.out]; exact hlt)
        rw [List.getD_eq_getElem?_getD, hp] at this
        exact this
      obtain ⟨g0, o0, hA, _, hg0, hcs⟩ := (HC.out.tn htt.tn (fun g _ e => e)) (by rw [sncells_len, HL.out]; omega)
      have p0 := hcs _ _ hpl.1
      have p1 := hcs _ _ hpl.2
      rw [← Nat.add_assoc] at p1
      subst hA
      have hlt' : (k : Int) < (n : Int) := by omega
      have hk0 : (0 : Int) ≤ (k : Int) := Int.natCast_nonneg _
      have hnx : awF (M, []) (l.take (k + 1)) = ((awOne (awF (M, []) (l.take k)).1 (x, y)).1, (awF (M, []) (l.take k)).2 ++ (awOne (awF (M, []) (l.take k)).1 (x, y)).2) := by
        rw [List.take_add_one, hp]
        exact awF_snoc _ _ _
      have htl : (l.take k).length = k := by rw [List.length_take, HL.out]; omega
      rw [htl] at hsm
      clear htl
      generalize awF (M, []) (l.take k) = s at *
      obtain ⟨Mk, I⟩ := s
      dsimp only at hq hob hsm hnx
      obtain ⟨i, nn, hni, hx, hy0, hy1⟩ := hvp
      dsimp only at hx hy0 hy1
      rw [← hsm.1.ns] at hni
      obtain ⟨sf, hsf, hsl⟩ := obNs_at hni
      have hi : i < Mk.S.length := (List.getElem?_eq_some_iff.1 hsf).1
      have hML := hob.m.p.fl.n64
      have hsame := hob.i.same
      have hx' : x = fno Mk.nx Mk.L.length i := by rw [hx, ← hsm.1.ns, obNs_len, hsame, hsm.1.nx]
      obtain ⟨j, rfl⟩ : ∃ j : Nat, y = j := ⟨y.toNat, by omega⟩
      obtain ⟨⟨b, ws⟩, ht⟩ : ∃ t, sf.T[j]? = some t := ⟨_, List.getElem?_eq_getElem (by omega)⟩
      obtain ⟨g, hg⟩ : ∃ g, Y1.hs[i]? = some g := ⟨_, List.getElem?_eq_getElem (by rw [hob.m.p.hl]; exact hi)⟩
      have hux : U32 x := by rw [hx]; exact wpl_u32 _ _
      rw [awOne_in hx' (by omega) hsf ht] at hnx
      have ho1 := HO.out _ _ htt
      have hB0 : Below wr.heap.size wr (wr.alloc (.cells #[.int .u32 x, .int .i64 (j : Nat)] 52)) := (Below.refl _ _).alloc (Nat.le_refl _) _
      have HSH := Lib.hid (ob_sheaf_in (hob.below hB0) hg hsf)
      rw [ho1, ← hx'] at HSH
      unfold ObS.v at HSH
      have hgf := hob.i.good sf (List.mem_of_getElem? hsf)
      have hbs := hgf.text _ (List.mem_of_getElem? ht)
      have HNX := Lib.hid hnx
      have HR0 : Hid (∀ W, Below (wr.alloc (.cells #[.int .u32 x, .int .i64 (j : Nat)] 52)).heap.size (wr.alloc (.cells #[.int .u32 x, .int .i64 (j : Nat)] 52)) W → AwR w (W.alloc (.cells #[.slice (some ⟨g, 0, none⟩) sf.T.length sf.T.length, .int .i64 (sf.m : Nat), .int .i64 (sf.z : Nat)] 55)) Y Y1 Mk I ri u5 wr.heap.size W.heap.size x j (.slice (some ⟨g, 0, none⟩) sf.T.length sf.T.length) sf.m sf.z) := Lib.hid fun W hW => by
        have hs0 : (wr.alloc (.cells #[.int .u32 x, .int .i64 (j : Nat)] 52)).heap.size = wr.heap.size + 1 := by simp
        have hB1 : Below wr.heap.size wr W := hB0.trans (hW.mono (by rw [hs0]; omega))
        have hB2 : Below wr.heap.size wr (W.alloc (.cells #[.slice (some ⟨g, 0, none⟩) sf.T.length sf.T.length, .int .i64 (sf.m : Nat), .int .i64 (sf.z : Nat)] 55)) := hB1.alloc hB1.size _
        have hWs := hW.size
        have lo : ∀ q, Y1.own q → q < wr.heap.size := fun q e => hob.m.lt e
        exact ⟨hob.below hB2, htt.trans (obt_below _ hB2), hq.tn (tn_below Nil hB2) (fun _ _ e => e), hri, ((At.new wr 52 [.int .u32 x, .int .i64 (j : Nat)]).below hW (by rw [hs0]; omega)).alloc _, At.new W 55 [.slice (some ⟨g, 0, none⟩) sf.T.length sf.T.length, .int .i64 (sf.m : Nat), .int .i64 (sf.z : Nat)], fun e => by have := lo _ e; omega, fun e => by have := lo _ e; omega⟩
      have HF := Lib.hid (And.intro hg (And.intro hsf (And.intro ht (And.intro hbs hsm))))
      have HM := Lib.hid (And.intro hx' hux)
      have hj2 : ((j : Nat) : Int) < (sf.T.length : Nat) := by omega
      have hj0 : (0 : Int) ≤ (j : Nat) := Int.natCast_nonneg _
      have HO1 := Lib.hid ho1
      clear hnx hsm hpl hcs hg0 hq hri hob htt hx hx' hux hni hsl hi hML hsame ht hg hsf hB0 hgf hbs ho1 hy0 hy1
      go_wp2_with fail
      refine HSH.out.mono ?_; rintro e w1 ⟨rfl, hb1⟩
      have HR2 := Lib.hid (HR0.out w1 hb1)
      clear HR0 hb1 p0 p1 HSH
      have hA8 := HR2.out.ob.m.p.rows i g sf HF.out.1 HF.out.2.1
      have s1 := hA8.cell _ (obShc_at _ _ _ HF.out.2.2.1).2
      have s1f := hA8.free (j * 2 + 1)
      have k70 := HR2.out.a7.cell 0 rfl
      have k71 := HR2.out.a7.cell 1 rfl
      have k80 := HR2.out.a8.cell 0 rfl
      clear hA8
      generalize hb7 : wr.heap.size = b7 at *
      clear hb7
      cases ws with
      | true =>
        have HNX2 : Hid (awF (M, []) (l.take (k + 1)) = (Mk, I)) := Lib.hid (by rw [HNX.out]; simp)
        clear HNX
        go_wp2_with fail
        go_roundw
        case rel =>
          refine ⟨k + 1, by omega, by go_num, ri, Y1, ?_⟩
          rw [HNX2.out]
          exact ⟨HR2.out.q, HR2.out.ri_, HR2.out.ob, HR2.out.tt⟩
        case measure => simp [intOf]; omega
      | false =>
        rw [if_neg (by decide)] at HNX
        have hsd := HR2.out.ob.m.shard_ HF.out.1 HF.out.2.1 (obShc_wait _ _ _ HF.out.2.2.1 true) (by simp)
        have hi3 := obI_wait HR2.out.ob.i HF.out.2.1 (j := j) b HF.out.2.2.2.1 true Mk.U
        have HI4 := Lib.hid (obI_wait HR2.out.ob.i HF.out.2.1 (j := j) b HF.out.2.2.2.1 true (Mk.U ++ [(x, (j : Int))]))
        have HR3 := Lib.hid (HR2.out.step ⟨hsd.1, hi3⟩ hsd.2)
        have HUL : Hid (Mk.U.length ≤ 65000) := Lib.hid (by have := HF.out.2.2.2.2.2.1; have := HU.out; omega)
        clear hsd hi3 HR2
        go_wp2_with fail
        clear k70 k71 k80 s1 s1f
        generalize (w1.alloc (.cells #[.slice (some ⟨g, 0, none⟩) sf.T.length sf.T.length, .int .i64 (sf.m : Nat), .int .i64 (sf.z : Nat)] 55)).setCell ⟨g, j * 2 + 1, none⟩ (.bool true) = w3 at *
        have hWD : Below w3.heap.size w3 (w3.alloc (.cells #[.int .u32 x, .int .i64 (j : Nat)] 52)).drew := ((Below.refl _ _).alloc (Nat.le_refl _) _).drew
        have hRD := HR3.out.below hWD
        have hN := At.new w3 52 [.int .u32 x, .int .i64 (j : Nat)]
        obtain ⟨v5, w5, r5, hap, hq5, hr5, ht5⟩ := hRD.ob.m.p.un.append (t := 48) (ty := 48) Tryz.underlying48 infoSend rfl (by decide) (by decide) (by have := HUL.out; show Mk.U.length ≤ 65536; omega) (a := ⟨w3.heap.size, 0, none⟩) (cp := 1) (news := [.int .u32 x, .int .i64 (j : Nat)]) rfl (fun q u hq => by
          rw [Addr.add_lit, Nat.zero_add]
          exact hN.cell q hq) (by intro u hu; simp at hu; rcases hu with rfl | rfl <;> rfl) (sncells_one _)
        obtain ⟨A5, c5, hv5⟩ := hq5.form
        have hun := hRD.ob.m.unsent_ (U' := Mk.U ++ [(x, (j : Int))]) (by rw [List.length_append, sncells_app]; exact hq5) hr5 ht5
        have hR6 := hRD.step ⟨hun.2.1, HI4.out⟩ hun.2.2
        obtain ⟨A6, c6, hvu⟩ := HR3.out.ob.m.p.un.form
        have hvu : Y1.vu = .slice A6 Mk.U.length c6 := hvu
        have hv5 : v5 = .slice A5 (Mk.U.length + 1) c5 := hv5
        subst hv5
        rw [hvu] at hap
        have p16 : w3.cell? ⟨o, 16, none⟩ = some (.slice A6 Mk.U.length c6) := by rw [← hvu, ← HO1.out]; exact HR3.out.ob.m.own.cell 16 rfl
        have n16 : (w3.alloc (.cells #[.int .u32 x, .int .i64 (j : Nat)] 52)).drew.cell? ⟨o, 16, none⟩ = some (.slice A6 Mk.U.length c6) := by rw [← hvu, ← HO1.out]; exact hRD.ob.m.own.cell 16 rfl
        have q16 : w5.cell? ⟨o, 16, none⟩ = some (.slice A6 Mk.U.length c6) := by rw [← hvu, ← HO1.out]; exact hun.1.cell 16 rfl
        have q16f : w5.frozen? ⟨o, 16, none⟩ = false := by rw [← HO1.out]; exact hun.1.free 16
        have k70 := HR3.out.a7.cell 0 rfl
        have k71 := HR3.out.a7.cell 1 rfl
        rw [HO1.out] at hR6
        have HR6 := Lib.hid hR6
        have HDG : Hid (∀ W, Below (w5.setCell ⟨o, 16, none⟩ (.slice A5 (Mk.U.length + 1) c5)).heap.size (w5.setCell ⟨o, 16, none⟩ (.slice A5 (Mk.U.length + 1) c5)) W → Calls Tryz.prog 17 #[.pointer (some ⟨o, 0, none⟩), .agg #[.int .u32 x, .int .i64 (j : Nat)], .agg #[.slice (some ⟨g, 0, none⟩) sf.T.length sf.T.length, .int .i64 (sf.m : Nat), .int .i64 (sf.z : Nat)]] W fun e W' => e = .returned (obD Mk.st x j sf b).val ∧ Below W.heap.size W W') := Lib.hid fun W hW => by
          have r := hR6.below hW
          have hs' : (Mk.S.set i { sf with T := sf.T.set j (b, true) })[i]? = some { sf with T := sf.T.set j (b, true) } := List.getElem?_set_self (List.getElem?_eq_some_iff.1 HF.out.2.1).1
          have hA := r.ob.m.p.rows i g _ HF.out.1 hs'
          have ht' : (sf.T.set j (b, true))[j]? = some (b, true) := List.getElem?_set_self (List.getElem?_eq_some_iff.1 HF.out.2.2.1).1
          have hk : W.cell? ⟨o, 11, none⟩ = some (.int .i64 Mk.st) := r.ob.m.own.cell 11 rfl
          have := ob_dg o Mk.st x HM.out.2 j g { sf with T := sf.T.set j (b, true) } b true hk hA ht'
          simpa [ObS.v, obD] using this
        have HSZ : Hid (∀ W, Calls Tryz.prog 73 #[(obD Mk.st x j sf b).val] W (GivesZ W (sizeT (obD Mk.st x j sf b)))) := Lib.hid fun W => dsize_any _ W (by have := HF.out.2.2.2.1; show b.size ≤ maxLen; unfold maxLen; exact Nat.le_trans this (by decide))
        generalize hzz : sizeT (obD Mk.st x j sf b) = zz at *
        have HIL : Hid (I.length ≤ 1000) := Lib.hid (by have := HF.out.2.2.2.2.2.2; simp at this; omega)
        have HAP : Hid (∀ W, Below (w5.setCell ⟨o, 16, none⟩ (.slice A5 (Mk.U.length + 1) c5)).heap.size (w5.setCell ⟨o, 16, none⟩ (.slice A5 (Mk.U.length + 1) c5)) W → ∃ v' w' r' Y4, (∀ ty, (Builtin.append_ #[35, 35] ty #[u5, .slice (some ⟨W.heap.size, 0, none⟩) 1 1]).run Tryz.prog (W.alloc (.cells #[.int .i64 Mk.st, .int .i64 zz] 140)) = .ok v' w') ∧ Qu w' r' 140 2 v' (I ++ [(Mk.st, zz)]).length (obIt (I ++ [(Mk.st, zz)])) ∧ (∀ g, r' = some g → w.heap.size ≤ g) ∧ Ob w' Y4 { Mk with S := Mk.S.set i { sf with T := sf.T.set j (b, true) }, U := Mk.U ++ [(x, (j : Int))] } ∧ ObT w w' Y Y4 ∧ w'.cell? ⟨o, 11, none⟩ = some (.int .i64 Mk.st) ∧ w'.cell? ⟨b7, 0, none⟩ = some (.int .u32 x) ∧ w'.cell? ⟨b7, 1, none⟩ = some (.int .i64 (j : Nat)) ∧ w'.cell? ⟨w1.heap.size, 0, none⟩ = some (.slice (some ⟨g, 0, none⟩) sf.T.length sf.T.length) ∧ w'.cell? ⟨w1.heap.size, 1, none⟩ = some (.int .i64 (sf.m : Nat)) ∧ w'.cell? ⟨w1.heap.size, 2, none⟩ = some (.int .i64 (sf.z : Nat))) := Lib.hid fun W hW => by
          have r := hR6.below (hW.trans (((Below.refl W.heap.size W).alloc (Nat.le_refl _) (.cells #[.int .i64 Mk.st, .int .i64 zz] 140)).mono hW.size))
          have hN2 := At.new W 140 [.int .i64 Mk.st, .int .i64 zz]
          have hqa := fun ty => r.q.append (t := 35) (ty := ty) Tryz.underlying35 infoItem rfl (by decide) (by decide) (by have := HIL.out; omega) (a := ⟨W.heap.size, 0, none⟩) (cp := 1) (news := [.int .i64 Mk.st, .int .i64 zz]) rfl (fun q u hq => by
            rw [Addr.add_lit, Nat.zero_add]
            exact hN2.cell q hq) (by intro u hu; simp at hu; rcases hu with rfl | rfl <;> rfl) (obIt_one _)
          obtain ⟨v', w', r', hrun, hq', hr', ht'⟩ := hqa 35
          have hws : w.heap.size ≤ (W.alloc (.cells #[.int .i64 Mk.st, .int .i64 zz] 140)).heap.size := r.tt.tn.size
          refine ⟨v', w', r', _, fun ty => hrun, by rw [List.length_append, obIt_app]; exact hq', fun q e => ?_, r.ob.tn ht' fun q hq e => r.ob.m.not_own (r.q.obty e) (by decide) hq, ⟨r.tt.tn.trans' ht' fun q hq e => by have := r.ri_ q e; omega, r.tt.new, r.tt.o⟩, (r.ob.m.own.tn ht' fun e => r.ob.m.own.obty.ne (r.q.obty e) (by decide) rfl).cell 11 rfl, (r.a7.tn ht' fun e => r.a7.obty.ne (r.q.obty e) (by decide) rfl).cell 0 rfl, (r.a7.tn ht' fun e => r.a7.obty.ne (r.q.obty e) (by decide) rfl).cell 1 rfl, (r.a8.tn ht' fun e => r.a8.obty.ne (r.q.obty e) (by decide) rfl).cell 0 rfl, (r.a8.tn ht' fun e => r.a8.obty.ne (r.q.obty e) (by decide) rfl).cell 1 rfl, (r.a8.tn ht' fun e => r.a8.obty.ne (r.q.obty e) (by decide) rfl).cell 2 rfl⟩
          rcases hr' with e' | ⟨q', e', hq''⟩
          · exact r.ri_ q (e' ▸ e)
          · rw [e] at e'; injection e' with e'; subst e'; exact Nat.le_trans hws hq''
        have KP : Hid (∀ W, Below (w5.setCell ⟨o, 16, none⟩ (.slice A5 (Mk.U.length + 1) c5)).heap.size (w5.setCell ⟨o, 16, none⟩ (.slice A5 (Mk.U.length + 1) c5)) W → W.cell? ⟨o, 11, none⟩ = some (.int .i64 Mk.st) ∧ W.cell? ⟨b7, 0, none⟩ = some (.int .u32 x) ∧ W.cell? ⟨b7, 1, none⟩ = some (.int .i64 (j : Nat)) ∧ W.cell? ⟨w1.heap.size, 0, none⟩ = some (.slice (some ⟨g, 0, none⟩) sf.T.length sf.T.length) ∧ W.cell? ⟨w1.heap.size, 1, none⟩ = some (.int .i64 (sf.m : Nat)) ∧ W.cell? ⟨w1.heap.size, 2, none⟩ = some (.int .i64 (sf.z : Nat))) := Lib.hid fun W hW => by
          have r := hR6.below hW
          exact ⟨r.ob.m.own.cell 11 rfl, r.a7.cell 0 rfl, r.a7.cell 1 rfl, r.a8.cell 0 rfl, r.a8.cell 1 rfl, r.a8.cell 2 rfl⟩
        clear hWD hRD hN hq5 hr5 ht5 hun hR6 hvu HR3 HR6 HU HH
        clear hzz
        generalize Mk.U.length = ul at *
        generalize (obD Mk.st x j sf b).val = dv at *
        generalize w1.heap.size = b8 at *
        go_region_law (refine step_append_run rfl _ _ _ _ rfl _ _ rfl rfl _ _ hap ?_)
        all_goals
          generalize w5.setCell ⟨o, 16, none⟩ (.slice A5 (ul + 1) c5) = w6 at *
          clear p16 n16 q16 q16f k70 k71 hap
          go_wp2_with fail
          have QQ : Hid (Below w6.heap.size w6 w6.drew) := Lib.hid (Below.refl w6.heap.size w6).drew
          obtain ⟨k11, k70, k71, k80, k81, k82⟩ := KP.out _ QQ.out
          go_region_held3 (fun W => W.cell? ⟨o, 11, none⟩ = some (.int .i64 Mk.st) ∧ W.cell? ⟨b7, 0, none⟩ = some (.int .u32 x) ∧ W.cell? ⟨b7, 1, none⟩ = some (.int .i64 (j : Nat)) ∧ W.cell? ⟨b8, 0, none⟩ = some (.slice (some ⟨g, 0, none⟩) sf.T.length sf.T.length) ∧ W.cell? ⟨b8, 1, none⟩ = some (.int .i64 (sf.m : Nat)) ∧ W.cell? ⟨b8, 2, none⟩ = some (.int .i64 (sf.z : Nat)))
            (first | go_keep | with_reducible exact KP.out _ QQ.out | with_reducible exact HS9.out)
            (first
            | ((with_reducible refine (HDG.out _ QQ.out).mono ?_); rintro e wq ⟨rfl, gq⟩; have QN := Lib.hid (QQ.out.trans (gq.mono QQ.out.size)); clear gq QQ; have QQ := QN; clear QN)
            | ((with_reducible refine (HSZ.out _).mono ?_); rintro e wq ⟨rfl, gq⟩; have QN := Lib.hid (QQ.out.trans (gq.mono QQ.out.size)); clear gq QQ; have QQ := QN; clear QN)
            | (obtain ⟨v9, w9, r9, Y9, hap9, hq9, hr9, hb9, ht9, hs9⟩ := HAP.out _ QQ.out; (refine step_append_run rfl _ _ _ _ rfl _ _ rfl rfl _ _ (hap9 _) ?_); have HZ9 := Lib.hid (And.intro hq9 (And.intro hr9 (And.intro hb9 ht9))); have HS9 := Lib.hid hs9; clear hap9 hq9 hr9 hb9 ht9 hs9))
          clear k11 k70 k71 k80 k81 k82 HAP KP HDG HSZ
          go_wp2_with fail
          go_roundw
          case rel =>
            refine ⟨k + 1, by omega, by go_num, r9, Y9, ?_⟩
            rw [HNX.out]
            exact HZ9.out
          case measure => simp [intOf]; omega
    · obtain rfl : k = n := by omega
      have hle : l.take k = l := List.take_of_length_le (by rw [HL.out]; exact Nat.le_refl _)
      rw [hle] at hq hob
      have HF := Lib.hid (And.intro hq (And.intro hri (And.intro hob htt)))
      clear hq hri hob htt
      go_wp2_with fail
      go_ret
      exact ⟨_, ri, rfl, HF.out.1, HF.out.2.1, Y1, HF.out.2.2.1, HF.out.2.2.2⟩
end
end Go.Proofs.YtodokgkchmpmnaaGreat

/- Proved: what fly of package outbound answers and leaves. Conditions: those that the theorem names. -/
namespace Go.Proofs.YtodokgkchmpmnaaGreat
open Go.ChangeShapes Go.WideShapes Go.ChangeAt Go.RowKit

/-- a block's shards: how many there are, how many are data, and how long each one is. -/
theorem sh_facts {s : ByteArray} {k r : Nat} (h1 : 1 ≤ k) (h2 : k ≤ 32) (h3 : r ≤ 255 - k) (h4 : 1 ≤ s.size) (h5 : s.size ≤ k * 1024) :
    shM s.size k r = min k s.size ∧ (shO s k r).length = min k s.size + r ∧ ∀ t ∈ shO s k r, t.size ≤ 1024 := by
  have hz : shE s.size k r = 0 := shE_ok (by omega) (by omega)
  have hm0 := shM_ok hz
  refine ⟨hm0, ?_⟩
  obtain ⟨m, hm⟩ : ∃ m, m = min k s.size := ⟨_, rfl⟩
  rw [← hm]
  have hm1 : 1 ≤ m := by omega
  have hm4 : s.size ≤ m * 1024 := by
    rcases Nat.le_total k s.size with q | q
    · have e : k = m := by omega
      exact e ▸ h5
    · have e : m = s.size := by omega
      rw [e]
      exact Nat.le_mul_of_pos_right _ (Nat.succ_pos _)
  have hD := pieces_data (s := s) hm1 (by omega) h4 hm4
  have hle := szN_le (n := s.size) (k := m) (m := 1024) hm1 hm4
  have hlen : (mkS m (piece (szN s.size m) s)).length = m := mkS_len _ _
  have h0 : (st_ (mkS m (piece (szN s.size m) s)) 0).size = szN s.size m := by rw [mkS_at _ _ _ (by omega), piece_size]
  have he : eErr (mkS m (piece (szN s.size m) s)) ((m + r : Nat) : Int) = 0 := by
    unfold eErr
    rw [if_pos hD, hlen]
    exact if_neg (by unfold NoTab; omega)
  have hO : shO s k r = mkS (m + r) fun i => tx (mk (szN s.size m) fun j => dotN m (rw_ (rowsC m (upL (m + r))) i) (colL m (tabS (mkS m (piece (szN s.size m) s))) j)) := by
    rw [shO_ok hz hm]
    unfold eOut
    rw [if_pos he, hlen, Int.toNat_natCast, h0]
    unfold mulL
    rw [txS_mk]
  rw [hO]
  refine ⟨mkS_len _ _, fun t ht => ?_⟩
  unfold mkS at ht
  obtain ⟨i, _, rfl⟩ := List.mem_map.1 ht
  rw [tx_size, mk_len]
  exact hle
theorem obInfoShard : (Tryz.prog.info? 61).map (fun i => (i.zero, i.size, i.bytes)) = some (some (.agg #[.string S0, .bool false]), 2, 24) := by kernel_rfl
/-- Block g holds n shards, none of which waits; the first k have their bytes. -/
def ObSr (w : World) (g n k : Nat) (X : List ByteArray) : Prop := ∃ f, w.rowIs g 61 (n * 2) f ∧ (∀ j, f (j * 2 + 1) = .bool false) ∧ ∀ j, j < k → f (j * 2) = .string (st_ X j)
theorem ObSr.start (w : World) (n : Nat) (X : List ByteArray) : ObSr (w.alloc (.cells (madeCells #[.string S0, .bool false] (n * 2)) 61)) w.heap.size n 0 X := by
  refine ⟨fun i => if i % 2 = 1 then .bool false else .string S0, ?_, fun j => if_pos (by omega), fun j h => absurd h (by omega)⟩
  have := World.rowIs_alloc w (madeCells #[.string S0, .bool false] (n * 2)) 61 (fun i => if i % 2 = 1 then .bool false else .string S0) (fun i hi => by
    rw [size_madeCells] at hi
    rcases Nat.mod_two_eq_zero_or_one i with e | e <;> simp [madeCells, hi, e])
  rwa [size_madeCells] at this
theorem ObSr.next {w : World} {g n k : Nat} {X : List ByteArray} (h : ObSr w g n k X) : ObSr (w.setCell ⟨g, k * 2, none⟩ (.string (st_ X k))) g n (k + 1) X := by
  obtain ⟨f, h, h1, hc⟩ := h
  refine ⟨_, h.set (k * 2) _, fun j => ?_, fun j hj => ?_⟩
  · show (if j * 2 + 1 = k * 2 then _ else _) = _
    rw [if_neg (by omega)]; exact h1 j
  · show (if j * 2 = k * 2 then _ else _) = _
    by_cases e : j = k
    · subst e; rw [if_pos rfl]
    · rw [if_neg (by omega)]; exact hc j (by omega)
theorem ObSr.at_ {w : World} {g n : Nat} {X : List ByteArray} (h : ObSr w g n n X) (hl : X.length = n) : At w g 61 (obShc (X.map fun t => (t, false))) := by
  obtain ⟨f, h, h1, hc⟩ := h
  refine at_of_row h (by rw [obShc_len, List.length_map, hl]) fun i hi => ?_
  have hj : i / 2 < X.length := by omega
  have hx : (X.map fun t => (t, false))[i / 2]? = some (st_ X (i / 2), false) := by
    rw [List.getElem?_map, List.getElem?_eq_getElem hj]
    simp [st_, List.getD_eq_getElem?_getD, hj]
  obtain ⟨a, b⟩ := obShc_at _ _ _ hx
  rcases Nat.mod_two_eq_zero_or_one i with e | e
  · have e2 : i = i / 2 * 2 := by omega
    rw [e2, hc (i / 2) (by omega)]
    exact a
  · have e2 : i = i / 2 * 2 + 1 := by omega
    rw [e2, h1 (i / 2)]
    exact b
/-- a block flies, and none of its shards waits. -/
def flyN (M : ObM) (body : ByteArray) (now : Int) : ObM :=
  { M with nx := (M.nx + 1) % 4294967296, L := M.L ++ [⟨body, (shO body M.c.k M.c.r).length, now⟩], S := M.S ++ [⟨(shO body M.c.k M.c.r).map fun t => (t, false), shM body.size M.c.k M.c.r, body.size⟩] }
/-- a block flies, and all its shards wait. -/
def flyM (M : ObM) (body : ByteArray) (now : Int) : ObM × List (Int × Int) := awF (flyN M body now, []) (obFirst M.nx (shO body M.c.k M.c.r).length)
theorem fno_last {nx : Int} (h : U32 nx) (n : Nat) : fno ((nx + 1) % 4294967296) (n + 1) n = nx := by unfold fno wpl fb U32 at *; omega
/-- what settings that may be are like. -/
theorem cf_lims {c : Cf} (h : c.ok = true) : (1 ≤ c.k ∧ c.k ≤ 32) ∧ (0 ≤ c.r ∧ c.r ≤ 255 - c.k) ∧ (1 ≤ c.s ∧ c.s ≤ 1024) ∧ (1 ≤ c.w ∧ c.w ≤ 64) ∧ (c.k * c.s ≤ c.b ∧ c.b ≤ 1048576) := by
  unfold Cf.ok at h
  simp only [Bool.and_eq_true, cfInZ_iff] at h
  exact ⟨h.1, h.2.1, h.2.2.1, h.2.2.2.1, h.2.2.2.2.1⟩
/-- the shards of a block, as the settings have it. -/
theorem fly_facts {c : Cf} (h : c.ok = true) {body : ByteArray} (h1 : 1 ≤ body.size) (h2 : body.size ≤ (c.k * c.s).toNat) :
    1 ≤ (shO body c.k c.r).length ∧ (shO body c.k c.r).length ≤ 255 ∧ shM body.size c.k c.r ≤ (shO body c.k c.r).length ∧ shM body.size c.k c.r ≤ 32 ∧ body.size ≤ 32768 ∧ ∀ t ∈ shO body c.k c.r, t.size ≤ 1024 := by
  obtain ⟨⟨k1, k2⟩, ⟨r1, r2⟩, ⟨s1, s2⟩, _, _⟩ := cf_lims h
  obtain ⟨k, hk⟩ : ∃ k : Nat, c.k = k := ⟨c.k.toNat, by omega⟩
  obtain ⟨r, hr⟩ : ∃ r : Nat, c.r = r := ⟨c.r.toNat, by omega⟩
  obtain ⟨s, hs⟩ : ∃ s : Nat, c.s = s := ⟨c.s.toNat, by omega⟩
  rw [hk] at k1 k2 r2 h2 ⊢
  rw [hr] at r2 ⊢
  rw [hs] at s1 s2 h2
  have e : (((k : Nat) : Int) * (s : Nat)).toNat = k * s := by rw [← Int.natCast_mul, Int.toNat_natCast]
  rw [e] at h2
  have h5 : body.size ≤ k * 1024 := Nat.le_trans h2 (Nat.mul_le_mul_left k (by omega))
  obtain ⟨a, b, d⟩ := sh_facts (s := body) (k := k) (r := r) (by omega) (by omega) (by omega) h1 h5
  rw [a, b]
  exact ⟨by omega, by omega, by omega, by omega, by have : k * 1024 ≤ 32 * 1024 := Nat.mul_le_mul_right _ (by omega); omega, d⟩
theorem flyN_ok {M : ObM} (h : ObI M) {body : ByteArray} (h1 : 1 ≤ body.size) (h2 : body.size ≤ (M.c.k * M.c.s).toNat) (now : Int) : ObI (flyN M body now) := by
  obtain ⟨a, b, d, e, f, g⟩ := fly_facts h.ok h1 h2
  refine ⟨h.ok, by show (M.S ++ [_]).length = (M.L ++ [_]).length; rw [List.length_append, List.length_append, h.same]; rfl, fun x hx => ?_, fun i x y hx hy => ?_⟩
  · rcases List.mem_append.1 (show x ∈ M.S ++ [_] from hx) with hx | hx
    · exact h.good x hx
    · simp at hx; subst hx
      exact ⟨by simpa using a, by simpa using b, by simpa using d, e, f, fun t ht => by
        obtain ⟨t', ht', rfl⟩ := List.mem_map.1 ht
        exact g t' ht'⟩
  · have hx : (M.S ++ [_])[i]? = some x := hx
    have hy : (M.L ++ [_])[i]? = some y := hy
    by_cases q : i < M.S.length
    · rw [List.getElem?_append_left q] at hx
      rw [List.getElem?_append_left (by rw [← h.same]; exact q)] at hy
      exact h.fit i x y hx hy
    · have hi : i = M.S.length := by
        have := (List.getElem?_eq_some_iff.1 hx).1
        rw [List.length_append] at this
        simp at this
        omega
      subst hi
      rw [List.getElem?_append_right (Nat.le_refl _)] at hx
      rw [List.getElem?_append_right (by rw [h.same]; exact Nat.le_refl _)] at hy
      simp [h.same] at hx hy
      subst hx; subst hy
      simp
theorem flyN_valid {M : ObM} (hu : U32 M.nx) (body : ByteArray) (now : Int) : ∀ p ∈ obFirst M.nx (shO body M.c.k M.c.r).length, awV (flyN M body now).nx (obNs (flyN M body now)) p := by
  intro p hp
  unfold obFirst at hp
  obtain ⟨j, hj, rfl⟩ := List.mem_map.1 hp
  have hj : j < (shO body M.c.k M.c.r).length := List.mem_range.1 hj
  have hn : obNs (flyN M body now) = obNs M ++ [(shO body M.c.k M.c.r).length] := by
    unfold obNs flyN; simp
  refine ⟨(obNs M).length, (shO body M.c.k M.c.r).length, ?_, ?_, Int.natCast_nonneg _, by show (j : Int) < _; omega⟩
  · rw [hn, List.getElem?_append_right (Nat.le_refl _)]; simp
  · rw [hn, List.length_append]
    exact (fno_last hu _).symm
theorem OwnS.tn {w w' : World} {g n : Nat} {l : List ByteArray} {c : Nat → Prop} (h : OwnS w g n l) (t : Tn c w w') (hc : ¬ c g) : OwnS w' g n l := by
  obtain ⟨hl, cur, hg, hx⟩ := h
  exact ⟨hl, cur, (t.block g (Array.getElem?_eq_some_iff.1 hg).1 hc).trans hg, hx⟩
section
variable {w : World} {Y : ObY} {M : ObM}
set_option maxRecDepth 100000 in
set_option maxHeartbeats 3200000 in
theorem ob_fly (h : Ob w Y M) (body : ByteArray) (now : Int) (h1 : 1 ≤ body.size) (h2 : body.size ≤ (M.c.k * M.c.s).toNat) (ht : timeB now = true) (hw : (M.L.length : Int) < M.c.w) (hu : M.U.length ≤ 64000) :
    Calls Tryz.prog 24 #[.pointer (some ⟨Y.o, 0, none⟩), .string body, .int .i64 now] w (GivesIt w Y (flyM M body now).1 (flyM M body now).2) := by
  obtain ⟨f1, f2, f3, f4, f5, f6⟩ := fly_facts h.i.ok h1 h2
  have hne : body.toList.isEmpty = false := text_ne h1
  have k0 : w.drew.cell? ⟨Y.o, 0, none⟩ = some (.int .i64 M.c.k) := h.m.own.cell 0 rfl
  have k1 : w.drew.cell? ⟨Y.o, 1, none⟩ = some (.int .i64 M.c.r) := h.m.own.cell 1 rfl
  have HSH : Hid (Calls Tryz.prog 47 #[.string body, .int .i64 M.c.k, .int .i64 M.c.r] w.drew (GivesShO w.drew (shO body M.c.k M.c.r).length (shO body M.c.k M.c.r) (shM body.size M.c.k M.c.r))) := Lib.hid (by
    obtain ⟨⟨k1, k2⟩, ⟨r1, r2⟩, ⟨s1, s2⟩, _, _⟩ := cf_lims h.i.ok
    obtain ⟨k, hk⟩ : ∃ k : Nat, M.c.k = k := ⟨M.c.k.toNat, by omega⟩
    obtain ⟨r, hr⟩ : ∃ r : Nat, M.c.r = r := ⟨M.c.r.toNat, by omega⟩
    obtain ⟨s, hs⟩ : ∃ s : Nat, M.c.s = s := ⟨M.c.s.toNat, by omega⟩
    rw [hk] at k1 k2 r2 h2 ⊢
    rw [hr] at r2 ⊢
    rw [hs] at s1 s2 h2
    have e : (((k : Nat) : Int) * (s : Nat)).toNat = k * s := by rw [← Int.natCast_mul, Int.toNat_natCast]
    rw [e] at h2
    have h5 : body.size ≤ k * 1024 := Nat.le_trans h2 (Nat.mul_le_mul_left k (by omega))
    have q := dshards_own body k r w.drew (by omega) (by omega) (by omega) h1 h5
    rw [← (sh_facts (s := body) (k := k) (r := r) (by omega) (by omega) (by omega) h1 h5).2.1] at q
    exact q)
  have HM := Lib.hid (flyN_ok h.i h1 h2 now)
  have HV := Lib.hid (flyN_valid h.m.p.fl.u32 body now)
  have HH := Lib.hid h
  have HW := Lib.hid hw
  have HU := Lib.hid hu
  have HT := Lib.hid ht
  unfold flyM
  obtain ⟨i0, hi0, hz0, hz1, hz2⟩ := info_parts obInfoShard
  clear h h1 h2 ht hw hu f6
  have hFN : flyN M body now = { M with nx := (M.nx + 1) % 4294967296, L := M.L ++ [⟨body, (shO body M.c.k M.c.r).length, now⟩], S := M.S ++ [⟨(shO body M.c.k M.c.r).map fun t => (t, false), shM body.size M.c.k M.c.r, body.size⟩] } := rfl
  generalize hX : shO body M.c.k M.c.r = X at *
  generalize hm : shM body.size M.c.k M.c.r = m at *
  generalize flyN M body now = MN at *
  clear hX hm
  generalize hn : X.length = n at *
  have hmk : ∀ W : World, (Instr.makeSlice 53 (.int .i64 (n : Int)) (.int .i64 (n : Int))).run Tryz.prog W = .ok (.slice (some ⟨W.heap.size, 0, none⟩) n n) (W.alloc (.cells (madeCells #[.string S0, .bool false] (n * 2)) 61)) := fun W => by
    have hr := run_make (P := Tryz.prog) W 53 61 i0 _ Tryz.underlying53 hi0 hz0 .i64 .i64 n n (by omega) (Int.le_refl _) (by rw [hz2]; omega) (by omega)
    rw [Int.toNat_natCast, hz1] at hr
    exact hr
  have HXL := Lib.hid hn
  have HN := Lib.hid hFN
  have HFF := Lib.hid (And.intro f1 (And.intro f2 (And.intro f3 (And.intro f4 f5))))
  clear hi0 hz0 hz1 hz2 hn hFN f3 f4 f5
  generalize HO : Y.o = o at *
  have HHO := Lib.hid HO
  clear HO
  go_enter Tryz.func24, Tryz.ntmps24
  go_wp2_with fail
  go_region_with (go_at_call 47; (with_reducible refine HSH.out.mono ?_); rintro e w1 ⟨g1, rfl, hg1, hs1, hb1⟩)
  all_goals
    have t1 : Below w.heap.size w w1 := (Below.refl _ _).drew.trans hb1
    have h1 := HH.out.below t1
    have hg1' : w.heap.size ≤ g1 := hg1
    have k13 : w1.cell? ⟨o, 13, none⟩ = some (.pointer (some ⟨Y.f, 0, none⟩)) := by rw [← HHO.out]; exact h1.m.own.cell 13 rfl
    have HAD := Lib.hid (add_good _ _ _ _ _ _ body (n : Nat) now w1 h1.m.p.fl hne (by omega) (by omega) HT.out HW.out)
    have H1 := Lib.hid (And.intro h1 (And.intro t1 (And.intro hg1' hs1)))
    clear t1 h1 hg1 hg1' hs1 hb1 k0 k1 HSH
    go_wp2_with fail
    refine HAD.out.mono ?_; rintro e w2 ⟨rL2, vL2, rfl, hf2, hr2, ht2⟩
    have hm2 := H1.out.1.m.flight_ hf2 hr2 ht2
    have hs2 : OwnS w2 g1 n X := H1.out.2.2.2.tn ht2 (fun e => by
      have hl : g1 < w.heap.size := by
        rcases e with rfl | e
        · exact HH.out.m.p.fl.lt
        · exact HH.out.m.p.fl.row.lt e
      have := H1.out.2.2.1
      omega)
    have H2 := Lib.hid (And.intro hm2 hs2)
    clear hf2 hr2 ht2 hm2 hs2 HAD
    go_wp2_with fail
    have HS0 := Lib.hid (ObSr.start w2 n X)
    have HB0 := Lib.hid ((Below.refl w2.heap.size w2).alloc (Nat.le_refl _) (.cells (madeCells #[.string S0, .bool false] (n * 2)) 61))
    go_loopw [48] (fun v wr => ∃ k : Nat, k ≤ n ∧ v = .int .i64 k ∧ ObSr wr w2.heap.size n k X ∧ Below w2.heap.size w2 wr) (fun v _ => n - (intOf v).toNat)
    case atStart => exact ⟨0, by omega, rfl, HS0.out, HB0.out⟩
    case round =>
      obtain ⟨k, hk, rfl, hr, hb⟩ := hrel
      have HR := Lib.hid hr
      have HB := Lib.hid hb
      clear hb HS0 HB0
      by_cases hlt : k < n
      · have hlt' : (k : Int) < (n : Int) := by omega
        have hk0 : (0 : Int) ≤ (k : Int) := Int.natCast_nonneg _
        have s0 := (H2.out.2.below HB.out).cell hlt
        obtain ⟨f, hrow, _⟩ := hr
        have y0 := hrow.cell (i := k * 2) (by omega)
        have q0 := hrow.frozen (k * 2)
        have HN1 := Lib.hid HR.out.next
        have HB2 : Hid (Below w2.heap.size w2 (wr.setCell ⟨w2.heap.size, k * 2, none⟩ (.string (st_ X k)))) := Lib.hid (HB.out.setCell (p := ⟨w2.heap.size, k * 2, none⟩) (Nat.le_refl _) _)
        clear hrow HR HB
        go_wp2_with fail
        go_roundw
        case rel => exact ⟨k + 1, by omega, by go_num, HN1.out, HB2.out⟩
        case measure => simp [intOf]; omega
      · obtain rfl : k = n := by omega
        clear hr
        have hXm : (X.map fun t => (t, false)).length = k := by rw [List.length_map, HXL.out]
        have hgA : At wr w2.heap.size 61 (obShc (X.map fun t => (t, false))) := HR.out.at_ HXL.out
        have hba : Below w2.heap.size w2 (wr.alloc (.cells #[.slice (some ⟨w2.heap.size, 0, none⟩) k k, .int .i64 (m : Nat), .int .i64 (body.size : Nat)] 55)) := HB.out.alloc HB.out.size _
        have hN := At.new wr 55 [.slice (some ⟨w2.heap.size, 0, none⟩) k k, .int .i64 (m : Nat), .int .i64 (body.size : Nat)]
        have hma := H2.out.1.1.below hba
        obtain ⟨v5, w5, r5, hap, hq5, hr5, ht5⟩ := hma.p.sh.append (t := 47) (ty := 47) Tryz.underlying47 infoSheaf rfl (by decide) (by decide) (by have := HH.out.m.p.fl.n64; have := HH.out.i.same; show M.S.length ≤ 65536; omega) (a := ⟨wr.heap.size, 0, none⟩) (cp := 1) (news := [.slice (some ⟨w2.heap.size, 0, none⟩) k k, .int .i64 (m : Nat), .int .i64 (body.size : Nat)]) rfl (fun q u hq => by
          rw [Addr.add_lit, Nat.zero_add]
          exact hN.cell q hq) (by intro u hu; simp at hu; rcases hu with rfl | rfl | rfl <;> rfl) (obSf_one _ _)
        obtain ⟨A5, c5, hv5⟩ := hq5.form
        have hv5 : v5 = .slice A5 (M.S.length + 1) c5 := hv5
        subst hv5
        have hsf := H2.out.1.1.sheaf_ (x := ⟨X.map fun t => (t, false), m, body.size⟩) (g := w2.heap.size) (hgA.alloc _) (Nat.le_refl _) hba (by
          show Qu _ _ _ _ _ _ (_ ++ [.slice (some ⟨w2.heap.size, 0, none⟩) (X.map fun t => (t, false)).length (X.map fun t => (t, false)).length, _, _])
          rw [hXm]
          exact hq5) (hr5.imp id fun ⟨g, e, q⟩ => ⟨g, e, Nat.le_trans hba.size q⟩) ht5
        obtain ⟨A6, c6, hvs⟩ := H2.out.1.1.p.sh.form
        have hvs : Y.vs = .slice A6 M.S.length c6 := hvs
        have hap : (Builtin.append_ #[47, 47] 47 #[Y.vs, .slice (some ⟨wr.heap.size, 0, none⟩) 1 1]).run Tryz.prog (wr.alloc (.cells #[.slice (some ⟨w2.heap.size, 0, none⟩) k k, .int .i64 (m : Nat), .int .i64 (body.size : Nat)] 55)) = .ok (.slice A5 (M.S.length + 1) c5) w5 := hap
        rw [hvs] at hap
        have hmr := H2.out.1.1.below HB.out
        have k15 : wr.cell? ⟨o, 15, none⟩ = some (.slice A6 M.S.length c6) := by rw [← hvs, ← HHO.out]; exact hmr.own.cell 15 rfl
        have q15 : w5.cell? ⟨o, 15, none⟩ = some (.slice A6 M.S.length c6) := by rw [← hvs, ← HHO.out]; exact hsf.1.cell 15 rfl
        have q15f : w5.frozen? ⟨o, 15, none⟩ = false := by rw [← HHO.out]; exact hsf.1.free 15
        have h6 : Ob (w5.setCell ⟨o, 15, none⟩ (.slice A5 (M.S.length + 1) c5)) { Y with rL := rL2, vL := vL2, rs := r5, vs := .slice A5 (M.S.length + 1) c5, hs := Y.hs ++ [w2.heap.size] } MN := ⟨by rw [HN.out, ← HHO.out]; exact hsf.2.1, HM.out⟩
        have t6 : ObT w (w5.setCell ⟨o, 15, none⟩ (.slice A5 (M.S.length + 1) c5)) Y { Y with rL := rL2, vL := vL2, rs := r5, vs := .slice A5 (M.S.length + 1) c5, hs := Y.hs ++ [w2.heap.size] } := by
          have q := ((obt_below Y H1.out.2.1).trans H2.out.1.2).trans hsf.2.2
          rw [← HHO.out]
          exact q
        have H6 := Lib.hid (And.intro h6 t6)
        clear hXm hgA hba hN hma hq5 hr5 ht5 hsf hvs hmr h6 t6 HR HB H2 H1 k13
        generalize M.S.length = sl at *
        go_wp2_with (at_builtin; refine Lib.wpList_append_run _ rfl _ _ _ _ rfl _ _ rfl rfl _ _ hap ?_)
        generalize w5.setCell ⟨o, 15, none⟩ (.slice A5 (sl + 1) c5) = w6 at *
        refine (ob_first _ k w6 (by omega)).mono ?_; rintro e w7 ⟨v7, rfl, ⟨B, hB, how⟩, hb7⟩
        obtain ⟨A7, c7, rfl, _, _, hcl⟩ := Cl.own (c := fun g => ¬ ({ Y with rL := rL2, vL := vL2, rs := r5, vs := .slice A5 (sl + 1) c5, hs := Y.hs ++ [w2.heap.size] } : ObY).own g) how (fun g hg e => by
          have := H6.out.1.m.lt e
          omega)
        have HAW := Lib.hid (ob_await (H6.out.1.below hb7) (obFirst M.nx k) A7 k c7 (obFirst_len _ _) hcl HV.out (by omega) (by have := HU.out; rw [HN.out]; show M.U.length + k ≤ 65000; omega))
        have H7 := Lib.hid (H6.out.2.trans (obt_below _ hb7))
        clear hB how hb7 hcl hap k15 q15 q15f H6
        go_wp2_with fail
        have HAW2 : Hid (Calls Tryz.prog 49 #[.pointer (some ⟨o, 0, none⟩), .slice A7 k c7] w7 (GivesIt w7 { Y with rL := rL2, vL := vL2, rs := r5, vs := .slice A5 (sl + 1) c5, hs := Y.hs ++ [w2.heap.size] } (awF (MN, []) (obFirst M.nx k)).1 (awF (MN, []) (obFirst M.nx k)).2)) := Lib.hid (by rw [← HHO.out]; exact HAW.out)
        refine HAW2.out.mono ?_; rintro e w8 ⟨u, ri, rfl, hq8, hri, Y8, hb8, ht8⟩
        have H8 := Lib.hid (And.intro hq8 (And.intro hri (And.intro hb8 ht8)))
        clear hq8 hri hb8 ht8
        go_wp2_with fail
        go_ret
        exact ⟨_, ri, rfl, H8.out.1, fun g e => Nat.le_trans H7.out.tn.size (H8.out.2.1 g e), Y8, H8.out.2.2.1, H7.out.trans H8.out.2.2.2⟩
end
end Go.Proofs.YtodokgkchmpmnaaGreat

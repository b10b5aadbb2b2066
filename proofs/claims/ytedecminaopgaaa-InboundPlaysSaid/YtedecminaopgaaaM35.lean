/- Proved: lemmas of one statement's proof, merged by program: what each part proves stands ahead of it. Conditions: those that the lemmas name. -/
import Derived.Test.YtedecminaopgaaaM34
import Derived.Deep.RegionHeld3

/- Proved: what the law's 'do' answers of a shard that is seen. Conditions: those that the theorem names. -/
namespace Go.Proofs.Ytedecminaopgaaa
open Go.ChangeShapes Go.WideShapes Go.ChangeAt Go.RowKit

set_option maxRecDepth 100000 in
set_option maxHeartbeats 6400000 in
theorem ido_saw (c : Cf) (M : IbM) (p : RiP) (S : List Int) (X : List Xb) (Y : IbY) (j : Nat) (x : Int) (s : ByteArray) (z : Int) (w : World) (h : BothI w Y c M p S X j) (hj : j ≤ 200) (hx : U32 x) :
    Calls Try.prog 10 #[ibp Y, riV c M p, .agg #[.int .i64 0, .int .u32 x, .string s, .int .i64 z]] w (GivesDo c j Y w) := by
  obtain ⟨W, HW, A1, A2, A3, B1, hsz⟩ := riboxes3 c M p 0 x s z w
  have HB := Lib.hid (h.below B1)
  have HA1 := Lib.hid A1
  have HA2 := Lib.hid A2
  have HA3 := Lib.hid A3
  have HB1 := Lib.hid B1
  have HS : Hid (W.heap.size = w.heap.size + 3) := Lib.hid hsz
  have HR := Lib.hid (fun V (g : RiM V M p S X) => (ri_Saw c M p S X x V g (by have := h.sv.few; omega) h.cw h.ib.m.u32 hx h.ib.i.fin h.ib.m.od.n64).mono fun e w' q => (by obtain ⟨p', q1, q2, q3⟩ := q; exact GivesRi.of (saw_like M x) q1 q2 q3 : GivesRi c (sawM M x) (sawS M S x) V (.int .i64 (sawE M x)) e w'))
  have HP := Lib.hid (fun V (g : Ib V Y M) => ib_saw Y M x V g hx)
  have HN : Hid (SvJ (sawM M x) (sawS M S x) (j + 1) ∧ (sawM M x).n = M.n ∧ (sawM M x).q = M.q ∧ c.w = M.n ∧ c.q = (M.q : Int)) := Lib.hid ⟨h.sv.saw hx, (saw_nq M x).1, (saw_nq M x).2, h.cw, h.cq⟩
  obtain ⟨n, hn⟩ : ∃ n, sawE M x = n := ⟨_, rfl⟩
  rw [hn] at HR HP
  have k0 := A2.cell 0 rfl
  have k1 := A2.cell 1 rfl
  clear A1 A2 A3 B1 hsz h hn
  generalize sawM M x = M2 at *
  generalize sawS M S x = S2 at *
  go_enter Try.func10, Try.ntmps10
  go_upto_region 1 with fail
  change Code.wp _ _ _ _ (((w.alloc (.cells (ri c M p).toArray tI)).alloc (.cells #[.int .i64 0, .int .u32 x, .string s, .int .i64 z] tD)).alloc (.cells riZ.toArray tI))
  rw [← HW]; clear HW
  go_wp2_with (refine wpi_load rfl _ rfl rfl HA1.out ?_)
  refine (HR.out _ HB.out.ri).mono ?_; rintro e w2 ⟨p', X', rfl, hr, g2⟩
  obtain ⟨V3, hV3⟩ : ∃ V, V = w2.alloc (.cells riZ.toArray tI) := ⟨_, rfl⟩
  have bV : Below w2.heap.size w2 V3 := by rw [hV3]; exact (Below.refl _ _).alloc (Nat.le_refl _) _
  have HA8 : Hid (At V3 w2.heap.size tI riZ) := Lib.hid (by rw [hV3]; exact At.new w2 tI riZ)
  have g3 := g2.trans (bV.mono g2.size)
  have HA4 := Lib.hid (HA2.out.below g3 HA2.out.lt)
  have HA5 := Lib.hid (HA3.out.below g3 HA3.out.lt)
  have HB3 := Lib.hid (HB.out.ib.below g3)
  have HR3 := Lib.hid (hr.below bV)
  have HT3 := Lib.hid (HB1.out.trans (g3.mono HB1.out.size))
  have HSZ : Hid (w.heap.size + 3 ≤ w2.heap.size) := Lib.hid (by have := HS.out; have := g2.size; omega)
  clear g2 g3 bV hr k0 k1
  go_upto_region 4 with (first
    | (refine wpi_store (c := c) (M := M2) (p := p') (b := w2.heap.size) (w := w2.alloc (.cells riZ.toArray tI)) rfl _ _ rfl rfl rfl (by rw [← hV3]; exact HA8.out) rfl ?_; intro w4 ha4 ht4; rw [← hV3] at ht4; have HA9 := Lib.hid ha4; have HT4 := Lib.hid ht4; clear ha4 ht4))
  obtain ⟨b8, hb8⟩ : ∃ b, w2.heap.size = b := ⟨_, rfl⟩
  rw [hb8] at HA9 HT4
  rw [hb8] at HA8
  obtain ⟨b5, hb5⟩ : ∃ b, w.heap.size + 1 = b := ⟨_, rfl⟩
  obtain ⟨b6, hb6⟩ : ∃ b, b5 + 1 = b := ⟨_, rfl⟩
  rw [hb5] at HA4
  rw [show w.heap.size + 2 = b6 by omega] at HA5
  have HBN : Hid (b5 ≠ b8 ∧ b6 ≠ b8 ∧ w.heap.size ≤ b8 ∧ w.heap.size ≤ b6 ∧ b5 ≠ b6) := Lib.hid (by have := HSZ.out; omega)
  have HB4 := Lib.hid (HB3.out.tn_i HA8.out HT4.out)
  have HR4 := Lib.hid ((HR3.out.tn HA8.out HT4.out).below (Below.refl _ _).drew)
  have HA6 := Lib.hid (HA5.out.tn HT4.out HBN.out.2.1)
  have HW4 := Lib.hid (HT4.out.below HT3.out HT3.out.size (fun i hi e => by have e : i = b8 := e; have := HBN.out; omega))
  have HA4b := Lib.hid (HA4.out.tn HT4.out HBN.out.1)
  have QQ : Hid (Ib w4.drew Y M ∧ At w4.drew b8 tI (ri c M2 p') ∧ At w4.drew b5 tD (dCells 0 x s z)) := Lib.hid ⟨HB4.out.drew, HA9.out, HA4b.out⟩
  rw [hb8, hb5, hb6]
  clear HA8 HA1 HA2 HA3 HB1 hV3 HR HB HA4 HA5 HB3 HR3 HS HT3 hb5 hb6 hb8
  refine wp_region_held_drew (S := fun W => At W b8 tI (ri c M2 p') ∧ At W b5 tD (dCells 0 x s z)) (by kernel_rfl) ⟨QQ.out.2.1, QQ.out.2.2⟩ (fun hHeld => ?_)
  refine wpAnyH_take (i := 0) (v := riV c M2 p') (by simp only [List.getElem?_toArray, List.getElem?_cons_zero]; rfl) (by kernel_rfl) (by kernel_rfl) (by kernel_rfl) (by exact fun _ _ _ h => h) (yieldsIf_load_mid (by rfl) tI _ (by rfl) b8 0 (by rfl) (ri c M2 p') _ (fun W h => h.1.range) Try.underlying38 rfl (by rw [ri_len]; exact tI_size)) hHeld ?_
  simp only [Act.put, List.setIfInBounds_toArray, List.set_cons_zero, List.set_cons_succ]
  refine wpAnyH_take (i := 1) (v := ibp Y) (by simp only [List.getElem?_toArray, List.getElem?_cons_zero, List.getElem?_cons_succ]; rfl) (by kernel_rfl) (by kernel_rfl) (by kernel_rfl) (by exact fun _ _ _ h => h) (Or.inl ⟨by rfl, fun V hV => by go_simp⟩) hHeld ?_
  simp only [Act.put, List.setIfInBounds_toArray, List.set_cons_zero, List.set_cons_succ]
  refine wpAnyH_take (i := 2) (v := .pointer (some ⟨b5, 1, none⟩)) (by simp only [List.getElem?_toArray, List.getElem?_cons_zero, List.getElem?_cons_succ]; rfl) (by kernel_rfl) (by kernel_rfl) (by kernel_rfl) (by exact fun _ _ _ h => h) (Or.inl ⟨by rfl, fun V hV => by go_simp⟩) hHeld ?_
  simp only [Act.put, List.setIfInBounds_toArray, List.set_cons_zero, List.set_cons_succ]
  refine wpAnyH_take (i := 3) (v := .int .u32 x) (by simp only [List.getElem?_toArray, List.getElem?_cons_zero, List.getElem?_cons_succ]; rfl) (by kernel_rfl) (by kernel_rfl) (by kernel_rfl) (by exact fun _ _ _ h => h) (Or.inl ⟨by rfl, fun V hV => by have kx := hV.2.cell 1 rfl; go_simp⟩) hHeld ?_
  simp only [Act.put, List.setIfInBounds_toArray, List.set_cons_zero, List.set_cons_succ]
  refine wpAnyH_take (i := 5) (v := .int .i64 n) (by simp only [List.getElem?_toArray, List.getElem?_cons_zero, List.getElem?_cons_succ]; rfl) (by kernel_rfl) (by kernel_rfl) (by kernel_rfl) (by exact fun _ _ _ h => h) (Or.inl ⟨by rfl, fun V hV => by go_simp⟩) hHeld ?_
  simp only [Act.put, List.setIfInBounds_toArray, List.set_cons_zero, List.set_cons_succ]
  refine wpAnyH_ready (rs := [4]) (by kernel_rfl) (by simp) ?_
  refine AllReadyH.cons (by simp only [List.getElem?_toArray, List.getElem?_cons_zero, List.getElem?_cons_succ]; rfl) (fun K hK => ?_) AllReadyH.nil
  go_simp
  refine (HP.out _ QQ.out.1).mono ?_; rintro e w5 ⟨rfl, Y', hib, ht⟩
  have HI5 := Lib.hid (And.intro hib ht)
  have HA7 := Lib.hid (QQ.out.1.m.at_stays ht.tn (HA6.out.below (Below.refl _ _).drew HA6.out.lt) tI_not)
  have HR5 := Lib.hid (QQ.out.1.m.ri_stays ht.tn HR4.out)
  have HA10 := Lib.hid (QQ.out.1.m.at_stays ht.tn QQ.out.2.1 tI_not)
  have HA11 := Lib.hid (QQ.out.1.m.at_stays ht.tn QQ.out.2.2 tD_not)
  clear hib ht QQ hHeld
  go_wp2_with fail
  refine hK.out _ _ ⟨HA10.out, HA11.out⟩ (fun hHeld => ?_)
  clear hK K
  try simp only [Act.put, List.setIfInBounds_toArray, List.set_cons_zero, List.set_cons_succ]
  refine wpAnyH_take (i := 6) (v := .bool true) (by simp only [List.getElem?_toArray, List.getElem?_cons_zero, List.getElem?_cons_succ]; rfl) (by kernel_rfl) (by kernel_rfl) (by kernel_rfl) (by exact fun _ _ _ h => h) (Or.inl ⟨by rfl, fun V hV => by go_simp⟩) hHeld ?_
  simp only [Act.put, List.setIfInBounds_toArray, List.set_cons_zero, List.set_cons_succ]
  refine wpAnyH_ready (rs := [7]) (by kernel_rfl) (by simp) ?_
  refine AllReadyH.cons (by simp only [List.getElem?_toArray, List.getElem?_cons_zero, List.getElem?_cons_succ]; rfl) (fun K hK => ?_) AllReadyH.nil
  rw [if_pos (by rfl)]
  refine wp_store_mid tI _ _ (by rfl) b6 0 (ri c M2 p').toArray (by rfl) (by rfl) (HA7.out.there rfl) tI_size (all_oneCell_toArray (ri_one c M2 p')) ?_
  change K _ (riSet w5 b6 c M2 p')
  have TT := riSet_tn w5 b6 c M2 p'
  have HAA := Lib.hid (riSet_at (c := c) (M := M2) (p := p') HA7.out rfl)
  have HBF : Hid (BothI (riSet w5 b6 c M2 p') Y' c M2 p' S2 X' (j + 1)) := Lib.hid ((BothI.mk HI5.out.1 HR5.out HN.out.1 (HN.out.2.2.2.1.trans HN.out.2.1.symm) (by rw [HN.out.2.2.1]; exact HN.out.2.2.2.2)).tn HA7.out TT)
  have HTF : Hid (IbT w (riSet w5 b6 c M2 p') Y Y') := Lib.hid (by
    have t5 := (ibt_below Y HW4.out).drewN_ 1
    have t6 : IbT w w5 Y Y' := t5.trans HI5.out.2
    exact ⟨t6.tn.trans' TT (fun q hq e => by have e : q = b6 := e; have := HBN.out; omega), t6.new, t6.i⟩)
  refine hK.out _ _ ⟨HA10.out.tn TT (fun e => HBN.out.2.1 e.symm), HA11.out.tn TT (fun e => HBN.out.2.2.2.2 e)⟩ (fun hHeld => ?_)
  clear hK K
  try simp only [Act.put]
  refine wpAnyH_take (i := 8) (v := .bool true) (by simp only [List.getElem?_toArray, List.getElem?_cons_zero, List.getElem?_cons_succ]; rfl) (by kernel_rfl) (by kernel_rfl) (by kernel_rfl) (by exact fun _ _ _ h => h) (Or.inl ⟨by rfl, fun V hV => by go_simp⟩) hHeld ?_
  simp only [Act.put, List.setIfInBounds_toArray, List.set_cons_zero, List.set_cons_succ]
  refine wpAnyH_done (by kernel_rfl) ?_ _
  go_wp2_with fail
  exact bodyPost_ret (v := .tuple #[riV c M2 p', .bool true]) (res_do rfl rfl HAA.out) rfl ⟨Y', M2, p', S2, X', rfl, HBF.out, HTF.out⟩
end Go.Proofs.Ytedecminaopgaaa

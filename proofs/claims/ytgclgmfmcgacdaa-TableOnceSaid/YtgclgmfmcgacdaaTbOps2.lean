/- Proved: what add of package table leaves. Conditions: those that the theorems name. -/
import Derived.Test.YtgclgmfmcgacdaaTbOps
namespace Go.Proofs.Ytgclgmfmcgacdaa
open Go.ChangeShapes Go.WideShapes Go.ChangeAt Go.RowKit Go.MuLone

/-- a block more is a row's of p. -/
def Ly.own (L : Ly) (g p : Nat) : Ly := { L with col := fun i => if i = g then 1000 + p else L.col i }
/-- the same table; of blocks that were there none is another one's. -/
structure Lx (w : World) (L L' : Ly) : Prop where
  b : L'.b = L.b
  gp : L'.gp = L.gp
  col : ∀ i, i < w.heap.size → L'.col i = L.col i
theorem Lx.refl (w : World) (L : Ly) : Lx w L L := ⟨rfl, rfl, fun _ _ => rfl⟩
theorem Lx.trans {w w' : World} {L L1 L2 : Ly} (h : Lx w L L1) (k : Lx w' L1 L2) (hs : w.heap.size ≤ w'.heap.size) : Lx w L L2 := ⟨k.b.trans h.b, k.gp.trans h.gp, fun i hi => (k.col i (Nat.lt_of_lt_of_le hi hs)).trans (h.col i hi)⟩
/-- an entry with one shard more. -/
def moreE (a : En) (x : Shd) : En := ⟨a.k, a.need, insS a.l x, a.p⟩
theorem lineP_app (X Y : List En) : lineP (X ++ Y) = lineP X ++ lineP Y := by unfold lineP; rw [List.filter_append, List.map_append]
theorem lineP_cons (a : En) (Y : List En) : lineP (a :: Y) = if a.ready = true then lineP Y else a.p :: lineP Y := by
  unfold lineP
  cases h : a.ready <;> simp [h]
theorem fOf_more (A B : List En) (a : En) (x : Shd) (n j : Nat) (k : Ky) : fOf (A ++ moreE a x :: B) n j k = fOf (A ++ a :: B) n j k := by
  unfold fOf findE
  rw [List.find?_append, List.find?_append, List.find?_cons, List.find?_cons]
  show (if pj n k = j then _ else none) = _
  by_cases h : a.k = k
  · have h' : (moreE a x).k = k := h
    simp only [h, h', decide_true]
    cases List.find? (fun e => decide (e.k = k)) A <;> rfl
  · have h' : ¬ (moreE a x).k = k := h
    simp only [h, h', decide_false]
theorem cntJ_more (A B : List En) (a : En) (x : Shd) (n j : Nat) : cntJ (A ++ moreE a x :: B) n j = cntJ (A ++ a :: B) n j := by
  unfold cntJ
  rw [List.filter_append, List.filter_append, List.filter_cons, List.filter_cons]
  rw [show (moreE a x).k = a.k from rfl]
  by_cases h : pj n a.k = j <;> simp [h]

section
variable {w w' : World} {L : Ly} {n room : Nat} {many : Int} {U : List Nat} {ls : Int} {sp : Nat → Int}
theorem St.grow {A B : List En} {a : En} {x : Shd} {g : Nat} {s' : ByteArray} {v' : Value} {ah bh : Nat → Option Nat} (h : St w L n room many (A ++ a :: B) (A ++ a :: B) U ls sp) (h64 : n ≤ 64)
    (hz : Nd w L.z (0, 0) 0 S0 (.slice none 0 0) (ah L.z) (bh L.z)) (he : ∀ e ∈ A ++ a :: B, Er w L ah bh e) (hc : Ch ah bh L.z U L.z)
    (hg : L.col g = 1000 + a.p ∨ w.heap.size ≤ g) (hgl : g < w'.heap.size) (t : Tn (fun j => j = a.p ∨ L.col j = 1000 + a.p) w w')
    (hN : Nd w' a.p a.k a.need s' v' (ah a.p) (bh a.p)) (hI : Idx s' (insS a.l x)) (hS : Sr w' (fun j => j = g) v' ((insS a.l x).map (·.2))) :
    St w' (L.own g a.p) n room many (A ++ moreE a x :: B) (A ++ moreE a x :: B) U ls sp := by
  have hga : L.col g = 1000 + a.p ∨ L.col g = -1 := hg.imp id (h.ahead g)
  have hcp := (he a (by simp)).col
  have old : ∀ {i : Nat} {v : Int}, L.col i = v → v ≠ -1 → v ≠ 1000 + a.p → (L.own g a.p).col i = v := fun {i v} e h1 h2 => by
    show (if i = g then (1000 : Int) + a.p else L.col i) = v
    rw [if_neg (fun f => by rw [f] at e; rcases hga with k | k; exact h2 (e.symm.trans k); exact h1 (e.symm.trans k)), e]
  have q : ∀ {i : Nat} {v : Int}, L.col i = v → v ≠ 4 → v ≠ 1000 + a.p → ¬ (i = a.p ∨ L.col i = 1000 + a.p) := fun e h4 h1 f => by
    rcases f with f | f
    · exact h4 (by rw [← e, f, hcp])
    · exact h1 (e.symm.trans f)
  have hpn := h.pn
  have hmem : ∀ e ∈ A ++ moreE a x :: B, e = moreE a x ∨ (e ∈ A ++ a :: B ∧ e.p ≠ a.p) := fun e hm => by
    rw [List.map_append, List.map_cons, List.nodup_append] at hpn
    rcases List.mem_append.1 hm with k | k
    · exact .inr ⟨List.mem_append_left _ k, fun f => hpn.2.2 e.p (List.mem_map.2 ⟨e, k, rfl⟩) a.p (by simp) f⟩
    · rcases List.mem_cons.1 k with k | k
      · exact .inl k
      · exact .inr ⟨List.mem_append_right _ (List.mem_cons_of_mem _ k), fun f => (List.nodup_cons.1 hpn.2.1).1 (List.mem_map.2 ⟨e, k, f⟩)⟩
  refine ⟨h.tab.tn t (q h.cb (by decide) (by omega)), h.par.tn t (q h.cg (by decide) (by omega)), fun j hj => ?_, ⟨ah, bh, hz.tn t (q h.cz (by decide) (by omega)), fun e hm => ?_, hc⟩, h.ln, fun p hp => ?_, ?_, old h.cb (by decide) (by omega), old h.cg (by decide) (by omega), old h.cz (by decide) (by omega), fun j hj => old (h.cm j hj) (by omega) (by omega), fun i hi => ?_⟩
  · rw [cntJ_more]
    exact ((h.maps j hj).tn t (q (h.cm j hj) (by omega) (by omega))).congr fun k _ => fOf_more ..
  · rcases hmem e hm with rfl | ⟨k, hne⟩
    · refine ⟨old hcp (by decide) (by omega), s', v', hN, hI, hS.mono fun j _ f => ?_⟩
      show (if j = g then (1000 : Int) + a.p else L.col j) = 1000 + a.p
      rw [if_pos f]
    · obtain ⟨s, v, h1, h2, h3⟩ := (he e k).mem
      refine ⟨old (he e k).col (by decide) (by omega), s, v, h1.tn t (fun f => ?_), h2, (h3.tn t (fun i _ f f' => ?_)).mono fun i _ f => old f (by omega) (by omega)⟩
      · rcases f with f | f
        · exact hne f
        · have := (he e k).col; omega
      · rcases f' with f' | f'
        · rw [f', hcp] at f; omega
        · rw [f'] at f; omega
  · obtain ⟨e, hm, f⟩ := h.lu p hp
    rcases List.mem_append.1 hm with k | k
    · exact ⟨e, List.mem_append_left _ k, f⟩
    · rcases List.mem_cons.1 k with k | k
      · exact ⟨moreE a x, by simp, by rw [← f, k]; rfl⟩
      · exact ⟨e, List.mem_append_right _ (List.mem_cons_of_mem _ k), f⟩
  · have e : (A ++ moreE a x :: B).map En.p = (A ++ a :: B).map En.p := by rw [List.map_append, List.map_append, List.map_cons, List.map_cons]; rfl
    rw [e]; exact h.pn
  · show (if i = g then (1000 : Int) + a.p else L.col i) = -1
    rw [if_neg (by omega)]
    exact h.ahead i (Nat.le_trans t.size hi)
theorem more_ok {a : En} (h : EnOk a) (hr : a.ready = false) {x : Shd} (hx : 0 ≤ x.1 ∧ x.1 ≤ 254) (hn : anyS a.l x.1 = false) : EnOk (moreE a x) := by
  have h1 := h.l1
  have h2 : a.l.length ≠ a.need := of_decide_eq_false hr
  exact ⟨h.key, h.n0, h.n1, by show 1 ≤ (insS a.l x).length; rw [insS_len]; omega, by show (insS a.l x).length ≤ a.need; rw [insS_len]; omega, insS_ok h.sh hx hn⟩
set_option maxRecDepth 100000 in
set_option maxHeartbeats 1600000 in
theorem tb_add {A B : List En} {a : En} (h : St w L n room many (A ++ a :: B) (A ++ a :: B) (lineP (A ++ a :: B)) 0 sp) (h64 : n ≤ 64) (ha : EnOk a) (hr : a.ready = false) (i : Nat) (hi : i ≤ 254) (t : ByteArray) :
    Calls Try.prog 30 #[ptv L.b, ptv a.p, .int .i64 (plS a.l (i : Int) : Nat), .agg #[.int .i64 i, .string t]] w fun e w' => e = .returned (.int .i64 (newN (moreE a ((i : Int), t)))) ∧
      (∃ L', Lx w L L' ∧ St w' L' n room many (A ++ moreE a ((i : Int), t) :: B) (A ++ moreE a ((i : Int), t) :: B) (lineP (A ++ moreE a ((i : Int), t) :: B)) 0 sp) ∧ Tn (Mine L) w w' := by
  have HT1 : Hid (Tn Nil w (w.alloc (.cells #[.int .i64 i, .string t] 32))) := Lib.hid ((Tn.refl _ w).alloc _)
  have HX1 := Lib.hid (At.new w 32 [.int .i64 i, .string t])
  have H1 := Lib.hid (h.free HT1.out)
  have HC1 : Hid (w.heap.size ≤ w.heap.size) := Lib.hid (Nat.le_refl _)
  have HA := Lib.hid ha
  have HL : Hid (lineP (A ++ a :: B) = lineP A ++ a.p :: lineP B) := Lib.hid (by rw [lineP_app, lineP_cons, if_neg (by rw [hr]; decide)])
  have H64 := Lib.hid h64
  have x0 := HX1.out.cell 0 rfl
  have x1 := HX1.out.cell 1 rfl
  clear h ha hr h64
  go_enter Try.func30, Try.ntmps30
  go_wp2_with fail
  generalize w.heap.size = bx at *
  generalize w.alloc (.cells #[.int .i64 i, .string t] 32) = w1 at *
  obtain ⟨ah, bh, h1, h2, h3⟩ := H1.out.nodes
  obtain ⟨s, v, g1, g2, g3⟩ := (h2 a (by simp)).mem
  have hcp := (h2 a (by simp)).col
  refine (nd_add g1 g2 g3 ⟨HA.out.l0, by have := HA.out.l1; have := HA.out.n1; omega⟩ (fun f => by have f : L.col a.p = 1000 + a.p := f; omega) (fun i hi f => by have := H1.out.ahead i hi; have f : L.col i = 1000 + a.p := f; omega) i hi t).mono ?_
  rintro e w2 ⟨rfl, ⟨s', v', g, hn', hi', hs', hg'⟩, ht'⟩
  have hgl : g < w2.heap.size := by
    obtain ⟨g', cap, cur, rfl, e, hl, _⟩ := hs'.form (by rw [List.length_map, insS_len]; omega)
    rw [show g' = g from e] at hl; exact hl
  have H2 := Lib.hid (H1.out.grow H64.out h1 h2 h3 hg' hgl ht' hn' hi' hs')
  have HX : Hid (Lx w1 L (L.own g a.p)) := Lib.hid ⟨rfl, rfl, fun j hj => by
    show (if j = g then (1000 : Int) + a.p else L.col j) = L.col j
    by_cases e : j = g
    · rw [if_pos e, e]
      rcases hg' with k | k
      · exact k.symm
      · omega
    · rw [if_neg e]⟩
  have T2 : Hid (Tn (Mine L) w1 w2) := Lib.hid (ht'.mono fun j _ e => by
    rcases e with rfl | e
    · show L.col _ ≠ -1; omega
    · show L.col _ ≠ -1; omega)
  have HB : Hid ((L.own g a.p).b = L.b) := Lib.hid rfl
  clear h1 h2 h3 g1 g2 g3 hcp hn' hi' hs' hg' hgl ht' x0 x1
  generalize L.own g a.p = L2 at *
  obtain ⟨_, s2, v2, y, z, hn2, _, hsr2⟩ := H2.out.entry (e := moreE a ((i : Int), t)) (by simp)
  obtain ⟨gg, cap2, cur2, rfl, _⟩ := hsr2.form (by rw [List.length_map]; show 0 < (insS a.l _).length; rw [insS_len]; omega)
  have HRD := Lib.hid (nd_ready hn2 rfl)
  have hrd : decide ((((moreE a ((i : Int), t)).l.map (·.2)).length) = (moreE a ((i : Int), t)).need) = (moreE a ((i : Int), t)).ready := by rw [List.length_map]; rfl
  rw [hrd] at HRD
  clear hn2 hsr2 hrd
  go_wp2_with fail
  refine HRD.out.mono ?_; rintro e w4 ⟨rfl, g4⟩
  have TD := tn_below Nil (two_drawn (B := w2.heap.size) g4)
  have H4 := Lib.hid (H2.out.free TD)
  have T4 := Lib.hid (T2.out.trans (TD.mono fun _ _ e => e.elim))
  clear TD g4 HRD H2 T2
  rw [HL.out] at H4
  have HLX : Hid (Lx w L L2) := Lib.hid ⟨HX.out.b, HX.out.gp, fun j hj => HX.out.col j (Nat.lt_of_lt_of_le hj HT1.out.size)⟩
  have HTT : Hid (Tn (Mine L) w w4) := Lib.hid ((HT1.out.mono fun _ _ e => e.elim).trans T4.out)
  cases hready : (moreE a ((i : Int), t)).ready with
  | true =>
    have HV : Hid (newN (moreE a ((i : Int), t)) = 3) := Lib.hid (by unfold newN; rw [if_pos hready])
    have HL2 : Hid (lineP (A ++ moreE a ((i : Int), t) :: B) = lineP A ++ lineP B) := Lib.hid (by rw [lineP_app, lineP_cons, if_pos hready])
    clear hready
    have HLV := Lib.hid (tb_leave H4.out)
    rw [HB.out] at HLV
    go_wp2_with fail
    refine HLV.out.mono ?_; rintro e w5 ⟨rfl, h5, t5⟩
    have H5 := Lib.hid h5
    have T5 : Hid (Tn (Mine L) w w5) := Lib.hid (HTT.out.trans' t5 fun j hj e => by
      have e : L2.col j ≠ -1 := e
      rw [HLX.out.col j hj] at e
      exact e)
    clear h5 t5 HLV
    go_wp2_with fail
    go_ret
    exact ⟨by rw [HV.out]; rfl, ⟨L2, HLX.out, by rw [HL2.out]; exact H5.out⟩, T5.out⟩
  | false =>
    have HV : Hid (newN (moreE a ((i : Int), t)) = 0) := Lib.hid (by unfold newN; rw [if_neg (by rw [hready]; decide)])
    have HL2 : Hid (lineP (A ++ moreE a ((i : Int), t) :: B) = lineP A ++ a.p :: lineP B) := Lib.hid (by rw [lineP_app, lineP_cons, if_neg (by rw [hready]; decide)]; rfl)
    clear hready
    go_wp2_with fail
    go_ret
    exact ⟨by rw [HV.out]; rfl, ⟨L2, HLX.out, by rw [HL2.out]; exact H4.out⟩, HTT.out⟩
end
end Go.Proofs.Ytgclgmfmcgacdaa

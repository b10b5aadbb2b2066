/- Proved: lemmas of one statement's proof, merged by program: what each part proves stands ahead of it. Conditions: those that the lemmas name. -/
import Derived.Test.YtgclgmfmcgacdaaM18

/- Proved: what add of package table leaves. Conditions: those that the theorems name. -/
namespace Go.Proofs.Ytgclgmfmcgacdaa
open Go.ChangeShapes Go.WideShapes Go.ChangeAt Go.RowKit Go.MuLone

/-- a block more is a row's of p. -/
def Ly.own (L : Ly) (g p : Nat) : Ly := { L with col := fun i => if i = g then 1000 + p else L.col i }
/-- the same table; of blocks that were there none is another one's. -/
structure Lx (w : World) (L L' : Ly) : Prop where
  b : L'.b = L.b
  gp : L'.gp = L.gp
  col : ∀ i, i < w.heap.size → L'.col i = L.col i
theorem Lx.refl (w : World) (L : Ly) : Lx w L L := ⟨rfl, rfl, fun _ _ => rfl⟩
theorem Lx.trans {w w' : World} {L L1 L2 : Ly} (h : Lx w L L1) (k : Lx w' L1 L2) (hs : w.heap.size ≤ w'.heap.size) : Lx w L L2 := ⟨k.b.trans h.b, k.gp.trans h.gp, fun i hi => (k.col i (Nat.lt_of_lt_of_le hi hs)).trans (h.col i hi)⟩
/-- an entry with one shard more. -/
def moreE (a : En) (x : Shd) : En := ⟨a.k, a.need, insS a.l x, a.p⟩
theorem lineP_app (X Y : List En) : lineP (X ++ Y) = lineP X ++ lineP Y := by unfold lineP; rw [List.filter_append, List.map_append]
theorem lineP_cons (a : En) (Y : List En) : lineP (a :: Y) = if a.ready = true then lineP Y else a.p :: lineP Y := by
  unfold lineP
  cases h : a.ready <;> simp [h]
theorem fOf_more (A B : List En) (a : En) (x : Shd) (n j : Nat) (k : Ky) : fOf (A ++ moreE a x :: B) n j k = fOf (A ++ a :: B) n j k := by
  unfold fOf findE
  rw [List.find?_append, List.find?_append, List.find?_cons, List.find?_cons]
  show (if pj n k = j then _ else none) = _
  by_cases h : a.k = k
  · have h' : (moreE a x).k = k := h
    simp only [h, h', decide_true]
    cases List.find? (fun e => decide (e.k = k)) A <;> rfl
  · have h' : ¬ (moreE a x).k = k := h
    simp only [h, h', decide_false]
theorem cntJ_more (A B : List En) (a : En) (x : Shd) (n j : Nat) : cntJ (A ++ moreE a x :: B) n j = cntJ (A ++ a :: B) n j := by
  unfold cntJ
  rw [List.filter_append, List.filter_append, List.filter_cons, List.filter_cons]
  rw [show (moreE a x).k = a.k from rfl]
  by_cases h : pj n a.k = j <;> simp [h]

section
variable {w w' : World} {L : Ly} {n room : Nat} {many : Int} {U : List Nat} {ls : Int} {sp : Nat → Int}
theorem St.grow {A B : List En} {a : En} {x : Shd} {g : Nat} {s' : ByteArray} {v' : Value} {ah bh : Nat → Option Nat} (h : St w L n room many (A ++ a :: B) (A ++ a :: B) U ls sp) (h64 : n ≤ 64)
    (hz : Nd w L.z (0, 0) 0 S0 (.slice none 0 0) (ah L.z) (bh L.z)) (he : ∀ e ∈ A ++ a :: B, Er w L ah bh e) (hc : Ch ah bh L.z U L.z)
    (hg : L.col g = 1000 + a.p ∨ w.heap.size ≤ g) (hgl : g < w'.heap.size) (t : Tn (fun j => j = a.p ∨ L.col j = 1000 + a.p) w w')
    (hN : Nd w' a.p a.k a.need s' v' (ah a.p) (bh a.p)) (hI : Idx s' (insS a.l x)) (hS : Sr w' (fun j => j = g) v' ((insS a.l x).map (·.2))) :
    St w' (L.own g a.p) n room many (A ++ moreE a x :: B) (A ++ moreE a x :: B) U ls sp := by
  have hga : L.col g = 1000 + a.p ∨ L.col g = -1 := hg.imp id (h.ahead g)
  have hcp := (he a (by simp)).col
  have old : ∀ {i : Nat} {v : Int}, L.col i = v → v ≠ -1 → v ≠ 1000 + a.p → (L.own g a.p).col i = v := fun {i v} e h1 h2 => by
    show (if i = g then (1000 : Int) + a.p else L.col i) = v
    rw [if_neg (fun f => by rw [f] at e; rcases hga with k | k; exact h2 (e.symm.trans k); exact h1 (e.symm.trans k)), e]
  have q : ∀ {i : Nat} {v : Int}, L.col i = v → v ≠ 4 → v ≠ 1000 + a.p → ¬ (i = a.p ∨ L.col i = 1000 + a.p) := fun e h4 h1 f => by
    rcases f with f | f
    · exact h4 (by rw [← e, f, hcp])
    · exact h1 (e.symm.trans f)
  have hpn := h.pn
  have hmem : ∀ e ∈ A ++ moreE a x :: B, e = moreE a x ∨ (e ∈ A ++ a :: B ∧ e.p ≠ a.p) := fun e hm => by
    rw [List.map_append, List.map_cons, List.nodup_append] at hpn
    rcases List.mem_append.1 hm with k | k
    · exact .inr ⟨List.mem_append_left _ k, fun f => hpn.2.2 e.p (List.mem_map.2 ⟨e, k, rfl⟩) a.p (by simp) f⟩
    · rcases List.mem_cons.1 k with k | k
      · exact .inl k
      · exact .inr ⟨List.mem_append_right _ (List.mem_cons_of_mem _ k), fun f => (List.nodup_cons.1 hpn.2.1).1 (List.mem_map.2 ⟨e, k, f⟩)⟩
  refine ⟨h.tab.tn t (q h.cb (by decide) (by omega)), h.par.tn t (q h.cg (by decide) (by omega)), fun j hj => ?_, ⟨ah, bh, hz.tn t (q h.cz (by decide) (by omega)), fun e hm => ?_, hc⟩, h.ln, fun p hp => ?_, ?_, old h.cb (by decide) (by omega), old h.cg (by decide) (by omega), old h.cz (by decide) (by omega), fun j hj => old (h.cm j hj) (by omega) (by omega), fun i hi => ?_⟩
  · rw [cntJ_more]
    exact ((h.maps j hj).tn t (q (h.cm j hj) (by omega) (by omega))).congr fun k _ => fOf_more ..
  · rcases hmem e hm with rfl | ⟨k, hne⟩
    · refine ⟨old hcp (by decide) (by omega), s', v', hN, hI, hS.mono fun j _ f => ?_⟩
      show (if j = g then (1000 : Int) + a.p else L.col j) = 1000 + a.p
      rw [if_pos f]
    · obtain ⟨s, v, h1, h2, h3⟩ := (he e k).mem
      refine ⟨old (he e k).col (by decide) (by omega), s, v, h1.tn t (fun f => ?_), h2, (h3.tn t (fun i _ f f' => ?_)).mono fun i _ f => old f (by omega) (by omega)⟩
      · rcases f with f | f
        · exact hne f
        · have := (he e k).col; omega
      · rcases f' with f' | f'
        · rw [f', hcp] at f; omega
        · rw [f'] at f; omega
  · obtain ⟨e, hm, f⟩ := h.lu p hp
    rcases List.mem_append.1 hm with k | k
    · exact ⟨e, List.mem_append_left _ k, f⟩
    · rcases List.mem_cons.1 k with k | k
      · exact ⟨moreE a x, by simp, by rw [← f, k]; rfl⟩
      · exact ⟨e, List.mem_append_right _ (List.mem_cons_of_mem _ k), f⟩
  · have e : (A ++ moreE a x :: B).map En.p = (A ++ a :: B).map En.p := by rw [List.map_append, List.map_append, List.map_cons, List.map_cons]; rfl
    rw [e]; exact h.pn
  · show (if i = g then (1000 : Int) + a.p else L.col i) = -1
    rw [if_neg (by omega)]
    exact h.ahead i (Nat.le_trans t.size hi)
theorem more_ok {a : En} (h : EnOk a) (hr : a.ready = false) {x : Shd} (hx : 0 ≤ x.1 ∧ x.1 ≤ 254) (hn : anyS a.l x.1 = false) : EnOk (moreE a x) := by
  have h1 := h.l1
  have h2 : a.l.length ≠ a.need := of_decide_eq_false hr
  exact ⟨h.key, h.n0, h.n1, by show 1 ≤ (insS a.l x).length; rw [insS_len]; omega, by show (insS a.l x).length ≤ a.need; rw [insS_len]; omega, insS_ok h.sh hx hn⟩
set_option maxRecDepth 100000 in
set_option maxHeartbeats 1600000 in
theorem tb_add {A B : List En} {a : En} (h : St w L n room many (A ++ a :: B) (A ++ a :: B) (lineP (A ++ a :: B)) 0 sp) (h64 : n ≤ 64) (ha : EnOk a) (hr : a.ready = false) (i : Nat) (hi : i ≤ 254) (t : ByteArray) :
    Calls Try.prog 30 #[ptv L.b, ptv a.p, .int .i64 (plS a.l (i : Int) : Nat), .agg #[.int .i64 i, .string t]] w fun e w' => e = .returned (.int .i64 (newN (moreE a ((i : Int), t)))) ∧
      (∃ L', Lx w L L' ∧ St w' L' n room many (A ++ moreE a ((i : Int), t) :: B) (A ++ moreE a ((i : Int), t) :: B) (lineP (A ++ moreE a ((i : Int), t) :: B)) 0 sp) ∧ Tn (Mine L) w w' := by
  have HT1 : Hid (Tn Nil w (w.alloc (.cells #[.int .i64 i, .string t] 32))) := Lib.hid ((Tn.refl _ w).alloc _)
  have HX1 := Lib.hid (At.new w 32 [.int .i64 i, .string t])
  have H1 := Lib.hid (h.free HT1.out)
  have HC1 : Hid (w.heap.size ≤ w.heap.size) := Lib.hid (Nat.le_refl _)
  have HA := Lib.hid ha
  have HL : Hid (lineP (A ++ a :: B) = lineP A ++ a.p :: lineP B) := Lib.hid (by rw [lineP_app, lineP_cons, if_neg (by rw [hr]; decide)])
  have H64 := Lib.hid h64
  have x0 := HX1.out.cell 0 rfl
  have x1 := HX1.out.cell 1 rfl
  clear h ha hr h64
  go_enter Try.func30, Try.ntmps30
  go_wp2_with fail
  generalize w.heap.size = bx at *
  generalize w.alloc (.cells #[.int .i64 i, .string t] 32) = w1 at *
  obtain ⟨ah, bh, h1, h2, h3⟩ := H1.out.nodes
  obtain ⟨s, v, g1, g2, g3⟩ := (h2 a (by simp)).mem
  have hcp := (h2 a (by simp)).col
  refine (nd_add g1 g2 g3 ⟨HA.out.l0, by have := HA.out.l1; have := HA.out.n1; omega⟩ (fun f => by have f : L.col a.p = 1000 + a.p := f; omega) (fun i hi f => by have := H1.out.ahead i hi; have f : L.col i = 1000 + a.p := f; omega) i hi t).mono ?_
  rintro e w2 ⟨rfl, ⟨s', v', g, hn', hi', hs', hg'⟩, ht'⟩
  have hgl : g < w2.heap.size := by
    obtain ⟨g', cap, cur, rfl, e, hl, _⟩ := hs'.form (by rw [List.length_map, insS_len]; omega)
    rw [show g' = g from e] at hl; exact hl
  have H2 := Lib.hid (H1.out.grow H64.out h1 h2 h3 hg' hgl ht' hn' hi' hs')
  have HX : Hid (Lx w1 L (L.own g a.p)) := Lib.hid ⟨rfl, rfl, fun j hj => by
    show (if j = g then (1000 : Int) + a.p else L.col j) = L.col j
    by_cases e : j = g
    · rw [if_pos e, e]
      rcases hg' with k | k
      · exact k.symm
      · omega
    · rw [if_neg e]⟩
  have T2 : Hid (Tn (Mine L) w1 w2) := Lib.hid (ht'.mono fun j _ e => by
    rcases e with rfl | e
    · show L.col _ ≠ -1; omega
    · show L.col _ ≠ -1; omega)
  have HB : Hid ((L.own g a.p).b = L.b) := Lib.hid rfl
  clear h1 h2 h3 g1 g2 g3 hcp hn' hi' hs' hg' hgl ht' x0 x1
  generalize L.own g a.p = L2 at *
  obtain ⟨_, s2, v2, y, z, hn2, _, hsr2⟩ := H2.out.entry (e := moreE a ((i : Int), t)) (by simp)
  obtain ⟨gg, cap2, cur2, rfl, _⟩ := hsr2.form (by rw [List.length_map]; show 0 < (insS a.l _).length; rw [insS_len]; omega)
  have HRD := Lib.hid (nd_ready hn2 rfl)
  have hrd : decide ((((moreE a ((i : Int), t)).l.map (·.2)).length) = (moreE a ((i : Int), t)).need) = (moreE a ((i : Int), t)).ready := by rw [List.length_map]; rfl
  rw [hrd] at HRD
  clear hn2 hsr2 hrd
  go_wp2_with fail
  refine HRD.out.mono ?_; rintro e w4 ⟨rfl, g4⟩
  have TD := tn_below Nil (two_drawn (B := w2.heap.size) g4)
  have H4 := Lib.hid (H2.out.free TD)
  have T4 := Lib.hid (T2.out.trans (TD.mono fun _ _ e => e.elim))
  clear TD g4 HRD H2 T2
  rw [HL.out] at H4
  have HLX : Hid (Lx w L L2) := Lib.hid ⟨HX.out.b, HX.out.gp, fun j hj => HX.out.col j (Nat.lt_of_lt_of_le hj HT1.out.size)⟩
  have HTT : Hid (Tn (Mine L) w w4) := Lib.hid ((HT1.out.mono fun _ _ e => e.elim).trans T4.out)
  cases hready : (moreE a ((i : Int), t)).ready with
  | true =>
    have HV : Hid (newN (moreE a ((i : Int), t)) = 3) := Lib.hid (by unfold newN; rw [if_pos hready])
    have HL2 : Hid (lineP (A ++ moreE a ((i : Int), t) :: B) = lineP A ++ lineP B) := Lib.hid (by rw [lineP_app, lineP_cons, if_pos hready])
    clear hready
    have HLV := Lib.hid (tb_leave H4.out)
    rw [HB.out] at HLV
    go_wp2_with fail
    refine HLV.out.mono ?_; rintro e w5 ⟨rfl, h5, t5⟩
    have H5 := Lib.hid h5
    have T5 : Hid (Tn (Mine L) w w5) := Lib.hid (HTT.out.trans' t5 fun j hj e => by
      have e : L2.col j ≠ -1 := e
      rw [HLX.out.col j hj] at e
      exact e)
    clear h5 t5 HLV
    go_wp2_with fail
    go_ret
    exact ⟨by rw [HV.out]; rfl, ⟨L2, HLX.out, by rw [HL2.out]; exact H5.out⟩, T5.out⟩
  | false =>
    have HV : Hid (newN (moreE a ((i : Int), t)) = 0) := Lib.hid (by unfold newN; rw [if_neg (by rw [hready]; decide)])
    have HL2 : Hid (lineP (A ++ moreE a ((i : Int), t) :: B) = lineP A ++ a.p :: lineP B) := Lib.hid (by rw [lineP_app, lineP_cons, if_neg (by rw [hready]; decide)]; rfl)
    clear hready
    go_wp2_with fail
    go_ret
    exact ⟨by rw [HV.out]; rfl, ⟨L2, HLX.out, by rw [HL2.out]; exact H4.out⟩, HTT.out⟩
end
end Go.Proofs.Ytgclgmfmcgacdaa

/- Proved: what Put of package table answers. Conditions: those that the theorems name. -/
namespace Go.Proofs.Ytgclgmfmcgacdaa
open Go.ChangeShapes Go.WideShapes Go.ChangeAt Go.RowKit Go.MuLone

/-- A table in memory. -/
structure Tb (w : World) (L : Ly) (n room : Nat) (X : List En) : Prop where
  st : St w L n room X.length X X (lineP X) 0 (fun _ => 0)
  wf : Wf X room
  n1 : 1 ≤ n
  n64 : n ≤ 64
theorem Tb.tn {w w' : World} {L : Ly} {n room : Nat} {X : List En} {c : Nat → Prop} (h : Tb w L n room X) (t : Tn c w w') (hc : ∀ g, g < w.heap.size → c g → L.col g = -1) : Tb w' L n room X := ⟨h.st.tn t hc, h.wf, h.n1, h.n64⟩
theorem Tb.free {w w' : World} {L : Ly} {n room : Nat} {X : List En} (h : Tb w L n room X) (t : Tn Nil w w') : Tb w' L n room X := h.tn t fun _ _ e => e.elim
/-- a need, or an Index, that may not be. -/
def badP (need : Int) (x : Shd) : Bool := decide (need < 1) || (decide (32 < need) || (decide (x.1 < 0) || decide (255 ≤ x.1)))
/-- what Put tells. -/
def putN (X : List En) (room : Nat) (k : Ky) (need : Int) (x : Shd) : Int :=
  if badP need x = true then 5 else match findE X k with
  | none => if X.length = room then 2 else if need = 1 then 3 else 0
  | some e => match roleR e.l e.need need x with
    | .wanted _ => newN (moreE e x)
    | .known => 1
    | _ => 4
/-- .. and what the entries are then. -/
def PutX (X : List En) (room : Nat) (k : Ky) (need : Int) (x : Shd) (X' : List En) : Prop :=
  if badP need x = true then X' = X else match findE X k with
  | none => if X.length = room then X' = X else ∃ p, X' = X ++ [⟨k, need.toNat, [x], p⟩]
  | some e => match roleR e.l e.need need x with
    | .wanted _ => ∃ A B, X = A ++ e :: B ∧ X' = A ++ moreE e x :: B
    | _ => X' = X
theorem ta_first (R : Role) (W : World) : (Instr.typeAssert R.val 80 82 true).run Try.prog W = .ok (.tuple #[.agg #[], .bool (match R with | .first => true | _ => false)]) W := by
  cases R <;> kernel_rfl
theorem ta_wanted (R : Role) (W : World) : (Instr.typeAssert R.val 80 86 true).run Try.prog W = .ok (.tuple #[.agg #[.int .i64 (match R with | .wanted n => (n : Int) | _ => 0)], .bool (match R with | .wanted _ => true | _ => false)]) W := by
  cases R <;> kernel_rfl
theorem ta_known (R : Role) (W : World) : (Instr.typeAssert R.val 80 88 true).run Try.prog W = .ok (.tuple #[.agg #[], .bool (match R with | .known => true | _ => false)]) W := by
  cases R <;> kernel_rfl
/-- the boxes. -/
theorem two_boxes (k : Ky) (x : Shd) (w : World) : ∃ w1, w1 = (w.alloc (.cells #[.int .i64 k.1, .int .u32 k.2] 35)).alloc (.cells #[.int .i64 x.1, .string x.2] 32) ∧ Tn Nil w w1 ∧ At w1 w.heap.size 35 [.int .i64 k.1, .int .u32 k.2] ∧ At w1 (w.heap.size + 1) 32 [.int .i64 x.1, .string x.2] := by
  refine ⟨_, rfl, ((Tn.refl _ w).alloc _).alloc _, (At.new w _ [.int .i64 k.1, .int .u32 k.2]).alloc _, ?_⟩
  have := At.new (w.alloc (.cells #[.int .i64 k.1, .int .u32 k.2] 35)) 32 [.int .i64 x.1, .string x.2]
  rw [size_alloc] at this
  exact this
section
variable {w : World} {L : Ly} {n room : Nat} {X : List En}
set_option maxRecDepth 100000 in
set_option maxHeartbeats 1600000 in
theorem put_bad (p : Option Nat) (k : Ky) (need : Int) (x : Shd) (hb : p = none ∨ badP need x = true) :
    Calls Try.prog 12 #[ptO p, kyV k, .int .i64 need, .agg #[.int .i64 x.1, .string x.2]] w fun e w' => e = .returned (.int .i64 5) ∧ Tn Nil w w' := by
  obtain ⟨w1, hw1, t1, hk, hx⟩ := two_boxes k x w
  obtain ⟨k0, k1⟩ := k
  obtain ⟨i, t⟩ := x
  have T1 := Lib.hid t1
  have x0 := hx.cell 0 rfl
  clear hk hx t1
  have hcase : p = none ∨ (∃ q, p = some q) ∧ (need < 1 ∨ ¬ need < 1 ∧ 32 < need ∨ ¬ need < 1 ∧ ¬ 32 < need ∧ i < 0 ∨ ¬ need < 1 ∧ ¬ 32 < need ∧ ¬ i < 0 ∧ 255 ≤ i) := by
    cases p with
    | none => exact .inl rfl
    | some q =>
      refine .inr ⟨⟨q, rfl⟩, ?_⟩
      rcases hb with hb | hb
      · cases hb
      · unfold badP at hb
        simp only [Bool.or_eq_true, decide_eq_true_eq] at hb
        omega
  clear hb
  rcases hcase with rfl | ⟨⟨q, rfl⟩, h | ⟨h, h'⟩ | ⟨h, h', h''⟩ | ⟨h, h', h'', h3⟩⟩
  all_goals
    unfold ptO
    go_enter_defers Try.func12, Try.ntmps12
    go_wp2_with fail
    rw [← hw1]
    exact ⟨_, results_tmp rfl _ _ _, rfl, T1.out⟩
theorem lx_unlock {w w' : World} {L L' : Ly} {m : Int} {X XN : List En} {U : List Nat} {sp : Nat → Int} {j : Nat} (hx : Lx w L L') (h : St w' L' n room m X XN U 0 sp) (hj : j < n) (h1 : sp j = 1) :
    CallsD Try.prog 26 #[.pointer (some ⟨L.gp, j * 3, none⟩)] .returning w' fun e u' w'' => u' = .returning ∧ (e = .returned (.tuple #[]) ∧ St w'' L' n room m X XN U 0 (upd sp j 0) ∧ Tn (Mine L') w' w'') := by
  have := tb_punlock h hj h1 .returning
  rw [hx.gp] at this
  refine this.mono ?_
  rintro e u' w'' ⟨rfl, rfl, h2, t2⟩
  have t2' : Tn (fun i => i = L'.gp) w' w'' := by rw [hx.gp]; exact t2
  exact ⟨rfl, rfl, h2, t2'.g h⟩
theorem zero_lock (j : Nat) (i : Nat) : (fun _ => (0 : Int)) i = upd (upd (fun _ => (0 : Int)) j 1) j 0 i := by
  unfold upd
  by_cases e : i = j <;> simp [e]
/-- the end of each way. -/
theorem put_close {w w5 : World} {L L' : Ly} {X' : List En} {j : Nat} (hx : Lx w L L') (hs : St w5 L' n room X'.length X' X' (lineP X') 0 (upd (fun _ => 0) j 1)) (hj : j < n) (hw : Wf X' room) (hn : 1 ≤ n ∧ n ≤ 64) (ht : Tn (Mine L) w w5) :
    CallsD Try.prog 26 #[.pointer (some ⟨L.gp, j * 3, none⟩)] .returning w5 fun e u' w'' => u' = .returning ∧ (e = .returned (.tuple #[]) ∧ Tb w'' L' n room X' ∧ Tn (Mine L) w w'') := by
  refine (lx_unlock hx hs hj (upd_same ..)).mono ?_
  rintro e u' w6 ⟨rfl, rfl, h6, t6⟩
  exact ⟨rfl, rfl, ⟨h6.locks (fun i _ => (zero_lock j i).symm), hw, hn.1, hn.2⟩, ht.trans' t6 fun i hi e => by
    have e : L'.col i ≠ -1 := e
    rw [hx.col i hi] at e
    exact e⟩
theorem roleR_first {l : List Shd} {need : Nat} {nd : Int} {x : Shd} : roleR l need nd x ≠ .first := by
  unfold roleR
  split
  · simp
  · split
    · split
      · split <;> simp
      · simp
    · simp
theorem roleR_wanted {l : List Shd} {need m : Nat} {nd : Int} {x : Shd} (h : roleR l need nd x = .wanted m) : m = plS l x.1 ∧ anyS l x.1 = false ∧ l.length ≠ need := by
  unfold roleR at h
  split at h
  · cases h
  · rename_i h1
    split at h
    · split at h
      · split at h <;> cases h
      · rename_i h2
        injection h with h
        exact ⟨h.symm, by simpa using h2, h1⟩
    · cases h
theorem enterU_line (X : List En) (a : En) : enterU a (lineP X) = lineP (X ++ [a]) := by
  unfold enterU
  rw [lineP_app, lineP_cons]
  cases h : a.ready <;> simp [lineP]
theorem wf_app {X : List En} {a : En} (h : Wf X room) (ha : EnOk a) (hf : findE X a.k = none) (hr : X.length ≠ room) : Wf (X ++ [a]) room := by
  have hl := h.len
  refine ⟨fun e he => ?_, ?_, by rw [List.length_append, List.length_singleton]; omega, h.room⟩
  · rcases List.mem_append.1 he with k | k
    · exact h.ok e k
    · rw [List.mem_singleton.1 k]; exact ha
  · rw [List.map_append]
    refine List.nodup_append.2 ⟨h.kn, by simp, fun k hk k' hk' => ?_⟩
    obtain rfl : k' = a.k := by simpa using hk'
    obtain ⟨e, he, rfl⟩ := List.mem_map.1 hk
    exact findE_none hf e he
theorem wf_more {A B : List En} {a : En} {x : Shd} (h : Wf (A ++ a :: B) room) (ha : EnOk (moreE a x)) : Wf (A ++ moreE a x :: B) room := by
  refine ⟨fun e he => ?_, ?_, by have := h.len; simp only [List.length_append, List.length_cons] at this ⊢; exact this, h.room⟩
  · rcases List.mem_append.1 he with k | k
    · exact h.ok e (List.mem_append_left _ k)
    · rcases List.mem_cons.1 k with k | k
      · rw [k]; exact ha
      · exact h.ok e (List.mem_append_right _ (List.mem_cons_of_mem _ k))
  · have e : (A ++ moreE a x :: B).map En.k = (A ++ a :: B).map En.k := by rw [List.map_append, List.map_append, List.map_cons, List.map_cons]; rfl
    rw [e]; exact h.kn
set_option maxRecDepth 100000 in
set_option maxHeartbeats 3200000 in
theorem tb_put {k : Ky} (h : Tb w L n room X) (hk : KyOk k) (nd i : Nat) (t : ByteArray) (hg : badP (nd : Int) ((i : Int), t) = false) :
    Calls Try.prog 12 #[ptv L.b, kyV k, .int .i64 nd, .agg #[.int .i64 i, .string t]] w fun e w' => e = .returned (.int .i64 (putN X room k nd ((i : Int), t))) ∧
      (∃ L' X', Lx w L L' ∧ PutX X room k nd ((i : Int), t) X' ∧ Tb w' L' n room X') ∧ Tn (Mine L) w w' := by
  obtain ⟨w1, hw1, t1, hkb, hxb⟩ := two_boxes k ((i : Int), t) w
  have T1 := Lib.hid t1
  have H1 := Lib.hid (h.free t1)
  have HKB := Lib.hid hkb
  have HXB := Lib.hid hxb
  have HW := Lib.hid h.wf
  have HN := Lib.hid (And.intro h.n1 h.n64)
  have HK := Lib.hid hk
  have hgood : 1 ≤ nd ∧ nd ≤ 32 ∧ i ≤ 254 := by
    unfold badP at hg
    simp only [Bool.or_eq_false_iff, decide_eq_false_iff_not] at hg
    omega
  have hn1 : ¬ (nd : Int) < 1 := by omega
  have hn2 : ¬ (32 : Int) < (nd : Int) := by omega
  have hi1 : ¬ (i : Int) < 0 := by omega
  have hi2 : ¬ (255 : Int) ≤ (i : Int) := by omega
  have x0 := hxb.cell 0 rfl
  have k0 := hkb.cell 0 rfl
  have k1 := hkb.cell 1 rfl
  have HJ := Lib.hid (pj_lt (n := n) (by have := h.n1; omega) k)
  have HSB : Hid (L.col w.heap.size = -1 ∧ L.col (w.heap.size + 1) = -1) := Lib.hid ⟨h.st.ahead _ (Nat.le_refl _), h.st.ahead _ (by omega)⟩
  have HG := Lib.hid (And.intro hg hgood)
  have HIG := Lib.hid hgood.2.2
  clear h hk hkb hxb t1 hg
  go_enter_defers Try.func12, Try.ntmps12
  go_wp2_with fail
  rw [← hw1]
  generalize w.heap.size + 1 = bx at *
  generalize w.heap.size = bk at *
  clear hw1
  refine (tb_part H1.out.st.tab HN.out HK.out).mono ?_; rintro e w2 ⟨rfl, t2⟩
  have H2 := Lib.hid (H1.out.free t2)
  have T2 := Lib.hid (T1.out.trans t2)
  have HKB2 := Lib.hid (HKB.out.tn t2 (fun e => e))
  have HXB2 := Lib.hid (HXB.out.tn t2 (fun e => e))
  clear t2 T1 H1 HKB HXB x0 k0 k1 hn1 hn2 hi1 hi2 hgood
  go_wp2_with fail
  refine (tb_plock H2.out.st HJ.out rfl).mono ?_; rintro e w3 ⟨rfl, h3, t3⟩
  have H3 := Lib.hid h3
  have T3 : Hid (Tn (Mine L) w w3) := Lib.hid ((T2.out.mono fun _ _ e => e.elim).trans (t3.g H2.out.st))
  have HKB3 := Lib.hid (HKB2.out.tn t3 (fun e => by have := HSB.out.1; rw [e, h3.cg] at this; exact absurd this (by decide)))
  have HXB3 := Lib.hid (HXB2.out.tn t3 (fun e => by have := HSB.out.2; rw [e, h3.cg] at this; exact absurd this (by decide)))
  have c2 := (h3.pcell HJ.out).2
  have k0 := HKB3.out.cell 0 rfl
  have k1 := HKB3.out.cell 1 rfl
  have hlook : ∀ q, (Instr.lookup 66 (.map (some (L.mp (pj n k)))) (kyV k) false).run Try.prog (w3.drewN q) = .ok (ptO ((findE X k).map En.p)) (w3.drewN q) := fun q => by
    have := mq_look ((h3.maps _ HJ.out).tn ((Tn.refl Nil w3).drewN q) (fun e => e)) HK.out
    unfold fOf at this
    rwa [if_pos rfl] at this
  clear h3 t3 T2 H2 HKB2 HXB2
  have HFM : Hid ((findE X k).map En.p = (findE X k).map En.p) := Lib.hid rfl
  generalize hpo : (findE X k).map En.p = po at *
  have HPO := Lib.hid hpo
  clear hpo HFM
  go_wp2_with fail
  go_quiet (fail)
  have TD : Tn Nil w3 (w3.drewN nq) := (Tn.refl Nil w3).drewN nq
  have H4 := Lib.hid (H3.out.free TD)
  have T4 := Lib.hid (T3.out.trans (TD.mono fun _ _ e => e.elim))
  have HKB4 := Lib.hid (HKB3.out.tn TD (fun e => e))
  have HXB4 := Lib.hid (HXB3.out.tn TD (fun e => e))
  clear TD c2 k0 k1 hlook H3 T3 HKB3 HXB3
  generalize w3.drewN nq = w4 at *
  have x0 := HXB4.out.cell 0 rfl
  have x1 := HXB4.out.cell 1 rfl
  cases hfe : findE X k with
  | none =>
    obtain rfl : po = none := by rw [← HPO.out, hfe]; rfl
    have HFE := Lib.hid hfe
    clear hfe
    unfold ptO
    go_wp2_with fail
    refine (role_none w4 (nd : Int) (i : Int) t).mono ?_; rintro e w5 ⟨rfl, t5⟩
    have H5 := Lib.hid (H4.out.free t5)
    have T5 := Lib.hid (T4.out.trans (t5.mono fun _ _ e => e.elim))
    have HKB5 := Lib.hid (HKB4.out.tn t5 (fun e => e))
    have HXB5 := Lib.hid (HXB4.out.tn t5 (fun e => e))
    clear t5 H4 T4 HKB4 HXB4 x0 x1
    have ta : ∀ W, (Instr.typeAssert Role.first.val 80 82 true).run Try.prog W = .ok (.tuple #[.agg #[], .bool true]) W := fun W => ta_first .first W
    have k0 := HKB5.out.cell 0 rfl
    have k1 := HKB5.out.cell 1 rfl
    have x0 := HXB5.out.cell 0 rfl
    have x1 := HXB5.out.cell 1 rfl
    have hbk := HKB5.out.lt
    have hbx := HXB5.out.lt
    have TA : Tn Nil w5 (w5.alloc (.cells #[] 82)) := (Tn.refl Nil w5).alloc _
    have H6 := Lib.hid (H5.out.free TA)
    have T6 := Lib.hid (T5.out.trans (TA.mono (d := Mine L) fun _ _ e => e.elim))
    clear TA
    go_wp2_with fail
    refine (tb_new_entry k nd (i : Int) t _).mono ?_
    rintro e' w7 ⟨p, g, v, rfl, hpg, hp6, hg6, hgl, hnd, hsr, t7⟩
    have H7 := Lib.hid (H6.out.free t7)
    have T7 := Lib.hid (T6.out.trans (t7.mono (d := Mine L) fun _ _ e => e.elim))
    have hpc : L.col p = -1 := H6.out.ahead p hp6
    have hgc : L.col g = -1 := H6.out.ahead g hg6
    have hb8 := H7.out.born (e := ⟨k, nd, [((i : Int), t)], p⟩) hpc hgc hpg hgl hnd (Idx.one ((i : Int), t)) hsr
    have HAO : Hid (EnOk ⟨k, nd, [((i : Int), t)], p⟩) := Lib.hid ⟨HK.out, HG.out.2.1, HG.out.2.2.1, Nat.le_refl _, HG.out.2.1, ⟨fun y hy => by
      rw [List.mem_singleton.1 hy]
      exact ⟨by show (0 : Int) ≤ (i : Int); omega, by have := HIG.out; show (i : Int) ≤ 254; omega⟩, List.pairwise_singleton ..⟩⟩
    have HLX : Hid (Lx w L (L.put p g)) := Lib.hid ⟨rfl, rfl, fun j hj => by
      show (if j = p then (4 : Int) else if j = g then 1000 + p else L.col j) = L.col j
      have h1 := T6.out.size
      rw [if_neg (by omega), if_neg (by omega)]⟩
    have hpu : p ∉ lineP X := fun f => by
      obtain ⟨b, hb, e⟩ := H7.out.lu p f
      have := (H7.out.entry hb).1
      rw [e, hpc] at this
      exact absurd this (by decide)
    have H8 := Lib.hid hb8
    have HPU := Lib.hid hpu
    have HPB : Hid ((L.put p g).b = L.b ∧ (L.put p g).gp = L.gp) := Lib.hid ⟨rfl, rfl⟩
    clear hpg hp6 hg6 hgl hnd hsr t7 hpc hgc hb8 hpu H5 T5 HKB5 HXB5 ta k0 k1 x0 x1 hbk hbx H6 T6 H7
    generalize L.put p g = L2 at *
    go_wp2_with fail
    by_cases hroom : X.length = room
    · have HV : Hid (putN X room k nd ((i : Int), t) = 2 ∧ PutX X room k nd ((i : Int), t) X) := Lib.hid (by
        unfold putN PutX
        rw [HG.out.1, HFE.out]
        simp only [Bool.false_eq_true, if_false, if_pos hroom]
        exact ⟨trivial, trivial⟩)
      have hbg := tb_begin_full H8.out hroom (pj n k * 3)
      rw [HPB.out.1, HPB.out.2] at hbg
      refine hbg.mono ?_
      rintro e' w9 ⟨rfl, h9, t9⟩
      have H9 := Lib.hid (h9.sub (XN' := X) (List.sublist_append_left ..) (fun q hq => by
        obtain ⟨b, hb, _, e⟩ := lineP_mem.1 hq
        exact ⟨b, hb, e⟩))
      have T9 : Hid (Tn (Mine L) w w9) := Lib.hid (T7.out.trans' t9 fun j hj e => by
        have e : L2.col j ≠ -1 := e
        rw [HLX.out.col j hj] at e
        exact e)
      clear h9 t9 hbg hroom
      go_wp2_with fail
      refine leaves_cons (f := 26) (args := #[.pointer (some ⟨L.gp, pj n k * 3, none⟩)]) (by simp) (by simp [go_sem]) ?_
      refine (put_close HLX.out H9.out HJ.out HW.out HN.out T9.out).mono ?_
      rintro e' u' w10 ⟨rfl, rfl, h10, t10⟩
      exact ⟨_, results_tmp rfl _ _ _, by rw [HV.out.1]; rfl, ⟨L2, X, HLX.out, HV.out.2, h10⟩, t10⟩
    · have HV : Hid (putN X room k nd ((i : Int), t) = newN ⟨k, nd, [((i : Int), t)], p⟩ ∧ PutX X room k nd ((i : Int), t) (X ++ [⟨k, nd, [((i : Int), t)], p⟩])) := Lib.hid (by
        unfold putN PutX
        rw [HG.out.1, HFE.out]
        simp only [Bool.false_eq_true, if_false, if_neg hroom, Int.toNat_natCast]
        refine ⟨?_, p, rfl⟩
        unfold newN En.ready
        simp only [List.length_singleton, decide_eq_true_eq]
        by_cases h1 : nd = 1
        · subst h1; rfl
        · rw [if_neg (by omega), if_neg (by omega)])
      have hbg := tb_begin H8.out HW.out HN.out HAO.out HFE.out HPU.out hroom
      rw [HPB.out.1, HPB.out.2, enterU_line] at hbg
      refine hbg.mono ?_
      rintro e' w9 ⟨rfl, h9, t9⟩
      have H9 := Lib.hid h9
      have T9 : Hid (Tn (Mine L) w w9) := Lib.hid (T7.out.trans' t9 fun j hj e => by
        have e : L2.col j ≠ -1 := e
        rw [HLX.out.col j hj] at e
        exact e)
      have HWF := Lib.hid (wf_app HW.out HAO.out HFE.out hroom)
      clear h9 t9 hbg hroom
      go_wp2_with fail
      refine leaves_cons (f := 26) (args := #[.pointer (some ⟨L.gp, pj n k * 3, none⟩)]) (by simp) (by simp [go_sem]) ?_
      refine (put_close (X' := X ++ [⟨k, nd, [((i : Int), t)], p⟩]) HLX.out (by rw [List.length_append, List.length_singleton]; exact H9.out) HJ.out HWF.out HN.out T9.out).mono ?_
      rintro e' u' w10 ⟨rfl, rfl, h10, t10⟩
      exact ⟨_, results_tmp rfl _ _ _, by rw [HV.out.1]; rfl, ⟨L2, _, HLX.out, HV.out.2, h10⟩, t10⟩
  | some e =>
    obtain rfl : po = some e.p := by rw [← HPO.out, hfe]; rfl
    obtain ⟨hem, hek⟩ := findE_some hfe
    have HFE := Lib.hid hfe
    have heo := HW.out.ok e hem
    obtain ⟨_, s, v, y, z, hn, hI, hS⟩ := H4.out.entry hem
    have HRL := Lib.hid (nd_role hn hI heo.sh hS ⟨heo.l0, by have := heo.l1; have := heo.n1; omega⟩ i HIG.out t (nd : Int))
    have HEM := Lib.hid hem
    clear hfe hem hek heo hn hI hS
    unfold ptO
    go_wp2_with fail
    refine HRL.out.mono ?_; rintro e' w5 ⟨rfl, t5⟩
    have H5 := Lib.hid (H4.out.free t5)
    have T5 := Lib.hid (T4.out.trans (t5.mono fun _ _ e => e.elim))
    have HXB5 := Lib.hid (HXB4.out.tn t5 (fun e => e))
    clear t5 H4 T4 HKB4 HXB4 x0 x1 HRL
    have HRF : Hid (roleR e.l e.need (nd : Int) ((i : Int), t) ≠ .first) := Lib.hid roleR_first
    cases hR : roleR e.l e.need (nd : Int) ((i : Int), t) with
    | first => exact absurd hR HRF.out
    | known =>
      have HV : Hid (putN X room k nd ((i : Int), t) = 1 ∧ PutX X room k nd ((i : Int), t) X) := Lib.hid (by
        unfold putN PutX
        rw [HG.out.1, HFE.out]
        simp only [Bool.false_eq_true, if_false, hR]
        exact ⟨trivial, trivial⟩)
      have ta1 : ∀ W, (Instr.typeAssert Role.known.val 80 82 true).run Try.prog W = .ok (.tuple #[.agg #[], .bool false]) W := fun W => ta_first .known W
      have ta2 : ∀ W, (Instr.typeAssert Role.known.val 80 86 true).run Try.prog W = .ok (.tuple #[.agg #[.int .i64 0], .bool false]) W := fun W => ta_wanted .known W
      have ta3 : ∀ W, (Instr.typeAssert Role.known.val 80 88 true).run Try.prog W = .ok (.tuple #[.agg #[], .bool true]) W := fun W => ta_known .known W
      clear hR HRF
      go_wp2_with fail
      have TA : Tn Nil w5 (w5.alloc (.cells #[] 88)) := (Tn.refl Nil w5).alloc _
      refine leaves_cons (f := 26) (args := #[.pointer (some ⟨L.gp, pj n k * 3, none⟩)]) (by simp) (by simp [go_sem]) ?_
      refine (put_close (Lx.refl w L) (H5.out.free TA) HJ.out HW.out HN.out (T5.out.trans (TA.mono fun _ _ e => e.elim))).mono ?_
      rintro e' u' w6 ⟨rfl, rfl, h6, t6⟩
      exact ⟨_, results_tmp rfl _ _ _, by rw [HV.out.1]; rfl, ⟨L, X, Lx.refl w L, HV.out.2, h6⟩, t6⟩
    | unlike =>
      have HV : Hid (putN X room k nd ((i : Int), t) = 4 ∧ PutX X room k nd ((i : Int), t) X) := Lib.hid (by
        unfold putN PutX
        rw [HG.out.1, HFE.out]
        simp only [Bool.false_eq_true, if_false, hR]
        exact ⟨trivial, trivial⟩)
      have ta1 : ∀ W, (Instr.typeAssert Role.unlike.val 80 82 true).run Try.prog W = .ok (.tuple #[.agg #[], .bool false]) W := fun W => ta_first .unlike W
      have ta2 : ∀ W, (Instr.typeAssert Role.unlike.val 80 86 true).run Try.prog W = .ok (.tuple #[.agg #[.int .i64 0], .bool false]) W := fun W => ta_wanted .unlike W
      have ta3 : ∀ W, (Instr.typeAssert Role.unlike.val 80 88 true).run Try.prog W = .ok (.tuple #[.agg #[], .bool false]) W := fun W => ta_known .unlike W
      clear hR HRF
      go_wp2_with fail
      refine leaves_cons (f := 26) (args := #[.pointer (some ⟨L.gp, pj n k * 3, none⟩)]) (by simp) (by simp [go_sem]) ?_
      refine (put_close (Lx.refl w L) H5.out HJ.out HW.out HN.out T5.out).mono ?_
      rintro e' u' w6 ⟨rfl, rfl, h6, t6⟩
      exact ⟨_, results_tmp rfl _ _ _, by rw [HV.out.1]; rfl, ⟨L, X, Lx.refl w L, HV.out.2, h6⟩, t6⟩
    | wanted m =>
      obtain ⟨hm, hany, hne⟩ := roleR_wanted hR
      have HV : Hid (putN X room k nd ((i : Int), t) = newN (moreE e ((i : Int), t)) ∧ ∀ A B, X = A ++ e :: B → PutX X room k nd ((i : Int), t) (A ++ moreE e ((i : Int), t) :: B)) := Lib.hid (by
        unfold putN PutX
        rw [HG.out.1, HFE.out]
        simp only [Bool.false_eq_true, if_false, hR]
        exact ⟨trivial, fun A B h => ⟨A, B, h, rfl⟩⟩)
      have ta1 : ∀ W, (Instr.typeAssert (Role.wanted m).val 80 82 true).run Try.prog W = .ok (.tuple #[.agg #[], .bool false]) W := fun W => ta_first (.wanted m) W
      have ta2 : ∀ W, (Instr.typeAssert (Role.wanted m).val 80 86 true).run Try.prog W = .ok (.tuple #[.agg #[.int .i64 m], .bool true]) W := fun W => ta_wanted (.wanted m) W
      have TA : Tn Nil w5 (w5.alloc (.cells #[.int .i64 m] 86)) := (Tn.refl Nil w5).alloc _
      have hy := At.new w5 86 [.int .i64 m]
      have hxb := HXB5.out.tn TA (fun e => e)
      have y0 := hy.cell 0 rfl
      have x0 := hxb.cell 0 rfl
      have x1 := hxb.cell 1 rfl
      have x0' := HXB5.out.cell 0 rfl
      have x1' := HXB5.out.cell 1 rfl
      have hbx := HXB5.out.lt
      have H6 := Lib.hid (H5.out.free TA)
      have T6 := Lib.hid (T5.out.trans (TA.mono (d := Mine L) fun _ _ e => e.elim))
      have HM := Lib.hid hm
      have hrd : e.ready = false := decide_eq_false hne
      have HRD := Lib.hid hrd
      have HMO := Lib.hid (more_ok (HW.out.ok e HEM.out) hrd (x := ((i : Int), t)) ⟨by show (0 : Int) ≤ (i : Int); omega, by have := HIG.out; show (i : Int) ≤ 254; omega⟩ hany)
      clear hR HRF hm hany hne hy hxb TA hrd
      go_wp2_with fail
      clear y0 x0 x1 x0' x1' hbx ta1 ta2
      generalize w5.alloc (.cells #[.int .i64 (m : Int)] 86) = w6 at *
      obtain ⟨A, B, rfl⟩ := List.append_of_mem HEM.out
      rw [HM.out]
      refine (tb_add H6.out HN.out.2 (HW.out.ok e (by simp)) HRD.out i HIG.out t).mono ?_
      rintro e' w7 ⟨rfl, ⟨L', hx7, h7⟩, t7⟩
      have HX7 : Hid (Lx w L L') := Lib.hid ((Lx.refl w L).trans hx7 T6.out.size)
      have H7 := Lib.hid h7
      have T7 := Lib.hid (T6.out.trans t7)
      clear hx7 h7 t7
      go_wp2_with fail
      refine leaves_cons (f := 26) (args := #[.pointer (some ⟨L.gp, pj n k * 3, none⟩)]) (by simp) (by simp [go_sem]) ?_
      refine (put_close (X' := A ++ moreE e ((i : Int), t) :: B) HX7.out (by simpa using H7.out) HJ.out (wf_more HW.out HMO.out) HN.out T7.out).mono ?_
      rintro e' u' w8 ⟨rfl, rfl, h8, t8⟩
      exact ⟨_, results_tmp rfl _ _ _, by rw [HV.out.1]; rfl, ⟨L', _, HX7.out, HV.out.2 A B rfl, h8⟩, t8⟩
end
end Go.Proofs.Ytgclgmfmcgacdaa

/- Proved: lemmas of one statement's proof, merged by program: what each part proves stands ahead of it. Conditions: those that the lemmas name. -/
import Derived.Test.YtodokgkchmpmnaaGreatM49
import Derived.Test.YtodokgkchmpmnaaGreatM48

/- Proved: what Nack of package outbound answers and leaves. Conditions: those that the theorems name. -/
namespace Go.Proofs.YtodokgkchmpmnaaGreat
open Go.ChangeShapes Go.WideShapes Go.ChangeAt Go.RowKit

theorem misK_mem (s : ByteArray) (most : Int) (k : Nat) : ∀ e ∈ misK s most k, 0 ≤ e ∧ e < (k : Int) := by
  induction k with
  | zero => intro e he; simp [misK] at he
  | succ k ih =>
    intro e he
    unfold misK at he
    split at he
    · rcases List.mem_append.1 he with h | h
      · have := ih e h; omega
      · simp at h; omega
    · have := ih e he; omega
theorem misL_mem (s : ByteArray) (n most : Int) : ∀ e ∈ misL s n most, 0 ≤ e ∧ e < n := by
  intro e he
  unfold misL at he
  split at he
  · have := misK_mem s most _ e he
    omega
  · simp at he
theorem ob_place {b x : Int} (hb : U32 b) (hx : U32 x) {n : Nat} (h : inZ x b (n : Nat) = true) : x = wpl b (ah b x).toNat ∧ (ah b x).toNat < n := by
  unfold inZ at h
  simp only [Bool.and_eq_true, decide_eq_true_eq] at h
  unfold U32 at hb hx
  unfold wpl
  have h1 := h.1
  have h2 := h.2
  unfold ah at h1 h2 ⊢
  split at h1 <;> rename_i q1
  · rw [if_pos q1] at h2 ⊢; omega
  · rw [if_neg q1] at h2 ⊢
    split at h1 <;> rename_i q2
    · rw [if_pos q2] at h2 ⊢; omega
    · rw [if_neg q2] at h2 ⊢; omega
/-- the place of a block. -/
abbrev obPl (M : ObM) (x : Int) : Nat := (ah (fb M.nx M.L.length) x).toNat
/-- the shards that lack, as many as are needed. -/
def nkL (s : ByteArray) (M : ObM) (x : Int) : List (Int × Int) :=
  if inZ x (fb M.nx M.L.length) (M.L.length : Nat) = true then wantL x s (M.L.getD (obPl M x) bl0).n ((M.S.getD (obPl M x) ⟨[], 0, 0⟩).m : Nat) else wantL x s 0 0
theorem nkL_valid {M : ObM} (h : ObI M) (s : ByteArray) {x : Int} (hx : U32 x) (M' : ObM) (hs : AwSame M M') : (nkL s M' x).length ≤ 255 ∧ ∀ p ∈ nkL s M' x, awV M'.nx (obNs M') p := by
  refine ⟨?_, fun p hp => ?_⟩
  · unfold nkL
    split <;> (unfold wantL; rw [List.length_map]; exact misL_len _ _ _)
  · unfold nkL at hp
    split at hp
    · rename_i hin
      obtain ⟨e, hi⟩ := ob_place (fb_u32 _ _) hx hin
      unfold wantL at hp
      obtain ⟨y, hy, rfl⟩ := List.mem_map.1 hp
      have hm := misL_mem _ _ _ y hy
      have hl : (obNs M').length = M'.L.length := by rw [hs.ns, obNs_len, h.same, hs.L]
      have hi' : obPl M' x < M.S.length := by rw [h.same, ← hs.L]; exact hi
      have hn : (obNs M')[obPl M' x]? = some (M.S[obPl M' x].T.length) := by
        rw [hs.ns]; unfold obNs; rw [List.getElem?_map, List.getElem?_eq_getElem hi']; rfl
      have hf := h.fit (obPl M' x) M.S[obPl M' x] (M'.L.getD (obPl M' x) bl0) (List.getElem?_eq_getElem hi') (by rw [hs.L, List.getD_eq_getElem?_getD, List.getElem?_eq_getElem (by rw [← hs.L]; exact hi)]; rfl)
      exact ⟨_, _, hn, by rw [hl]; exact e, hm.1, by rw [hf]; exact hm.2⟩
    · unfold wantL at hp
      obtain ⟨y, hy, rfl⟩ := List.mem_map.1 hp
      have hm := misL_mem _ _ _ y hy
      omega
section
variable {w : World} {Y : ObY} {M : ObM}
set_option maxRecDepth 100000 in
set_option maxHeartbeats 3200000 in
theorem ob_nack1 (h : Ob w Y M) (b3 b5 : Nat) (s : ByteArray) (x : Int) (hx : U32 x) (h3 : At w b3 25 [.pointer (some ⟨Y.o, 0, none⟩)]) (h5 : At w b5 9 [.string s]) :
    Calls Tryz.prog 25 #[.int .u32 x, .pointer (some ⟨b3, 0, none⟩), .pointer (some ⟨b5, 0, none⟩)] w fun e w' => ∃ v, e = .returned v ∧ (∃ B, w.heap.size ≤ B ∧ w'.ownsRow B 52 2 v (nkL s M x).length (sncells (nkL s M x))) ∧ Below w.heap.size w w' := by
  have h64 := h.m.p.fl.n64
  have key : ∃ (u : Value) (m z : Nat) (tb : Bool), (Calls Tryz.prog 16 #[.pointer (some ⟨Y.o, 0, none⟩), .int .u32 x] w fun e w' => e = .returned (.tuple #[.agg #[u, .int .i64 (m : Nat), .int .i64 (z : Nat)], .bool tb]) ∧ Below w.heap.size w w') ∧ (∃ A n c, u = .slice A n c) ∧ m ≤ 64 ∧ ∀ y is, BodyIs M.nx M.L x y is → wantL x s y.n (m : Nat) = nkL s M x := by
    cases hin : inZ x (fb M.nx M.L.length) (M.L.length : Nat) with
    | true =>
      obtain ⟨e, hi⟩ := ob_place (fb_u32 _ _) hx hin
      have hi2 : obPl M x < M.L.length := hi
      have hi' : obPl M x < M.S.length := by rw [h.i.same]; exact hi
      have hh : obPl M x < Y.hs.length := by rw [h.m.p.hl]; exact hi'
      have hc := ob_sheaf_in h (i := obPl M x) (g := Y.hs[obPl M x]) (sf := M.S[obPl M x]) (List.getElem?_eq_getElem hh) (List.getElem?_eq_getElem hi')
      rw [show fno M.nx M.L.length (obPl M x) = x from e.symm] at hc
      refine ⟨_, _, _, _, hc, ⟨_, _, _, rfl⟩, by have := (h.i.good _ (List.getElem_mem hi')).m32; omega, fun y is hb => ?_⟩
      unfold nkL
      rw [if_pos hin]
      rcases hb with ⟨j, hj, hjx, rfl, _⟩ | ⟨hno, _, _⟩
      · have : j = obPl M x := wpl_inj (B := fb M.nx M.L.length) (by omega) (by omega) (hjx.trans e)
        subst this
        rw [show (M.S.getD (obPl M x) ⟨[], 0, 0⟩) = M.S[obPl M x] by rw [List.getD_eq_getElem?_getD, List.getElem?_eq_getElem hi']; rfl]
      · exact absurd e.symm (hno _ hi)
    | false =>
      refine ⟨_, 0, 0, _, ob_sheaf_out h x hx (by rw [h.i.same]; exact hin), ⟨_, _, _, rfl⟩, Nat.zero_le _, fun y is hb => ?_⟩
      unfold nkL
      rw [if_neg (by rw [hin]; decide)]
      rcases hb with ⟨j, hj, hjx, rfl, _⟩ | ⟨_, rfl, _⟩
      · exfalso
        have := ob_in (nx := M.nx) hj h64
        rw [hjx, hin] at this
        cases this
      · rfl
  obtain ⟨u, m, z, tb, hsh, ⟨A, n, c, hu⟩, hm, hq⟩ := key
  have HM := Lib.hid hm
  have HSH := Lib.hid hsh
  have HQ := Lib.hid hq
  have HH := Lib.hid h
  have H3 := Lib.hid h3
  have H5 := Lib.hid h5
  have k3 : w.cell? ⟨b3, 0, none⟩ = some (.pointer (some ⟨Y.o, 0, none⟩)) := h3.cell 0 rfl
  clear h h3 h5 hsh hq h64 hm
  subst hu
  generalize hoo : Y.o = o at *
  have HOO := Lib.hid hoo
  clear hoo
  go_enter Tryz.func25, Tryz.ntmps25
  go_wp2_with fail
  refine HSH.out.mono ?_; rintro e w1 ⟨rfl, hb1⟩
  have hB2 : Below w.heap.size w (w1.alloc (.cells #[.slice A n c, .int .i64 (m : Nat), .int .i64 (z : Nat)] 55)) := hb1.alloc hb1.size _
  have hX2 := At.new w1 55 [.slice A n c, .int .i64 (m : Nat), .int .i64 (z : Nat)]
  have H2 := Lib.hid (And.intro hB2 hX2)
  have q1 := hX2.cell 1 rfl
  clear hb1 hB2 hX2
  go_wp2_with fail
  clear q1 k3
  generalize w1.alloc (.cells #[.slice A n c, .int .i64 (m : Nat), .int .i64 (z : Nat)] 55) = w2 at *
  generalize w1.heap.size = b1 at *
  have KP : Hid (∀ W, Below w.heap.size w W → At W b1 55 [.slice A n c, .int .i64 (m : Nat), .int .i64 (z : Nat)] → W.cell? ⟨b3, 0, none⟩ = some (.pointer (some ⟨o, 0, none⟩)) ∧ W.cell? ⟨o, 13, none⟩ = some (.pointer (some ⟨Y.f, 0, none⟩)) ∧ W.cell? ⟨b5, 0, none⟩ = some (.string s) ∧ W.cell? ⟨b1, 1, none⟩ = some (.int .i64 (m : Nat))) := Lib.hid fun W hW hx => by
    have r := HH.out.below hW
    exact ⟨(H3.out.below hW H3.out.lt).cell 0 rfl, by rw [← HOO.out]; exact r.m.own.cell 13 rfl, (H5.out.below hW H5.out.lt).cell 0 rfl, hx.cell 1 rfl⟩
  have HWT := Lib.hid (fun W (hW : Below w.heap.size w W) => wants_own (some ⟨Y.f, 0, none⟩) M.nx Y.rL Y.vL M.L x s (m : Nat) W (HH.out.below hW).m.p.fl.flo (by omega) (by have := HM.out; omega))
  have QQ : Hid (Below w.heap.size w w2.drew) := Lib.hid H2.out.1.drew
  have HQX : Hid (At w2.drew b1 55 [.slice A n c, .int .i64 (m : Nat), .int .i64 (z : Nat)]) := Lib.hid H2.out.2
  obtain ⟨k3, k13, k5, k1⟩ := KP.out _ QQ.out HQX.out
  go_region_held3 (fun W => W.cell? ⟨b3, 0, none⟩ = some (.pointer (some ⟨o, 0, none⟩)) ∧ W.cell? ⟨o, 13, none⟩ = some (.pointer (some ⟨Y.f, 0, none⟩)) ∧ W.cell? ⟨b5, 0, none⟩ = some (.string s) ∧ W.cell? ⟨b1, 1, none⟩ = some (.int .i64 (m : Nat)))
    (first | with_reducible exact KP.out _ QQ.out HQX.out | go_keep)
    (((with_reducible refine (HWT.out _ QQ.out).mono ?_); rintro e w5 ⟨y, is, hy, v, rfl, ⟨B, hB, how⟩, hb5⟩; have QN := Lib.hid (QQ.out.trans (hb5.mono QQ.out.size)); have HXN := Lib.hid (HQX.out.below hb5 HQX.out.lt); have HOW : Hid (w.heap.size ≤ B ∧ w5.ownsRow B 52 2 v (wantL x s y.n (m : Nat)).length (sncells (wantL x s y.n (m : Nat)))) := Lib.hid ⟨Nat.le_trans QQ.out.size hB, how⟩; have HY := Lib.hid hy; clear hb5 hB how hy QQ HQX; have QQ := QN; have HQX := HXN; clear QN HXN))
  go_wp2_with fail
  go_ret
  have e := HQ.out _ _ HY.out
  exact ⟨_, rfl, ⟨B, HOW.out.1, by rw [← e]; exact HOW.out.2⟩, QQ.out⟩
/-- Nack's own function tells it. -/
theorem ob_tells (h : Ob w Y M) (b3 b5 : Nat) (s : ByteArray) (h3 : At w b3 25 [.pointer (some ⟨Y.o, 0, none⟩)]) (h5 : At w b5 9 [.string s]) : ObTells 25 #[.pointer (some ⟨b3, 0, none⟩), .pointer (some ⟨b5, 0, none⟩)] (nkL s) w Y := by
  refine ⟨enters_of Tryz.func25 (by kernel_rfl) rfl, fun V Y' M' t h' x hx => ?_⟩
  have a3 := h3.tn t.tn (h.m.not_own h3.obty (by decide))
  have a5 := h5.tn t.tn (h.m.not_own h5.obty (by decide))
  rw [← t.o] at a3
  exact ob_nack1 h' b3 b5 s x hx a3 a5
set_option maxRecDepth 100000 in
set_option maxHeartbeats 3200000 in
theorem ob_nack (h : Ob w Y M) (x : Int) (hx : U32 x) (s : ByteArray) (hU : M.U.length ≤ 40000) :
    Calls Tryz.prog 9 #[.pointer (some ⟨Y.o, 0, none⟩), .int .u32 x, .string s] w (GivesIo w Y (agF (nkL s) (M, []) [x]).1 (agF (nkL s) (M, []) [x]).2) := by
  have hmf : ∀ (fn : Fn) (first cap : Array Value) (w : World), (Instr.makeFunc fn first cap).run Tryz.prog w = .ok (.func fn first cap) w := fun _ _ _ _ => rfl
  obtain ⟨w1, hw1⟩ : ∃ w1, w1 = (w.alloc (.cells #[.pointer (some ⟨Y.o, 0, none⟩)] 25)).alloc (.cells #[.string s] 9) := ⟨_, rfl⟩
  have e1 : (w.alloc (.cells #[.pointer (some ⟨Y.o, 0, none⟩)] 25)).heap.size = w.heap.size + 1 := by simp
  have hb1 : Below w.heap.size w w1 := by rw [hw1]; exact ((Below.refl _ _).alloc (Nat.le_refl _) _).alloc (by simp) _
  have a3 : At w1 w.heap.size 25 [.pointer (some ⟨Y.o, 0, none⟩)] := by rw [hw1]; exact (At.new w 25 [.pointer (some ⟨Y.o, 0, none⟩)]).alloc _
  have a5 : At w1 (w.heap.size + 1) 9 [.string s] := by
    rw [hw1, ← e1]; exact At.new _ 9 [.string s]
  have h1 := h.below hb1
  have hb2 : Below w1.heap.size w1 (w1.alloc (.cells #[.int .u32 x] 22)) := (Below.refl _ _).alloc (Nat.le_refl _) _
  have h2 := h1.below hb2
  have hT := ob_tells h2 w.heap.size (w.heap.size + 1) s (a3.below hb2 a3.lt) (a5.below hb2 a5.lt)
  have hUw : Uw (w1.alloc (.cells #[.int .u32 x] 22)) (some ⟨w1.heap.size, 0, none⟩) 1 [x] := ⟨rfl, fun _ => ⟨_, rfl, ⟨_, _, heap_alloc_new w1 _⟩, fun j hj => by
    obtain rfl : j = 0 := by omega
    exact (At.new w1 22 [.int .u32 x]).cell 0 rfl⟩⟩
  have HAG := Lib.hid (ob_again h2 _ _ (nkL s) hT [x] _ 1 1 hUw (by intro y hy; simp at hy; subst hy; exact hx) (by
    intro y hy M' hM
    simp at hy
    subst hy
    exact nkL_valid h.i s hx M' hM) (by decide) hU)
  have HTT := Lib.hid (obt_below Y (hb1.trans (hb2.mono hb1.size)))
  have k3 : w1.cell? ⟨w.heap.size, 0, none⟩ = some (.pointer (some ⟨Y.o, 0, none⟩)) := a3.cell 0 rfl
  clear h h1 h2 hb1 hb2 hT hUw a3 a5 e1 hx hU
  generalize Y.o = o at *
  go_enter Tryz.func9, Tryz.ntmps9
  go_upto_region 1 with fail
  rw [← hw1]; clear hw1
  go_wp2_with fail
  refine HAG.out.mono ?_; rintro e w3 ⟨u, rfl, how, Y3, hb3, ht3⟩
  have H3 : Hid (w3.ownsRow w.heap.size 140 2 u (agF (nkL s) (M, []) [x]).2.length (obIt (agF (nkL s) (M, []) [x]).2) ∧ Ob w3 Y3 (agF (nkL s) (M, []) [x]).1 ∧ ObT w w3 Y Y3) := Lib.hid ⟨by
    obtain ⟨hl, hv⟩ := how
    refine ⟨hl, hv.imp id ?_⟩
    rintro ⟨g, cap, cur, e, hg, r⟩
    exact ⟨g, cap, cur, e, Nat.le_trans HTT.out.tn.size hg, r⟩, hb3, HTT.out.trans ht3⟩
  clear how hb3 ht3 HAG
  go_wp2_with fail
  go_ret
  exact ⟨_, rfl, H3.out.1, Y3, H3.out.2.1, H3.out.2.2⟩
end
end Go.Proofs.YtodokgkchmpmnaaGreat

/- Proved: what New and Held of package outbound answer and leave. Conditions: those that the theorems name. -/
namespace Go.Proofs.YtodokgkchmpmnaaGreat
open Go.ChangeShapes Go.WideShapes Go.ChangeAt Go.RowKit

/-- nothing was written. -/
def obM0 (c : Cf) (st : Int) : ObM := ⟨c, st, S0, 0, [], cpl 0 c.w, [], [], false, false⟩
set_option maxRecDepth 100000 in
set_option maxHeartbeats 1600000 in
theorem ob_new_bad (c : Cf) (st : Int) (w : World) (h : c.ok = false) :
    Calls Tryz.prog 36 #[c.val, .int .i64 st] w fun e w' => e = .returned (.tuple #[.pointer none, .int .i64 2]) ∧ Below w.heap.size w w' := by
  have HC := Lib.hid (fun W => cf_check c W)
  have hk : c.chk = 2 := by unfold Cf.chk; rw [if_neg (by rw [h]; decide)]
  rw [hk] at HC
  clear h hk
  obtain ⟨a0, a1, a2, a3, a4, a5, a6, a7, a8, a9, a10⟩ := c
  unfold GivesCI Cf.val at *
  dsimp only at *
  obtain ⟨V, HV⟩ : ∃ V, V = w.alloc (.cells #[.int .i64 a0, .int .i64 a1, .int .i64 a2, .int .i64 a3, .int .i64 a4, .int .i64 a5, .int .i64 a6, .int .i64 a7, .int .i64 a8, .int .i64 a9, .int .i64 a10] 43) := ⟨_, rfl⟩
  have X0 := Lib.hid (At.new w 43 [.int .i64 a0, .int .i64 a1, .int .i64 a2, .int .i64 a3, .int .i64 a4, .int .i64 a5, .int .i64 a6, .int .i64 a7, .int .i64 a8, .int .i64 a9, .int .i64 a10])
  have XB : Hid (Below w.heap.size w (w.alloc (.cells #[.int .i64 a0, .int .i64 a1, .int .i64 a2, .int .i64 a3, .int .i64 a4, .int .i64 a5, .int .i64 a6, .int .i64 a7, .int .i64 a8, .int .i64 a9, .int .i64 a10] 43))) := Lib.hid ((Below.refl _ _).alloc (Nat.le_refl _) _)
  rw [← HV] at XB
  have X0 : Hid (At V w.heap.size 43 [.int .i64 a0, .int .i64 a1, .int .i64 a2, .int .i64 a3, .int .i64 a4, .int .i64 a5, .int .i64 a6, .int .i64 a7, .int .i64 a8, .int .i64 a9, .int .i64 a10]) := Lib.hid (by rw [HV]; exact X0.out)
  obtain ⟨k0, k1, k2, k3, k4, k5, k6, k7, k8, k9, k10⟩ : V.cell? ⟨w.heap.size, 0, none⟩ = some (.int .i64 a0) ∧ V.cell? ⟨w.heap.size, 1, none⟩ = some (.int .i64 a1) ∧ V.cell? ⟨w.heap.size, 2, none⟩ = some (.int .i64 a2) ∧ V.cell? ⟨w.heap.size, 3, none⟩ = some (.int .i64 a3) ∧ V.cell? ⟨w.heap.size, 4, none⟩ = some (.int .i64 a4) ∧ V.cell? ⟨w.heap.size, 5, none⟩ = some (.int .i64 a5) ∧ V.cell? ⟨w.heap.size, 6, none⟩ = some (.int .i64 a6) ∧ V.cell? ⟨w.heap.size, 7, none⟩ = some (.int .i64 a7) ∧ V.cell? ⟨w.heap.size, 8, none⟩ = some (.int .i64 a8) ∧ V.cell? ⟨w.heap.size, 9, none⟩ = some (.int .i64 a9) ∧ V.cell? ⟨w.heap.size, 10, none⟩ = some (.int .i64 a10) := by have d := X0.out; exact ⟨d.cell 0 rfl, d.cell 1 rfl, d.cell 2 rfl, d.cell 3 rfl, d.cell 4 rfl, d.cell 5 rfl, d.cell 6 rfl, d.cell 7 rfl, d.cell 8 rfl, d.cell 9 rfl, d.cell 10 rfl⟩
  go_enter Tryz.func36, Tryz.ntmps36
  go_upto_region 1 with fail
  rw [← HV]; clear HV
  go_wp2_with fail
  refine (HC.out _).mono ?_; rintro e w2 ⟨rfl, g2⟩
  have G2 := Lib.hid (XB.out.trans (g2.mono XB.out.size))
  clear g2
  go_wp2_with fail
  go_ret2
  exact ⟨rfl, G2.out⟩
set_option maxRecDepth 100000 in
set_option maxHeartbeats 1600000 in
theorem ob_new_out (c : Cf) (st : Int) (w : World) (h : c.ok = true) (hs : st < 0 ∨ 256 ≤ st) :
    Calls Tryz.prog 36 #[c.val, .int .i64 st] w fun e w' => e = .returned (.tuple #[.pointer none, .int .i64 2]) ∧ Below w.heap.size w w' := by
  have HC := Lib.hid (fun W => cf_check c W)
  have hk : c.chk = 0 := by unfold Cf.chk; rw [if_pos h]
  rw [hk] at HC
  have key : st < 0 ∨ (¬ st < 0 ∧ st ≥ 256) := by omega
  clear h hk hs
  obtain ⟨a0, a1, a2, a3, a4, a5, a6, a7, a8, a9, a10⟩ := c
  unfold GivesCI Cf.val at *
  dsimp only at *
  obtain ⟨V, HV⟩ : ∃ V, V = w.alloc (.cells #[.int .i64 a0, .int .i64 a1, .int .i64 a2, .int .i64 a3, .int .i64 a4, .int .i64 a5, .int .i64 a6, .int .i64 a7, .int .i64 a8, .int .i64 a9, .int .i64 a10] 43) := ⟨_, rfl⟩
  have X0 := Lib.hid (At.new w 43 [.int .i64 a0, .int .i64 a1, .int .i64 a2, .int .i64 a3, .int .i64 a4, .int .i64 a5, .int .i64 a6, .int .i64 a7, .int .i64 a8, .int .i64 a9, .int .i64 a10])
  have XB : Hid (Below w.heap.size w (w.alloc (.cells #[.int .i64 a0, .int .i64 a1, .int .i64 a2, .int .i64 a3, .int .i64 a4, .int .i64 a5, .int .i64 a6, .int .i64 a7, .int .i64 a8, .int .i64 a9, .int .i64 a10] 43))) := Lib.hid ((Below.refl _ _).alloc (Nat.le_refl _) _)
  rw [← HV] at XB
  have X0 : Hid (At V w.heap.size 43 [.int .i64 a0, .int .i64 a1, .int .i64 a2, .int .i64 a3, .int .i64 a4, .int .i64 a5, .int .i64 a6, .int .i64 a7, .int .i64 a8, .int .i64 a9, .int .i64 a10]) := Lib.hid (by rw [HV]; exact X0.out)
  obtain ⟨k0, k1, k2, k3, k4, k5, k6, k7, k8, k9, k10⟩ : V.cell? ⟨w.heap.size, 0, none⟩ = some (.int .i64 a0) ∧ V.cell? ⟨w.heap.size, 1, none⟩ = some (.int .i64 a1) ∧ V.cell? ⟨w.heap.size, 2, none⟩ = some (.int .i64 a2) ∧ V.cell? ⟨w.heap.size, 3, none⟩ = some (.int .i64 a3) ∧ V.cell? ⟨w.heap.size, 4, none⟩ = some (.int .i64 a4) ∧ V.cell? ⟨w.heap.size, 5, none⟩ = some (.int .i64 a5) ∧ V.cell? ⟨w.heap.size, 6, none⟩ = some (.int .i64 a6) ∧ V.cell? ⟨w.heap.size, 7, none⟩ = some (.int .i64 a7) ∧ V.cell? ⟨w.heap.size, 8, none⟩ = some (.int .i64 a8) ∧ V.cell? ⟨w.heap.size, 9, none⟩ = some (.int .i64 a9) ∧ V.cell? ⟨w.heap.size, 10, none⟩ = some (.int .i64 a10) := by have d := X0.out; exact ⟨d.cell 0 rfl, d.cell 1 rfl, d.cell 2 rfl, d.cell 3 rfl, d.cell 4 rfl, d.cell 5 rfl, d.cell 6 rfl, d.cell 7 rfl, d.cell 8 rfl, d.cell 9 rfl, d.cell 10 rfl⟩
  rcases key with k | ⟨kk1, kk2⟩
  all_goals
    go_enter Tryz.func36, Tryz.ntmps36
    go_upto_region 1 with fail
    rw [← HV]; clear HV
    go_wp2_with fail
    refine (HC.out _).mono ?_; rintro e w2 ⟨rfl, g2⟩
    have G2 := Lib.hid (XB.out.trans (g2.mono XB.out.size))
    clear g2
    go_wp2_with fail
    go_ret2
    exact ⟨rfl, G2.out⟩
set_option maxRecDepth 100000 in
set_option maxHeartbeats 3200000 in
theorem ob_new (c : Cf) (st : Int) (w : World) (h : c.ok = true) (h0 : 0 ≤ st) (h1 : st < 256) :
    Calls Tryz.prog 36 #[c.val, .int .i64 st] w fun e w' => ∃ Y, e = .returned (.tuple #[.pointer (some ⟨Y.o, 0, none⟩), .int .i64 0]) ∧ Ob w' Y (obM0 c st) ∧ Below w.heap.size w w' ∧ ∀ i, Y.own i → w.heap.size ≤ i := by
  have HC := Lib.hid (fun W => cf_check c W)
  have hk : c.chk = 0 := by unfold Cf.chk; rw [if_pos h]
  rw [hk] at HC
  have HBK := Lib.hid (fun W => cf_block c W)
  obtain ⟨⟨q1, q2⟩, ⟨r1, r2⟩, ⟨s1, s2⟩, ⟨w1, w2⟩, ⟨b1, b2⟩⟩ := cf_lims h
  have hbl : c.blk = c.k * c.s := by unfold Cf.blk; rw [if_pos (by rw [Bool.and_eq_true, cfInZ_iff, cfInZ_iff]; exact ⟨⟨q1, q2⟩, s1, s2⟩)]
  obtain ⟨bi0, bi1⟩ := block_in _ _ q1 q2 s1 s2
  have en : (((c.k * c.s).toNat : Nat) : Int) = c.blk := by rw [hbl]; omega
  have eb : ((c.b.toNat : Nat) : Int) = c.b := by omega
  have ew : ((c.w.toNat : Nat) : Int) = c.w := by omega
  have HNB : Hid (∀ W, Calls Tryz.prog 61 #[.int .i64 c.blk, .int .i64 c.b] W fun e w' => e = .returned (.tuple #[.pointer (some ⟨W.heap.size + 1, 0, none⟩), .int .i64 0]) ∧ Bk w' (W.heap.size + 1) W.heap.size (c.k * c.s).toNat c.b.toNat none S0 ∧ Below W.heap.size W w') := Lib.hid fun W => by
    have q := bl_new_any (c.k * c.s).toNat c.b.toNat W (by omega) (by omega) (by omega) (by omega)
    rw [en, eb] at q
    exact q
  have HNF : Hid (∀ W, Calls Tryz.prog 63 #[.int .u32 0, .int .i64 c.w] W fun e w' => e = .returned (.tuple #[.pointer (some ⟨W.heap.size, 0, none⟩), .int .i64 0]) ∧ Fl w' W.heap.size c.w 0 none (.slice none 0 0) [] ∧ Below W.heap.size W w') := Lib.hid fun W => by
    have q := fl_new_any 0 c.w.toNat W ⟨by decide, by decide⟩ (by omega) (by omega)
    rw [ew] at q
    exact q
  have HNE := Lib.hid (fun W => cr_new 0 c.w W (by rw [may_iff]; omega))
  obtain ⟨cc, hcc⟩ : ∃ cc, cc = c := ⟨_, rfl⟩
  have HI : Hid (ObI (obM0 cc st)) := Lib.hid ⟨by rw [hcc]; exact h, rfl, (fun x hx => by cases hx), (fun i x y hx => by cases hx)⟩
  clear h hk q1 q2 r1 r2 s1 s2 w1 w2 b1 b2 hbl bi0 bi1 en eb ew
  generalize c.blk = blk at *
  obtain ⟨a0, a1, a2, a3, a4, a5, a6, a7, a8, a9, a10⟩ := c
  have HCC := Lib.hid hcc
  clear hcc
  unfold GivesCI Cf.val at *
  dsimp only at *
  obtain ⟨V, HV⟩ : ∃ V, V = w.alloc (.cells #[.int .i64 a0, .int .i64 a1, .int .i64 a2, .int .i64 a3, .int .i64 a4, .int .i64 a5, .int .i64 a6, .int .i64 a7, .int .i64 a8, .int .i64 a9, .int .i64 a10] 43) := ⟨_, rfl⟩
  have X0 := Lib.hid (At.new w 43 [.int .i64 a0, .int .i64 a1, .int .i64 a2, .int .i64 a3, .int .i64 a4, .int .i64 a5, .int .i64 a6, .int .i64 a7, .int .i64 a8, .int .i64 a9, .int .i64 a10])
  have XB : Hid (Below w.heap.size w (w.alloc (.cells #[.int .i64 a0, .int .i64 a1, .int .i64 a2, .int .i64 a3, .int .i64 a4, .int .i64 a5, .int .i64 a6, .int .i64 a7, .int .i64 a8, .int .i64 a9, .int .i64 a10] 43))) := Lib.hid ((Below.refl _ _).alloc (Nat.le_refl _) _)
  rw [← HV] at XB
  have X0 : Hid (At V w.heap.size 43 [.int .i64 a0, .int .i64 a1, .int .i64 a2, .int .i64 a3, .int .i64 a4, .int .i64 a5, .int .i64 a6, .int .i64 a7, .int .i64 a8, .int .i64 a9, .int .i64 a10]) := Lib.hid (by rw [HV]; exact X0.out)
  have KP : Hid (∀ W, Below V.heap.size V W → W.cell? ⟨w.heap.size, 0, none⟩ = some (.int .i64 a0) ∧ W.cell? ⟨w.heap.size, 1, none⟩ = some (.int .i64 a1) ∧ W.cell? ⟨w.heap.size, 2, none⟩ = some (.int .i64 a2) ∧ W.cell? ⟨w.heap.size, 3, none⟩ = some (.int .i64 a3) ∧ W.cell? ⟨w.heap.size, 4, none⟩ = some (.int .i64 a4) ∧ W.cell? ⟨w.heap.size, 5, none⟩ = some (.int .i64 a5) ∧ W.cell? ⟨w.heap.size, 6, none⟩ = some (.int .i64 a6) ∧ W.cell? ⟨w.heap.size, 7, none⟩ = some (.int .i64 a7) ∧ W.cell? ⟨w.heap.size, 8, none⟩ = some (.int .i64 a8) ∧ W.cell? ⟨w.heap.size, 9, none⟩ = some (.int .i64 a9) ∧ W.cell? ⟨w.heap.size, 10, none⟩ = some (.int .i64 a10)) := Lib.hid fun W hW => by
    have d := X0.out.below hW X0.out.lt
    exact ⟨d.cell 0 rfl, d.cell 1 rfl, d.cell 2 rfl, d.cell 3 rfl, d.cell 4 rfl, d.cell 5 rfl, d.cell 6 rfl, d.cell 7 rfl, d.cell 8 rfl, d.cell 9 rfl, d.cell 10 rfl⟩
  obtain ⟨k0, k1, k2, k3, k4, k5, k6, k7, k8, k9, k10⟩ := KP.out V (Below.refl _ _)
  go_enter Tryz.func36, Tryz.ntmps36
  go_upto_region 1 with fail
  rw [← HV]; clear HV
  go_wp2_with fail
  refine (HC.out _).mono ?_; rintro e w2 ⟨rfl, g2⟩
  have G2 := Lib.hid g2
  clear g2 k0 k1 k2 k3 k4 k5 k6 k7 k8 k9 k10
  go_wp2_with fail
  have QQ : Hid (Below V.heap.size V w2.drew) := Lib.hid G2.out.drew
  obtain ⟨k0, k1, k2, k3, k4, k5, k6, k7, k8, k9, k10⟩ := KP.out _ QQ.out
  go_region_held3 (fun W => W.cell? ⟨w.heap.size, 0, none⟩ = some (.int .i64 a0) ∧ W.cell? ⟨w.heap.size, 1, none⟩ = some (.int .i64 a1) ∧ W.cell? ⟨w.heap.size, 2, none⟩ = some (.int .i64 a2) ∧ W.cell? ⟨w.heap.size, 3, none⟩ = some (.int .i64 a3) ∧ W.cell? ⟨w.heap.size, 4, none⟩ = some (.int .i64 a4) ∧ W.cell? ⟨w.heap.size, 5, none⟩ = some (.int .i64 a5) ∧ W.cell? ⟨w.heap.size, 6, none⟩ = some (.int .i64 a6) ∧ W.cell? ⟨w.heap.size, 7, none⟩ = some (.int .i64 a7) ∧ W.cell? ⟨w.heap.size, 8, none⟩ = some (.int .i64 a8) ∧ W.cell? ⟨w.heap.size, 9, none⟩ = some (.int .i64 a9) ∧ W.cell? ⟨w.heap.size, 10, none⟩ = some (.int .i64 a10))
    (first | with_reducible exact KP.out _ QQ.out | go_keep)
    (first
    | ((with_reducible refine (HBK.out _).mono ?_); rintro e wq ⟨rfl, gq⟩; have QN := Lib.hid (QQ.out.trans (gq.mono QQ.out.size)); clear gq QQ; have QQ := QN; clear QN)
    | ((with_reducible refine (HNB.out _).mono ?_); rintro e w4 ⟨rfl, hbk, gq⟩; have HS4 := Lib.hid QQ.out.size; have QN := Lib.hid (QQ.out.trans (gq.mono QQ.out.size)); have HK4 := Lib.hid hbk; clear gq hbk QQ; have QQ := QN; clear QN))
  clear k0 k1 k2 k3 k4 k5 k6 k7 k8 k9 k10
  obtain ⟨k0, k1, k2, k3, k4, k5, k6, k7, k8, k9, k10⟩ := KP.out _ QQ.out
  go_wp2_with fail
  have HS44 := Lib.hid QQ.out.size
  refine (HNF.out _).mono ?_; rintro e w5 ⟨rfl, hfl, g5⟩
  have Q5 := Lib.hid (QQ.out.trans (g5.mono QQ.out.size))
  have HK5 := Lib.hid (HK4.out.below g5)
  have HF5 := Lib.hid hfl
  have HS5 := Lib.hid g5.size
  clear hfl g5 k0 k1 k2 k3 k4 k5 k6 k7 k8 k9 k10 HK4
  obtain ⟨k0, k1, k2, k3, k4, k5, k6, k7, k8, k9, k10⟩ := KP.out _ Q5.out
  go_wp2_with fail
  refine (HNE.out _).mono ?_; rintro e w6 ⟨ed, rfl, hce, hed, g6⟩
  have Q6 := Lib.hid (Q5.out.trans (g6.mono Q5.out.size))
  have HK6 := Lib.hid (HK5.out.below g6)
  have HF6 := Lib.hid (HF5.out.below g6)
  have HC6 := Lib.hid hce
  have HS6 := Lib.hid (And.intro hed g6.size)
  clear hce hed g6 k0 k1 k2 k3 k4 k5 k6 k7 k8 k9 k10 HK5 HF5
  obtain ⟨k0, k1, k2, k3, k4, k5, k6, k7, k8, k9, k10⟩ := KP.out _ Q6.out
  go_wp2_with fail
  go_ret2
  have hB := (Below.refl w6.heap.size w6).alloc (Nat.le_refl _) (.cells #[.int .i64 a0, .int .i64 a1, .int .i64 a2, .int .i64 a3, .int .i64 a4, .int .i64 a5, .int .i64 a6, .int .i64 a7, .int .i64 a8, .int .i64 a9, .int .i64 a10, .int .i64 st, .pointer (some ⟨wq.heap.size + 1, 0, none⟩), .pointer (some ⟨w4.heap.size, 0, none⟩), .pointer (some ⟨ed, 0, none⟩), .slice none 0 0, .slice none 0 0, .bool false, .bool false] 50)
  have hI := HI.out
  rw [HCC.out] at hI
  have x1 := XB.out.size
  have x4 := HS4.out
  have x44 := HS44.out
  have x5 := Q5.out.size
  have x6 := Q6.out.size
  have xe := HS6.out.1
  refine ⟨⟨w6.heap.size, wq.heap.size + 1, wq.heap.size, none, w4.heap.size, none, .slice none 0 0, ed, none, .slice none 0 0, [], none, .slice none 0 0⟩, rfl, ⟨⟨?_, ?_⟩, hI⟩, ?_, ?_⟩
  · exact At.new w6 50 [.int .i64 a0, .int .i64 a1, .int .i64 a2, .int .i64 a3, .int .i64 a4, .int .i64 a5, .int .i64 a6, .int .i64 a7, .int .i64 a8, .int .i64 a9, .int .i64 a10, .int .i64 st, .pointer (some ⟨wq.heap.size + 1, 0, none⟩), .pointer (some ⟨w4.heap.size, 0, none⟩), .pointer (some ⟨ed, 0, none⟩), .slice none 0 0, .slice none 0 0, .bool false, .bool false]
  · exact ⟨HK6.out.below hB, HF6.out.below hB, ⟨HC6.out.1.below hB HC6.out.1.lt, HC6.out.2⟩, Qu.nil _ _ _, rfl, List.nodup_nil, (fun i g x hh => by cases hh), Qu.nil _ _ _⟩
  · exact (XB.out.trans (Q6.out.mono XB.out.size)).alloc (by omega) _
  · rintro i (e | e | e | e | e | e | e | e | e)
    · have e : i = w6.heap.size := e
      omega
    · have e : i = wq.heap.size := e
      omega
    · cases e
    · rcases e with e | e
      · have e : i = w4.heap.size := e
        omega
      · cases e
    · have e : i = ed := e
      omega
    · cases e
    · cases e
    · cases e
    · have e : i = wq.heap.size + 1 := e
      omega
/-- how many bytes the sheaves' blocks have. -/
def obHeld (S : List ObS) : Nat := (S.map fun x => x.z).sum
theorem obHeld_more {S : List ObS} {k : Nat} {x : ObS} (h : S[k]? = some x) : obHeld (S.take (k + 1)) = obHeld (S.take k) + x.z := by
  unfold obHeld
  rw [List.take_add_one, h]
  simp
theorem obHeld_le {S : List ObS} (h : ∀ x ∈ S, x.z ≤ 32768) (k : Nat) : obHeld (S.take k) ≤ 32768 * k := by
  induction k with
  | zero => simp [obHeld]
  | succ k ih =>
    by_cases hk : k < S.length
    · rw [obHeld_more (List.getElem?_eq_getElem hk)]
      have := h S[k] (List.getElem_mem hk)
      omega
    · rw [List.take_of_length_le (by omega)]
      rw [List.take_of_length_le (by omega)] at ih
      omega
section
variable {w : World} {Y : ObY} {M : ObM}
set_option maxRecDepth 100000 in
set_option maxHeartbeats 1600000 in
theorem ob_held (h : Ob w Y M) :
    Calls Tryz.prog 14 #[.pointer (some ⟨Y.o, 0, none⟩)] w fun e w' => e = .returned (.int .i64 ((M.s.size + obHeld M.S : Nat) : Int)) ∧ Below w.heap.size w w' := by
  have HH := Lib.hid h
  have HLE := Lib.hid (bl_len _ _ _ _ _ _ w h.m.p.bk)
  have HSZ := Lib.hid h.m.p.bk.size
  have HLN := Lib.hid (And.intro h.i.same h.m.p.fl.n64)
  have HOL := Lib.hid (obHeld_le (fun x hx => (h.i.good x hx).size))
  have hs64 : M.S.length ≤ 64 := by have := h.i.same; have := h.m.p.fl.n64; omega
  have k12 : w.cell? ⟨Y.o, 12, none⟩ = some (.pointer (some ⟨Y.B, 0, none⟩)) := h.m.own.cell 12 rfl
  obtain ⟨A, cap, hv⟩ := h.m.p.sh.form
  have HV := Lib.hid hv
  clear h hv
  generalize hoo : Y.o = o at *
  have HOO := Lib.hid hoo
  clear hoo
  go_enter Tryz.func14, Tryz.ntmps14
  go_wp2_with fail
  refine HLE.out.mono ?_; rintro e w1 ⟨rfl, b1⟩
  have h1 := HH.out.below b1
  have k15 : w1.cell? ⟨o, 15, none⟩ = some (.slice A M.S.length cap) := by rw [← HV.out, ← HOO.out]; exact h1.m.own.cell 15 rfl
  have H1 := Lib.hid (And.intro h1 b1)
  clear h1 b1 k12 HLE
  go_wp2_with fail
  go_loopw [3, 18] (fun u i wr => ∃ k : Nat, k ≤ M.S.length ∧ i = .int .i64 k ∧ u = .int .i64 ((M.s.size + obHeld (M.S.take k) : Nat) : Int) ∧ Below w1.heap.size w1 wr) (fun _ i _ => M.S.length - (intOf i).toNat)
  case atStart => exact ⟨0, by omega, rfl, by simp [obHeld], Below.refl _ _⟩
  case round =>
    obtain ⟨k, hk, rfl, rfl, hb⟩ := hrel
    have HB := Lib.hid hb
    clear hb
    have hk0 : (0 : Int) ≤ (k : Int) := Int.natCast_nonneg _
    by_cases hlt : k < M.S.length
    · have hlt' : (k : Int) < (M.S.length : Int) := by omega
      have hr := H1.out.1.below HB.out
      obtain ⟨gr, oo, cap2, hrs, hv2, _, _, hcs, _⟩ := hr.m.p.sh.head (by omega)
      rw [HV.out] at hv2
      injection hv2 with e1 _ e2
      subst e1 e2
      have hkh : k < Y.hs.length := by rw [hr.m.p.hl]; exact hlt
      obtain ⟨e0, e1, e2⟩ := obSf_at Y.hs M.S k Y.hs[k] M.S[k] (List.getElem?_eq_getElem hkh) (List.getElem?_eq_getElem hlt)
      have s0 : wr.cell? ⟨gr, oo + k * 3, none⟩ = some (.slice (some ⟨Y.hs[k], 0, none⟩) M.S[k].T.length M.S[k].T.length) := hcs _ _ e0
      have s1 : wr.cell? ⟨gr, oo + k * 3 + 1, none⟩ = some (.int .i64 (M.S[k].m : Nat)) := hcs _ _ e1
      have s2 : wr.cell? ⟨gr, oo + k * 3 + 2, none⟩ = some (.int .i64 (M.S[k].z : Nat)) := hcs _ _ e2
      have hmore := obHeld_more (List.getElem?_eq_getElem hlt)
      have HMO := Lib.hid hmore
      have hz : M.S[k].z ≤ 32768 := (hr.i.good _ (List.getElem_mem hlt)).size
      have hle := HOL.out k
      have hsz := HSZ.out
      have h64 := HLN.out.2
      have hsm := HLN.out.1
      have hwr : IntKind.i64.wrap (((M.s.size + obHeld (M.S.take k) : Nat) : Int) + ((M.S[k].z : Nat) : Int)) = ((M.s.size + obHeld (M.S.take k) : Nat) : Int) + ((M.S[k].z : Nat) : Int) := IntWalk.i64_in _ (by omega)
      have HW := Lib.hid hwr
      clear hr hrs hcs e0 e1 e2 hmore hz hle hsz h64 hsm
      generalize M.S[k].z = zz at *
      generalize M.S[k].m = mm at *
      generalize M.S[k].T.length = tl at *
      generalize M.S.length = sl at *
      generalize hacc : M.s.size + obHeld (M.S.take k) = acc at *
      have HAC := Lib.hid hacc
      clear hacc
      go_wp2_with fail
      go_roundw
      case rel => exact ⟨k + 1, by omega, by go_num, by rw [HMO.out, ← Nat.add_assoc, HAC.out]; simp, HB.out.alloc HB.out.size _⟩
      case measure => simp [intOf]; omega
    · obtain rfl : k = M.S.length := by omega
      go_wp2_with fail
      go_ret
      exact ⟨by simp, H1.out.2.trans (HB.out.mono H1.out.2.size)⟩
end
end Go.Proofs.YtodokgkchmpmnaaGreat

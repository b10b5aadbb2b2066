/- Proved: what the document's Next answers where there is an item. Conditions: those that the theorems name. -/
import Derived.Test.YtplbdeaoeocgkaaDpNextM
namespace Go.Proofs.Ytplbdeaoeocgkaa
open Go.ChangeShapes Go.WideShapes Go.ChangeAt Go.RowKit

theorem res_rnext_put {T : Array Value} {W : World} {b b' : Nat} {s : Sv} {x : It} {z : Bool} (h2 : T.getD 2 undef = .pointer (some ⟨b, 0, none⟩)) (h3 : T.getD 3 undef = .pointer (some ⟨b', 0, none⟩)) (h4 : T.size = 91) (h : At W b 31 [.int .i64 s.Q, .slice s.A s.xs.length s.c, .slice s.B s.rd.length s.d]) (h' : At W b' 35 [.int .i64 x.1, .int .i64 x.2]) : (results Try.f21 (T.setIfInBounds 4 (.bool z))).run Try.prog W = .ok (.tuple #[s.val, .agg #[.int .i64 x.1, .int .i64 x.2], .bool z]) W :=
  res_rnext (by
    rw [← h2]
    simp) (by
    rw [← h3]
    simp) (by
    have : 4 < T.size := by omega
    simp [this]) h h'
theorem fail_eq (Q : Int) (q : Qd) : q.fail Q = ⟨q.id, q.w, (q.serve Q).d, false, q.l⟩ := by
  unfold Qd.fail Qd.serve; split <;> rfl
theorem tookQ_eq (Q : Int) (q : Qd) : tookQ Q q = ⟨q.id, q.w, if q.l.tail = [] then 0 else (q.serve Q).d - q.hd.2, true, q.l.tail⟩ := by
  have h1 := serve_id Q q
  have h2 := serve_w Q q
  have h3 := serve_l Q q
  have h4 := serve_s Q q
  have h5 := serve_hd Q q
  unfold tookQ Qd.took
  generalize q.serve Q = s at *
  obtain ⟨si, sw, sd, ss, sl⟩ := s
  show (⟨si, sw, if q.l.tail = [] then 0 else sd - (Qd.hd ⟨si, sw, sd, ss, sl⟩).2, ss, sl.tail⟩ : Qd) = _
  rw [h5]
  dsimp only at h1 h2 h3 h4
  rw [h1, h2, h4, h3]
theorem i_rest_run (g o n c : Nat) :
    ∃ A', (∀ W : World, (Instr.slice 64 (.slice (some ⟨g, o, none⟩) (n + 1) c) (some (.int .i64 1)) none none).run Try.prog W = .ok (.slice A' n (c - 1)) W) ∧ (A' = none → False) ∧ (1 < c → A' = some ⟨g, o + 2, none⟩) := by
  have hu : Try.prog.underlying 64 = some (.slice (Try.prog.elem 64)) := by kernel_rfl
  have he : Try.prog.elem 64 = 35 := by kernel_rfl
  obtain ⟨i, hi, hz0, hz1, hz2⟩ := info_parts infoIt
  refine ⟨if c = 1 then some ⟨g, o, none⟩ else some ⟨g, o + 2, none⟩, fun W => ?_, ?_, ?_⟩
  · rw [run_slice_l W 64 (some ⟨g, o, none⟩) (n + 1) c hu .i64 (1 : Int) (by omega) (by omega), he]
    simp [sizeOf, typeInfo, hi, hz1, sliced, Addr.add]
  · split <;> intro e <;> cases e
  · intro hk
    rw [if_neg (by omega)]
set_option maxRecDepth 100000 in
set_option maxHeartbeats 8000000 in
theorem rnext_some {w : World} {c : Nat → Prop} {s : Sv} {W : List (Int × Int)} {R : List Qd} {M : Int} (h : Sg w c s) (hc : ∀ g, w.heap.size ≤ g → c g) (r : DRel s.xs s.rd W R) (k : Ok s.Q M W R) (hR : R ≠ []) :
    Calls Try.prog 21 #[s.val] w (GivesN w c s.Q W R) := by
  obtain ⟨W1, HW, A1, A2, A3, B1, hs⟩ := pboxesN s w
  have HC := Lib.hid hc
  have HN0 : Hid (NRel w c s.Q M W R (muR R) W1) := Lib.hid (by
    cases R with
    | nil => exact absurd rfl hR
    | cons q t => exact ⟨s, q, t, rfl, .refl _, k, r, rfl, (h.there.below B1).mono fun g _ e => ⟨e.1, by omega, by omega, by omega⟩, A1, A2, A3, B1, by omega⟩)
  obtain ⟨Q', xs0, A0, m0, rd0, B0, d0⟩ := s
  clear A1 A2 A3 B1 hs h r hc k hR
  show Calls Try.prog 21 #[.agg #[.int .i64 Q', .slice A0 xs0.length m0, .slice B0 rd0.length d0]] w _
  dsimp only at HW HN0
  go_enter Try.func21, Try.ntmps21
  go_wp2_with fail
  rw [← HW]; clear HW
  go_loopg [5, 6, 7] (muR R) (fun k _ _ _ wr => NRel w c Q' M W R k wr)
  case atStart => exact HN0.out
  case round =>
    obtain ⟨⟨Q2, xs, A, n, rd, B, d⟩, h, t, hk, hrc, ok, dr, hQ, sg, A1, A2, A3, bl, hz⟩ := hrel
    have hQ : Q2 = Q' := hQ
    subst hQ
    have hx : ∃ (i : Nat) (x : Qv), xs[i]? = some x ∧ x.q = h := by
      obtain ⟨x, hx, e⟩ := dr.has h (List.mem_cons_self ..)
      obtain ⟨i, hi, he⟩ := List.getElem_of_mem hx
      exact ⟨i, x, by rw [List.getElem?_eq_getElem hi, he], e⟩
    obtain ⟨i, ⟨q, xA, xc⟩, hx, e⟩ := hx
    have e : q = h := e
    subst e
    have hrd : rd = q.id :: t.map Qd.id := dr.rd
    have hrl : 0 < rd.length := by rw [hrd, List.length_cons]; omega
    obtain ⟨gb, ob, eB, _, hlb, hbc⟩ := sg.rs (by rw [zcells_len]; exact hrl)
    have eB : B = some ⟨gb, ob, none⟩ := eB
    subst eB
    have z0 := hbc 0 _ (zcells_at rd 0 hrl)
    have hg0 : rd.getD 0 0 = q.id := by rw [hrd]; rfl
    rw [hg0, Nat.add_zero] at z0
    have hQ := ok.q
    have hhd := ok.head
    have hw := hhd.w
    have hq0 : 0 ≤ Q2 * q.w := Int.mul_nonneg (by omega) (by omega)
    have hq1 : Q2 * q.w ≤ 65536 * 255 := Int.mul_le_mul hQ.2 hw.2 (by omega) (by omega)
    have hM := ok.m
    have hd0 := hhd.d0
    have hd2 := hhd.d2
    have hsz := hhd.size
    have hsv := hhd.serve hQ.1
    have HNB : Hid (0 ≤ Q2 * q.w ∧ Q2 * q.w ≤ 16777216 ∧ 0 ≤ q.d ∧ q.d ≤ 33554432 ∧ 1 ≤ q.hd.2 ∧ q.hd.2 ≤ 65536 ∧ 0 ≤ (q.serve Q2).d ∧ (q.serve Q2).d ≤ 33554432) := Lib.hid ⟨by omega, by omega, by omega, by omega, by omega, by omega, hsv.d0, by have := hsv.d2; rw [serve_w] at this; omega⟩
    have HLE := Lib.hid (And.intro hhd.ne hhd.len)
    have HK := Lib.hid (And.intro hk (And.intro hrc (And.intro ok dr)))
    have HSG := Lib.hid sg
    have HX := Lib.hid hx
    have HNX : Hid (xs.length ≤ 256) := Lib.hid (dr.few ok)
    have HNR : Hid (rd.length ≤ 256) := Lib.hid (dr.fewR ok)
    have HND := Lib.hid (dr.nodup ok)
    have HP := Lib.hid (And.intro A1 (And.intro A2 A3))
    have HBL := Lib.hid bl
    have HZ := Lib.hid hz
    have hdr : Below wr.heap.size wr wr.drew := (Below.refl _ _).drew
    have HAT := Lib.hid (rat_any (sg.below hdr) (dr.few ok) q.id)
    have HAT : Hid (Calls Try.prog 22 #[.agg #[.int .i64 Q2, .slice A xs.length n, .slice (some ⟨gb, ob, none⟩) rd.length d], .int .i64 q.id] wr.drew _) := HAT
    have c0 := A1.cell 0 rfl
    have c1 := A1.cell 1 rfl
    have c2 := A1.cell 2 rfl
    have hrl' : (0 : Int) < (rd.length : Int) := by omega
    have hrg : rd.length ≠ 0 := by omega
    have hil := (List.getElem?_eq_some_iff.1 hx).1
    have hi0 : (0 : Int) ≤ (i : Int) := Int.natCast_nonneg _
    have hi1 : (i : Int) < (xs.length : Int) := by have hil : i < xs.length := hil; omega
    have hi2 : (i : Int) ≤ 300 := by have := HNX.out; have hil : i < xs.length := hil; omega
    clear HN0 hk hrc ok dr sg A1 A2 A3 bl hz hx hrd hbc hQ hhd hw hq0 hq1 hM hd0 hd2 hsz hdr hil hg0 hlb hsv
    go_wp2_with fail
    go_still_tail 5, (by kernel_rfl)
    change wpList _ _ _ _ _ wr.drew
    have HBD : Hid (Below w.heap.size w wr.drew) := Lib.hid HBL.out.drew
    have HB1 : Hid (Below wr.heap.size wr wr.drew) := Lib.hid (Below.refl _ _).drew
    generalize wr.drew = w1 at *
    go_wp2_with fail
    refine HAT.out.mono ?_; rintro e w2 ⟨z, rfl, hz, b2⟩
    have hzi := hz.is HND.out HX.out rfl
    subst hzi
    have hb2 : Below wr.heap.size wr w2 := HB1.out.trans (b2.mono HB1.out.size)
    have A1 := HP.out.1.below hb2 HP.out.1.lt
    have A2 := HP.out.2.1.below hb2 HP.out.2.1.lt
    have A3 := HP.out.2.2.below hb2 HP.out.2.2.lt
    have SG2 := HSG.out.below hb2
    have HB2 := Lib.hid (HBD.out.trans (b2.mono (HBD.out.size)))
    have HZ2 : Hid (w.heap.size + 3 ≤ w2.heap.size) := Lib.hid (Nat.le_trans HZ.out hb2.size)
    obtain ⟨gq, oq, eA, hcq, hgl, hcs⟩ := SG2.at_ HX.out
    have eA : A = some ⟨gq, oq, none⟩ := eA
    subst eA
    have d0 := hcs 0 _ rfl
    have d1 := hcs 1 _ rfl
    have d2 := hcs 2 _ rfl
    have d3 := hcs 3 _ rfl
    have d4 := hcs 4 _ rfl
    dsimp only [Nat.add_zero] at d0 d1 d2 d3 d4
    have c0 := A1.cell 0 rfl
    have c1 := A1.cell 1 rfl
    have HP2 := Lib.hid (And.intro A1 (And.intro A2 A3))
    have HSG2 := Lib.hid SG2
    clear z0 c2 hb2 b2 hz HAT HSG HP HB1 HBD hcs A1 A2 A3 SG2 hcq hgl hrl' hrg
    obtain ⟨qi, qw, qd, qs, ql⟩ := q
    obtain ⟨y, l, rfl⟩ : ∃ y l, ql = y :: l := by
      cases ql with
      | nil => exact absurd rfl HLE.out.1
      | cons y l => exact ⟨y, l, rfl⟩
    have hyl := HSG2.out.ql _ (List.mem_of_getElem? HX.out)
    obtain ⟨gi, oi, eI, hci, hil2, hit⟩ := hyl.cl (by show 0 < (itcells (y :: l)).length; rw [itcells_len, List.length_cons]; omega)
    have eI : xA = some ⟨gi, oi, none⟩ := eI
    subst eI
    have HIT := Lib.hid (And.intro (hit 0 _ rfl) (hit 1 _ rfl))
    have HIC := Lib.hid (And.intro hil2 hyl.cap)
    clear hyl hci hil2 hit
    dsimp only at d0 d1 d2 d3 d4
    have hy1 : (y :: l).length = l.length + 1 := List.length_cons ..
    rw [hy1] at d4
    generalize hlq : l.length = lq at *
    have HLQ := Lib.hid hlq
    clear hlq hy1
    obtain ⟨dS, hdS⟩ : ∃ dS, (Qd.serve Q2 ⟨qi, qw, qd, qs, y :: l⟩).d = dS := ⟨_, rfl⟩
    have HDS : Hid ((Qd.serve Q2 ⟨qi, qw, qd, qs, y :: l⟩).d = dS) := Lib.hid hdS
    rw [hdS] at HNB
    clear hdS
    have HW3 := Lib.hid ((Below.refl w2.heap.size w2).alloc (Nat.le_refl _) (.cells #[.int .i64 qi, .int .i64 qw, .int .i64 qd, .bool qs, .slice (some ⟨gi, oi, none⟩) (lq + 1) xc] 68))
    have HQ3 := Lib.hid (At.new w2 68 [.int .i64 qi, .int .i64 qw, .int .i64 qd, .bool qs, .slice (some ⟨gi, oi, none⟩) (lq + 1) xc])
    obtain ⟨Mid, hmid⟩ : ∃ Mid : World → Prop, Mid = fun wx => At wx w2.heap.size 68 [.int .i64 qi, .int .i64 qw, .int .i64 dS, .bool true, .slice (some ⟨gi, oi, none⟩) (lq + 1) xc] ∧ Below w2.heap.size w2 wx := ⟨_, rfl⟩
    have HMID := Lib.hid hmid
    clear hmid
    go_upto_if 25 with fail
    go_cut [] (fun wx => Mid wx)
    case first =>
      cases qs with
      | true =>
        go_wp2_with fail
        go_meet
        rw [HMID.out]
        have e : dS = qd := by rw [← HDS.out]; rfl
        rw [e]
        exact ⟨HQ3.out, HW3.out⟩
      | false =>
        have hB1 := HNB.out.1
        have hB2 := HNB.out.2.1
        have hB3 := HNB.out.2.2.1
        have hB4 := HNB.out.2.2.2.1
        have S3 := HP2.out.1.below HW3.out HP2.out.1.lt
        have e0 := S3.cell 0 rfl
        clear S3
        go_wp2_with fail
        go_meet
        rw [HMID.out]
        have e : dS = qd + Q2 * qw := by rw [← HDS.out]; rfl
        rw [e]
        exact ⟨At.new w2 68 [.int .i64 qi, .int .i64 qw, .int .i64 (qd + Q2 * qw), .bool true, .slice (some ⟨gi, oi, none⟩) (lq + 1) xc], (Below.refl w2.heap.size w2).alloc (Nat.le_refl _) _⟩
    case rest =>
      rw [HMID.out] at hcut
      obtain ⟨Q4, b4⟩ := hcut
      have it0 := (b4.cell (p := ⟨gi, oi + 0, none⟩) HIC.out.1).trans HIT.out.1
      have it1 := (b4.cell (p := ⟨gi, oi + 1, none⟩) HIC.out.1).trans HIT.out.2
      dsimp only [Nat.add_zero] at it0 it1
      have q2 := Q4.cell 2 rfl
      have q4 := Q4.cell 4 rfl
      have HQ4 := Lib.hid Q4
      have HB4 := Lib.hid b4
      have hl0 : (0 : Int) < ((lq + 1 : Nat) : Int) := by omega
      clear Q4 b4 hi0 hi1 hi2 d0 d1 d2 d3 d4 c0 c1
      go_wp2_with fail
      go_quiet (fail)
      have hbq : Below wc.heap.size wc (wc.drewN nq) := (Below.refl _ _).grown (grown_drewN wc nq none) (Nat.le_refl _) (by simp)
      have HB5 := Lib.hid (HB4.out.trans (hbq.mono HB4.out.size))
      have HQ5 := Lib.hid (HQ4.out.below hbq HQ4.out.lt)
      clear hbq it0 it1 q2 q4
      generalize wc.drewN nq = w5 at *
      by_cases hm : dS < y.2
      · have q53 := HQ5.out.cell 3 rfl
        have f53 := HQ5.out.free 3
        have S5 := HP2.out.1.below HB5.out HP2.out.1.lt
        have E5 := HP2.out.2.1.below HB5.out HP2.out.2.1.lt
        have I5 := HP2.out.2.2.below HB5.out HP2.out.2.2.lt
        have tn6 : Tn (fun g => g = w2.heap.size) w5 (w5.setCell ⟨w2.heap.size, 3, none⟩ (.bool false)) := (Tn.refl (fun g => g = w2.heap.size) w5).set ⟨w2.heap.size, 3, none⟩ _ (fun _ => rfl)
        have hz2 := HZ2.out
        have S6 := S5.tn tn6 (fun (e : w.heap.size = w2.heap.size) => by omega)
        have E6 := E5.tn tn6 (fun (e : w.heap.size + 1 = w2.heap.size) => by omega)
        have I6 := I5.tn tn6 (fun (e : w.heap.size + 1 + 1 = w2.heap.size) => by omega)
        have Q6 := HQ5.out.set_ 3 (.bool false)
        have B6 := pset_below (j := 3) (v := .bool false) HB5.out (Nat.le_refl _) (Nat.le_refl w2.heap.size)
        have SG6 := HSG2.out.below B6
        have hset := rset_any SG6 (fun g hg => ⟨HC.out g (by have := B6.size; omega), by have := B6.size; omega, by have := B6.size; omega, by have := B6.size; omega⟩) HNX.out (List.getElem?_eq_some_iff.1 HX.out).1 ⟨Qd.fail Q2 ⟨qi, qw, qd, qs, y :: l⟩, some ⟨gi, oi, none⟩, xc⟩ (by
          have := SG6.ql _ (List.mem_of_getElem? HX.out)
          exact ⟨by dsimp only; rw [fail_l]; exact this.cl, by dsimp only; rw [fail_l]; exact this.cap, fun e => by cases e⟩)
        have hsl : (xs.set i ⟨Qd.fail Q2 ⟨qi, qw, qd, qs, y :: l⟩, some ⟨gi, oi, none⟩, xc⟩).length = xs.length := List.length_set
        have hfe := fail_eq Q2 ⟨qi, qw, qd, qs, y :: l⟩
        rw [HDS.out] at hfe
        have hmf : (Qd.serve Q2 ⟨qi, qw, qd, qs, y :: l⟩).may = false := may_not.2 (by rw [HDS.out, serve_hd]; exact hm)
        obtain ⟨hgk, hrc, hok, hdr⟩ := HK.out
        have HDR := Lib.hid (hdr.fail hok HX.out rfl (some ⟨gi, oi, none⟩) xc)
        have HOK := Lib.hid (hok.fail hmf)
        have HRC := Lib.hid (hrc.trans (DrReach.step hmf (.refl _)))
        have HMU : Hid (muR (t ++ [Qd.fail Q2 ⟨qi, qw, qd, qs, y :: l⟩]) < gk) := Lib.hid (by rw [hgk]; exact mu_turn hok hmf)
        generalize xs.set i ⟨Qd.fail Q2 ⟨qi, qw, qd, qs, y :: l⟩, some ⟨gi, oi, none⟩, xc⟩ = ys at *
        rw [hfe] at hset
        have hy1 : (y :: l).length = lq + 1 := by rw [List.length_cons, HLQ.out]
        have HSET : Hid (Calls Try.prog 29 #[.agg #[.int .i64 Q2, .slice (some ⟨gq, oq, none⟩) xs.length n, .slice (some ⟨gb, ob, none⟩) rd.length d], .int .i64 i, .agg #[.int .i64 qi, .int .i64 qw, .int .i64 dS, .bool false, .slice (some ⟨gi, oi, none⟩) (lq + 1) xc]] (w5.setCell ⟨w2.heap.size, 3, none⟩ (.bool false)) fun e w' => ∃ A n, e = .returned (.agg #[.int .i64 Q2, .slice A xs.length n, .slice (some ⟨gb, ob, none⟩) rd.length d]) ∧ Sg w' (Nb w c) ⟨Q2, ys, A, n, rd, some ⟨gb, ob, none⟩, d⟩ ∧ Below (w5.setCell ⟨w2.heap.size, 3, none⟩ (.bool false)).heap.size (w5.setCell ⟨w2.heap.size, 3, none⟩ (.bool false)) w') := Lib.hid (by
          rw [← hy1]
          refine hset.mono ?_
          rintro e w' ⟨A, n, rfl, h1, h2⟩
          exact ⟨A, n, by unfold Sv.val; dsimp only; rw [hsl], h1, h2⟩)
        have HSL := Lib.hid hsl
        have HT6 := Lib.hid (And.intro S6 (And.intro E6 (And.intro I6 Q6)))
        have HB6 := Lib.hid (HB2.out.trans (B6.mono HB2.out.size))
        have HZ6 : Hid (w2.heap.size < (w5.setCell ⟨w2.heap.size, 3, none⟩ (.bool false)).heap.size) := Lib.hid Q6.lt
        have s60 := S6.cell 0 rfl
        have s61 := S6.cell 1 rfl
        have s62 := S6.cell 2 rfl
        have q60 := Q6.cell 0 rfl
        have q61 := Q6.cell 1 rfl
        have q62 := Q6.cell 2 rfl
        have q63 := Q6.cell 3 rfl
        have q64 := Q6.cell 4 rfl
        clear S5 E5 I5 S6 E6 I6 Q6 B6 SG6 tn6 hset hsl hfe hmf hgk hrc hok hdr hy1 hz2 HK
        go_upto_region 10 with (go_at_call 29; refine HSET.out.mono ?_; rintro e w7 ⟨A7, n7, rfl, g7, b7⟩; have S7 := HT6.out.1.below b7 HT6.out.1.lt; have s70 := S7.cell 0 rfl; have s71 := S7.cell 1 rfl; have s72 := S7.cell 2 rfl; have f70 := S7.free 0; have f71 := S7.free 1; have f72 := S7.free 2; have HS7 := Lib.hid S7; have HG7 := Lib.hid g7; have HB7 := Lib.hid b7; clear S7 g7 b7)
        change Code.wp _ _ _ _ (pset3 w7 w.heap.size (.int .i64 Q2) (.slice A7 xs.length n7) (.slice (some ⟨gb, ob, none⟩) rd.length d))
        have hz2 := HZ2.out
        have hz6 := HZ6.out
        have tn8 := pset3_tn w7 w.heap.size (.int .i64 Q2) (.slice A7 xs.length n7) (.slice (some ⟨gb, ob, none⟩) rd.length d)
        have HS8 := Lib.hid (pset3_at (x := .int .i64 Q2) (y := .slice A7 xs.length n7) (z := .slice (some ⟨gb, ob, none⟩) rd.length d) HS7.out)
        have HE8 := Lib.hid ((HT6.out.2.1.below HB7.out HT6.out.2.1.lt).tn tn8 (fun (e : w.heap.size + 1 = w.heap.size) => by omega))
        have HI8 := Lib.hid ((HT6.out.2.2.1.below HB7.out HT6.out.2.2.1.lt).tn tn8 (fun (e : w.heap.size + 1 + 1 = w.heap.size) => by omega))
        have HQ8 := Lib.hid ((HT6.out.2.2.2.below HB7.out HT6.out.2.2.2.lt).tn tn8 (fun (e : w2.heap.size = w.heap.size) => by omega))
        have HG8 := Lib.hid (HG7.out.tn tn8 fun g _ e f => e.2.1 f)
        have HB8 := Lib.hid (pset3_below (b := w.heap.size) (x := .int .i64 Q2) (y := .slice A7 xs.length n7) (z := .slice (some ⟨gb, ob, none⟩) rd.length d) (HB6.out.trans (HB7.out.mono HB6.out.size)) (Nat.le_refl _) (Nat.le_refl _))
        have HZ8 : Hid (w2.heap.size < (pset3 w7 w.heap.size (.int .i64 Q2) (.slice A7 xs.length n7) (.slice (some ⟨gb, ob, none⟩) rd.length d)).heap.size) := Lib.hid HQ8.out.lt
        generalize pset3 w7 w.heap.size (.int .i64 Q2) (.slice A7 xs.length n7) (.slice (some ⟨gb, ob, none⟩) rd.length d) = w8 at *
        clear tn8 s60 s61 s62 q60 q61 q62 q63 q64 s70 s71 s72 f70 f71 f72 q53 f53 HT6 HSET HS7 HG7 HB7 HB6
        obtain ⟨Mid2, hmid2⟩ : ∃ Mid2 : World → Prop, Mid2 = NRel w c Q2 M W R (muR (t ++ [Qd.fail Q2 ⟨qi, qw, qd, qs, y :: l⟩])) := ⟨_, rfl⟩
        have HMID2 := Lib.hid hmid2
        clear hmid2
        obtain ⟨h2, t2, e2⟩ : ∃ h2 t2, t ++ [Qd.fail Q2 ⟨qi, qw, qd, qs, y :: l⟩] = h2 :: t2 := by
          cases t with
          | nil => exact ⟨_, _, rfl⟩
          | cons a b => exact ⟨_, _, rfl⟩
        rw [e2] at HMID2 HRC HOK HDR HMU
        clear e2
        have HLO : Hid ((outL rd qi).length ≤ 60000) := Lib.hid (Nat.le_trans (outL_len _ _) (by have := HNR.out; omega))
        have HD0 : Hid (Below w8.heap.size w8 w8.drew) := Lib.hid (Below.refl _ _).drew
        have HD1 : Hid (Below w8.heap.size w8 (w8.alloc (.cells #[.int .i64 qi] 3)).drew) := Lib.hid ((Below.refl _ _).alloc (Nat.le_refl _) _).drew
        have HWO : Hid (∀ V, Below w8.heap.size w8 V → Calls Try.prog 28 #[.slice (some ⟨gb, ob, none⟩) rd.length d, .int .i64 qi] V fun e w' => ∃ v, e = .returned v ∧ w'.ownsRow V.heap.size 3 1 v (outL rd qi).length (zcells (outL rd qi)) ∧ Below V.heap.size V w') := Lib.hid fun V hV => rwithout_any (HG8.out.below hV).rs HNR.out qi
        go_cut [] (fun wx => Mid2 wx)
        case first =>
          have j0 := HQ8.out.cell 0 rfl
          have s2 := HS8.out.cell 2 rfl
          have k1 := (HQ8.out.below HD1.out HQ8.out.lt).cell 0 rfl
          have k2 := (HS8.out.below HD1.out HS8.out.lt).cell 2 rfl
          go_region_law (first
            | (refine step_append_run rfl _ _ _ _ rfl _ _ rfl rfl _ _ hr ?_)
            | (go_simp; go_at_call 28; refine (HWO.out _ HD0.out).mono ?_; rintro e w9 ⟨v, rfl, hown, hbl⟩; have j5 := (HQ8.out.below (HD0.out.trans hbl) HQ8.out.lt).cell 0 rfl; obtain ⟨A10, cap10, w10, hr, h61, h62, h63, h64⟩ := out_after (w := w8) hown (HD0.out.trans hbl) HLO.out qi; have H6 := Lib.hid (And.intro h61 (And.intro h62 (And.intro h63 h64))); have S6 := HS8.out.below h64 HS8.out.lt; have s6 := S6.cell 2 rfl; have f6 := S6.free 2; have j6 := (HQ8.out.below h64 HQ8.out.lt).cell 0 rfl; have HS6 := Lib.hid S6; clear hown hbl h61 h62 h63 h64 S6)
            | (go_simp; go_at_call 28; refine (HWO.out _ HD1.out).mono ?_; rintro e w9 ⟨v, rfl, hown, hbl⟩; have j5 := (HQ8.out.below (HD1.out.trans (hbl.mono HD1.out.size)) HQ8.out.lt).cell 0 rfl; obtain ⟨A10, cap10, w10, hr, h61, h62, h63, h64⟩ := out_ahead (w := w8) qi hown hbl HLO.out; have H6 := Lib.hid (And.intro h61 (And.intro h62 (And.intro h63 h64))); have S6 := HS8.out.below h64 HS8.out.lt; have s6 := S6.cell 2 rfl; have f6 := S6.free 2; have j6 := (HQ8.out.below h64 HQ8.out.lt).cell 0 rfl; have HS6 := Lib.hid S6; clear hown hbl h61 h62 h63 h64 S6))
          all_goals
            go_wp2_with fail
            go_meet
            rw [HMID2.out]
            have hz8 := HZ8.out
            have hz9 := HZ2.out
            have h64 := H6.out.2.2.2
            have tn6 : Tn (fun g => g = w.heap.size) w10 (w10.setCell ⟨w.heap.size, 2, none⟩ (.slice A10 ((outL rd qi).length + 1) cap10)) := (Tn.refl (fun g => g = w.heap.size) w10).set ⟨w.heap.size, 2, none⟩ _ (fun _ => rfl)
            have hll : (outL rd qi ++ [qi]).length = (outL rd qi).length + 1 := by rw [List.length_append]; rfl
            have e6 := (HE8.out.below h64 HE8.out.lt).tn tn6 (fun (e : w.heap.size + 1 = w.heap.size) => by omega)
            have i6 := (HI8.out.below h64 HI8.out.lt).tn tn6 (fun (e : w.heap.size + 1 + 1 = w.heap.size) => by omega)
            have g6 := (HG8.out.below h64).tn tn6 fun g _ e f => e.2.1 f
            have r6 := (H6.out.2.2.1.tn tn6 fun g _ e f => by omega).mono (d := Nb w c) fun g _ e => ⟨HC.out g (by omega), by omega, by omega, by omega⟩
            have b6 := pset_below (j := 2) (v := .slice A10 ((outL rd qi).length + 1) cap10) (HB8.out.trans (h64.mono HB8.out.size)) (Nat.le_refl _) (Nat.le_refl w.heap.size)
            refine ⟨⟨Q2, ys, A7, n7, outL rd qi ++ [qi], A10, cap10⟩, h2, t2, rfl, HRC.out, HOK.out, HDR.out, rfl, ⟨g6.qs, g6.qn, g6.qc, g6.ql, r6, H6.out.2.1, H6.out.1⟩, ?_, e6, i6, b6, ?_⟩
            · dsimp only
              rw [hll, HSL.out]; exact HS6.out.set_ 2 _
            · have := h64.size
              show w.heap.size + 3 ≤ (w10.setCell _ _).heap.size
              simp [World.setCell]
              omega
        case rest =>
          rw [HMID2.out] at hcut
          go_wp2_with fail
          go_roundg (muR (h2 :: t2))
          case rel => exact hcut
          case measure => exact HMU.out
      · have hle : y.2 ≤ dS := by omega
        have hmt : (Qd.serve Q2 ⟨qi, qw, qd, qs, y :: l⟩).may = true := (dmay_iff _).2 (by rw [HDS.out, serve_hd]; exact hle)
        obtain ⟨A', hrr, hno', hA'⟩ := i_rest_run gi oi lq xc
        obtain ⟨hgk, hrc, hok, hdr⟩ := HK.out
        have hgo : DrGoes Q2 R y (tookR (Qd.serve Q2 ⟨qi, qw, qd, qs, y :: l⟩) t) := DrGoes.after hrc (DrGoes.now hmt)
        have hdt := hdr.took hok HX.out rfl A' (xc - 1)
        have hte := tookQ_eq Q2 ⟨qi, qw, qd, qs, y :: l⟩
        rw [HDS.out] at hte
        have hte : tookQ Q2 ⟨qi, qw, qd, qs, y :: l⟩ = ⟨qi, qw, if l = [] then 0 else dS - y.2, true, l⟩ := hte
        have hdt : DRel (xs.set i ⟨tookQ Q2 ⟨qi, qw, qd, qs, y :: l⟩, A', xc - 1⟩) (if l = [] then outL rd qi else rd) W (tookR (Qd.serve Q2 ⟨qi, qw, qd, qs, y :: l⟩) t) := hdt
        rw [hte] at hdt
        have HDT := Lib.hid hdt
        have HGO := Lib.hid hgo
        generalize tookR (Qd.serve Q2 ⟨qi, qw, qd, qs, y :: l⟩) t = R' at *
        have hn1 : 1 ≤ y.2 := HNB.out.2.2.2.2.1
        have hn2 : y.2 ≤ 65536 := HNB.out.2.2.2.2.2.1
        have hn3 : dS ≤ 33554432 := HNB.out.2.2.2.2.2.2.2
        have hz2 := HZ2.out
        have hz5 : w2.heap.size < w5.heap.size := HQ5.out.lt
        have hcap : lq + 1 ≤ xc := by
          have := HIC.out.2
          have h1 : (y :: l).length ≤ xc := this
          rw [List.length_cons, HLQ.out] at h1; exact h1
        have al : Below w5.heap.size w5 (w5.alloc (.cells #[.int .i64 y.1, .int .i64 y.2] 35)) := (Below.refl _ _).alloc (Nat.le_refl _) _
        have S6 := (HP2.out.1.below HB5.out HP2.out.1.lt).below al (HP2.out.1.below HB5.out HP2.out.1.lt).lt
        have E6 := (HP2.out.2.1.below HB5.out HP2.out.2.1.lt).below al (HP2.out.2.1.below HB5.out HP2.out.2.1.lt).lt
        have I6 := (HP2.out.2.2.below HB5.out HP2.out.2.2.lt).below al (HP2.out.2.2.below HB5.out HP2.out.2.2.lt).lt
        have Q6 := HQ5.out.below al HQ5.out.lt
        have X6 := At.new w5 35 [.int .i64 y.1, .int .i64 y.2]
        have B6 := (HB2.out.trans (HB5.out.mono HB2.out.size)).trans (al.mono (by have := HB2.out.size; have := HB5.out.size; omega))
        have HB26 := Lib.hid (HB5.out.trans (al.mono HB5.out.size))
        have HA' := Lib.hid (And.intro hno' hA')
        have HCAP := Lib.hid hcap
        have H6 := Lib.hid (And.intro S6 (And.intro E6 (And.intro I6 (And.intro Q6 X6))))
        have HB6 := Lib.hid B6
        have HZ6 : Hid ((w5.alloc (.cells #[.int .i64 y.1, .int .i64 y.2] 35)).heap.size = w5.heap.size + 1) := Lib.hid (by simp)
        have it0 := (HB5.out.cell (p := ⟨gi, oi + 0, none⟩) HIC.out.1).trans HIT.out.1
        have it1 := (HB5.out.cell (p := ⟨gi, oi + 1, none⟩) HIC.out.1).trans HIT.out.2
        dsimp only [Nat.add_zero] at it0 it1
        have q54 := HQ5.out.cell 4 rfl
        have hl0 : (0 : Int) < ((lq + 1 : Nat) : Int) := by omega
        clear al S6 E6 I6 Q6 B6 hmt hgk hrc hok hdr hgo hdt hte HK hno' hA' hle X6
        have HXB : Hid (w2.heap.size < w5.heap.size) := Lib.hid hz5
        go_upto_region 12 with fail
        generalize w5.alloc (.cells #[.int .i64 y.1, .int .i64 y.2] 35) = w6 at *
        generalize hxb : w5.heap.size = xb at *
        clear it0 it1 q54
        have q62 := H6.out.2.2.2.1.cell 2 rfl
        have f62 := H6.out.2.2.2.1.free 2
        have x61 := H6.out.2.2.2.2.cell 1 rfl
        have Q7 := H6.out.2.2.2.1.set_ 2 (.int .i64 (dS - y.2))
        have q74 := Q7.cell 4 rfl
        have f74 := Q7.free 4
        have Q8 := Q7.set_ 4 (.slice A' lq (xc - 1))
        have q84 := Q8.cell 4 rfl
        have HQ8 := Lib.hid Q8
        have tn8 : Tn (fun g => g = w2.heap.size) w6 ((w6.setCell ⟨w2.heap.size, 2, none⟩ (.int .i64 (dS - y.2))).setCell ⟨w2.heap.size, 4, none⟩ (.slice A' lq (xc - 1))) := ((Tn.refl (fun g => g = w2.heap.size) w6).set ⟨w2.heap.size, 2, none⟩ _ (fun _ => rfl)).set ⟨w2.heap.size, 4, none⟩ _ (fun _ => rfl)
        have HT8 := Lib.hid tn8
        clear Q7 Q8 tn8
        go_upto_if 76 with fail
        have B28 := Lib.hid (pset_below (j := 4) (v := .slice A' lq (xc - 1)) (pset_below (j := 2) (v := .int .i64 (dS - y.2)) HB26.out (Nat.le_refl _) (Nat.le_refl w2.heap.size)) (Nat.le_refl _) (Nat.le_refl w2.heap.size))
        have hxq := HXB.out
        have HS8 := Lib.hid (H6.out.1.tn HT8.out (fun (e : w.heap.size = w2.heap.size) => by omega))
        have HE8 := Lib.hid (H6.out.2.1.tn HT8.out (fun (e : w.heap.size + 1 = w2.heap.size) => by omega))
        have HI8 := Lib.hid (H6.out.2.2.1.tn HT8.out (fun (e : w.heap.size + 1 + 1 = w2.heap.size) => by omega))
        have HX8 := Lib.hid (H6.out.2.2.2.2.tn HT8.out (fun (e : xb = w2.heap.size) => by omega))
        have HB8 := Lib.hid (HB2.out.trans (B28.out.mono HB2.out.size))
        have HG8 := Lib.hid (HSG2.out.below B28.out)
        generalize (w6.setCell ⟨w2.heap.size, 2, none⟩ (.int .i64 (dS - y.2))).setCell ⟨w2.heap.size, 4, none⟩ (.slice A' lq (xc - 1)) = w8 at *
        have HCL : Hid (∀ V, Below w2.heap.size w2 V → Cl V (Nb w c) A' (itcells l)) := Lib.hid (fun V hV => by
          intro h0
          have h1 : 1 < xc := by rw [itcells_len, HLQ.out] at h0; have := HCAP.out; omega
          rw [HA'.out.2 h1]
          have := ((HSG2.out.below hV).ql _ (List.mem_of_getElem? HX.out)).cl
          exact (Cl.drop (n := 2) (xs := itcells (y :: l)) this) h0)
        have HB28 := Lib.hid B28.out
        clear q62 f62 x61 q74 f74 q84 HT8 B28 HB26 hdt H6 HB6 HZ6 hn1 hn2 hn3 hz2 hz5 hcap hxq
        obtain ⟨rdT, hrdT⟩ : ∃ z, (if l = [] then outL rd qi else rd) = z := ⟨_, rfl⟩
        obtain ⟨dT, hdT⟩ : ∃ z, (if l = [] then 0 else dS - y.2) = z := ⟨_, rfl⟩
        rw [hrdT, hdT] at HDT
        have HRT := Lib.hid (And.intro hrdT hdT)
        clear hrdT hdT
        obtain ⟨Mid3, hmid3⟩ : ∃ Mid3 : World → Prop, Mid3 = fun wx => ∃ B' d', At wx w2.heap.size 68 [.int .i64 qi, .int .i64 qw, .int .i64 dT, .bool true, .slice A' lq (xc - 1)] ∧ At wx w.heap.size 31 [.int .i64 Q2, .slice (some ⟨gq, oq, none⟩) xs.length n, .slice B' rdT.length d'] ∧ At wx (w.heap.size + 1) 31 [.int .i64 0, .slice none 0 0, .slice none 0 0] ∧ At wx (w.heap.size + 1 + 1) 35 [.int .i64 0, .int .i64 0] ∧ At wx xb 35 [.int .i64 y.1, .int .i64 y.2] ∧ Sg wx (Nb w c) ⟨Q2, xs, some ⟨gq, oq, none⟩, n, rdT, B', d'⟩ ∧ Cl wx (Nb w c) A' (itcells l) ∧ Below w.heap.size w wx := ⟨_, rfl⟩
        have HMID3 := Lib.hid hmid3
        clear hmid3
        go_cut [] (fun wx => Mid3 wx)
        case first =>
          by_cases hl : l = []
          · have hq0 : ((lq : Int) == 0) = true := by
              have : lq = 0 := by rw [← HLQ.out, hl]; rfl
              rw [this]; rfl
            have hr1 : rdT = outL rd qi := by rw [← HRT.out.1, if_pos hl]
            have hr2 : dT = 0 := by rw [← HRT.out.2, if_pos hl]
            have HR1 := Lib.hid (And.intro hr1 hr2)
            have q82 := HQ8.out.cell 2 rfl
            have f82 := HQ8.out.free 2
            have tn9 : Tn (fun g => g = w2.heap.size) w8 (w8.setCell ⟨w2.heap.size, 2, none⟩ (.int .i64 0)) := (Tn.refl (fun g => g = w2.heap.size) w8).set ⟨w2.heap.size, 2, none⟩ _ (fun _ => rfl)
            have hz2 := HZ2.out
            have hxq := HXB.out
            have S9 := HS8.out.tn tn9 (fun (e : w.heap.size = w2.heap.size) => by omega)
            have HE9 := Lib.hid (HE8.out.tn tn9 (fun (e : w.heap.size + 1 = w2.heap.size) => by omega))
            have HI9 := Lib.hid (HI8.out.tn tn9 (fun (e : w.heap.size + 1 + 1 = w2.heap.size) => by omega))
            have HX9 := Lib.hid (HX8.out.tn tn9 (fun (e : xb = w2.heap.size) => by omega))
            have Q9 := HQ8.out.set_ 2 (.int .i64 0)
            have HS9 := Lib.hid S9
            have HQ9 := Lib.hid Q9
            have s92 := S9.cell 2 rfl
            have q90 := Q9.cell 0 rfl
            have B29 := pset_below (j := 2) (v := .int .i64 0) HB28.out (Nat.le_refl _) (Nat.le_refl w2.heap.size)
            have HB29 := Lib.hid B29
            have HWO := Lib.hid (rwithout_any (d := d) (HSG2.out.below B29).rs HNR.out qi)
            have HZ9 : Hid (w2.heap.size < (w8.setCell ⟨w2.heap.size, 2, none⟩ (.int .i64 0)).heap.size) := Lib.hid Q9.lt
            clear hl hr1 hr2 tn9 S9 Q9 B29 hxq
            go_wp2_with (go_at_call 28; refine HWO.out.mono ?_; rintro e w10 ⟨v, rfl, hown, b10⟩; obtain ⟨B10, cap10, rfl, hcp, hno, hcl⟩ := Cl.own (c := Nb w c) hown (fun g hg => ⟨HC.out g (by have := HZ9.out; omega), by have := HZ9.out; omega, by have := HZ9.out; omega, by have := HZ9.out; omega⟩); have S10 := HS9.out.below b10 HS9.out.lt; have s10 := S10.cell 2 rfl; have f10 := S10.free 2; have HS10 := Lib.hid S10; have HO10 := Lib.hid (And.intro hcp (And.intro hno hcl)); have HB10 := Lib.hid b10; clear hown b10 hcp hno hcl S10)
            go_meet
            rw [HMID3.out, HR1.out.1, HR1.out.2]
            have tn11 : Tn (fun g => g = w.heap.size) w10 (w10.setCell ⟨w.heap.size, 2, none⟩ (.slice B10 (outL rd qi).length cap10)) := (Tn.refl (fun g => g = w.heap.size) w10).set ⟨w.heap.size, 2, none⟩ _ (fun _ => rfl)
            have hz9 := HZ9.out
            have hxl := HX9.out.lt
            have b210 := HB29.out.trans (HB10.out.mono (by omega))
            have g10 := (HSG2.out.below b210).tn tn11 fun g _ e f => e.2.1 f
            have r10 := HO10.out.2.2.tn tn11 fun g _ e f => e.2.1 f
            have c10 := (HCL.out _ b210).tn tn11 fun g _ e f => e.2.1 f
            have hxq := HXB.out
            have e10 := (HE9.out.below HB10.out HE9.out.lt).tn tn11 (fun (e : w.heap.size + 1 = w.heap.size) => by omega)
            have i10 := (HI9.out.below HB10.out HI9.out.lt).tn tn11 (fun (e : w.heap.size + 1 + 1 = w.heap.size) => by omega)
            have x10 := (HX9.out.below HB10.out HX9.out.lt).tn tn11 (fun (e : xb = w.heap.size) => by omega)
            have q10 := (HQ9.out.below HB10.out HQ9.out.lt).tn tn11 (fun (e : w2.heap.size = w.heap.size) => by omega)
            exact ⟨B10, cap10, q10, HS10.out.set_ 2 _, e10, i10, x10, ⟨g10.qs, g10.qn, g10.qc, g10.ql, r10, HO10.out.2.1, HO10.out.1⟩, c10, pset_below (HB2.out.trans (b210.mono HB2.out.size)) (Nat.le_refl _) (Nat.le_refl _)⟩
          · have hq0 : ((lq : Int) == 0) = false := by
              have : lq ≠ 0 := fun e => hl (List.eq_nil_of_length_eq_zero (by rw [HLQ.out]; exact e))
              simpa using this
            have hr1 : rdT = rd := by rw [← HRT.out.1, if_neg hl]
            have hr2 : dT = dS - y.2 := by rw [← HRT.out.2, if_neg hl]
            clear hl
            go_wp2_with fail
            go_meet
            rw [HMID3.out, hr1, hr2]
            exact ⟨_, _, HQ8.out, HS8.out, HE8.out, HI8.out, HX8.out, HG8.out, HCL.out _ HB28.out, HB8.out⟩
        case rest =>
          rw [HMID3.out] at hcut
          obtain ⟨B', d', Q9, S9, E9, I9, X9, G9, C9, B9⟩ := hcut
          have hdr : Below wc.heap.size wc wc.drew := (Below.refl _ _).drew
          have hcap : lq ≤ xc - 1 := by have := HCAP.out; omega
          have hset := rset_any (G9.below hdr) (fun g hg => ⟨HC.out g (by have h1 := B9.size; have h2 := hdr.size; omega), by have h1 := I9.lt; have h2 := hdr.size; omega, by have h1 := I9.lt; have h2 := hdr.size; omega, by have h1 := I9.lt; have h2 := hdr.size; omega⟩) HNX.out (List.getElem?_eq_some_iff.1 HX.out).1 ⟨⟨qi, qw, dT, true, l⟩, A', xc - 1⟩ ⟨C9.below hdr, by dsimp only; rw [HLQ.out]; exact hcap, fun e => absurd e HA'.out.1⟩
          have hsl : (xs.set i ⟨⟨qi, qw, dT, true, l⟩, A', xc - 1⟩).length = xs.length := List.length_set
          generalize xs.set i ⟨⟨qi, qw, dT, true, l⟩, A', xc - 1⟩ = ys at *
          have HSET : Hid (Calls Try.prog 29 #[.agg #[.int .i64 Q2, .slice (some ⟨gq, oq, none⟩) xs.length n, .slice B' rdT.length d'], .int .i64 i, .agg #[.int .i64 qi, .int .i64 qw, .int .i64 dT, .bool true, .slice A' lq (xc - 1)]] wc.drew fun e w' => ∃ A n, e = .returned (.agg #[.int .i64 Q2, .slice A xs.length n, .slice B' rdT.length d']) ∧ Sg w' (Nb w c) ⟨Q2, ys, A, n, rdT, B', d'⟩ ∧ Below wc.heap.size wc w') := Lib.hid (by
            rw [← HLQ.out]
            refine hset.mono ?_
            rintro e w' ⟨A, n, rfl, h1, h2⟩
            exact ⟨A, n, by unfold Sv.val; dsimp only; rw [hsl], h1, hdr.trans (h2.mono hdr.size)⟩)
          have HSL := Lib.hid hsl
          have s90 := S9.cell 0 rfl
          have s91 := S9.cell 1 rfl
          have s92 := S9.cell 2 rfl
          have q90 := Q9.cell 0 rfl
          have q91 := Q9.cell 1 rfl
          have q92 := Q9.cell 2 rfl
          have q93 := Q9.cell 3 rfl
          have q94 := Q9.cell 4 rfl
          have x90 := X9.cell 0 rfl
          have x91 := X9.cell 1 rfl
          have HE9 := Lib.hid E9
          have HI9 := Lib.hid I9
          have HX9 := Lib.hid X9
          have HB9 := Lib.hid B9
          have HXN : Hid (xb ≠ w.heap.size + 1) := Lib.hid (by have := HXB.out; have := HZ2.out; omega)
          clear hdr hcap hset hsl Q9 S9 E9 I9 X9 G9 C9 B9
          go_wp2_with fail
          go_region_law ((go_simp; go_at_call 29; refine HSET.out.mono ?_; rintro e w12 ⟨A12, n12, rfl, g12, b12⟩; have X12 := HX9.out.below b12 HX9.out.lt; have x120 := X12.cell 0 rfl; have x121 := X12.cell 1 rfl; have x13 := (X12.far (p := ⟨w.heap.size + 1, 0, none⟩) HXN.out (.int .i64 Q2)).cell 0 rfl; have x14 := ((X12.far (p := ⟨w.heap.size + 1, 0, none⟩) HXN.out (.int .i64 Q2)).far (p := ⟨w.heap.size + 1, 1, none⟩) HXN.out (.slice A12 xs.length n12)).cell 1 rfl; have E12 := HE9.out.below b12 HE9.out.lt; have I12 := HI9.out.below b12 HI9.out.lt; have e0 := E12.cell 0 rfl; have e1 := E12.cell 1 rfl; have e2 := E12.cell 2 rfl; have f0 := E12.free 0; have f1 := E12.free 1; have f2 := E12.free 2; have i0 := I12.cell 0 rfl; have i1 := I12.cell 1 rfl; have j0 := I12.free 0; have j1 := I12.free 1; have HE12 := Lib.hid E12; have HI12 := Lib.hid I12; have HG12 := Lib.hid g12; have HB12 := Lib.hid b12; clear X12 E12 I12 g12 b12))
          all_goals
            go_wp2_with fail
            change bodyPost _ _ _ _ ⟨Array.setIfInBounds _ 4 (.bool true), []⟩ (((pset3 w12 (w.heap.size + 1) (.int .i64 Q2) (.slice A12 xs.length n12) (.slice B' rdT.length d')).setCell ⟨w.heap.size + 1 + 1, 0, none⟩ (.int .i64 y.1)).setCell ⟨w.heap.size + 1 + 1, 1, none⟩ (.int .i64 y.2))
            have t1 : At (((pset3 w12 (w.heap.size + 1) (.int .i64 Q2) (.slice A12 xs.length n12) (.slice B' rdT.length d')).setCell ⟨w.heap.size + 1 + 1, 0, none⟩ (.int .i64 y.1)).setCell ⟨w.heap.size + 1 + 1, 1, none⟩ (.int .i64 y.2)) (w.heap.size + 1) 31 [.int .i64 Q2, .slice A12 xs.length n12, .slice B' rdT.length d'] := ((pset3_at HE12.out).far (p := ⟨w.heap.size + 1 + 1, 0, none⟩) (by show w.heap.size + 1 ≠ w.heap.size + 1 + 1; omega) _).far (p := ⟨w.heap.size + 1 + 1, 1, none⟩) (by show w.heap.size + 1 ≠ w.heap.size + 1 + 1; omega) _
            have t2 : At (((pset3 w12 (w.heap.size + 1) (.int .i64 Q2) (.slice A12 xs.length n12) (.slice B' rdT.length d')).setCell ⟨w.heap.size + 1 + 1, 0, none⟩ (.int .i64 y.1)).setCell ⟨w.heap.size + 1 + 1, 1, none⟩ (.int .i64 y.2)) (w.heap.size + 1 + 1) 35 [.int .i64 y.1, .int .i64 y.2] := ((pset3_far (HI12.out) (by omega)).set_ 0 _).set_ 1 _
            have t3 := pset_below (j := 1) (v := .int .i64 y.2) (pset_below (j := 0) (v := .int .i64 y.1) (pset3_below (b := w.heap.size + 1) (x := .int .i64 Q2) (y := .slice A12 xs.length n12) (z := .slice B' rdT.length d') (HB9.out.trans (HB12.out.mono HB9.out.size)) (Nat.le_refl _) (by omega)) (Nat.le_refl _) (by omega : w.heap.size ≤ w.heap.size + 1 + 1)) (Nat.le_refl _) (by omega : w.heap.size ≤ w.heap.size + 1 + 1)
            have tn : Tn (fun g => g = w.heap.size + 1 ∨ g = w.heap.size + 1 + 1) w12 (((pset3 w12 (w.heap.size + 1) (.int .i64 Q2) (.slice A12 xs.length n12) (.slice B' rdT.length d')).setCell ⟨w.heap.size + 1 + 1, 0, none⟩ (.int .i64 y.1)).setCell ⟨w.heap.size + 1 + 1, 1, none⟩ (.int .i64 y.2)) := (((((Tn.refl (fun g => g = w.heap.size + 1 ∨ g = w.heap.size + 1 + 1) w12).set ⟨w.heap.size + 1, 0, none⟩ _ (fun _ => Or.inl rfl)).set ⟨w.heap.size + 1, 1, none⟩ _ (fun _ => Or.inl rfl)).set ⟨w.heap.size + 1, 2, none⟩ _ (fun _ => Or.inl rfl)).set ⟨w.heap.size + 1 + 1, 0, none⟩ _ (fun _ => Or.inr rfl)).set ⟨w.heap.size + 1 + 1, 1, none⟩ _ (fun _ => Or.inr rfl)
            have g13 := (HG12.out.tn tn fun g _ e f => by rcases f with f | f; exact e.2.2.1 f; exact e.2.2.2 f).mono (d := c) fun g _ e => e.1
            generalize (((pset3 w12 (w.heap.size + 1) (.int .i64 Q2) (.slice A12 xs.length n12) (.slice B' rdT.length d')).setCell ⟨w.heap.size + 1 + 1, 0, none⟩ (.int .i64 y.1)).setCell ⟨w.heap.size + 1 + 1, 1, none⟩ (.int .i64 y.2)) = w13 at *
            have t1 : At w13 (w.heap.size + 1) 31 [.int .i64 Q2, .slice A12 ys.length n12, .slice B' rdT.length d'] := by rw [HSL.out]; exact t1
            exact bodyPost_ret (v := .tuple #[Sv.val ⟨Q2, ys, A12, n12, rdT, B', d'⟩, .agg #[.int .i64 y.1, .int .i64 y.2], .bool true]) (res_rnext_put (s := ⟨Q2, ys, A12, n12, rdT, B', d'⟩) rfl rfl rfl t1 t2) rfl ⟨⟨Q2, ys, A12, n12, rdT, B', d'⟩, y, R', rfl, HGO.out, g13, HDT.out, rfl, t3⟩
end Go.Proofs.Ytplbdeaoeocgkaa

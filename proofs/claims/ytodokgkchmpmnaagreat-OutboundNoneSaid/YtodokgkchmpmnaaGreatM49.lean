/- Proved: lemmas of one statement's proof, merged by program: what each part proves stands ahead of it. Conditions: those that the lemmas name. -/
import Derived.Test.YtodokgkchmpmnaaGreatM48
import Derived.Deep.LoopGhost

/- Proved: what Fill of package outbound answers and leaves. Conditions: those that the theorems name. -/
namespace Go.Proofs.YtodokgkchmpmnaaGreat
open Go.ChangeShapes Go.WideShapes Go.ChangeAt Go.RowKit

theorem owns_tn {w w' : World} {base k n : Nat} {e : TypeId} {v : Value} {xs : List Value} {c : Nat → Prop} (h : w.ownsRow base e k v n xs) (t : Tn c w w') (hc : ∀ g, ObTy w g e → ¬ c g) : w'.ownsRow base e k v n xs := by
  obtain ⟨hl, hv⟩ := h
  refine ⟨hl, ?_⟩
  rcases hv with h | ⟨g, cap, cur, rfl, hg, hcur, h1⟩
  · exact .inl h
  · exact .inr ⟨g, cap, cur, rfl, hg, (t.block g (Array.getElem?_eq_some_iff.1 hcur).1 (hc g ⟨_, hcur⟩)).trans hcur, h1⟩
theorem Qu.cl {w : World} {r : Option Nat} {e : TypeId} {k n : Nat} {v : Value} {xs : List Value} {c : Nat → Prop} (h : Qu w r e k v n xs) (hc : ∀ g, r = some g → c g) :
    ∃ A cap, v = .slice A n cap ∧ (A = none → cap = 0) ∧ Cl w c A xs := by
  by_cases hn : 0 < n
  · obtain ⟨g, o, cap, hr, hv, hg, _, hx, _⟩ := h.head hn
    exact ⟨_, cap, hv, (fun e => nomatch e), fun _ => ⟨g, o, rfl, hc g hr, hg, hx⟩⟩
  · have h0 : n = 0 := by omega
    have hx : xs = [] := List.eq_nil_of_length_eq_zero (by rw [h.1, h0, Nat.zero_mul])
    subst hx
    rcases h.2 with ⟨rfl, _, _⟩ | ⟨g, o, cap, cur, _, rfl, _⟩
    · exact ⟨none, 0, by rw [h0], fun _ => rfl, Cl.nil _ _ _⟩
    · exact ⟨_, cap, rfl, (fun e => nomatch e), Cl.nil _ _ _⟩
/-- items come back, in a row of the call's own; what a stream sends stands then as M' says. -/
def GivesIo (W : World) (Y : ObY) (M' : ObM) (I : List (Int × Int)) (e : Ending) (w' : World) : Prop :=
  ∃ u, e = .returned u ∧ w'.ownsRow W.heap.size 140 2 u I.length (obIt I) ∧ ∃ Y', Ob w' Y' M' ∧ ObT W w' Y Y'
/-- is the last one cut, too? -/
abbrev flB (M : ObM) : Bool := M.cl || ((M.L.length : Int) == 0)
abbrev obn (M : ObM) : Nat := (M.c.k * M.c.s).toNat
/-- may one more fly, and is there one? -/
abbrev goB (M : ObM) : Bool := letB M && nxB (obn M) (flB M) M.s
/-- one more flies. -/
def fillO (s : ObM × List (Int × Int)) (now : Int) : ObM × List (Int × Int) :=
  ((flyM { s.1 with s := s.1.s.extract (nxK (obn s.1) (flB s.1) s.1.s) s.1.s.size } (s.1.s.extract 0 (nxK (obn s.1) (flB s.1) s.1.s)) now).1,
    s.2 ++ (flyM { s.1 with s := s.1.s.extract (nxK (obn s.1) (flB s.1) s.1.s) s.1.s.size } (s.1.s.extract 0 (nxK (obn s.1) (flB s.1) s.1.s)) now).2)
def fillF : Nat → ObM × List (Int × Int) → Int → ObM × List (Int × Int)
  | 0, s, _ => s
  | k + 1, s, now => if goB s.1 = true then fillF k (fillO s now) now else s
/-- as many as may fly. -/
def fillM (M : ObM) (now : Int) : ObM × List (Int × Int) := fillF 64 (M, []) now
theorem fillF_stop {k : Nat} {s : ObM × List (Int × Int)} {now : Int} (h : goB s.1 = false) : fillF k s now = s := by
  cases k with
  | zero => rfl
  | succ k => unfold fillF; rw [if_neg (by rw [h]; decide)]
theorem fillF_more {k : Nat} {s : ObM × List (Int × Int)} {now : Int} (h : goB s.1 = true) : fillF (k + 1) s now = fillF k (fillO s now) now := by
  show (if goB s.1 = true then fillF k (fillO s now) now else s) = _
  rw [if_pos h]
theorem ob_cut_all (s : ByteArray) : s.extract 0 s.size = s := by simp
theorem nx_facts {n : Nat} {f : Bool} {s : ByteArray} (hn : 1 ≤ n) (h : nxB n f s = true) : 1 ≤ (s.extract 0 (nxK n f s)).size ∧ (s.extract 0 (nxK n f s)).size ≤ n := by
  rw [rg_cut_size]
  unfold nxK
  rw [if_pos h]
  unfold nxB at h
  simp only [Bool.or_eq_true, Bool.and_eq_true, decide_eq_true_eq] at h
  omega
theorem obn_in {c : Cf} (h : c.ok = true) : 1 ≤ (c.k * c.s).toNat ∧ (c.k * c.s).toNat ≤ 32768 := by
  obtain ⟨⟨k1, k2⟩, _, ⟨s1, s2⟩, _, _⟩ := cf_lims h
  obtain ⟨a, b⟩ := block_in _ _ k1 k2 s1 s2
  omega
/-- what one more that flies leaves as it was, and how much more there is. -/
theorem fly_same {M : ObM} {body : ByteArray} (hc : M.c.ok = true) (h1 : 1 ≤ body.size) (h2 : body.size ≤ obn M) (now : Int) :
    (flyM M body now).1.c = M.c ∧ (flyM M body now).1.L.length = M.L.length + 1 ∧ (flyM M body now).1.U.length ≤ M.U.length + 255 ∧ (flyM M body now).2.length ≤ 255 := by
  obtain ⟨a, b, d⟩ := awF_same (flyN M body now) [] (obFirst M.nx (shO body M.c.k M.c.r).length)
  have hl := (fly_facts hc h1 h2).2.1
  rw [obFirst_len] at b d
  unfold flyM
  have e : (flyN M body now).U = M.U := rfl
  rw [e] at b
  exact ⟨a.c, by rw [a.L]; unfold flyN; simp, by omega, by simp at d; omega⟩
/-- a region's many orders, closed once. -/
def ObOne (A : Act) (p : World → Prop) : Exit → Act → World → Prop
  | .normal, a, w => a = A ∧ p w
  | _, _, _ => False
theorem wp_obOne {P : Program} {c : Code} {Q : Exit → Act → World → Prop} {a : Act} {w : World} {A : Act} {p : World → Prop} (h : c.wp P (ObOne A p) a w) (k : ∀ w', p w' → Q .normal A w') : c.wp P Q a w :=
  Code.wp_mono (fun e a w g => by
    cases e with
    | normal => obtain ⟨rfl, g⟩ := g; exact k w g
    | _ => exact g.elim) h
section
variable {w : World} {Y : ObY} {M : ObM}
set_option maxRecDepth 100000 in
set_option maxHeartbeats 6400000 in
theorem ob_fill (h : Ob w Y M) (now : Int) (ht : timeB now = true) (hu : M.U.length ≤ 40000) :
    Calls Tryz.prog 8 #[.pointer (some ⟨Y.o, 0, none⟩), .int .i64 now] w (GivesIo w Y (fillM M now).1 (fillM M now).2) := by
  have HT := Lib.hid ht
  unfold timeB at ht
  have t1 : ¬ now < 0 := by simp at ht; omega
  have t2 : ¬ now > 1099511627776 := by simp at ht; omega
  have HH := Lib.hid h
  have HU := Lib.hid hu
  have HO : Hid (∀ (W : World) (Y' : ObY), ObT w W Y Y' → Y'.o = Y.o) := Lib.hid fun _ _ t => t.o
  have HL64 : Hid (M.c.w ≤ 64) := Lib.hid h.m.p.fl.high
  unfold fillM
  clear h ht hu
  generalize hoo : Y.o = o at *
  have HOO := Lib.hid hoo
  clear hoo
  go_enter Tryz.func8, Tryz.ntmps8
  go_wp2_with fail
  go_loopg [5] 64 (fun k u wr => ∃ Mc I Y1, fillF k (Mc, I) now = fillF 64 (M, []) now ∧ (Mc.c.w ≤ (Mc.L.length : Int) + k ∧ Mc.U.length + 255 * k ≤ 60000 ∧ I.length + 255 * k ≤ 16320) ∧ wr.ownsRow w.heap.size 140 2 u I.length (obIt I) ∧ Ob wr Y1 Mc ∧ ObT w wr Y Y1)
  case atStart => exact ⟨M, [], Y, rfl, ⟨by have := HL64.out; omega, by have := HU.out; omega, by simp⟩, World.ownsRow_nil _ _ _ _, HH.out, ObT.refl _ _⟩
  case round =>
    obtain ⟨Mc, I, Y1, hfill, hnum, hown, hob, htt⟩ := hrel
    have ho1 := HO.out _ _ htt
    have HLT := Lib.hid (ob_lets hob)
    rw [ho1] at HLT
    have HR := Lib.hid (And.intro hown (And.intro hob htt))
    have HF := Lib.hid (And.intro hfill (And.intro hnum ho1))
    clear hfill hnum hown hob htt ho1
    cases hlet : letB Mc with
    | false =>
      rw [hlet] at HLT
      have HFX : Hid ((Mc, I) = fillF 64 (M, []) now) := Lib.hid (by rw [← HF.out.1]; exact (fillF_stop (by show (letB Mc && _) = false; rw [hlet]; rfl)).symm)
      go_wp2_with fail
      refine HLT.out.mono ?_; rintro e w1 ⟨rfl, m, rfl⟩
      have h1 := HR.out.2.1.drewN m
      have t1' := HR.out.2.2.drewN_ m
      have HZ : Hid ((wr.drewN m).ownsRow w.heap.size 140 2 u5 I.length (obIt I) ∧ Ob (wr.drewN m) Y1 Mc ∧ ObT w (wr.drewN m) Y Y1) := Lib.hid ⟨HR.out.1, h1, t1'⟩
      clear h1 t1'
      generalize wr.drewN m = w1 at *
      go_wp2_with fail
      go_ret
      exact ⟨_, rfl, by rw [← HFX.out]; exact HZ.out.1, Y1, by rw [← HFX.out]; exact HZ.out.2.1, HZ.out.2.2⟩
    | true =>
      rw [hlet] at HLT
      go_wp2_with fail
      refine HLT.out.mono ?_; rintro e w1 ⟨rfl, m, rfl⟩
      have HZ : Hid ((wr.drewN m).ownsRow w.heap.size 140 2 u5 I.length (obIt I) ∧ Ob (wr.drewN m) Y1 Mc ∧ ObT w (wr.drewN m) Y Y1) := Lib.hid ⟨HR.out.1, HR.out.2.1.drewN m, HR.out.2.2.drewN_ m⟩
      clear HR HLT
      generalize wr.drewN m = w1 at *
      have HLB := Lib.hid hlet
      have HNX := Lib.hid (fun W (q : Ob W Y1 Mc) f (e : f = flB Mc) => (by rw [e]; exact bl_next _ _ _ _ (flB Mc) _ _ W q.m.p.bk : Calls Tryz.prog 22 #[.pointer (some ⟨Y1.B, 0, none⟩), .bool f] W (GivesBk W Y1.B Y1.q (obn Mc) Mc.c.b.toNat Y1.g (.tuple #[.string (Mc.s.extract 0 (nxK (obn Mc) (flB Mc) Mc.s)), .bool (nxB (obn Mc) (flB Mc) Mc.s)]) (Mc.s.extract (nxK (obn Mc) (flB Mc) Mc.s) Mc.s.size))))
      have HLN := Lib.hid (fun W (q : Ob W Y1 Mc) => flc_len _ _ _ _ W q.m.p.fl.c)
      have HQ : Hid (Ob w1.drew Y1 Mc) := Lib.hid (HZ.out.2.1.tn ((Tn.refl Nil w1).drew) (fun _ _ e => e))
      have HRG := Lib.hid (fun W g' s' (hb : Bk W Y1.B Y1.q (obn Mc) Mc.c.b.toNat g' s') (ht : Turns w1.drew W Y1.q Y1.g) (hg : Grows w1.drew Y1.g g') => HQ.out.m.ring_ hb ht hg)
      have k12 : w1.drew.cell? ⟨o, 12, none⟩ = some (.pointer (some ⟨Y1.B, 0, none⟩)) := by rw [← HF.out.2.2]; exact HQ.out.m.own.cell 12 rfl
      have k13 : w1.drew.cell? ⟨o, 13, none⟩ = some (.pointer (some ⟨Y1.f, 0, none⟩)) := by rw [← HF.out.2.2]; exact HQ.out.m.own.cell 13 rfl
      have k17 : w1.drew.cell? ⟨o, 17, none⟩ = some (.bool Mc.cl) := by rw [← HF.out.2.2]; exact HQ.out.m.own.cell 17 rfl
      have HRW : Hid (w1.drew.ownsRow w.heap.size 140 2 u5 I.length (obIt I) ∧ ObT w w1.drew Y Y1) := Lib.hid ⟨HZ.out.1, HZ.out.2.2.trans (obt_below _ (Below.refl _ _).drew)⟩
      have HC := Lib.hid HF.out.2.1
      clear hlet
      cases hcl : Mc.cl with
      | true =>
        have HFL : Hid (true = flB Mc) := Lib.hid (by unfold flB; rw [hcl]; rfl)
        rw [hcl] at k17
        go_wp2_with fail
        apply wp_obOne (p := fun W => ∃ g', Bk W Y1.B Y1.q (obn Mc) Mc.c.b.toNat g' (Mc.s.extract (nxK (obn Mc) (flB Mc) Mc.s) Mc.s.size) ∧ Turns w1.drew W Y1.q Y1.g ∧ Grows w1.drew Y1.g g')
        case h =>
          first
          | go_region_with (go_at_call 22; (with_reducible refine (HNX.out _ HQ.out _ HFL.out).mono ?_); rintro e w3 ⟨rfl, g', hb3, ht3, hg3⟩)
          | fail "region"
          all_goals exact ⟨rfl, _, hb3, ht3, hg3⟩
        rintro w3 ⟨g', hb3, ht3, hg3⟩
        obtain ⟨h3, t3⟩ := HRG.out _ _ _ hb3 ht3 hg3
        have H3 : Hid (w3.ownsRow w.heap.size 140 2 u5 I.length (obIt I) ∧ Ob w3 { Y1 with g := g' } { Mc with s := Mc.s.extract (nxK (obn Mc) (flB Mc) Mc.s) Mc.s.size } ∧ ObT w w3 Y { Y1 with g := g' }) := Lib.hid ⟨owns_tn HRW.out.1 t3.tn (fun g hg => HQ.out.m.not_own hg (by decide)), ⟨h3, ⟨HQ.out.i.ok, HQ.out.i.same, HQ.out.i.good, HQ.out.i.fit⟩⟩, HRW.out.2.trans t3⟩
        have HI := Lib.hid HQ.out.i
        have HF3 := Lib.hid HQ.out.m.p.fl.few
        clear hb3 ht3 hg3 h3 t3 HRG HRW HQ k12 k13 k17 HNX HLN HZ
        cases hnb : nxB (obn Mc) (flB Mc) Mc.s with
        | false =>
          have HFX : Hid ((Mc, I) = fillF 64 (M, []) now) := Lib.hid (by rw [← HF.out.1]; exact (fillF_stop (by show (letB Mc && nxB _ _ _) = false; rw [hnb, Bool.and_false])).symm)
          have HK0 : Hid (Mc.s.extract (nxK (obn Mc) (flB Mc) Mc.s) Mc.s.size = Mc.s) := Lib.hid (by unfold nxK; rw [if_neg (by rw [hnb]; decide)]; exact ob_cut_all _)
          rw [HK0.out] at H3
          go_wp2_with fail
          go_ret
          exact ⟨_, rfl, by rw [← HFX.out]; exact H3.out.1, _, by rw [← HFX.out]; exact H3.out.2.1, H3.out.2.2⟩
        | true =>
          have hin := obn_in HI.out.ok
          have hnf := nx_facts hin.1 hnb
          have hlw : (Mc.L.length : Int) < Mc.c.w := by
            have : letB Mc = true := HLB.out
            unfold letB at this
            simp only [Bool.and_eq_true, decide_eq_true_eq] at this
            exact this.1
          have hnum := HF.out.2.1
          have HFY := Lib.hid (ob_fly H3.out.2.1 (Mc.s.extract 0 (nxK (obn Mc) (flB Mc) Mc.s)) now hnf.1 hnf.2 HT.out hlw (by show Mc.U.length ≤ 64000; omega))
          have HSM := Lib.hid (fly_same (M := { Mc with s := Mc.s.extract (nxK (obn Mc) (flB Mc) Mc.s) Mc.s.size }) (body := Mc.s.extract 0 (nxK (obn Mc) (flB Mc) Mc.s)) HI.out.ok hnf.1 hnf.2 now)
          obtain ⟨k', hk'⟩ : ∃ k', gk = k' + 1 := ⟨gk - 1, by omega⟩
          have HGK := Lib.hid hk'
          have HFM : Hid (fillF k' (fillO (Mc, I) now) now = fillF 64 (M, []) now) := Lib.hid (by rw [← HF.out.1, hk']; exact (fillF_more (by show (letB Mc && nxB _ _ _) = true; rw [hnb, HLB.out]; rfl)).symm)
          have HYO := Lib.hid HF.out.2.2
          have HNUM := Lib.hid hnum
          clear hin hnf hlw hnum hk' hnb HI
          unfold fillO at HFM
          dsimp only at HFM
          generalize Mc.s.extract 0 (nxK (obn Mc) (flB Mc) Mc.s) = body at *
          generalize hM3 : ({ Mc with s := Mc.s.extract (nxK (obn Mc) (flB Mc) Mc.s) Mc.s.size } : ObM) = M3 at *
          have HM3 : Hid (M3.c = Mc.c ∧ M3.L = Mc.L ∧ M3.U = Mc.U) := Lib.hid (by rw [← hM3]; exact ⟨rfl, rfl, rfl⟩)
          clear hM3
          generalize flyM M3 body now = r at *
          obtain ⟨M4, I4⟩ := r
          dsimp only at HSM HFM HFY
          have HFY2 : Hid (Calls Tryz.prog 24 #[.pointer (some ⟨o, 0, none⟩), .string body, .int .i64 now] w3 (GivesIt w3 { Y1 with g := g' } M4 I4)) := Lib.hid (by rw [← HYO.out]; exact HFY.out)
          clear HFY
          go_wp2_with fail
          refine HFY2.out.mono ?_; rintro e w4 ⟨u4, ri, rfl, hq4, hri4, Y4, hb4, ht4⟩
          obtain ⟨A4, c4, rfl, hA4, hcl4⟩ := hq4.cl (c := fun g => w3.heap.size ≤ g) hri4
          have ho4 : w4.ownsRow w.heap.size 140 2 u5 I.length (obIt I) := owns_tn H3.out.1 ht4.tn (fun g hg => H3.out.2.1.m.not_own hg (by decide))
          have hws : w.heap.size ≤ w4.heap.size := Nat.le_trans H3.out.2.2.tn.size ht4.tn.size
          have hI1 : I.length + I4.length ≤ 70000 := by have := HSM.out.2.2.2; have := HNUM.out.2.2; omega
          obtain ⟨v5, w5, hrun, ho5, hg5⟩ := run_copy (t := 35) (ty := 35) Tryz.underlying35 infoItem rfl (by decide) ho4 (obIt_len I4) hcl4 hA4 (obIt_one I4) hI1 (by decide) hws
          have t5 : Tn (fun g => u5.ownBlock = some g) w4 w5 := tn_grown hg5 (fun g e => e)
          have hno : ∀ i, Y4.own i → ¬ u5.ownBlock = some i := fun i hi e => by
            obtain ⟨hlo, hv⟩ := ho4
            rcases hv with ⟨rfl, _⟩ | ⟨g, cap, cur, rfl, hg, hcur, _⟩
            · cases e
            · have e : some g = some i := e
              injection e with e
              subst e
              exact hb4.m.not_own ⟨_, hcur⟩ (by decide) hi
          have hbase : ∀ i, u5.ownBlock = some i → w.heap.size ≤ i := fun i e => by
            obtain ⟨hlo, hv⟩ := ho4
            rcases hv with ⟨rfl, _⟩ | ⟨g, cap, cur, rfl, hg, hcur, _⟩
            · cases e
            · have e : some g = some i := e
              injection e with e
              subst e
              exact hg
          have htt4 := H3.out.2.2.trans ht4
          have H5 : Hid (w5.ownsRow w.heap.size 140 2 v5 (I ++ I4).length (obIt (I ++ I4)) ∧ Ob w5 Y4 M4 ∧ ObT w w5 Y Y4) := Lib.hid ⟨by rw [List.length_append, obIt_app]; exact ho5, hb4.tn t5 hno, ⟨htt4.tn.trans' t5 fun i hi e => by have := hbase i e; omega, htt4.new, htt4.o⟩⟩
          clear hq4 hri4 hb4 ht4 hcl4 hA4 ho4 hws hI1 ho5 hg5 t5 hno hbase htt4 H3
          go_wp2_with (at_builtin; refine Lib.wpList_append_run _ rfl _ _ _ _ rfl _ _ rfl rfl _ _ hrun ?_)
          go_roundg k'
          case measure => have := HGK.out; omega
          case rel =>
            have hnum := HNUM.out
            have hs := HSM.out
            have hm := HM3.out
            have hgk := HGK.out
            exact ⟨M4, I ++ I4, Y4, HFM.out, ⟨by rw [hs.1, hs.2.1, hm.1, hm.2.1]; omega, by have := hs.2.2.1; rw [hm.2.2] at this; omega, by rw [List.length_append]; omega⟩, H5.out⟩
      | false =>
        have HFL : Hid (((Mc.L.length : Int) == 0) = flB Mc) := Lib.hid (by unfold flB; rw [hcl]; rfl)
        rw [hcl] at k17
        go_wp2_with fail
        apply wp_obOne (p := fun W => ∃ g', Bk W Y1.B Y1.q (obn Mc) Mc.c.b.toNat g' (Mc.s.extract (nxK (obn Mc) (flB Mc) Mc.s) Mc.s.size) ∧ Turns w1.drew W Y1.q Y1.g ∧ Grows w1.drew Y1.g g')
        case h =>
          go_region_with (first | (go_at_call 22; (with_reducible refine (HNX.out _ HQ.out _ HFL.out).mono ?_); rintro e w3 ⟨rfl, g', hb3, ht3, hg3⟩) | (go_at_call 23; (with_reducible refine (HLN.out _ HQ.out).mono ?_); rintro e w3 ⟨rfl, rfl⟩))
          all_goals exact ⟨rfl, _, hb3, ht3, hg3⟩
        rintro w3 ⟨g', hb3, ht3, hg3⟩
        obtain ⟨h3, t3⟩ := HRG.out _ _ _ hb3 ht3 hg3
        have H3 : Hid (w3.ownsRow w.heap.size 140 2 u5 I.length (obIt I) ∧ Ob w3 { Y1 with g := g' } { Mc with s := Mc.s.extract (nxK (obn Mc) (flB Mc) Mc.s) Mc.s.size } ∧ ObT w w3 Y { Y1 with g := g' }) := Lib.hid ⟨owns_tn HRW.out.1 t3.tn (fun g hg => HQ.out.m.not_own hg (by decide)), ⟨h3, ⟨HQ.out.i.ok, HQ.out.i.same, HQ.out.i.good, HQ.out.i.fit⟩⟩, HRW.out.2.trans t3⟩
        have HI := Lib.hid HQ.out.i
        have HF3 := Lib.hid HQ.out.m.p.fl.few
        clear hb3 ht3 hg3 h3 t3 HRG HRW HQ k12 k13 k17 HNX HLN HZ
        cases hnb : nxB (obn Mc) (flB Mc) Mc.s with
        | false =>
          have HFX : Hid ((Mc, I) = fillF 64 (M, []) now) := Lib.hid (by rw [← HF.out.1]; exact (fillF_stop (by show (letB Mc && nxB _ _ _) = false; rw [hnb, Bool.and_false])).symm)
          have HK0 : Hid (Mc.s.extract (nxK (obn Mc) (flB Mc) Mc.s) Mc.s.size = Mc.s) := Lib.hid (by unfold nxK; rw [if_neg (by rw [hnb]; decide)]; exact ob_cut_all _)
          rw [HK0.out] at H3
          go_wp2_with fail
          go_ret
          exact ⟨_, rfl, by rw [← HFX.out]; exact H3.out.1, _, by rw [← HFX.out]; exact H3.out.2.1, H3.out.2.2⟩
        | true =>
          have hin := obn_in HI.out.ok
          have hnf := nx_facts hin.1 hnb
          have hlw : (Mc.L.length : Int) < Mc.c.w := by
            have : letB Mc = true := HLB.out
            unfold letB at this
            simp only [Bool.and_eq_true, decide_eq_true_eq] at this
            exact this.1
          have hnum := HF.out.2.1
          have HFY := Lib.hid (ob_fly H3.out.2.1 (Mc.s.extract 0 (nxK (obn Mc) (flB Mc) Mc.s)) now hnf.1 hnf.2 HT.out hlw (by show Mc.U.length ≤ 64000; omega))
          have HSM := Lib.hid (fly_same (M := { Mc with s := Mc.s.extract (nxK (obn Mc) (flB Mc) Mc.s) Mc.s.size }) (body := Mc.s.extract 0 (nxK (obn Mc) (flB Mc) Mc.s)) HI.out.ok hnf.1 hnf.2 now)
          obtain ⟨k', hk'⟩ : ∃ k', gk = k' + 1 := ⟨gk - 1, by omega⟩
          have HGK := Lib.hid hk'
          have HFM : Hid (fillF k' (fillO (Mc, I) now) now = fillF 64 (M, []) now) := Lib.hid (by rw [← HF.out.1, hk']; exact (fillF_more (by show (letB Mc && nxB _ _ _) = true; rw [hnb, HLB.out]; rfl)).symm)
          have HYO := Lib.hid HF.out.2.2
          have HNUM := Lib.hid hnum
          clear hin hnf hlw hnum hk' hnb HI
          unfold fillO at HFM
          dsimp only at HFM
          generalize Mc.s.extract 0 (nxK (obn Mc) (flB Mc) Mc.s) = body at *
          generalize hM3 : ({ Mc with s := Mc.s.extract (nxK (obn Mc) (flB Mc) Mc.s) Mc.s.size } : ObM) = M3 at *
          have HM3 : Hid (M3.c = Mc.c ∧ M3.L = Mc.L ∧ M3.U = Mc.U) := Lib.hid (by rw [← hM3]; exact ⟨rfl, rfl, rfl⟩)
          clear hM3
          generalize flyM M3 body now = r at *
          obtain ⟨M4, I4⟩ := r
          dsimp only at HSM HFM HFY
          have HFY2 : Hid (Calls Tryz.prog 24 #[.pointer (some ⟨o, 0, none⟩), .string body, .int .i64 now] w3 (GivesIt w3 { Y1 with g := g' } M4 I4)) := Lib.hid (by rw [← HYO.out]; exact HFY.out)
          clear HFY
          go_wp2_with fail
          refine HFY2.out.mono ?_; rintro e w4 ⟨u4, ri, rfl, hq4, hri4, Y4, hb4, ht4⟩
          obtain ⟨A4, c4, rfl, hA4, hcl4⟩ := hq4.cl (c := fun g => w3.heap.size ≤ g) hri4
          have ho4 : w4.ownsRow w.heap.size 140 2 u5 I.length (obIt I) := owns_tn H3.out.1 ht4.tn (fun g hg => H3.out.2.1.m.not_own hg (by decide))
          have hws : w.heap.size ≤ w4.heap.size := Nat.le_trans H3.out.2.2.tn.size ht4.tn.size
          have hI1 : I.length + I4.length ≤ 70000 := by have := HSM.out.2.2.2; have := HNUM.out.2.2; omega
          obtain ⟨v5, w5, hrun, ho5, hg5⟩ := run_copy (t := 35) (ty := 35) Tryz.underlying35 infoItem rfl (by decide) ho4 (obIt_len I4) hcl4 hA4 (obIt_one I4) hI1 (by decide) hws
          have t5 : Tn (fun g => u5.ownBlock = some g) w4 w5 := tn_grown hg5 (fun g e => e)
          have hno : ∀ i, Y4.own i → ¬ u5.ownBlock = some i := fun i hi e => by
            obtain ⟨hlo, hv⟩ := ho4
            rcases hv with ⟨rfl, _⟩ | ⟨g, cap, cur, rfl, hg, hcur, _⟩
            · cases e
            · have e : some g = some i := e
              injection e with e
              subst e
              exact hb4.m.not_own ⟨_, hcur⟩ (by decide) hi
          have hbase : ∀ i, u5.ownBlock = some i → w.heap.size ≤ i := fun i e => by
            obtain ⟨hlo, hv⟩ := ho4
            rcases hv with ⟨rfl, _⟩ | ⟨g, cap, cur, rfl, hg, hcur, _⟩
            · cases e
            · have e : some g = some i := e
              injection e with e
              subst e
              exact hg
          have htt4 := H3.out.2.2.trans ht4
          have H5 : Hid (w5.ownsRow w.heap.size 140 2 v5 (I ++ I4).length (obIt (I ++ I4)) ∧ Ob w5 Y4 M4 ∧ ObT w w5 Y Y4) := Lib.hid ⟨by rw [List.length_append, obIt_app]; exact ho5, hb4.tn t5 hno, ⟨htt4.tn.trans' t5 fun i hi e => by have := hbase i e; omega, htt4.new, htt4.o⟩⟩
          clear hq4 hri4 hb4 ht4 hcl4 hA4 ho4 hws hI1 ho5 hg5 t5 hno hbase htt4 H3
          go_wp2_with (at_builtin; refine Lib.wpList_append_run _ rfl _ _ _ _ rfl _ _ rfl rfl _ _ hrun ?_)
          go_roundg k'
          case measure => have := HGK.out; omega
          case rel =>
            have hnum := HNUM.out
            have hs := HSM.out
            have hm := HM3.out
            have hgk := HGK.out
            exact ⟨M4, I ++ I4, Y4, HFM.out, ⟨by rw [hs.1, hs.2.1, hm.1, hm.2.1]; omega, by have := hs.2.2.1; rw [hm.2.2] at this; omega, by rw [List.length_append]; omega⟩, H5.out⟩
end
end Go.Proofs.YtodokgkchmpmnaaGreat

/- Proved: what again of package outbound answers and leaves, for every function that it is handed. Conditions: those that the theorem names. -/
namespace Go.Proofs.YtodokgkchmpmnaaGreat
open Go.ChangeShapes Go.WideShapes Go.ChangeAt Go.RowKit

theorem Obm.not_own_ {w : World} {Y : ObY} {M : ObM} (h : Obm w Y M) {i : Nat} {τ : TypeId} {xs : Array Value} {f : Nat × Nat} (k : w.heap[i]? = some (.cells xs τ f)) (n : τ ∉ obTypes) : ¬ Y.own i := fun e => by
  obtain ⟨τ', ⟨c, k'⟩, m⟩ := h.own_ty e
  rw [k] at k'
  injection k' with k'
  injection k' with _ k'
  rw [k'] at n
  exact n m
theorem Uw.ob {w w' : World} {Y Y' : ObY} {M : ObM} {A : Option Addr} {n : Nat} {l : List Int} (h : Uw w A n l) (hb : Obm w Y M) (t : ObT w w' Y Y') : Uw w' A n l := by
  refine ⟨h.1, fun hn => ?_⟩
  obtain ⟨ad, e, ⟨xs, f, hg⟩, hc⟩ := h.2 hn
  have hk := t.tn.block ad.block (Array.getElem?_eq_some_iff.1 hg).1 (hb.not_own_ hg (by decide))
  exact ⟨ad, e, ⟨xs, f, hk.trans hg⟩, fun j hj => (World.cell?_of_block (a := ad.add j) (by rw [add_block]; exact hk)).trans (hc j hj)⟩
/-- the function F, with what it captured, tells which shards of a block are to be sent anew. -/
def ObTells (F : Nat) (caps : Array Value) (q : ObM → Int → List (Int × Int)) (W : World) (Y : ObY) : Prop :=
  (∀ args V, (callFunc F args).run Tryz.prog V = .ok (.enter F args) V) ∧ ∀ V Y' M', ObT W V Y Y' → Ob V Y' M' → ∀ x, U32 x → Calls Tryz.prog F (#[.int .u32 x] ++ caps) V fun e V' => ∃ v, e = .returned v ∧ (∃ B, V.heap.size ≤ B ∧ V'.ownsRow B 52 2 v (q M' x).length (sncells (q M' x))) ∧ Below V.heap.size V V'
def agO (q : ObM → Int → List (Int × Int)) (s : ObM × List (Int × Int)) (x : Int) : ObM × List (Int × Int) := ((awF (s.1, []) (q s.1 x)).1, s.2 ++ (awF (s.1, []) (q s.1 x)).2)
def agF (q : ObM → Int → List (Int × Int)) (s : ObM × List (Int × Int)) (l : List Int) : ObM × List (Int × Int) := l.foldl (agO q) s
theorem agF_snoc (q : ObM → Int → List (Int × Int)) (s : ObM × List (Int × Int)) (l : List Int) (x : Int) : agF q s (l ++ [x]) = agO q (agF q s l) x := by
  unfold agF; rw [List.foldl_append]; rfl
theorem agF_same (q : ObM → Int → List (Int × Int)) (M : ObM) (I : List (Int × Int)) (l : List Int) (hv : ∀ x ∈ l, ∀ M', AwSame M M' → (q M' x).length ≤ 255) : AwSame M (agF q (M, I) l).1 ∧ (agF q (M, I) l).1.U.length ≤ M.U.length + 255 * l.length ∧ (agF q (M, I) l).2.length ≤ I.length + 255 * l.length := by
  induction l generalizing M I with
  | nil => exact ⟨⟨rfl, rfl, rfl, rfl, rfl, rfl, rfl, rfl, rfl, rfl⟩, by simp [agF], by simp [agF]⟩
  | cons x l ih =>
    obtain ⟨k1, k2, k3⟩ := awF_same M [] (q M x)
    have hq := hv x (List.mem_cons_self ..) M ⟨rfl, rfl, rfl, rfl, rfl, rfl, rfl, rfl, rfl, rfl⟩
    obtain ⟨h1, h2, h3⟩ := ih (awF (M, []) (q M x)).1 (I ++ (awF (M, []) (q M x)).2) (fun y hy M' hM => hv y (List.mem_cons_of_mem _ hy) M' (k1.trans hM))
    refine ⟨k1.trans h1, ?_, ?_⟩
    · show (agF q ((awF (M, []) (q M x)).1, I ++ (awF (M, []) (q M x)).2) l).1.U.length ≤ _
      rw [List.length_cons]; omega
    · show (agF q ((awF (M, []) (q M x)).1, I ++ (awF (M, []) (q M x)).2) l).2.length ≤ _
      rw [List.length_append] at h3
      rw [List.length_cons]
      simp at k3
      omega
section
variable {w : World} {Y : ObY} {M : ObM}
set_option maxRecDepth 100000 in
set_option maxHeartbeats 3200000 in
theorem ob_again (h : Ob w Y M) (F : Nat) (caps : Array Value) (q : ObM → Int → List (Int × Int)) (hT : ObTells F caps q w Y) (l : List Int) (A : Option Addr) (n cp : Nat) (hl : Uw w A n l) (hu : ∀ x ∈ l, U32 x) (hv : ∀ x ∈ l, ∀ M', AwSame M M' → (q M' x).length ≤ 255 ∧ ∀ p ∈ q M' x, awV M'.nx (obNs M') p) (hn : n ≤ 64) (hU : M.U.length ≤ 40000) :
    Calls Tryz.prog 27 #[.pointer (some ⟨Y.o, 0, none⟩), .agg #[.slice A n cp, .func (.func F) #[] caps]] w (GivesIo w Y (agF q (M, []) l).1 (agF q (M, []) l).2) := by
  have heg := hT.1
  have HTL := Lib.hid hT.2
  have HH := Lib.hid h
  have HLL := Lib.hid hl
  have HUU := Lib.hid hu
  have HVV := Lib.hid hv
  have HU := Lib.hid hU
  have HLN := Lib.hid hl.1
  have HO : Hid (∀ (W : World) (Y' : ObY), ObT w W Y Y' → Y'.o = Y.o) := Lib.hid fun _ _ t => t.o
  have hB1 : Below w.heap.size w (w.alloc (.cells #[.slice A n cp, .func (.func F) #[] caps] 71)) := (Below.refl _ _).alloc (Nat.le_refl _) _
  have HB1 := Lib.hid hB1
  have HX1 := Lib.hid (At.new w 71 [.slice A n cp, .func (.func F) #[] caps])
  have x0 : (w.alloc (.cells #[.slice A n cp, .func (.func F) #[] caps] 71)).cell? ⟨w.heap.size, 0, none⟩ = some (.slice A n cp) := HX1.out.cell 0 rfl
  clear h hl hu hv hU hT hB1
  generalize hoo : Y.o = o at *
  have HOO := Lib.hid hoo
  clear hoo
  go_enter Tryz.func27, Tryz.ntmps27
  go_upto_region 2 with fail
  generalize hbx : w.heap.size = bx at *
  have HBX := Lib.hid hbx
  clear hbx
  generalize w.alloc (.cells #[.slice A n cp, .func (.func F) #[] caps] 71) = w1 at *
  go_wp2_with fail
  go_loopw [5, 11] (fun u i wr => ∃ k : Nat, k ≤ n ∧ i = .int .i64 k ∧ ∃ Y1, wr.ownsRow bx 140 2 u (agF q (M, []) (l.take k)).2.length (obIt (agF q (M, []) (l.take k)).2) ∧ Ob wr Y1 (agF q (M, []) (l.take k)).1 ∧ ObT w wr Y Y1 ∧ At wr bx 71 [.slice A n cp, .func (.func F) #[] caps]) (fun _ i _ => n - (intOf i).toNat)
  case atStart => exact ⟨0, by omega, rfl, Y, World.ownsRow_nil _ _ _ _, HH.out.below (by rw [HBX.out]; exact HB1.out), obt_below _ (by rw [HBX.out]; exact HB1.out), HX1.out⟩
  case round =>
    obtain ⟨k, hk, rfl, Y1, hown, hob, htt, hbox⟩ := hrel
    have hk0 : (0 : Int) ≤ (k : Int) := Int.natCast_nonneg _
    by_cases hlt : k < n
    · have hlt' : (k : Int) < (n : Int) := by omega
      obtain ⟨ad, rfl, _, hac⟩ := (HLL.out.ob HH.out.m htt).at_ hlt
      have hx : l[k]? = some (l.getD k 0) := by
        rw [List.getD_eq_getElem?_getD, List.getElem?_eq_getElem (by rw [HLN.out]; exact hlt)]; rfl
      have hnx : agF q (M, []) (l.take (k + 1)) = agO q (agF q (M, []) (l.take k)) (l.getD k 0) := by
        rw [List.take_add_one, hx]
        exact agF_snoc _ _ _ _
      have hux := HUU.out _ (List.mem_of_getElem? hx)
      have hsm := agF_same q M [] (l.take k) (fun y hy M' hM => (HVV.out y (List.mem_of_mem_take hy) M' hM).1)
      have htl : (l.take k).length = k := by rw [List.length_take, HLN.out]; omega
      rw [htl] at hsm
      have hval := HVV.out _ (List.mem_of_getElem? hx) _ hsm.1
      clear htl hx
      generalize l.getD k 0 = x at *
      generalize agF q (M, []) (l.take k) = s at *
      obtain ⟨Mk, I⟩ := s
      dsimp only at hown hob hsm hnx hval
      have hob1 := hbox.cell 1 rfl
      have HCL := Lib.hid (HTL.out wr Y1 Mk htt hob x hux)
      have HNX := Lib.hid hnx
      have HR := Lib.hid (And.intro hown (And.intro hob (And.intro htt hbox)))
      have HS := Lib.hid (And.intro hsm hval)
      have HO1 := Lib.hid (HO.out _ _ htt)
      clear hown hob htt hbox hsm hnx hux hval
      go_wp2_with fail
      refine HCL.out.mono ?_; rintro e w3 ⟨v, rfl, ⟨B, hB, how⟩, hb3⟩
      obtain ⟨A7, c7, rfl, _, _, hcl⟩ := Cl.own (c := fun g => ¬ Y1.own g) how (fun g hg e => by
        have := HR.out.2.1.m.lt e
        omega)
      have HAW := Lib.hid (ob_await (HR.out.2.1.below hb3) (q Mk x) A7 (q Mk x).length c7 rfl hcl HS.out.2.2 (by have := HS.out.2.1; omega) (by have := HS.out.1.2.1; have := HS.out.2.1; have := HU.out; omega))
      rw [HO1.out] at HAW
      have H3 : Hid (w3.ownsRow bx 140 2 u5 I.length (obIt I) ∧ Ob w3 Y1 Mk ∧ ObT w w3 Y Y1 ∧ At w3 bx 71 [.slice (some ad) n cp, .func (.func F) #[] caps]) := Lib.hid ⟨owns_tn HR.out.1 (tn_below Nil hb3) (fun _ _ e => e), HR.out.2.1.below hb3, HR.out.2.2.1.trans (obt_below _ hb3), HR.out.2.2.2.below hb3 HR.out.2.2.2.lt⟩
      clear hB how hb3 hcl HCL HR hob1 hac
      go_wp2_with fail
      refine HAW.out.mono ?_; rintro e w4 ⟨u4, ri, rfl, hq4, hri4, Y4, hb4, ht4⟩
      have hqn : agO q (Mk, I) x = ((awF (Mk, []) (q Mk x)).1, I ++ (awF (Mk, []) (q Mk x)).2) := rfl
      rw [hqn] at HNX
      have hI4 := (awF_same Mk [] (q Mk x)).2.2
      have hqs := HS.out.2.1
      generalize awF (Mk, []) (q Mk x) = r at *
      obtain ⟨M4, I4⟩ := r
      dsimp only at HNX hq4 hb4 hI4
      obtain ⟨A4, c4, rfl, hA4, hcl4⟩ := hq4.cl (c := fun g => w3.heap.size ≤ g) hri4
      have ho4 : w4.ownsRow bx 140 2 u5 I.length (obIt I) := owns_tn H3.out.1 ht4.tn (fun g hg => H3.out.2.1.m.not_own hg (by decide))
      have hbx4 := H3.out.2.2.2.tn ht4.tn (H3.out.2.1.m.not_own H3.out.2.2.2.obty (by decide))
      have hws : bx ≤ w4.heap.size := by rw [← HBX.out]; exact Nat.le_trans H3.out.2.2.1.tn.size ht4.tn.size
      have hI1 : I.length + I4.length ≤ 70000 := by have := HS.out.1.2.2; simp at hI4 this; omega
      obtain ⟨v5, w5, hrun, ho5, hg5⟩ := run_copy (t := 35) (ty := 35) Tryz.underlying35 infoItem rfl (by decide) ho4 (obIt_len I4) hcl4 hA4 (obIt_one I4) hI1 (by decide) hws
      have t5 : Tn (fun g => u5.ownBlock = some g) w4 w5 := tn_grown hg5 (fun g e => e)
      have hib : ∀ i, u5.ownBlock = some i → bx ≤ i ∧ ObTy w4 i 140 := fun i e => by
        obtain ⟨hlo, hv⟩ := ho4
        rcases hv with ⟨rfl, _⟩ | ⟨g, cap, cur, rfl, hg, hcur, _⟩
        · cases e
        · have e : some g = some i := e
          injection e with e
          subst e
          exact ⟨hg, _, hcur⟩
      have htt4 := H3.out.2.2.1.trans ht4
      have H5 : Hid (w5.ownsRow bx 140 2 v5 (I ++ I4).length (obIt (I ++ I4)) ∧ Ob w5 Y4 M4 ∧ ObT w w5 Y Y4 ∧ At w5 bx 71 [.slice (some ad) n cp, .func (.func F) #[] caps]) := Lib.hid ⟨by rw [List.length_append, obIt_app]; exact ho5, hb4.tn t5 (fun i hi e => hb4.m.not_own (hib i e).2 (by decide) hi), ⟨htt4.tn.trans' t5 fun i hi e => by have := (hib i e).1; rw [← HBX.out] at this; omega, htt4.new, htt4.o⟩, hbx4.tn t5 fun e => hbx4.obty.ne (hib bx e).2 (by decide) rfl⟩
      clear hq4 hri4 hb4 ht4 hcl4 hA4 ho4 hws hI1 ho5 hg5 t5 hib htt4 H3 hbx4 hqn hI4 hqs HAW
      go_wp2_with (at_builtin; refine Lib.wpList_append_run _ rfl _ _ _ _ rfl _ _ rfl rfl _ _ hrun ?_)
      go_roundw
      case rel =>
        refine ⟨k + 1, by omega, by go_num, Y4, ?_⟩
        rw [HNX.out]
        exact H5.out
      case measure => simp [intOf]; omega
    · obtain rfl : k = n := by omega
      have hle : l.take k = l := List.take_of_length_le (by rw [HLN.out]; exact Nat.le_refl _)
      rw [hle] at hown hob
      have HF := Lib.hid (And.intro hown (And.intro hob htt))
      clear hown hob htt hbox
      go_wp2_with fail
      go_ret
      exact ⟨_, rfl, by rw [HBX.out]; exact HF.out.1, Y1, HF.out.2.1, HF.out.2.2⟩
end
end Go.Proofs.YtodokgkchmpmnaaGreat

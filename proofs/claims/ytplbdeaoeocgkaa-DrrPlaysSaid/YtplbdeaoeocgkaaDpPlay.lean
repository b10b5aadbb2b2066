/- Proved: the walk of the law that plays queues. Conditions: those that the theorems name. -/
import Derived.Test.YtplbdeaoeocgkaaDpArg
namespace Go.Proofs.Ytplbdeaoeocgkaa
open Go.ChangeShapes Go.WideShapes Go.ChangeAt Go.RowKit

/-- between two deeds. -/
def PlayR (w : World) (b sb : Nat) (Q : Int) (wr : World) : Prop :=
  ∃ (L : Ly) (W : List (Int × Int)) (R : List Qd) (s : Sv), SB w wr b L Q 65536 W R ∧ Sg wr (fun g => L.col g = -1 ∧ g ≠ sb) s ∧ DRel s.xs s.rd W R ∧ s.Q = Q ∧ At wr sb 31 [.int .i64 s.Q, .slice s.A s.xs.length s.c, .slice s.B s.rd.length s.d] ∧ L.col sb = -1
theorem Done.form {w wi w' : World} {b : Nat} {L : Ly} {Q : Int} {P : Nat → Prop} {e : Ending} (h : Done w wi b L Q P e w') :
    ∃ xs A n rd B d, ∃ (L' : Ly) (W : List (Int × Int)) (R : List Qd), e = .returned (.tuple #[.agg #[.int .i64 Q, .slice A xs.length n, .slice B rd.length d], .bool true]) ∧ SB w w' b L' Q 65536 W R ∧ Fr wi L w' L' ∧ Sg w' (fun g => L'.col g = -1 ∧ P g) ⟨Q, xs, A, n, rd, B, d⟩ ∧ DRel xs rd W R := by
  obtain ⟨⟨Q', xs, A, n, rd, B, d⟩, L', W, R, e, h1, h2, h3, h4, h5⟩ := h
  have h5 : Q' = Q := h5
  subst h5
  exact ⟨xs, A, n, rd, B, d, L', W, R, e, h1, h2, h3, h4⟩
/-- behind a deed. -/
def MidR (w : World) (b sb : Nat) (Q : Int) (L0 : List Value) (u v : Value) (wx : World) : Prop :=
  ∃ (yb : Nat) (xs : List Qv) (A : Option Addr) (n : Nat) (rd : List Int) (B : Option Addr) (d : Nat) (L : Ly) (W : List (Int × Int)) (R : List Qd), u = .pointer (some ⟨yb, 0, none⟩) ∧ v = .bool true ∧ SB w wx b L Q 65536 W R ∧ Sg wx (fun g => L.col g = -1 ∧ g ≠ sb) ⟨Q, xs, A, n, rd, B, d⟩ ∧ DRel xs rd W R ∧ At wx sb 31 L0 ∧ L.col sb = -1 ∧ At wx yb 31 [.int .i64 Q, .slice A xs.length n, .slice B rd.length d]
theorem mid_one {w V w4 : World} {x0 y0 z0 : Value} {b sb yb : Nat} {Q : Int} {L0 : List Value} {L' L2 : Ly} {xs : List Qv} {A : Option Addr} {n : Nat} {rd : List Int} {B : Option Addr} {d : Nat} {W : List (Int × Int)} {R : List Qd} (x y z : Value) (hx : x = .int .i64 Q) (hy : y = .slice A xs.length n) (hz : z = .slice B rd.length d) (hyb : w.heap.size ≤ yb) (hne : sb ≠ yb)
    (hat : At V sb 31 L0) (hc : L'.col sb = -1) (ya : At V yb 31 [x0, y0, z0]) (yc : L'.col yb = -1) (s : SB w w4 b L2 Q 65536 W R) (f : Fr V L' w4 L2) (g : Sg w4 (fun g => L2.col g = -1 ∧ g ≠ sb ∧ g ≠ yb) ⟨Q, xs, A, n, rd, B, d⟩) (r : DRel xs rd W R) :
    MidR w b sb Q L0 (.pointer (some ⟨yb, 0, none⟩)) (.bool true) (pset3 w4 yb x y z) := by
  subst hx; subst hy; subst hz
  have y4 := f.at_ ya yc
  have a4 := f.at_ hat hc
  have t := pset3_tn w4 yb (.int .i64 Q) (.slice A xs.length n) (.slice B rd.length d)
  exact ⟨yb, xs, A, n, rd, B, d, L2, W, R, rfl, rfl, s.free t (fun i _ e => by rw [e]; exact y4.2) (fun i hi e => by have e : i = yb := e; omega), (g.tn t fun i _ e q => e.2.2 q).mono fun i _ e => ⟨e.1, e.2.1⟩, r, a4.1.tn t (fun (e : sb = yb) => hne e), a4.2, pset3_at y4.1⟩
theorem mid_two {w V w4 : World} {b sb : Nat} {Q : Int} {L0 : List Value} {L' L2 : Ly} {xs : List Qv} {A : Option Addr} {n : Nat} {rd : List Int} {B : Option Addr} {d : Nat} {W : List (Int × Int)} {R : List Qd} 
    (hat : At V sb 31 L0) (hc : L'.col sb = -1) (s : SB w w4 b L2 Q 65536 W R) (f : Fr V L' w4 L2) (g : Sg w4 (fun g => L2.col g = -1 ∧ g ≠ sb) ⟨Q, xs, A, n, rd, B, d⟩) (r : DRel xs rd W R) :
    MidR w b sb Q L0 (.pointer (some ⟨w4.heap.size, 0, none⟩)) (.bool true) (w4.alloc (.cells #[.int .i64 Q, .slice A xs.length n, .slice B rd.length d] 31)) := by
  have a4 := f.at_ hat hc
  have al : Below w4.heap.size w4 (w4.alloc (.cells #[.int .i64 Q, .slice A xs.length n, .slice B rd.length d] 31)) := (Below.refl _ _).alloc (Nat.le_refl _) _
  exact ⟨w4.heap.size, xs, A, n, rd, B, d, L2, W, R, rfl, rfl, s.below al, g.below al, r, a4.1.below al a4.1.lt, a4.2, At.new w4 31 [.int .i64 Q, .slice A xs.length n, .slice B rd.length d]⟩
set_option maxRecDepth 100000 in
set_option maxHeartbeats 3200000 in
theorem dr_play_main (Q : Int) (A : Option Addr) (m c : Nat) (ds : List Dd) (w : World) (hm : (m : Int) ≤ 80) (hd : Dds w A m ds) (hq : 1 ≤ Q ∧ Q ≤ 65536) :
    Calls Try.prog 3 #[.int .i64 Q, .slice A m c] w fun e w' => e = .returned (.bool true) ∧ Below w.heap.size w w' := by
  have HN := Lib.hid (sb_new (w := w) (wi := w) (Below.refl _ _) Q 65536 hq (by omega))
  have HL := Lib.hid hd
  have g1 : ¬ Q < 1 := by omega
  have g2 : ¬ 65536 < Q := by omega
  clear hd hq
  go_enter Try.func3, Try.ntmps3
  go_wp2_with fail
  refine HN.out.mono ?_; rintro e w1 ⟨b, L, rfl, h1, hcol, b1⟩
  have H1 := Lib.hid h1
  have HB1 := Lib.hid b1
  clear h1 hcol b1 HN
  go_wp2_with fail
  have al : Below w1.heap.size w1 (w1.alloc (.cells #[.int .i64 Q, .slice none 0 0, .slice none 0 0] 31)) := (Below.refl _ _).alloc (Nat.le_refl _) _
  have HP0 : Hid (PlayR w b w1.heap.size Q (w1.alloc (.cells #[.int .i64 Q, .slice none 0 0, .slice none 0 0] 31))) := Lib.hid ⟨L, [], [], ⟨Q, [], none, 0, [], none, 0⟩, H1.out.below al, ⟨Cl.nil _ _ _, fun _ => rfl, Nat.le_refl _, fun x hx => (by simp at hx), Cl.nil _ _ _, fun _ => rfl, Nat.le_refl _⟩, DRel.start, rfl, At.new w1 31 [.int .i64 Q, .slice none 0 0, .slice none 0 0], H1.out.new⟩
  have HSB : Hid (w1.heap.size < (w1.alloc (.cells #[.int .i64 Q, .slice none 0 0, .slice none 0 0] 31)).heap.size) := Lib.hid (by simp)
  have HB2 : Hid (Below w.heap.size w (w1.alloc (.cells #[.int .i64 Q, .slice none 0 0, .slice none 0 0] 31))) := Lib.hid (H1.out.bel.trans (al.mono H1.out.bel.size))
  have HSBO : Hid (w.heap.size ≤ w1.heap.size) := Lib.hid H1.out.bel.size
  clear al H1 HB1
  generalize w1.heap.size = sb at *
  generalize w1.alloc (.cells #[.int .i64 Q, .slice none 0 0, .slice none 0 0] 31) = W1 at *
  go_loopg [8, 9, 10] m (fun k i _ _ wr => ∃ j : Nat, j ≤ m ∧ k = m - j ∧ i = .int .i64 j ∧ PlayR w b sb Q wr)
  case atStart => exact ⟨0, by omega, by omega, rfl, HP0.out⟩
  case round =>
    obtain ⟨j, hj, hk, rfl, hpl⟩ := hrel
    have HPL := Lib.hid hpl
    have HK := Lib.hid hk
    clear hpl hk HP0
    by_cases hlt : j < m
    · obtain ⟨ad, rfl, hid, hcs⟩ := HL.out.at_ hlt
      have hlt' : (j : Int) < (m : Int) := by omega
      have hj0 : (0 : Int) ≤ (j : Int) := Int.natCast_nonneg _
      have HCS := Lib.hid hcs
      have HID := Lib.hid hid
      clear hcs hid
      generalize dd_ ds j = dd at *
      obtain ⟨kd, id, z⟩ := dd
      dsimp only at HCS HID
      obtain ⟨L', W, R, ⟨Q', xs, A, n, rd, B, d⟩, hsb, hsg, hdr, hQ, hat, hcol⟩ := HPL.out
      have hQ : Q' = Q := hQ
      subst hQ
      dsimp only at hat
      have al : Below wr.heap.size wr (wr.alloc (.cells #[.int .i64 0, .slice none 0 0, .slice none 0 0] 31)).drew := ((Below.refl _ _).alloc (Nat.le_refl _) _).drew
      have dw : Below wr.heap.size wr wr.drew := (Below.refl _ _).drew
      have hlx := hat.lt
      have HDO0 : Hid (Calls Try.prog 8 #[ptv b, .agg #[.int .i64 Q', .slice A xs.length n, .slice B rd.length d], .agg #[.int .i64 kd, .int .i64 id, .int .i64 z]] wr.drew (Done w wr.drew b L' Q' (fun g => g ≠ sb))) := Lib.hid (ddo_any (hsb.below dw) (fun g => g ≠ sb) (fun g hg => by have := dw.size; omega) (hsg.below dw) hdr rfl kd HID.out z)
      have hg1 : Sg wr (fun g => L'.col g = -1 ∧ g ≠ sb ∧ g ≠ wr.heap.size) ⟨Q', xs, A, n, rd, B, d⟩ := hsg.there.mono fun g _ e => ⟨e.1.1, e.1.2, by have := e.2; omega⟩
      have has : (wr.alloc (.cells #[.int .i64 0, .slice none 0 0, .slice none 0 0] 31)).drew.heap.size = wr.heap.size + 1 := by simp [World.drew]
      have HDO1 : Hid (Calls Try.prog 8 #[ptv b, .agg #[.int .i64 Q', .slice A xs.length n, .slice B rd.length d], .agg #[.int .i64 kd, .int .i64 id, .int .i64 z]] (wr.alloc (.cells #[.int .i64 0, .slice none 0 0, .slice none 0 0] 31)).drew (Done w (wr.alloc (.cells #[.int .i64 0, .slice none 0 0, .slice none 0 0] 31)).drew b L' Q' (fun g => g ≠ sb ∧ g ≠ wr.heap.size))) := Lib.hid (ddo_any (hsb.below al) (fun g => g ≠ sb ∧ g ≠ wr.heap.size) (fun g hg => by rw [has] at hg; omega) (hg1.below al) hdr rfl kd HID.out z)
      have HY1 : Hid (At (wr.alloc (.cells #[.int .i64 0, .slice none 0 0, .slice none 0 0] 31)).drew wr.heap.size 31 [.int .i64 0, .slice none 0 0, .slice none 0 0]) := Lib.hid (At.new wr 31 [.int .i64 0, .slice none 0 0, .slice none 0 0])
      have HYC : Hid (L'.col wr.heap.size = -1) := Lib.hid hsb.new
      have HWB : Hid (w.heap.size ≤ wr.heap.size ∧ sb ≠ wr.heap.size) := Lib.hid ⟨hsb.bel.size, by omega⟩
      have HSBW : Hid (w.heap.size ≤ sb) := Lib.hid HSBO.out
      have HA0 := Lib.hid (hat.below dw hlx)
      have HA1 := Lib.hid (hat.below al hlx)
      have HCS2 := Lib.hid hcol
      have KP : Hid (∀ V, Below wr.heap.size wr V → V.cell? ⟨sb, 0, none⟩ = some (.int .i64 Q') ∧ V.cell? ⟨sb, 1, none⟩ = some (.slice A xs.length n) ∧ V.cell? ⟨sb, 2, none⟩ = some (.slice B rd.length d) ∧ V.cell? (ad.add (j * 3)) = some (.int .i64 kd) ∧ V.cell? ⟨(ad.add (j * 3)).block, (ad.add (j * 3)).off + 1, none⟩ = some (.int .i64 id) ∧ V.cell? ⟨(ad.add (j * 3)).block, (ad.add (j * 3)).off + 2, none⟩ = some (.int .i64 z)) := Lib.hid fun V hV => by
        have h1 := hat.below hV hlx
        exact ⟨h1.cell 0 rfl, h1.cell 1 rfl, h1.cell 2 rfl, HCS.out V (hsb.bel.trans (hV.mono hsb.bel.size))⟩
      obtain ⟨k0, k1, k2, k3, k4, k5⟩ := KP.out wr (Below.refl _ _)
      obtain ⟨l0, l1, l2, l3, l4, l5⟩ := KP.out _ al
      clear al dw hlx hsb hsg hdr hat hcol HPL hg1 has
      obtain ⟨Mid, hmid⟩ : ∃ Mid : Value → Value → World → Prop, Mid = MidR w b sb Q' [.int .i64 Q', .slice A xs.length n, .slice B rd.length d] := ⟨_, rfl⟩
      have HMID := Lib.hid hmid
      clear hmid
      go_upto_region 12 with fail
      go_cut [9, 10] (fun u v wx => Mid u v wx)
      case first =>
        go_region_law (first
          | (go_simp; go_at_call 8; refine (HDO1.out).mono ?_; intro e w4 hp; obtain ⟨xs2, A2, n2, rd2, B2, d2, L2, W2, R2, rfl, s2, f2, g2, r2⟩ := hp.form; have y4 := f2.at_ HY1.out HYC.out; have e0 := y4.1.cell 0 rfl; have e1 := y4.1.cell 1 rfl; have e2 := y4.1.cell 2 rfl; have i0 := y4.1.free 0; have i1 := y4.1.free 1; have i2 := y4.1.free 2; have HF := Lib.hid (mid_one (.int .i64 Q') (.slice A2 xs2.length n2) (.slice B2 rd2.length d2) rfl rfl rfl HWB.out.1 HWB.out.2 HA1.out HCS2.out HY1.out HYC.out s2 f2 g2 r2); clear hp y4 s2 f2 g2 r2)
          | (go_simp; go_at_call 8; refine (HDO0.out).mono ?_; intro e w4 hp; obtain ⟨xs2, A2, n2, rd2, B2, d2, L2, W2, R2, rfl, s2, f2, g2, r2⟩ := hp.form; have HF := Lib.hid (mid_two HA0.out HCS2.out s2 f2 g2 r2); clear hp s2 f2 g2 r2))
        all_goals
          go_wp2_with fail
          go_meet
          rw [HMID.out]
          exact HF.out
      case rest =>
        rw [HMID.out] at hcut
        obtain ⟨yb, xs2, A2, n2, rd2, B2, d2, L2, W2, R2, rfl, rfl, s2, g2, r2, a2, hc2, y2⟩ := hcut
        have y0 := y2.cell 0 rfl
        have y1 := y2.cell 1 rfl
        have y2' := y2.cell 2 rfl
        have e0 := a2.cell 0 rfl
        have e1 := a2.cell 1 rfl
        have e2 := a2.cell 2 rfl
        have f0 := a2.free 0
        have f1 := a2.free 1
        have f2 := a2.free 2
        have tn := pset3_tn wc sb (.int .i64 Q') (.slice A2 xs2.length n2) (.slice B2 rd2.length d2)
        have hW : ∀ i, i < w.heap.size → ¬ (i = sb) := fun i hi e => by
          have h1 := s2.old i hi
          have := HWB.out
          have := HSBW.out
          omega
        have HS5 := Lib.hid (s2.free tn (fun i _ e => by have e : i = sb := e; rw [e]; exact hc2) hW)
        have HG5 := Lib.hid (g2.tn tn fun i _ e q => e.2 q)
        have HA5 := Lib.hid (pset3_at (x := .int .i64 Q') (y := .slice A2 xs2.length n2) (z := .slice B2 rd2.length d2) a2)
        have HR5 := Lib.hid (And.intro r2 hc2)
        clear tn hW s2 g2 r2 a2 hc2 y2 k0 k1 k2 k3 k4 k5 l0 l1 l2 l3 l4 l5
        go_upto_region 14 with fail
        change Code.wp _ _ _ _ (pset3 wc sb (.int .i64 Q') (.slice A2 xs2.length n2) (.slice B2 rd2.length d2))
        generalize pset3 wc sb (.int .i64 Q') (.slice A2 xs2.length n2) (.slice B2 rd2.length d2) = w5 at *
        clear y0 y1 y2' e0 e1 e2 f0 f1 f2
        have HSBB : Hid (Sb ⟨Q', xs2, A2, n2, rd2, B2, d2⟩) := Lib.hid ⟨HR5.out.1.few HS5.out.ok, HR5.out.1.fewR HS5.out.ok, HR5.out.1.items HS5.out.ok⟩
        obtain ⟨wt, hwt⟩ : ∃ z : Int, z = (waitR R2 : Nat) := ⟨_, rfl⟩
        obtain ⟨ln, hln⟩ : ∃ z : Int, z = (lenR R2 id : Nat) := ⟨_, rfl⟩
        have HWT : Hid (∀ V, Below w5.heap.size w5 V → Calls Try.prog 9 #[ptv b] V fun e w' => e = .returned (.int .i64 wt) ∧ V = w') := Lib.hid fun V hV => by rw [hwt]; exact sb_waiting (HS5.out.below hV)
        have HLN : Hid (∀ V, Below w5.heap.size w5 V → Calls Try.prog 11 #[ptv b, .int .i64 id] V fun e w' => e = .returned (.int .i64 ln) ∧ V = w') := Lib.hid fun V hV => by rw [hln]; exact sb_len (HS5.out.below hV) HID.out
        have HRW : Hid (∀ V, Below w5.heap.size w5 V → Calls Try.prog 10 #[.agg #[.int .i64 Q', .slice A2 xs2.length n2, .slice B2 rd2.length d2]] V fun e w' => e = .returned (.int .i64 wt) ∧ Below V.heap.size V w') := Lib.hid fun V hV => by
          rw [hwt, ← HR5.out.1.wait HS5.out.ok]
          exact rwait_any (HG5.out.below hV) HSBB.out
        have HRL : Hid (∀ V, Below w5.heap.size w5 V → Calls Try.prog 12 #[.agg #[.int .i64 Q', .slice A2 xs2.length n2, .slice B2 rd2.length d2], .int .i64 id] V fun e w' => e = .returned (.int .i64 ln) ∧ Below V.heap.size V w') := Lib.hid fun V hV => (rlen_any (HG5.out.below hV) HSBB.out.x id).mono fun e w' ⟨n, e1, h1, h2⟩ => ⟨by rw [e1, hln, HR5.out.1.len HS5.out.ok h1], h2⟩
        have KP5 : Hid (∀ V, Below w5.heap.size w5 V → V.cell? ⟨sb, 0, none⟩ = some (.int .i64 Q') ∧ V.cell? ⟨sb, 1, none⟩ = some (.slice A2 xs2.length n2) ∧ V.cell? ⟨sb, 2, none⟩ = some (.slice B2 rd2.length d2) ∧ V.cell? ⟨(ad.add (j * 3)).block, (ad.add (j * 3)).off + 1, none⟩ = some (.int .i64 id)) := Lib.hid fun V hV => by
          have h1 := HA5.out.below hV HA5.out.lt
          exact ⟨h1.cell 0 rfl, h1.cell 1 rfl, h1.cell 2 rfl, (HCS.out V (HS5.out.bel.trans (hV.mono HS5.out.bel.size))).2.1⟩
        clear hwt hln
        have QQ : Hid (Below w5.heap.size w5 w5.drew) := Lib.hid (Below.refl w5.heap.size w5).drew
        obtain ⟨k0, k1, k2, k3⟩ := KP5.out _ QQ.out
        go_region_held3 (fun w' => w'.cell? ⟨sb, 0, none⟩ = some (.int .i64 Q') ∧ w'.cell? ⟨sb, 1, none⟩ = some (.slice A2 xs2.length n2) ∧ w'.cell? ⟨sb, 2, none⟩ = some (.slice B2 rd2.length d2) ∧ w'.cell? ⟨(ad.add (j * 3)).block, (ad.add (j * 3)).off + 1, none⟩ = some (.int .i64 id))
          (first | go_keep | with_reducible exact KP5.out _ QQ.out)
          (first
          | ((with_reducible refine (HWT.out _ QQ.out).mono ?_); rintro e wq ⟨rfl, rfl⟩)
          | ((with_reducible refine (HRW.out _ QQ.out).mono ?_); rintro e wq ⟨rfl, q⟩; have G4 := Lib.hid (QQ.out.trans (q.mono QQ.out.size)); clear q QQ; have QQ := G4; clear G4)
          | ((with_reducible refine (HLN.out _ QQ.out).mono ?_); rintro e wq ⟨rfl, rfl⟩)
          | ((with_reducible refine (HRL.out _ QQ.out).mono ?_); rintro e wq ⟨rfl, q⟩; have G4 := Lib.hid (QQ.out.trans (q.mono QQ.out.size)); clear q QQ; have QQ := G4; clear G4))
        go_wp2_with fail
        go_roundg (m - (j + 1))
        case rel => exact ⟨j + 1, by omega, rfl, by go_num, L2, W2, R2, ⟨Q', xs2, A2, n2, rd2, B2, d2⟩, HS5.out.below QQ.out, HG5.out.below QQ.out, HR5.out.1, rfl, HA5.out.below QQ.out HA5.out.lt, HR5.out.2⟩
        case measure => have := HK.out; omega
    · obtain rfl : j = m := by omega
      have hbel : Below w.heap.size w wr := by
        obtain ⟨L', W, R, s, h, _⟩ := HPL.out
        exact h.bel
      have HBEL := Lib.hid hbel
      clear hbel
      go_wp2_with fail
      refine (dr_awake _).mono ?_; rintro e w2 ⟨rfl, g2⟩
      have R4 := Lib.hid (HBEL.out.trans (g2.mono HBEL.out.size))
      clear g2
      go_wp2_with fail
      go_ret
      exact ⟨rfl, R4.out⟩
set_option maxRecDepth 100000 in
set_option maxHeartbeats 1600000 in
theorem dr_play_walk (Q : Int) (A : Option Addr) (m c : Nat) (ds : List Dd) (w : World) (hd : Dds w A m ds) :
    Calls Try.prog 3 #[.int .i64 Q, .slice A m c] w fun e w' => e = .returned (.bool true) ∧ Below w.heap.size w w' := by
  by_cases hm : (m : Int) ≤ 80
  · by_cases hq : 1 ≤ Q ∧ Q ≤ 65536
    · exact dr_play_main Q A m c ds w hm hd hq
    · have HO := Lib.hid (fun W => dr_new_bad Q W (by omega))
      clear hd
      by_cases h1 : Q < 1
      · clear hq
        go_enter Try.func3, Try.ntmps3
        go_wp2_with fail
        refine (HO.out _).mono ?_; rintro e w1 ⟨rfl, rfl⟩
        go_wp2_with fail
        refine (dr_awake _).mono ?_; rintro e w2 ⟨rfl, g2⟩
        have G2 := Lib.hid g2
        clear g2
        go_wp2_with fail
        go_ret
        exact ⟨rfl, G2.out⟩
      · have h2 : 65536 < Q := by omega
        clear hq
        go_enter Try.func3, Try.ntmps3
        go_wp2_with fail
        refine (HO.out _).mono ?_; rintro e w1 ⟨rfl, rfl⟩
        go_wp2_with fail
        refine (dr_awake _).mono ?_; rintro e w2 ⟨rfl, g2⟩
        have G2 := Lib.hid g2
        clear g2
        go_wp2_with fail
        go_ret
        exact ⟨rfl, G2.out⟩
  · have h' : (80 : Int) < (m : Int) := by omega
    clear hd hm
    go_enter Try.func3, Try.ntmps3
    go_wp2_with fail
    refine (dr_awake _).mono ?_; rintro e w2 ⟨rfl, g2⟩
    have G2 := Lib.hid g2
    clear g2
    go_wp2_with fail
    go_ret
    exact ⟨rfl, G2.out⟩
end Go.Proofs.Ytplbdeaoeocgkaa

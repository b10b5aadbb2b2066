/- Proved: lemmas of one statement's proof, merged by program: what each part proves stands ahead of it. Conditions: those that the lemmas name. -/
import Derived.Test.YtgclgmfmcgacdaaM31
import Derived.Test.YtgclgmfmcgacdaaM32

/- Proved: TablePlays. Conditions: those that the theorems name. -/
namespace Go.Proofs.Ytgclgmfmcgacdaa
open Go.ChangeShapes Go.WideShapes Go.ChangeAt Go.RowKit Go.MuLone

theorem tdo_any {w wi : World} {L : Ly} {n room : Nat} {s : Tv} (h : SB w wi L n room (facesE s.xs)) (P : Nat → Prop) (hP : ∀ g, wi.heap.size ≤ g → P g) (sg : Tg wi (fun g => L.col g = -1 ∧ P g) s) (hr : s.room = room) (d : De) (hk : KyOk d.k) :
    Calls Try.prog 8 #[ptv L.b, s.val, d.val] wi (Done w wi L n room P) := by
  by_cases h0 : d.kd = 0
  · exact tdo_put h P hP sg hr h0 hk
  · by_cases h1 : d.kd = 1
    · exact tdo_take h P hP sg hr h1 hk
    · by_cases h2 : d.kd = 2
      · exact tdo_drop h P hP sg hr h2
      · exact tdo_look h P hP sg hr ⟨h0, h1, h2⟩ hk
theorem neq_key (k : Ky) (w : World) : (binOp .neq 35 (.agg #[.int .i64 k.1, .int .u32 k.2]) (.agg #[.int .i64 k.1, .int .u32 k.2])).run Try.prog w = .ok (.bool false) w := by
  rw [run_neq_struct, run_equalIn_agg w _ 35 _ _ (by kernel_rfl) (by kernel_rfl)]
  simp [go_sem, Try.underlying35]
/-- between two deeds. -/
def PlayT (w : World) (b sb n room : Nat) (wr : World) : Prop :=
  ∃ (L : Ly) (xs : List Ev) (A : Option Addr) (cp : Nat), L.b = b ∧ SB w wr L n room (facesE xs) ∧ Tg wr (fun g => L.col g = -1 ∧ g ≠ sb) ⟨room, xs, A, cp⟩ ∧ At wr sb 30 [.int .i64 room, .slice A xs.length cp] ∧ L.col sb = -1
/-- behind a deed. -/
def MidT (w : World) (b sb n room : Nat) (L0 : List Value) (u v : Value) (wx : World) : Prop :=
  ∃ (yb : Nat) (L : Ly) (xs : List Ev) (A : Option Addr) (cp : Nat), u = .pointer (some ⟨yb, 0, none⟩) ∧ v = .bool true ∧ L.b = b ∧ SB w wx L n room (facesE xs) ∧ Tg wx (fun g => L.col g = -1 ∧ g ≠ sb) ⟨room, xs, A, cp⟩ ∧ At wx sb 30 L0 ∧ L.col sb = -1 ∧ At wx yb 30 [.int .i64 room, .slice A xs.length cp]
theorem mid_one {w V w4 : World} {x0 y0 : Value} {b sb yb n room : Nat} {L0 : List Value} {L' L2 : Ly} {xs : List Ev} {A : Option Addr} {cp : Nat} (x y : Value) (hx : x = .int .i64 room) (hy : y = .slice A xs.length cp) (hyb : szW w ≤ yb) (hne : sb ≠ yb) (hb : L2.b = b)
    (hat : At V sb 30 L0) (hc : L'.col sb = -1) (ya : At V yb 30 [x0, y0]) (yc : L'.col yb = -1) (s : SB w w4 L2 n room (facesE xs)) (f : Fr V L' w4 L2) (g : Tg w4 (fun g => L2.col g = -1 ∧ g ≠ sb ∧ g ≠ yb) ⟨room, xs, A, cp⟩) :
    MidT w b sb n room L0 (.pointer (some ⟨yb, 0, none⟩)) (.bool true) (pset2 w4 yb x y) := by
  subst hx; subst hy
  have y4 := f.at_ ya yc
  have a4 := f.at_ hat hc
  have t := pset2_tn w4 yb (.int .i64 room) (.slice A xs.length cp)
  exact ⟨yb, L2, xs, A, cp, rfl, rfl, hb, s.own t (fun i _ e => by have e : i = yb := e; rw [e]; exact ⟨y4.2, hyb⟩), (g.tn t fun i _ e q => e.2.2 q).mono fun i _ e => ⟨e.1, e.2.1⟩, a4.1.tn t (fun (e : sb = yb) => hne e), a4.2, pset2_at y4.1⟩
theorem mid_two {w V w4 : World} {b sb n room : Nat} {L0 : List Value} {L' L2 : Ly} {xs : List Ev} {A : Option Addr} {cp : Nat} (hb : L2.b = b)
    (hat : At V sb 30 L0) (hc : L'.col sb = -1) (s : SB w w4 L2 n room (facesE xs)) (f : Fr V L' w4 L2) (g : Tg w4 (fun g => L2.col g = -1 ∧ g ≠ sb) ⟨room, xs, A, cp⟩) :
    MidT w b sb n room L0 (.pointer (some ⟨w4.heap.size, 0, none⟩)) (.bool true) (w4.alloc (.cells #[.int .i64 room, .slice A xs.length cp] 30)) := by
  have a4 := f.at_ hat hc
  have al : Below w4.heap.size w4 (w4.alloc (.cells #[.int .i64 room, .slice A xs.length cp] 30)) := (Below.refl _ _).alloc (Nat.le_refl _) _
  exact ⟨w4.heap.size, L2, xs, A, cp, rfl, rfl, hb, s.alloc _, g.below al, a4.1.below al a4.1.lt, a4.2, At.new w4 30 [.int .i64 room, .slice A xs.length cp]⟩
theorem SB.fresh {w wi : World} {L : Ly} {n room : Nat} {S : List Fe} (h : SB w wi L n room S) : Tn Nil w wi := by
  obtain ⟨X, _, _, _, t⟩ := h
  exact t
set_option maxRecDepth 100000 in
set_option maxHeartbeats 3200000 in
theorem tb_play_main (n room : Nat) (A : Option Addr) (m c : Nat) (l : List De) (w : World) (hm : (m : Int) ≤ 80) (hd : Des w A m l) (hn : 1 ≤ n ∧ n ≤ 64) (hr : 1 ≤ room ∧ room ≤ 65536) :
    Calls Try.prog 3 #[.int .i64 n, .int .i64 room, .slice A m c] w fun e w' => e = .returned (.bool true) ∧ Below w.heap.size w w' := by
  have HN := Lib.hid (sb_new (w := w) (wi := w) n room hn hr (Tn.refl _ _))
  have HD := Lib.hid hd
  have g1 : ¬ (n : Int) < 1 := by omega
  have g2 : ¬ 64 < (n : Int) := by omega
  have g3 : ¬ (room : Int) < 1 := by omega
  have g4 : ¬ 65536 < (room : Int) := by omega
  clear hd hn hr
  go_enter Try.func3, Try.ntmps3
  go_wp2_with fail
  refine HN.out.mono ?_; rintro e w1 ⟨L, rfl, h1, _, _⟩
  have H1 := Lib.hid h1
  clear h1 HN
  go_wp2_with fail
  have HP0 : Hid (PlayT w L.b w1.heap.size n room (w1.alloc (.cells #[.int .i64 room, .slice none 0 0] 30))) := Lib.hid ⟨L, [], none, 0, rfl, H1.out.alloc _, Tg.start _ _ _, At.new w1 30 [.int .i64 room, .slice none 0 0], H1.out.new⟩
  have HSB : Hid (w1.heap.size < (w1.alloc (.cells #[.int .i64 room, .slice none 0 0] 30)).heap.size) := Lib.hid (by simp)
  have HSBO : Hid (szW w ≤ w1.heap.size) := Lib.hid H1.out.szw
  clear H1 g1 g2 g3 g4
  generalize w1.heap.size = sb at *
  generalize w1.alloc (.cells #[.int .i64 room, .slice none 0 0] 30) = W1 at *
  generalize L.b = b at *
  go_loopw [10] (fun i wr => ∃ j : Nat, j ≤ m ∧ i = .int .i64 j ∧ PlayT w b sb n room wr) (fun i _ => m - (intOf i).toNat)
  case atStart => exact ⟨0, by omega, rfl, HP0.out⟩
  case round =>
    obtain ⟨j, hj, rfl, hpl⟩ := hrel
    have HPL := Lib.hid hpl
    clear hpl HP0
    have hj0 : (0 : Int) ≤ (j : Int) := Int.natCast_nonneg _
    have hfresh : Tn Nil w wr := by
      obtain ⟨L', xs, A', cp, _, hsb, _⟩ := HPL.out
      exact hsb.fresh
    have HFR := Lib.hid hfresh
    clear hfresh
    by_cases hlt : j < m
    · obtain ⟨ad, rfl, hin, hda⟩ := HD.out.at_ HFR.out hlt
      have HC : Hid (∀ W, Tn Nil w W → DeAt W (ad.add (j * 6)) (de_ l j)) := Lib.hid fun W t => by
        obtain ⟨ad', e, _, h⟩ := HD.out.at_ t hlt
        injection e with e
        subst e; exact h
      have hlt' : (j : Int) < (m : Int) := by omega
      have HIN := Lib.hid hin
      clear hin
      generalize de_ l j = d at *
      obtain ⟨kd, ⟨k0, k1⟩, nd, i, t⟩ := d
      have x5 := hda.c5
      clear hda
      dsimp only at x5
      by_cases h300 : 300 < t.size
      · have h300' : (300 : Int) < (t.size : Int) := by omega
        go_wp2_with fail
        go_roundw
        case rel => exact ⟨j + 1, by omega, by go_num, HPL.out⟩
        case measure => simp [intOf]; omega
      · have h300' : ¬ (300 : Int) < (t.size : Int) := by omega
        obtain ⟨L', xs, A, cp, hb, hsb, hsg, hat, hcol⟩ := HPL.out
        have HLB := Lib.hid hb
        have al : Below wr.heap.size wr (wr.alloc (.cells #[.int .i64 0, .slice none 0 0] 30)).drew := ((Below.refl _ _).alloc (Nat.le_refl _) _).drew
        have dw : Below wr.heap.size wr wr.drew := (Below.refl _ _).drew
        have hlx := hat.lt
        have HDO0 : Hid (Calls Try.prog 8 #[ptv b, .agg #[.int .i64 room, .slice A xs.length cp], .agg #[.int .i64 kd, .int .i64 k0, .int .u32 k1, .int .i64 nd, .int .i64 i, .string t]] wr.drew (Done w wr.drew L' n room (fun g => g ≠ sb))) := Lib.hid (by
          rw [← hb]
          exact tdo_any (s := ⟨room, xs, A, cp⟩) (hsb.free (tn_below Nil dw)) (fun g => g ≠ sb) (fun g hg => by have := dw.size; omega) (hsg.below dw) rfl ⟨kd, (k0, k1), nd, i, t⟩ HIN.out.1)
        have hg1 : Tg wr (fun g => L'.col g = -1 ∧ g ≠ sb ∧ g ≠ wr.heap.size) ⟨room, xs, A, cp⟩ := hsg.there.mono fun g _ e => ⟨e.1.1, e.1.2, by have := e.2; omega⟩
        have has : (wr.alloc (.cells #[.int .i64 0, .slice none 0 0] 30)).drew.heap.size = wr.heap.size + 1 := by simp [World.drew]
        have HDO1 : Hid (Calls Try.prog 8 #[ptv b, .agg #[.int .i64 room, .slice A xs.length cp], .agg #[.int .i64 kd, .int .i64 k0, .int .u32 k1, .int .i64 nd, .int .i64 i, .string t]] (wr.alloc (.cells #[.int .i64 0, .slice none 0 0] 30)).drew (Done w (wr.alloc (.cells #[.int .i64 0, .slice none 0 0] 30)).drew L' n room (fun g => g ≠ sb ∧ g ≠ wr.heap.size))) := Lib.hid (by
          rw [← hb]
          exact tdo_any (s := ⟨room, xs, A, cp⟩) (hsb.free (tn_below Nil al)) (fun g => g ≠ sb ∧ g ≠ wr.heap.size) (fun g hg => by rw [has] at hg; omega) (hg1.below al) rfl ⟨kd, (k0, k1), nd, i, t⟩ HIN.out.1)
        have HY1 : Hid (At (wr.alloc (.cells #[.int .i64 0, .slice none 0 0] 30)).drew wr.heap.size 30 [.int .i64 0, .slice none 0 0]) := Lib.hid (At.new wr 30 [.int .i64 0, .slice none 0 0])
        have HYC : Hid (L'.col wr.heap.size = -1) := Lib.hid hsb.new
        have HWB : Hid (szW w ≤ wr.heap.size ∧ sb ≠ wr.heap.size) := Lib.hid ⟨hsb.szw, by omega⟩
        have HA0 := Lib.hid (hat.below dw hlx)
        have HA1 := Lib.hid (hat.below al hlx)
        have HCS2 := Lib.hid hcol
        have KP : Hid (∀ V, Below wr.heap.size wr V → V.cell? ⟨sb, 0, none⟩ = some (.int .i64 room) ∧ V.cell? ⟨sb, 1, none⟩ = some (.slice A xs.length cp) ∧ V.cell? (ad.add (j * 6)) = some (.int .i64 kd) ∧ V.cell? ⟨(ad.add (j * 6)).block, (ad.add (j * 6)).off + 1, none⟩ = some (.int .i64 k0) ∧ V.cell? ⟨(ad.add (j * 6)).block, (ad.add (j * 6)).off + 2, none⟩ = some (.int .u32 k1) ∧ V.cell? ⟨(ad.add (j * 6)).block, (ad.add (j * 6)).off + 3, none⟩ = some (.int .i64 nd) ∧ V.cell? ⟨(ad.add (j * 6)).block, (ad.add (j * 6)).off + 4, none⟩ = some (.int .i64 i) ∧ V.cell? ⟨(ad.add (j * 6)).block, (ad.add (j * 6)).off + 5, none⟩ = some (.string t)) := Lib.hid fun V hV => by
          have h1 := hat.below hV hlx
          have h2 := HC.out V (HFR.out.trans (tn_below Nil hV))
          exact ⟨h1.cell 0 rfl, h1.cell 1 rfl, h2.c0, h2.c1, h2.c2, h2.c3, h2.c4, h2.c5⟩
        obtain ⟨k0', k1', k2', k3', k4', k5', k6', k7'⟩ := KP.out wr (Below.refl _ _)
        obtain ⟨l0, l1, l2, l3, l4, l5, l6, l7⟩ := KP.out _ al
        clear al dw hlx hsb hsg hat hcol HPL hg1 has hb x5
        obtain ⟨Mid, hmid⟩ : ∃ Mid : Value → Value → World → Prop, Mid = MidT w b sb n room [.int .i64 room, .slice A xs.length cp] := ⟨_, rfl⟩
        have HMID := Lib.hid hmid
        clear hmid
        have x5 := k7'
        go_upto_region 13 with fail
        clear x5
        go_cut [11, 12] (fun u v wx => Mid u v wx)
        case first =>
          go_region_law (first
            | (go_simp; go_at_call 8; refine (HDO1.out).mono ?_; intro e w4 hp; obtain ⟨xs2, A2, n2, L2, rfl, hb2, s2, f2, g2⟩ := hp; have y4 := f2.at_ HY1.out HYC.out; have e0 := y4.1.cell 0 rfl; have e1 := y4.1.cell 1 rfl; have i0 := y4.1.free 0; have i1 := y4.1.free 1; have HF := Lib.hid (mid_one (.int .i64 room) (.slice A2 xs2.length n2) rfl rfl HWB.out.1 HWB.out.2 (hb2.trans HLB.out) HA1.out HCS2.out HY1.out HYC.out s2 f2 g2); clear y4 s2 f2 g2 hb2)
            | (go_simp; go_at_call 8; refine (HDO0.out).mono ?_; intro e w4 hp; obtain ⟨xs2, A2, n2, L2, rfl, hb2, s2, f2, g2⟩ := hp; have HF := Lib.hid (mid_two (hb2.trans HLB.out) HA0.out HCS2.out s2 f2 g2); clear s2 f2 g2 hb2))
          all_goals
            go_wp2_with fail
            go_meet
            rw [HMID.out]
            exact HF.out
        case rest =>
          rw [HMID.out] at hcut
          obtain ⟨yb, L2, xs2, A2, n2, rfl, rfl, hb2, s2, g2, a2, hc2, y2⟩ := hcut
          have y0 := y2.cell 0 rfl
          have y1 := y2.cell 1 rfl
          have e0 := a2.cell 0 rfl
          have e1 := a2.cell 1 rfl
          have f0 := a2.free 0
          have f1 := a2.free 1
          have tn := pset2_tn wc sb (.int .i64 room) (.slice A2 xs2.length n2)
          have HS5 := Lib.hid (s2.own tn (fun i _ e => by have e : i = sb := e; rw [e]; exact ⟨hc2, HSBO.out⟩))
          have HG5 := Lib.hid (g2.tn tn fun i _ e q => e.2 q)
          have HA5 := Lib.hid (pset2_at (x := .int .i64 room) (y := .slice A2 xs2.length n2) a2)
          have HR5 := Lib.hid (And.intro hb2 hc2)
          clear tn s2 g2 a2 hb2 hc2 y2 k0' k1' k2' k3' k4' k5' k6' k7' l0 l1 l2 l3 l4 l5 l6 l7
          go_upto_region 15 with fail
          change Code.wp _ _ _ _ (pset2 wc sb (.int .i64 room) (.slice A2 xs2.length n2))
          generalize pset2 wc sb (.int .i64 room) (.slice A2 xs2.length n2) = w5 at *
          clear y0 y1 e0 e1 f0 f1
          obtain ⟨ko, hko⟩ : ∃ z, oldFK (facesE xs2) = z := ⟨_, rfl⟩
          obtain ⟨bo, hbo⟩ : ∃ z, (oldF (facesE xs2)).isSome = z := ⟨_, rfl⟩
          have HOL : Hid (Calls Try.prog 9 #[.pointer (some ⟨b, 0, none⟩)] w5 fun e w' => e = .returned (.tuple #[.agg #[.int .i64 ko.1, .int .u32 ko.2], .bool bo]) ∧ SB w w' L2 n room (facesE xs2) ∧ Fr w5 L2 w' L2) := Lib.hid (by
            rw [← HR5.out.1]
            exact sb_oldest HS5.out hko hbo)
          have HKO := Lib.hid (And.intro hko hbo)
          clear hko hbo
          go_wp2_with fail
          refine HOL.out.mono ?_; rintro e w6 ⟨rfl, s6, f6⟩
          have t7 : Tn Nil w6 (w6.alloc (.cells #[.int .i64 ko.1, .int .u32 ko.2] 35)) := (Tn.refl Nil w6).alloc _
          have b7 : Below w6.heap.size w6 (w6.alloc (.cells #[.int .i64 ko.1, .int .u32 ko.2] 35)) := (Below.refl _ _).alloc (Nat.le_refl _) _
          have HAB := Lib.hid (At.new w6 35 [.int .i64 ko.1, .int .u32 ko.2])
          have HABC : Hid (L2.col w6.heap.size = -1) := Lib.hid s6.new
          have HS7 := Lib.hid (s6.free t7)
          have HG7 := Lib.hid ((HG5.out.tn f6.tn fun i _ e q => q e.1).below b7)
          have a6 := f6.at_ HA5.out HR5.out.2
          have HA7 := Lib.hid (a6.1.below b7 a6.1.lt)
          have e0 := HA7.out.cell 0 rfl
          have e1 := HA7.out.cell 1 rfl
          have hso := HS7.out.sok
          have HRO := Lib.hid (rold_any HG7.out hso)
          have HRO : Hid (Calls Try.prog 10 #[.agg #[.int .i64 room, .slice A2 xs2.length n2]] (w6.alloc (.cells #[.int .i64 ko.1, .int .u32 ko.2] 35)) fun e w' => e = .returned (.tuple #[.agg #[.int .i64 ko.1, .int .u32 ko.2], .bool bo]) ∧ Below (w6.alloc (.cells #[.int .i64 ko.1, .int .u32 ko.2] 35)).heap.size (w6.alloc (.cells #[.int .i64 ko.1, .int .u32 ko.2] 35)) w') := Lib.hid (by
            have := HRO.out
            dsimp only at this
            rw [HKO.out.1, HKO.out.2] at this
            exact this)
          clear t7 b7 s6 f6 a6 hso HOL HS5 HG5 HA5
          go_wp2_with fail
          generalize w6.heap.size = ab at *
          generalize w6.alloc (.cells #[.int .i64 ko.1, .int .u32 ko.2] 35) = w7 at *
          refine HRO.out.mono ?_; rintro e w8 ⟨rfl, b8⟩
          have hS8 := HS7.out.free (tn_below Nil b8)
          have b9 : Below w8.heap.size w8 (w8.alloc (.cells #[.int .i64 ko.1, .int .u32 ko.2] 35)) := (Below.refl _ _).alloc (Nat.le_refl _) _
          have b79 := b8.trans (b9.mono b8.size)
          have HBB := Lib.hid (At.new w8 35 [.int .i64 ko.1, .int .u32 ko.2])
          have HBBC : Hid (L2.col w8.heap.size = -1) := Lib.hid hS8.new
          have HS9 := Lib.hid (HS7.out.free (tn_below Nil b79))
          have HG9 := Lib.hid (HG7.out.below b79)
          have HA9 := Lib.hid (HA7.out.below b79 HA7.out.lt)
          have HAB9 := Lib.hid (HAB.out.below b79 HAB.out.lt)
          clear e0 e1 b8 b9 b79 hS8 HRO HS7 HG7 HA7 HAB
          go_wp2_with fail
          generalize w8.heap.size = bb at *
          generalize w8.alloc (.cells #[.int .i64 ko.1, .int .u32 ko.2] 35) = w9 at *
          have HKP : Hid (∀ V, Fr w9 L2 V L2 → V.cell? ⟨ab, 0, none⟩ = some (.int .i64 ko.1) ∧ V.cell? ⟨ab, 1, none⟩ = some (.int .u32 ko.2) ∧ V.cell? ⟨bb, 0, none⟩ = some (.int .i64 ko.1) ∧ V.cell? ⟨bb, 1, none⟩ = some (.int .u32 ko.2) ∧ V.cell? ⟨sb, 1, none⟩ = some (.slice A2 xs2.length n2)) := Lib.hid fun V f => by
            have h1 := (f.at_ HAB9.out HABC.out).1
            have h2 := (f.at_ HBB.out HBBC.out).1
            have h3 := (f.at_ HA9.out HR5.out.2).1
            exact ⟨h1.cell 0 rfl, h1.cell 1 rfl, h2.cell 0 rfl, h2.cell 1 rfl, h3.cell 1 rfl⟩
          have QQ : Hid (Fr w9 L2 w9.drew L2) := Lib.hid (Fr.free L2 (Tn.refl Nil w9).drew)
          have HLN : Hid (Calls Try.prog 11 #[.pointer (some ⟨b, 0, none⟩)] w9.drew fun e w' => e = .returned (.int .i64 xs2.length) ∧ SB w w' L2 n room (facesE xs2) ∧ Fr w9.drew L2 w' L2) := Lib.hid (by
            rw [← HR5.out.1]
            exact sb_len (HS9.out.free (Tn.refl Nil w9).drew) (by rw [List.length_map]))
          obtain ⟨z0, z1, z2, z3, z4⟩ := HKP.out _ QQ.out
          have hne := fun W => neq_key ko W
          have hlen : ((xs2.length : Int) != (xs2.length : Int)) = false := by simp
          cases bo
          all_goals
            go_region_held3 (fun w' => w'.cell? ⟨ab, 0, none⟩ = some (.int .i64 ko.1) ∧ w'.cell? ⟨ab, 1, none⟩ = some (.int .u32 ko.2) ∧ w'.cell? ⟨bb, 0, none⟩ = some (.int .i64 ko.1) ∧ w'.cell? ⟨bb, 1, none⟩ = some (.int .u32 ko.2) ∧ w'.cell? ⟨sb, 1, none⟩ = some (.slice A2 xs2.length n2))
              (first | go_keep | with_reducible exact HKP.out _ QQ.out)
              (((with_reducible refine HLN.out.mono ?_); rintro e wq ⟨rfl, sq, fq⟩; have SQ := Lib.hid sq; have Q2 := Lib.hid (QQ.out.trans fq); clear sq fq QQ; have QQ := Q2; clear Q2))
            go_wp2_with fail
            go_roundw
            case rel => exact ⟨j + 1, by omega, by go_num, L2, xs2, A2, n2, HR5.out.1, SQ.out, HG9.out.tn QQ.out.tn fun i _ e q => q e.1, (QQ.out.at_ HA9.out HR5.out.2).1, HR5.out.2⟩
            case measure => simp [intOf]; omega
    · obtain rfl : j = m := by omega
      go_wp2_with fail
      refine (tb_awake _).mono ?_; rintro e w2 ⟨rfl, t2⟩
      have T2 := Lib.hid (HFR.out.trans t2)
      clear t2
      go_wp2_with fail
      go_ret
      exact ⟨rfl, T2.out.below (Below.refl w.heap.size w) (Nat.le_refl _) (fun _ _ e => e)⟩
end Go.Proofs.Ytgclgmfmcgacdaa

/- Proved: TablePlays, for whatever arguments. No condition beyond those that the theorem names. -/
namespace Go.Proofs.Ytgclgmfmcgacdaa
open Go.ChangeShapes Go.WideShapes Go.ChangeAt Go.RowKit Go.MuLone

set_option maxRecDepth 100000 in
set_option maxHeartbeats 1600000 in
theorem tb_play_walk (n r : Int) (A : Option Addr) (m c : Nat) (l : List De) (w : World) (hd : Des w A m l) :
    Calls Try.prog 3 #[.int .i64 n, .int .i64 r, .slice A m c] w fun e w' => e = .returned (.bool true) ∧ Below w.heap.size w w' := by
  by_cases hm : (m : Int) ≤ 80
  · by_cases hq : (1 ≤ n ∧ n ≤ 64) ∧ 1 ≤ r ∧ r ≤ 65536
    · obtain ⟨n', rfl⟩ : ∃ k : Nat, n = k := ⟨n.toNat, by omega⟩
      obtain ⟨r', rfl⟩ : ∃ k : Nat, r = k := ⟨r.toNat, by omega⟩
      exact tb_play_main n' r' A m c l w hm hd ⟨by omega, by omega⟩ ⟨by omega, by omega⟩
    · have HO := Lib.hid (fun W => tb_new_bad n r W (by omega))
      have hq' : n < 1 ∨ (¬ n < 1 ∧ 64 < n) ∨ (¬ n < 1 ∧ ¬ 64 < n ∧ r < 1) ∨ (¬ n < 1 ∧ ¬ 64 < n ∧ ¬ r < 1 ∧ 65536 < r) := by omega
      clear hd hq
      rcases hq' with h0 | ⟨h0, h1⟩ | ⟨h0, h1, h2⟩ | ⟨h0, h1, h2, h3⟩
      all_goals
        go_enter Try.func3, Try.ntmps3
        go_wp2_with fail
        refine (HO.out _).mono ?_; rintro e w1 ⟨rfl, rfl⟩
        go_wp2_with fail
        refine (tb_awake _).mono ?_; rintro e w2 ⟨rfl, t2⟩
        have T2 := Lib.hid t2
        clear t2
        go_wp2_with fail
        go_ret
        exact ⟨rfl, T2.out.below (Below.refl w.heap.size w) (Nat.le_refl _) (fun _ _ e => e)⟩
  · have h' : (80 : Int) < (m : Int) := by omega
    clear hd hm
    go_enter Try.func3, Try.ntmps3
    go_wp2_with fail
    refine (tb_awake _).mono ?_; rintro e w2 ⟨rfl, t2⟩
    have T2 := Lib.hid t2
    clear t2
    go_wp2_with fail
    go_ret
    exact ⟨rfl, T2.out.below (Below.refl w.heap.size w) (Nat.le_refl _) (fun _ _ e => e)⟩
end Go.Proofs.Ytgclgmfmcgacdaa

/- Proved: the walk of the law that plays windows. Conditions: those that the theorems name. -/
import Derived.Test.YtenegeajkldfbaaWinLaw
import Derived.Deep.RegionHeld3
import Derived.Deep.DeepCutAuto
namespace Go.Proofs.Ytenegeajkldfbaa
open Go.ChangeShapes Go.WideShapes Go.ChangeAt Go.RowKit

/-- A deed. -/
structure Wd where
  kind : Int
  x : Int
  n : Int
def wd_ (l : List Wd) (j : Nat) : Wd := l.getD j ⟨0, 0, 0⟩
/-- The slice value with address A and length n holds the deeds l, in memory that is there. -/
def Wds (w : World) (A : Option Addr) (n : Nat) (l : List Wd) : Prop :=
  l.length = n ∧ (∀ j, j < n → U32 (wd_ l j).x) ∧ (0 < n → ∃ ad, A = some ad ∧ ad.block < w.heap.size ∧ ∀ j, j < n → w.cell? (ad.add (j * 3)) = some (.int .i64 (wd_ l j).kind) ∧ w.cell? ⟨(ad.add (j * 3)).block, (ad.add (j * 3)).off + 1, none⟩ = some (.int .u32 (wd_ l j).x) ∧ w.cell? ⟨(ad.add (j * 3)).block, (ad.add (j * 3)).off + 2, none⟩ = some (.int .i64 (wd_ l j).n))
theorem Wds.nil (w : World) (A : Option Addr) : Wds w A 0 [] := ⟨rfl, fun _ h => absurd h (by omega), fun h => absurd h (by omega)⟩
theorem Wds.at_ {w : World} {A : Option Addr} {n : Nat} {l : List Wd} (h : Wds w A n l) {k : Nat} (hk : k < n) :
    ∃ ad, A = some ad ∧ U32 (wd_ l k).x ∧ ∀ w', Below w.heap.size w w' → w'.cell? (ad.add (k * 3)) = some (.int .i64 (wd_ l k).kind) ∧ w'.cell? ⟨(ad.add (k * 3)).block, (ad.add (k * 3)).off + 1, none⟩ = some (.int .u32 (wd_ l k).x) ∧ w'.cell? ⟨(ad.add (k * 3)).block, (ad.add (k * 3)).off + 2, none⟩ = some (.int .i64 (wd_ l k).n) := by
  obtain ⟨ad, e, hlt, hc⟩ := h.2.2 (by omega)
  refine ⟨ad, e, h.2.1 k hk, fun w' hb => ?_⟩
  obtain ⟨c0, c1, c2⟩ := hc k hk
  have hl : (ad.add (k * 3)).block < w.heap.size := by rw [add_block]; omega
  exact ⟨(hb.cell hl).trans c0, (hb.cell (p := ⟨(ad.add (k * 3)).block, (ad.add (k * 3)).off + 1, none⟩) hl).trans c1, (hb.cell (p := ⟨(ad.add (k * 3)).block, (ad.add (k * 3)).off + 2, none⟩) hl).trans c2⟩
/-- A window of the document's in a box, and the program's own, both the same. -/
def Both (w : World) (b xb n : Nat) (B : Int) (L : List Int) (A : Option Addr) (c : Nat) (wr : World) : Prop :=
  At wr xb 31 (rwC B n A L.length c) ∧ L.length ≤ c ∧ (A = none → c = 0) ∧ Uw wr A L.length L ∧ WB w wr b B n L
theorem Both.below {w wr w' : World} {b xb n c : Nat} {B : Int} {L : List Int} {A : Option Addr} (h : Both w b xb n B L A c wr) (k : Below wr.heap.size wr w') : Both w b xb n B L A c w' :=
  ⟨h.1.below k h.1.lt, h.2.1, h.2.2.1, h.2.2.2.1.below k, h.2.2.2.2.below k⟩
theorem WB.set {w wi : World} {b n yb : Nat} {B : Int} {L : List Int} {vs : List Value} (h : WB w wi b B n L) (k : At wi yb 31 vs) (hy : w.heap.size ≤ yb) (j : Nat) (v : Value) : WB w (wi.setCell ⟨yb, j, none⟩ v) b B n L := by
  obtain ⟨m, h1, h2, h3, h4⟩ := h
  have hg := grown_set wi ⟨yb, j, none⟩ v
  have hb : b ≠ yb := by
    intro e
    subst e
    have h5 := h1.1
    unfold At at k h5
    rw [k] at h5
    injection h5 with h5
    injection h5 with _ h5
    exact absurd h5 (by decide)
  have hm : yb ≠ m := h1.2.1.ne k
  exact ⟨m, h1.kept hg (fun e => hb (by injection e with e; exact e.symm)) (fun e => hm (by injection e)), h2, h3, h4.grown hg h4.size (fun q e => by injection e with e; show _ ≤ q; rw [← e]; exact hy)⟩
theorem WB.wset3 {w wi : World} {b n yb : Nat} {B : Int} {L : List Int} {a c d x y z : Value} (h : WB w wi b B n L) (k : At wi yb 31 [a, c, d]) (hy : w.heap.size ≤ yb) : WB w (wset3 wi yb x y z) b B n L :=
  ((h.set k hy 0 _).set (k.set_ 0 _) hy 1 _).set ((k.set_ 0 _).set_ 1 _) hy 2 _
theorem At.wset3 {w : World} {g yb : Nat} {t : TypeId} {vs : List Value} {x y z : Value} (h : At w g t vs) (hne : g ≠ yb) : At (wset3 w yb x y z) g t vs := ((h.far (p := ⟨yb, 0, none⟩) hne x).far (p := ⟨yb, 1, none⟩) hne y).far (p := ⟨yb, 2, none⟩) hne z
set_option maxRecDepth 100000 in
set_option maxHeartbeats 6400000 in
theorem wn_play_main (B0 : Int) (n : Nat) (A : Option Addr) (m c : Nat) (ds : List Wd) (w : World) (hm : (m : Int) ≤ 80) (hd : Wds w A m ds) (hB : U32 B0) (h1 : 1 ≤ n) (h2 : n ≤ 64) :
    Calls Try.prog 3 #[.int .u32 B0, .int .i64 (n : Nat), .slice A m c] w fun e w' => e = .returned (.bool true) ∧ Below w.heap.size w w' := by
  have HN := Lib.hid (wb_new w w (Below.refl _ _) B0 n hB h1 h2)
  have HL := Lib.hid hd
  have g1 : ¬ (n : Int) < 1 := by omega
  have g2 : ¬ (64 : Int) < (n : Int) := by omega
  clear hd h1 h2 hB
  go_enter Try.func3, Try.ntmps3
  go_wp2_with fail
  refine HN.out.mono ?_; rintro e w1 ⟨rfl, r1⟩
  have hb1 := (Below.refl w1.heap.size w1).alloc (Nat.le_refl _) (.cells #[.int .u32 B0, .int .i64 (n : Nat), .slice none 0 0] 31)
  have HX0 : Hid (w.heap.size ≤ w1.heap.size) := Lib.hid r1.bel.size
  have R0 : Hid (Both w (w.heap.size + 1) w1.heap.size n B0 [] none 0 (w1.alloc (.cells #[.int .u32 B0, .int .i64 (n : Nat), .slice none 0 0] 31))) := Lib.hid ⟨At.new w1 31 [.int .u32 B0, .int .i64 (n : Nat), .slice none 0 0], Nat.le_refl _, fun _ => rfl, Uw.nil _ _, r1.below hb1⟩
  clear r1 HN hb1
  generalize w.heap.size + 1 = b at *
  go_wp2_with fail
  generalize w1.alloc (.cells #[.int .u32 B0, .int .i64 (n : Nat), .slice none 0 0] 31) = w2 at *
  generalize w1.heap.size = xb at *
  go_loopw [10] (fun i wr => ∃ k : Nat, k ≤ m ∧ i = .int .i64 k ∧ ∃ B L A c, Both w b xb n B L A c wr ∧ L.length ≤ k) (fun i _ => m - (intOf i).toNat)
  case atStart => exact ⟨0, by omega, rfl, _, _, _, _, R0.out, Nat.le_refl _⟩
  case round =>
    obtain ⟨k, hk, rfl, B, L, A1, c1, hbo, hLk⟩ := hrel
    have HB := Lib.hid hbo
    have HLK := Lib.hid hLk
    clear R0 hbo hLk
    by_cases hlt : k < m
    · obtain ⟨ad, rfl, hx, hcs⟩ := HL.out.at_ hlt
      have hlt' : (k : Int) < (m : Int) := by omega
      have hk0 : (0 : Int) ≤ (k : Int) := Int.natCast_nonneg _
      have HCS := Lib.hid hcs
      have HU := Lib.hid hx
      clear hcs hx
      generalize wd_ ds k = d at *
      obtain ⟨kd, x, z⟩ := d
      dsimp only at HCS HU
      have c0 := HB.out.1.cell 0 rfl
      have c1' := HB.out.1.cell 1 rfl
      have c2 := HB.out.1.cell 2 rfl
      have hb3 := (Below.refl wr.heap.size wr).alloc (Nat.le_refl _) (.cells #[.int .u32 B, .int .i64 (n : Nat), .slice A1 L.length c1] 31)
      have HB3 := Lib.hid (HB.out.below hb3)
      have HY3 : Hid (At (wr.alloc (.cells #[.int .u32 B, .int .i64 (n : Nat), .slice A1 L.length c1] 31)) wr.heap.size 31 (rwC B n A1 L.length c1)) := Lib.hid (At.new wr 31 (rwC B n A1 L.length c1))
      have HXY : Hid (xb ≠ wr.heap.size ∧ w.heap.size ≤ wr.heap.size) := Lib.hid ⟨by have := HB.out.1.lt; omega, HB.out.2.2.2.2.bel.size⟩
      obtain ⟨d0, d1, d2⟩ := HCS.out _ HB3.out.2.2.2.2.bel
      clear hb3 HB
      go_upto_if 60 with fail
      generalize wr.alloc (.cells #[.int .u32 B, .int .i64 (n : Nat), .slice A1 L.length c1] 31) = w3 at *
      generalize wr.heap.size = yb at *
      go_cut [11, 12] (fun a a' wx => ∃ z2 B2 L2 A2 c2, a = .int .i64 z2 ∧ a' = .int .i64 z2 ∧ At wx yb 31 (rwC B2 n A2 L2.length c2) ∧ At wx xb 31 (rwC B n A1 L.length c1) ∧ L2.length ≤ c2 ∧ (A2 = none → c2 = 0) ∧ Uw wx A2 L2.length L2 ∧ WB w wx b B2 n L2 ∧ L2.length ≤ L.length + 1)
      case first =>
        have QQ : Hid (Below w3.heap.size w3 w3.drew) := Lib.hid (Below.refl w3.heap.size w3).drew
        have hLl : L.length ≤ 80 := by have := HLK.out; omega
        by_cases hk : kd = 0
        · subst hk
          have HRM : Hid (∀ W, Below w3.heap.size w3 W → Calls Try.prog 8 #[rwV B n A1 L.length c1, .int .u32 x] W (GivesW W B n (mkL B n L x) (mkE B n L x))) := Lib.hid fun W g => rmark_any B n A1 L.length c1 L x W (HB3.out.2.2.2.1.below g) HB3.out.2.1 HB3.out.2.2.1 (by omega) HU.out HB3.out.2.2.2.2.ok.base
          have KP : Hid (∀ W, Below w3.heap.size w3 W → W.cell? ⟨xb, 0, none⟩ = some (.int .u32 B) ∧ W.cell? ⟨xb, 1, none⟩ = some (.int .i64 (n : Nat)) ∧ W.cell? ⟨xb, 2, none⟩ = some (.slice A1 L.length c1) ∧ W.cell? ⟨(ad.add (k * 3)).block, (ad.add (k * 3)).off + 1, none⟩ = some (.int .u32 x)) := Lib.hid fun W g => by
            have q := HB3.out.below g
            exact ⟨q.1.cell 0 rfl, q.1.cell 1 rfl, q.1.cell 2 rfl, (HCS.out _ q.2.2.2.2.bel).2.1⟩
          have HLN := Lib.hid (mkL_len B n L x)
          have HMK : Hid (∀ W, WB w W b B n L → Calls Try.prog 9 #[.pointer (some ⟨b, 0, none⟩), .int .u32 x] W fun e w' => e = .returned (.int .i64 (mkE B n L x)) ∧ WB w w' b B n (mkL B n L x) ∧ KeepsW W w') := Lib.hid fun W g => wb_mark g (by omega) HU.out
          generalize mkL B n L x = L2 at *
          generalize mkE B n L x = z2 at *
          obtain ⟨k0, k1, k2, k3⟩ := KP.out w3.drew QQ.out
          clear c0 c1' c2
          go_wp2_with fail
          go_region_held3 (fun w' => w'.cell? ⟨xb, 0, none⟩ = some (.int .u32 B) ∧ w'.cell? ⟨xb, 1, none⟩ = some (.int .i64 (n : Nat)) ∧ w'.cell? ⟨xb, 2, none⟩ = some (.slice A1 L.length c1) ∧ w'.cell? ⟨(ad.add (k * 3)).block, (ad.add (k * 3)).off + 1, none⟩ = some (.int .u32 x))
            (first | go_keep | with_reducible exact KP.out _ QQ.out | exact KS.out)
            (first
            | ((with_reducible refine (HRM.out _ QQ.out).mono ?_); rintro e wq ⟨A2, c2, rfl, hc2, hA2, hu2, gq⟩; have G4 := Lib.hid (QQ.out.trans (gq.mono QQ.out.size)); have HQ4 := Lib.hid (HB3.out.below G4.out); have HY4 := Lib.hid (HY3.out.below G4.out HY3.out.lt); have y0 := HY4.out.cell 0 rfl; have y1 := HY4.out.cell 1 rfl; have y2 := HY4.out.cell 2 rfl; have z0 := HY4.out.free 0; have z1 := HY4.out.free 1; have z3 := HY4.out.free 2; have HQ5 : Hid (WB w (wset3 wq yb (.int .u32 B) (.int .i64 (n : Nat)) (.slice A2 L2.length c2)) b B n L) := Lib.hid (HQ4.out.2.2.2.2.wset3 HY4.out HXY.out.2); have HX5 := Lib.hid (HQ4.out.1.wset3 (x := .int .u32 B) (y := .int .i64 (n : Nat)) (z := .slice A2 L2.length c2) HXY.out.1); have HU5 := Lib.hid (uw_wset3 (x := .int .u32 B) (y := .int .i64 (n : Nat)) (z := .slice A2 L2.length c2) hu2 HY4.out); have HY5 := Lib.hid (wset3_at (x := .int .u32 B) (y := .int .i64 (n : Nat)) (z := .slice A2 L2.length c2) HY4.out); have HC5 := Lib.hid (And.intro hc2 hA2); have KS := Lib.hid (And.intro (HX5.out.cell 0 rfl) (And.intro (HX5.out.cell 1 rfl) (And.intro (HX5.out.cell 2 rfl) (HCS.out _ HQ5.out.bel).2.1))); clear gq hc2 hA2 hu2 QQ; have QQ := G4; clear G4))
          change Exit.then _ _ _ _ (wset3 wq yb (.int .u32 B) (.int .i64 (n : Nat)) (.slice A2 L2.length c2))
          generalize wset3 wq yb (.int .u32 B) (.int .i64 (n : Nat)) (.slice A2 L2.length c2) = w5 at *
          clear y0 y1 y2 z0 z1 z3 d0 d1 d2
          obtain ⟨d0, d1, d2⟩ := HCS.out _ HQ5.out.bel
          go_wp2_with fail
          refine (HMK.out _ HQ5.out).mono ?_; rintro e w6 ⟨rfl, r6, k6⟩
          have R6 := Lib.hid r6
          have K6 := Lib.hid k6
          clear r6 k6
          go_wp2_with fail
          go_meet
          exact ⟨z2, B, L2, A2, c2, rfl, rfl, K6.out.2.1 _ _ HY5.out, K6.out.2.1 _ _ HX5.out, HC5.out.1, HC5.out.2, K6.out.1 _ _ _ HU5.out, R6.out, HLN.out⟩
        · have hkd : (kd == 0) = false := by simpa using hk
          have HRM : Hid (∀ W, Below w3.heap.size w3 W → Calls Try.prog 10 #[rwV B n A1 L.length c1, .int .i64 z] W (GivesW W (wpl B (slK B L z)) n (keepL B L (slK B L z)) (slK B L z : Nat))) := Lib.hid fun W g => rslide_any B n A1 L.length c1 L z W (HB3.out.2.2.2.1.below g) HB3.out.2.1 HB3.out.2.2.1 (by omega) HB3.out.2.2.2.2.ok
          have KP : Hid (∀ W, Below w3.heap.size w3 W → W.cell? ⟨xb, 0, none⟩ = some (.int .u32 B) ∧ W.cell? ⟨xb, 1, none⟩ = some (.int .i64 (n : Nat)) ∧ W.cell? ⟨xb, 2, none⟩ = some (.slice A1 L.length c1) ∧ W.cell? ⟨(ad.add (k * 3)).block, (ad.add (k * 3)).off + 2, none⟩ = some (.int .i64 z)) := Lib.hid fun W g => by
            have q := HB3.out.below g
            exact ⟨q.1.cell 0 rfl, q.1.cell 1 rfl, q.1.cell 2 rfl, (HCS.out _ q.2.2.2.2.bel).2.2⟩
          have HLN : Hid ((keepL B L (slK B L z)).length ≤ L.length + 1) := Lib.hid (Nat.le_succ_of_le (keep_len B L _))
          have HMK : Hid (∀ W, WB w W b B n L → Calls Try.prog 11 #[.pointer (some ⟨b, 0, none⟩), .int .i64 z] W fun e w' => e = .returned (.int .i64 (slK B L z : Nat)) ∧ WB w w' b (wpl B (slK B L z)) n (keepL B L (slK B L z)) ∧ KeepsW W w') := Lib.hid fun W g => wb_slide g z
          generalize slK B L z = kk at *
          generalize keepL B L kk = L2 at *
          generalize wpl B kk = B2 at *
          generalize (kk : Int) = z2 at *
          obtain ⟨k0, k1, k2, k3⟩ := KP.out w3.drew QQ.out
          clear c0 c1' c2 hk
          go_wp2_with fail
          go_region_held3 (fun w' => w'.cell? ⟨xb, 0, none⟩ = some (.int .u32 B) ∧ w'.cell? ⟨xb, 1, none⟩ = some (.int .i64 (n : Nat)) ∧ w'.cell? ⟨xb, 2, none⟩ = some (.slice A1 L.length c1) ∧ w'.cell? ⟨(ad.add (k * 3)).block, (ad.add (k * 3)).off + 2, none⟩ = some (.int .i64 z))
            (first | go_keep | with_reducible exact KP.out _ QQ.out | exact KS.out)
            (first
            | ((with_reducible refine (HRM.out _ QQ.out).mono ?_); rintro e wq ⟨A2, c2, rfl, hc2, hA2, hu2, gq⟩; have G4 := Lib.hid (QQ.out.trans (gq.mono QQ.out.size)); have HQ4 := Lib.hid (HB3.out.below G4.out); have HY4 := Lib.hid (HY3.out.below G4.out HY3.out.lt); have y0 := HY4.out.cell 0 rfl; have y1 := HY4.out.cell 1 rfl; have y2 := HY4.out.cell 2 rfl; have z0 := HY4.out.free 0; have z1 := HY4.out.free 1; have z3 := HY4.out.free 2; have HQ5 : Hid (WB w (wset3 wq yb (.int .u32 B2) (.int .i64 (n : Nat)) (.slice A2 L2.length c2)) b B n L) := Lib.hid (HQ4.out.2.2.2.2.wset3 HY4.out HXY.out.2); have HX5 := Lib.hid (HQ4.out.1.wset3 (x := .int .u32 B2) (y := .int .i64 (n : Nat)) (z := .slice A2 L2.length c2) HXY.out.1); have HU5 := Lib.hid (uw_wset3 (x := .int .u32 B2) (y := .int .i64 (n : Nat)) (z := .slice A2 L2.length c2) hu2 HY4.out); have HY5 := Lib.hid (wset3_at (x := .int .u32 B2) (y := .int .i64 (n : Nat)) (z := .slice A2 L2.length c2) HY4.out); have HC5 := Lib.hid (And.intro hc2 hA2); have KS := Lib.hid (And.intro (HX5.out.cell 0 rfl) (And.intro (HX5.out.cell 1 rfl) (And.intro (HX5.out.cell 2 rfl) (HCS.out _ HQ5.out.bel).2.2))); clear gq hc2 hA2 hu2 QQ; have QQ := G4; clear G4))
          change Exit.then _ _ _ _ (wset3 wq yb (.int .u32 B2) (.int .i64 (n : Nat)) (.slice A2 L2.length c2))
          generalize wset3 wq yb (.int .u32 B2) (.int .i64 (n : Nat)) (.slice A2 L2.length c2) = w5 at *
          clear y0 y1 y2 z0 z1 z3 d0 d1 d2
          obtain ⟨d0, d1, d2⟩ := HCS.out _ HQ5.out.bel
          go_wp2_with fail
          refine (HMK.out _ HQ5.out).mono ?_; rintro e w6 ⟨rfl, r6, k6⟩
          have R6 := Lib.hid r6
          have K6 := Lib.hid k6
          clear r6 k6
          go_wp2_with fail
          go_meet
          exact ⟨z2, B2, L2, A2, c2, rfl, rfl, K6.out.2.1 _ _ HY5.out, K6.out.2.1 _ _ HX5.out, HC5.out.1, HC5.out.2, K6.out.1 _ _ _ HU5.out, R6.out, HLN.out⟩
      case rest =>
        obtain ⟨z2, B2, L2, A2, c4, rfl, rfl, hy, hx, hc2, hA2, hu, hw, hl⟩ := hcut
        rename World => w5
        have y0 := hy.cell 0 rfl
        have y1 := hy.cell 1 rfl
        have y2 := hy.cell 2 rfl
        have x0 := hx.cell 0 rfl
        have x1 := hx.cell 1 rfl
        have x2 := hx.cell 2 rfl
        have f0 := hx.free 0
        have f1 := hx.free 1
        have f2 := hx.free 2
        have HB6 : Hid (Both w b xb n B2 L2 A2 c4 (wset3 w5 xb (.int .u32 B2) (.int .i64 (n : Nat)) (.slice A2 L2.length c4))) := Lib.hid ⟨wset3_at hx, hc2, hA2, uw_wset3 hu hx, hw.wset3 hx HX0.out⟩
        have HL2 : Hid (L2.length ≤ k + 1) := Lib.hid (by have := HLK.out; omega)
        clear hy hx hc2 hA2 hu hw hl d0 d1 d2 c0 c1' c2 HB3 HY3
        go_wp2_with fail
        change Code.wp _ _ _ _ (wset3 w5 xb (.int .u32 B2) (.int .i64 (n : Nat)) (.slice A2 L2.length c4))
        generalize wset3 w5 xb (.int .u32 B2) (.int .i64 (n : Nat)) (.slice A2 L2.length c4) = w6 at *
        clear y0 y1 y2 x0 x1 x2 f0 f1 f2
        have QQ : Hid (Below w6.heap.size w6 w6.drew) := Lib.hid (Below.refl w6.heap.size w6).drew
        have HBQ : Hid (∀ W, Below w6.heap.size w6 W → Both w b xb n B2 L2 A2 c4 W) := Lib.hid fun W g => HB6.out.below g
        have KP : Hid (∀ W, Below w6.heap.size w6 W → W.cell? ⟨xb, 0, none⟩ = some (.int .u32 B2) ∧ W.cell? ⟨xb, 1, none⟩ = some (.int .i64 (n : Nat)) ∧ W.cell? ⟨xb, 2, none⟩ = some (.slice A2 L2.length c4) ∧ W.cell? ⟨(ad.add (k * 3)).block, (ad.add (k * 3)).off + 1, none⟩ = some (.int .u32 x)) := Lib.hid fun W g => by
          have q := HBQ.out W g
          exact ⟨q.1.cell 0 rfl, q.1.cell 1 rfl, q.1.cell 2 rfl, (HCS.out _ q.2.2.2.2.bel).2.1⟩
        have hL2 : L2.length ≤ 500 := by have := HL2.out; omega
        have H1 := Lib.hid (fun W g => wb_base (HBQ.out W g).2.2.2.2)
        have H2 := Lib.hid (fun W g => wb_has (HBQ.out W g).2.2.2.2 HU.out)
        have H3 := Lib.hid (fun W g => rin_any A2 L2.length c4 L2 x W (HBQ.out W g).2.2.2.1 (by omega))
        have H4 := Lib.hid (fun W g => wb_missing (HBQ.out W g).2.2.2.2)
        have H5 := Lib.hid (fun W g => rmissing_any B2 n A2 L2.length c4 L2 W (HBQ.out W g).2.2.2.1 (by omega) (HBQ.out W g).2.2.2.2.ok)
        have HLN : Hid ((misL B2 L2 (topN B2 L2 n)).length ≤ 1000) := Lib.hid (by have := misL_len B2 L2 (topN B2 L2 n); have := HB6.out.2.2.2.2.ok.top; have := HB6.out.2.2.2.2.ok.high; omega)
        generalize misL B2 L2 (topN B2 L2 n) = l at *
        generalize decide (x ∈ L2) = s at *
        obtain ⟨k0, k1, k2, k3⟩ := KP.out w6.drew QQ.out
        clear hL2
        go_region_held3 (fun w' => w'.cell? ⟨xb, 0, none⟩ = some (.int .u32 B2) ∧ w'.cell? ⟨xb, 1, none⟩ = some (.int .i64 (n : Nat)) ∧ w'.cell? ⟨xb, 2, none⟩ = some (.slice A2 L2.length c4) ∧ w'.cell? ⟨(ad.add (k * 3)).block, (ad.add (k * 3)).off + 1, none⟩ = some (.int .u32 x))
          (first | go_keep | with_reducible exact KP.out _ QQ.out)
          (first
          | ((with_reducible refine (H1.out _ QQ.out).mono ?_); rintro e wq ⟨rfl, rfl⟩)
          | ((with_reducible refine (H2.out _ QQ.out).mono ?_); rintro e wq ⟨rfl, gq⟩; have QN := Lib.hid (QQ.out.trans (gq.mono QQ.out.size)); clear gq QQ; have QQ := QN; clear QN)
          | ((with_reducible refine (H3.out _ QQ.out).mono ?_); rintro e wq ⟨rfl, rfl⟩)
          | ((with_reducible refine (H4.out _ QQ.out).mono ?_); rintro e wq ⟨A7, c7, rfl, _, _, i7, gq⟩; have I7 := Lib.hid i7; have QN := Lib.hid (QQ.out.trans (gq.mono QQ.out.size)); clear gq QQ i7; have QQ := QN; clear QN)
          | ((with_reducible refine (H5.out _ QQ.out).mono ?_); rintro e wq ⟨A8, c8, rfl, _, _, i8, gq⟩; have I8 := Lib.hid i8; have J7 := Lib.hid (I7.out.below gq); have QN := Lib.hid (QQ.out.trans (gq.mono QQ.out.size)); clear gq QQ i8 I7; have QQ := QN; clear QN)
          | ((with_reducible refine (rsame15 _ _ _ _ _ _ _ J7.out I8.out HLN.out).mono ?_); rintro e wq ⟨rfl, gq⟩; have QN := Lib.hid (QQ.out.trans (gq.mono QQ.out.size)); clear gq QQ J7 I8; have QQ := QN; clear QN))
        go_wp2_with fail
        go_roundw
        case rel => exact ⟨k + 1, by omega, by go_num, B2, L2, A2, c4, HBQ.out _ QQ.out, HL2.out⟩
        case measure => simp [intOf]; omega
    · obtain rfl : k = m := by omega
      go_wp2_with fail
      refine (wn_awake_any _).mono ?_; rintro e w2 ⟨rfl, g2⟩
      have R4 := Lib.hid (HB.out.2.2.2.2.below g2)
      clear g2
      go_wp2_with fail
      go_ret
      exact ⟨rfl, R4.out.bel⟩
set_option maxRecDepth 100000 in
set_option maxHeartbeats 1600000 in
theorem wn_play_walk (B0 z : Int) (A : Option Addr) (m c : Nat) (ds : List Wd) (w : World) (hd : Wds w A m ds) (hB : (Lit.int .u32 B0).wf = true) :
    Calls Try.prog 3 #[.int .u32 B0, .int .i64 z, .slice A m c] w fun e w' => e = .returned (.bool true) ∧ Below w.heap.size w w' := by
  by_cases hm : (m : Int) ≤ 80
  · by_cases hz : 1 ≤ z ∧ z ≤ 64
    · obtain ⟨n, rfl⟩ := Int.eq_ofNat_of_zero_le (show 0 ≤ z by omega)
      exact wn_play_main B0 n A m c ds w hm hd (u32_of hB) (by omega) (by omega)
    · have HO := Lib.hid (fun W => wn_new_bad B0 z W (by omega))
      clear hd hB
      by_cases h1 : z < 1
      · clear hz
        go_enter Try.func3, Try.ntmps3
        go_wp2_with fail
        refine (HO.out _).mono ?_; rintro e w1 ⟨rfl, rfl⟩
        go_wp2_with fail
        refine (wn_awake_any _).mono ?_; rintro e w2 ⟨rfl, g2⟩
        have G2 := Lib.hid g2
        clear g2
        go_wp2_with fail
        go_ret
        exact ⟨rfl, G2.out⟩
      · have h2 : (64 : Int) < z := by omega
        clear hz
        go_enter Try.func3, Try.ntmps3
        go_wp2_with fail
        refine (HO.out _).mono ?_; rintro e w1 ⟨rfl, rfl⟩
        go_wp2_with fail
        refine (wn_awake_any _).mono ?_; rintro e w2 ⟨rfl, g2⟩
        have G2 := Lib.hid g2
        clear g2
        go_wp2_with fail
        go_ret
        exact ⟨rfl, G2.out⟩
  · have h' : (80 : Int) < (m : Int) := by omega
    clear hd hm hB
    go_enter Try.func3, Try.ntmps3
    go_wp2_with fail
    refine (wn_awake_any _).mono ?_; rintro e w2 ⟨rfl, g2⟩
    have G2 := Lib.hid g2
    clear g2
    go_wp2_with fail
    go_ret
    exact ⟨rfl, G2.out⟩
end Go.Proofs.Ytenegeajkldfbaa

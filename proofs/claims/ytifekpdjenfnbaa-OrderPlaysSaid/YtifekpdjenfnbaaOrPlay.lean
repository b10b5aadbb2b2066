/- Proved: the walk of the law that plays orders. Conditions: those that the theorems name. -/
import Derived.Test.YtifekpdjenfnbaaOrAwake
import Derived.Test.YtifekpdjenfnbaaOrRefN
import Derived.Test.YtifekpdjenfnbaaOrArg
import Derived.Deep.RegionHeld3
import Derived.Deep.RegionLaw
import Derived.Deep.DeepCutAuto
namespace Go.Proofs.Ytifekpdjenfnbaa
open Go.ChangeShapes Go.WideShapes Go.ChangeAt Go.RowKit

/-- An order of the document's in a box, and the program's own, both the same. -/
def BothO (w : World) (b xb : Nat) (n B : Int) (L : List ByteArray) (A : Option Addr) (c : Nat) (M : List Xb) (wr : World) : Prop :=
  At wr xb 31 (roC B n A M.length c) ∧ M.length ≤ c ∧ (A = none → c = 0) ∧ Bw wr A M ∧ Rel B L M ∧ OB w wr b B n L
theorem BothO.below {w wr w' : World} {b xb c : Nat} {n B : Int} {L : List ByteArray} {A : Option Addr} {M : List Xb} (h : BothO w b xb n B L A c M wr) (k : Below wr.heap.size wr w') : BothO w b xb n B L A c M w' :=
  ⟨h.1.below k h.1.lt, h.2.1, h.2.2.1, h.2.2.2.1.below k, h.2.2.2.2.1, h.2.2.2.2.2.below k⟩
theorem ro_ne_o : (31 : TypeId) ≠ 52 := by decide
theorem ro_ne_s : (31 : TypeId) ≠ 9 := by decide
theorem bx_ne_o : (56 : TypeId) ≠ 52 := by decide
theorem bx_ne_s : (56 : TypeId) ≠ 9 := by decide
theorem OB.oset3 {w wi : World} {b yb : Nat} {B n : Int} {L : List ByteArray} {a c d x y z : Value} (h : OB w wi b B n L) (k : At wi yb 31 [a, c, d]) (hy : w.heap.size ≤ yb) : OB w (oset3 wi yb x y z) b B n L :=
  ((h.set k ro_ne_o ro_ne_s hy 0 _).set (k.set_ 0 _) ro_ne_o ro_ne_s hy 1 _).set ((k.set_ 0 _).set_ 1 _) ro_ne_o ro_ne_s hy 2 _
theorem KeepsO.bw {w w' : World} {A : Option Addr} {M : List Xb} (k : KeepsO w w') (h : Bw w A M) : Bw w' A M := Tw.move h fun g cur f hg => k g cur _ f hg bx_ne_o bx_ne_s
/-- the document's answer lies in a box of its own; the program's order stands as it did. -/
def MidO (w : World) (b xb : Nat) (n B : Int) (L : List ByteArray) (X0 : List Value) (B2 : Int) (L2 : List ByteArray) (u : Value) (wx : World) : Prop :=
  ∃ yb A2 c2 M2, u = .pointer (some ⟨yb, 0, none⟩) ∧ At wx yb 31 (roC B2 n A2 M2.length c2) ∧ At wx xb 31 X0 ∧ M2.length ≤ c2 ∧ (A2 = none → c2 = 0) ∧ Bw wx A2 M2 ∧ Rel B2 L2 M2 ∧ OB w wx b B n L
section
variable {w V w4 : World} {b xb yb c2 : Nat} {n B B2 : Int} {L L2 : List ByteArray} {X0 : List Value} {A2 : Option Addr} {M2 : List Xb}
theorem mid_one {p q r : Value} (x y z : Value) (hx : x = .int .u32 B2) (hy : y = .int .i64 n) (hz : z = .slice A2 M2.length c2) (ya : At V yb 31 [p, q, r]) (xa : At V xb 31 X0) (ob : OB w V b B n L) (k : Below V.heap.size V w4) (hne : xb ≠ yb) (hyb : w.heap.size ≤ yb) (h1 : M2.length ≤ c2) (h2 : A2 = none → c2 = 0) (h3 : Bw w4 A2 M2) (h4 : Rel B2 L2 M2) :
    MidO w b xb n B L X0 B2 L2 (.pointer (some ⟨yb, 0, none⟩)) (oset3 w4 yb x y z) := by
  subst hx; subst hy; subst hz
  have y4 := ya.below k ya.lt
  have x4 := xa.below k xa.lt
  exact ⟨yb, A2, c2, M2, rfl, oset3_at y4, oset3_far x4 hne, h1, h2, bw_oset3 h3 y4, h4, (ob.below k).oset3 y4 hyb⟩
theorem mid_two (xa : At V xb 31 X0) (ob : OB w V b B n L) (k : Below V.heap.size V w4) (h1 : M2.length ≤ c2) (h2 : A2 = none → c2 = 0) (h3 : Bw w4 A2 M2) (h4 : Rel B2 L2 M2) :
    MidO w b xb n B L X0 B2 L2 (.pointer (some ⟨w4.heap.size, 0, none⟩)) (w4.alloc (.cells #[.int .u32 B2, .int .i64 n, .slice A2 M2.length c2] 31)) := by
  have al : Below w4.heap.size w4 (w4.alloc (.cells #[.int .u32 B2, .int .i64 n, .slice A2 M2.length c2] 31)) := (Below.refl _ _).alloc (Nat.le_refl _) _
  have x4 := xa.below k xa.lt
  exact ⟨w4.heap.size, A2, c2, M2, rfl, At.new w4 31 (roC B2 n A2 M2.length c2), x4.below al x4.lt, h1, h2, h3.below al, h4, (ob.below k).below al⟩
end
set_option maxRecDepth 100000 in
set_option maxHeartbeats 6400000 in
theorem or_play_main (B0 n : Int) (A : Option Addr) (m c : Nat) (ds : List Dd) (w : World) (hm : (m : Int) ≤ 80) (hd : Dds w A m ds) (hB : U32 B0) (h1 : 1 ≤ n) (h2 : n ≤ 64) :
    Calls Try.prog 3 #[.int .u32 B0, .int .i64 n, .slice A m c] w fun e w' => e = .returned (.bool true) ∧ Below w.heap.size w w' := by
  have HN := Lib.hid (ob_new w w B0 n (Below.refl _ _) hB h1 h2)
  have HL := Lib.hid hd
  have g1 : ¬ n < 1 := by omega
  have g2 : ¬ (64 : Int) < n := by omega
  clear hd h1 h2 hB
  go_enter Try.func3, Try.ntmps3
  go_wp2_with fail
  refine HN.out.mono ?_; rintro e w1 ⟨b, rfl, r1⟩
  have hb1 := (Below.refl w1.heap.size w1).alloc (Nat.le_refl _) (.cells #[.int .u32 B0, .int .i64 n, .slice none 0 0] 31)
  have HXB : Hid (w.heap.size ≤ w1.heap.size) := Lib.hid r1.bel.size
  have R0 : Hid (BothO w b w1.heap.size n B0 [] none 0 [] (w1.alloc (.cells #[.int .u32 B0, .int .i64 n, .slice none 0 0] 31))) := Lib.hid ⟨At.new w1 31 [.int .u32 B0, .int .i64 n, .slice none 0 0], Nat.le_refl _, fun _ => rfl, Tw.nil _ _ _, Rel.nil _, r1.below hb1⟩
  clear r1 HN hb1
  go_wp2_with fail
  generalize w1.alloc (.cells #[.int .u32 B0, .int .i64 n, .slice none 0 0] 31) = w2 at *
  generalize w1.heap.size = xb at *
  go_loopw [10] (fun i wr => ∃ k : Nat, k ≤ m ∧ i = .int .i64 k ∧ ∃ B L A c M, BothO w b xb n B L A c M wr) (fun i _ => m - (intOf i).toNat)
  case atStart => exact ⟨0, by omega, rfl, _, _, _, _, _, R0.out⟩
  case round =>
    obtain ⟨k, hk, rfl, B, L, A1, c1, M, hbo⟩ := hrel
    have HBO := Lib.hid hbo
    have HLF : Hid (L.length ≤ 64) := Lib.hid (by have := hbo.2.2.2.2.2.few; omega)
    clear R0 hbo
    by_cases hlt : k < m
    · obtain ⟨ad, rfl, hx, hcs⟩ := HL.out.at_ hlt
      have hlt' : (k : Int) < (m : Int) := by omega
      have hk0 : (0 : Int) ≤ (k : Int) := Int.natCast_nonneg _
      have HCS := Lib.hid hcs
      have HU : Hid (U32 (dd_ ds k).x) := Lib.hid hx
      clear hcs hx
      generalize dd_ ds k = d at *
      obtain ⟨kd, x, s, z⟩ := d
      dsimp only at HU
      by_cases hbig : (100 : Int) < (s.size : Int)
      · obtain ⟨d0, d1, d2, d3⟩ := HCS.out _ HBO.out.2.2.2.2.2.bel
        dsimp only at d0 d1 d2 d3
        go_wp2_with fail
        go_roundw
        case rel => exact ⟨k + 1, by omega, by go_num, B, L, A1, c1, M, HBO.out⟩
        case measure => simp [intOf]; omega
      · by_cases hkd : kd = 0
        · subst hkd
          obtain ⟨L2, hL2⟩ : ∃ L2, putO B n L x s = L2 := ⟨_, rfl⟩
          obtain ⟨z2, hz2⟩ : ∃ z2, putE B n L x s = z2 := ⟨_, rfl⟩
          have HPO : Hid (∀ W, OB w W b B n L → Calls Try.prog 9 #[.pointer (some ⟨b, 0, none⟩), .int .u32 x, .string s] W fun e w' => e = .returned (.int .i64 z2) ∧ OB w w' b B n L2 ∧ KeepsO W w') := Lib.hid fun W g => by
            rw [← hL2, ← hz2]
            exact ob_put g x s HU.out
          have dw : Below wr.heap.size wr wr.drew := (Below.refl _ _).drew
          have al : Below wr.heap.size wr (wr.alloc (.cells #[.int .u32 0, .int .i64 0, .slice none 0 0] 31)).drew := ((Below.refl _ _).alloc (Nat.le_refl _) _).drew
          have HDO0 : Hid (Calls Try.prog 8 #[roV B n A1 M.length c1, .int .u32 x, .string s] wr.drew (GivesPt wr.drew B n L2 z2)) := Lib.hid (by
            have hbo := HBO.out.below dw
            rw [← hL2, ← hz2]
            exact rput_any B n A1 c1 L M x s wr.drew hbo.2.2.2.1 hbo.2.1 hbo.2.2.1 hbo.2.2.2.2.1 hbo.2.2.2.2.2.u32 HU.out HLF.out)
          have HDO1 : Hid (Calls Try.prog 8 #[roV B n A1 M.length c1, .int .u32 x, .string s] (wr.alloc (.cells #[.int .u32 0, .int .i64 0, .slice none 0 0] 31)).drew (GivesPt (wr.alloc (.cells #[.int .u32 0, .int .i64 0, .slice none 0 0] 31)).drew B n L2 z2)) := Lib.hid (by
            have hbo := HBO.out.below al
            rw [← hL2, ← hz2]
            exact rput_any B n A1 c1 L M x s (wr.alloc (.cells #[.int .u32 0, .int .i64 0, .slice none 0 0] 31)).drew hbo.2.2.2.1 hbo.2.1 hbo.2.2.1 hbo.2.2.2.2.1 hbo.2.2.2.2.2.u32 HU.out HLF.out)
          have HY1 : Hid (At (wr.alloc (.cells #[.int .u32 0, .int .i64 0, .slice none 0 0] 31)).drew wr.heap.size 31 [.int .u32 0, .int .i64 0, .slice none 0 0]) := Lib.hid (At.new wr 31 [.int .u32 0, .int .i64 0, .slice none 0 0])
          have HWB : Hid (xb ≠ wr.heap.size ∧ w.heap.size ≤ wr.heap.size) := Lib.hid ⟨by have := HBO.out.1.lt; omega, HBO.out.2.2.2.2.2.bel.size⟩
          have HA0 := Lib.hid (HBO.out.below dw)
          have HA1 := Lib.hid (HBO.out.below al)
          have KP : Hid (∀ V, Below wr.heap.size wr V → V.cell? ⟨xb, 0, none⟩ = some (.int .u32 B) ∧ V.cell? ⟨xb, 1, none⟩ = some (.int .i64 n) ∧ V.cell? ⟨xb, 2, none⟩ = some (.slice A1 M.length c1) ∧ DdAt V (ad.add (k * 4)) ⟨0, x, s, z⟩) := Lib.hid fun V hV => by
            have q := HBO.out.below hV
            exact ⟨q.1.cell 0 rfl, q.1.cell 1 rfl, q.1.cell 2 rfl, HCS.out _ q.2.2.2.2.2.bel⟩
          obtain ⟨p0, p1, p2, p3, p4, p5, p6⟩ := KP.out wr (Below.refl _ _)
          obtain ⟨l0, l1, l2, l3, l4, l5, l6⟩ := KP.out _ al
          obtain ⟨r0, r1, r2, r3, r4, r5, r6⟩ := KP.out _ dw
          dsimp only at p3 p4 p5 p6 l3 l4 l5 l6 r3 r4 r5 r6
          clear al dw hL2 hz2
          obtain ⟨Mid, hmid⟩ : ∃ Mid : Value → World → Prop, Mid = MidO w b xb n B L (roC B n A1 M.length c1) B L2 := ⟨_, rfl⟩
          have HMID := Lib.hid hmid
          clear hmid
          go_upto_region 14 with fail
          go_cut [11, 12] (fun u v wx => v = .int .i64 z2 ∧ Mid u wx)
          case first =>
            go_region_law (first
              | (go_simp; go_at_call 8; refine (HDO1.out).mono ?_; intro e w4 hp; obtain ⟨A2, c2, M2, rfl, hc2, hA2, hw2, hr2, kk⟩ := hp; have y4 := HY1.out.below kk HY1.out.lt; have e0 := y4.cell 0 rfl; have e1 := y4.cell 1 rfl; have e2 := y4.cell 2 rfl; have i0 := y4.free 0; have i1 := y4.free 1; have i2 := y4.free 2; have HF := Lib.hid (mid_one (.int .u32 B) (.int .i64 n) (.slice A2 M2.length c2) rfl rfl rfl HY1.out HA1.out.1 HA1.out.2.2.2.2.2 kk HWB.out.1 HWB.out.2 hc2 hA2 hw2 hr2); clear y4 kk hc2 hA2 hw2 hr2)
              | (go_simp; go_at_call 8; refine (HDO0.out).mono ?_; intro e w4 hp; obtain ⟨A2, c2, M2, rfl, hc2, hA2, hw2, hr2, kk⟩ := hp; have HF := Lib.hid (mid_two HA0.out.1 HA0.out.2.2.2.2.2 kk hc2 hA2 hw2 hr2); clear kk hc2 hA2 hw2 hr2))
            all_goals
              go_wp2_with fail
              go_meet
              rw [HMID.out]
              exact ⟨rfl, HF.out⟩
          case rest =>
            obtain ⟨rfl, hcut⟩ := hcut
            rw [HMID.out] at hcut
            obtain ⟨yb, A2, c2, M2, rfl, y2, a2, hc2, hA2, hw2, hr2, ob2⟩ := hcut
            have y0 := y2.cell 0 rfl
            have y1 := y2.cell 1 rfl
            have y3 := y2.cell 2 rfl
            have e0 := a2.cell 0 rfl
            have e1 := a2.cell 1 rfl
            have e2 := a2.cell 2 rfl
            have f0 := a2.free 0
            have f1 := a2.free 1
            have f2 := a2.free 2
            have HX5 := Lib.hid (oset3_at (x := .int .u32 B) (y := .int .i64 n) (z := .slice A2 M2.length c2) a2)
            have HW5 := Lib.hid (bw_oset3 (x := .int .u32 B) (y := .int .i64 n) (z := .slice A2 M2.length c2) hw2 a2)
            have HO5 := Lib.hid (ob2.oset3 (x := .int .u32 B) (y := .int .i64 n) (z := .slice A2 M2.length c2) a2 HXB.out)
            have HC5 := Lib.hid (And.intro hc2 (And.intro hA2 hr2))
            clear y2 a2 hc2 hA2 hw2 hr2 ob2 p0 p1 p2 p3 p4 p5 p6 l0 l1 l2 l3 l4 l5 l6 r0 r1 r2 r3 r4 r5 r6 HBO HDO0 HDO1 KP HA0 HA1 HY1
            go_upto_region 16 with fail
            change Code.wp _ _ _ _ (oset3 wc xb (.int .u32 B) (.int .i64 n) (.slice A2 M2.length c2))
            generalize oset3 wc xb (.int .u32 B) (.int .i64 n) (.slice A2 M2.length c2) = w5 at *
            clear y0 y1 y3 e0 e1 e2 f0 f1 f2
            obtain ⟨q0, q1, q2, q3⟩ := HCS.out _ HO5.out.bel
            dsimp only at q0 q1 q2 q3
            have QQ : Hid (OB w w5.drew b B n L ∧ Below w5.heap.size w5 w5.drew) := Lib.hid ⟨HO5.out.below (Below.refl _ _).drew, (Below.refl _ _).drew⟩
            obtain ⟨g0, g1, g2, g3⟩ := HCS.out _ QQ.out.1.bel
            dsimp only at g0 g1 g2 g3
            go_region_held3 (fun w' => w'.cell? ⟨(ad.add (k * 4)).block, (ad.add (k * 4)).off + 1, none⟩ = some (.int .u32 x) ∧ w'.cell? ⟨(ad.add (k * 4)).block, (ad.add (k * 4)).off + 2, none⟩ = some (.string s))
              (first | go_keep | exact KS.out)
              (((with_reducible refine (HPO.out _ QQ.out.1).mono ?_); rintro e w6 ⟨rfl, o6, k6⟩; have HO6 := Lib.hid o6; have HK6 := Lib.hid k6; have KS := Lib.hid (And.intro (HCS.out _ o6.bel).c1 (HCS.out _ o6.bel).c2); clear o6 k6))
            have HB6 : Hid (BothO w b xb n B L2 A2 c2 M2 w6) := Lib.hid ⟨HK6.out.at_ (HX5.out.below QQ.out.2 HX5.out.lt) ro_ne_o ro_ne_s, HC5.out.1, HC5.out.2.1, HK6.out.bw (Tw.below HW5.out QQ.out.2), HC5.out.2.2, HO6.out⟩
            clear HX5 HW5 HO5 HC5 HO6 HK6 QQ KS g0 g1 g2 g3 q0 q1 q2 q3
            go_upto_region 23 with fail
            have QQ : Hid (Below w6.heap.size w6 w6.drew) := Lib.hid (Below.refl w6.heap.size w6).drew
            have HBQ : Hid (∀ W, Below w6.heap.size w6 W → BothO w b xb n B L2 A2 c2 M2 W) := Lib.hid fun W g => HB6.out.below g
            have KP : Hid (∀ W, Below w6.heap.size w6 W → W.cell? ⟨xb, 0, none⟩ = some (.int .u32 B) ∧ W.cell? ⟨xb, 1, none⟩ = some (.int .i64 n) ∧ W.cell? ⟨xb, 2, none⟩ = some (.slice A2 M2.length c2) ∧ W.cell? ⟨(ad.add (k * 4)).block, (ad.add (k * 4)).off + 1, none⟩ = some (.int .u32 x)) := Lib.hid fun W g => by
              have q := HBQ.out W g
              exact ⟨q.1.cell 0 rfl, q.1.cell 1 rfl, q.1.cell 2 rfl, (HCS.out _ q.2.2.2.2.2.bel).c1⟩
            have H1 := Lib.hid (fun W g => ob_base (HBQ.out W g).2.2.2.2.2)
            have H2 : Hid (∀ W, Below w6.heap.size w6 W → Calls Try.prog 13 #[.pointer (some ⟨b, 0, none⟩)] W fun e w' => e = .returned (.int .i64 (M2.length : Nat)) ∧ W = w') := Lib.hid fun W g => by
              have q := HBQ.out W g
              rw [q.2.2.2.2.1.count]
              exact ob_len q.2.2.2.2.2
            have H3 := Lib.hid (fun W g => ob_has (HBQ.out W g).2.2.2.2.2 x HU.out)
            have H4 := Lib.hid (fun W g => rhas_any B n A2 c2 L2 M2 x W (HBQ.out W g).2.2.2.1 (HBQ.out W g).2.2.2.2.1 (HBQ.out W g).2.2.2.2.2.u32 HU.out (by have := (HBQ.out W g).2.2.2.2.2.few; omega))
            generalize hasO B L2 x = t at *
            obtain ⟨k0, k1, k2, k3⟩ := KP.out w6.drew QQ.out
            generalize hml : M2.length = m2 at *
            have HML := Lib.hid hml
            clear hml
            go_region_held3 (fun w' => w'.cell? ⟨xb, 0, none⟩ = some (.int .u32 B) ∧ w'.cell? ⟨xb, 1, none⟩ = some (.int .i64 n) ∧ w'.cell? ⟨xb, 2, none⟩ = some (.slice A2 m2 c2) ∧ w'.cell? ⟨(ad.add (k * 4)).block, (ad.add (k * 4)).off + 1, none⟩ = some (.int .u32 x))
              (first | go_keep | with_reducible exact KP.out _ QQ.out)
              (first
              | ((with_reducible refine (H1.out _ QQ.out).mono ?_); rintro e wq ⟨rfl, rfl⟩)
              | ((with_reducible refine (H2.out _ QQ.out).mono ?_); rintro e wq ⟨rfl, rfl⟩)
              | ((with_reducible refine (H3.out _ QQ.out).mono ?_); rintro e wq ⟨rfl, gq⟩; have QN := Lib.hid (QQ.out.trans ((two_drawn (B := wq.heap.size) gq).mono (by obtain ⟨q, rfl⟩ := gq; exact QQ.out.size))); clear gq QQ; have QQ := QN; clear QN)
              | ((with_reducible refine (H4.out _ QQ.out).mono ?_); rintro e wq ⟨rfl, gq⟩; have QN := Lib.hid (QQ.out.trans (gq.mono QQ.out.size)); clear gq QQ; have QQ := QN; clear QN))
            go_wp2_with fail
            go_roundw
            case rel => exact ⟨k + 1, by omega, by go_num, B, L2, A2, c2, M2, HBQ.out _ QQ.out⟩
            case measure => simp [intOf]; omega
        · have hkd' : (kd == 0) = false := by simpa using hkd
          clear hkd
          obtain ⟨L2, hL2⟩ : ∃ L2, nxL L z = L2 := ⟨_, rfl⟩
          obtain ⟨B2, hB2⟩ : ∃ B2, nxBs B L z = B2 := ⟨_, rfl⟩
          obtain ⟨s2, hs2⟩ : ∃ s2, nxS L z = s2 := ⟨_, rfl⟩
          obtain ⟨is2, his2⟩ : ∃ is2, nxO L z = is2 := ⟨_, rfl⟩
          have HPO : Hid (∀ W, OB w W b B n L → Calls Try.prog 11 #[.pointer (some ⟨b, 0, none⟩), .int .i64 z] W fun e w' => e = .returned (.tuple #[.string s2, .bool is2]) ∧ OB w w' b B2 n L2 ∧ KeepsO W w') := Lib.hid fun W g => by
            rw [← hL2, ← hB2, ← hs2, ← his2]
            exact ob_next g z
          have dw : Below wr.heap.size wr wr.drew := (Below.refl _ _).drew
          have al : Below wr.heap.size wr (wr.alloc (.cells #[.int .u32 0, .int .i64 0, .slice none 0 0] 31)).drew := ((Below.refl _ _).alloc (Nat.le_refl _) _).drew
          have HDO0 : Hid (Calls Try.prog 10 #[roV B n A1 M.length c1, .int .i64 z] wr.drew (GivesNt wr.drew B2 n L2 s2 is2)) := Lib.hid (by
            have hbo := HBO.out.below dw
            rw [← hL2, ← hB2, ← hs2, ← his2]
            exact rnext_any B n A1 c1 L M z wr.drew hbo.2.2.2.1 hbo.2.1 hbo.2.2.1 hbo.2.2.2.2.1 hbo.2.2.2.2.2.u32 HLF.out)
          have HDO1 : Hid (Calls Try.prog 10 #[roV B n A1 M.length c1, .int .i64 z] (wr.alloc (.cells #[.int .u32 0, .int .i64 0, .slice none 0 0] 31)).drew (GivesNt (wr.alloc (.cells #[.int .u32 0, .int .i64 0, .slice none 0 0] 31)).drew B2 n L2 s2 is2)) := Lib.hid (by
            have hbo := HBO.out.below al
            rw [← hL2, ← hB2, ← hs2, ← his2]
            exact rnext_any B n A1 c1 L M z (wr.alloc (.cells #[.int .u32 0, .int .i64 0, .slice none 0 0] 31)).drew hbo.2.2.2.1 hbo.2.1 hbo.2.2.1 hbo.2.2.2.2.1 hbo.2.2.2.2.2.u32 HLF.out)
          have HY1 : Hid (At (wr.alloc (.cells #[.int .u32 0, .int .i64 0, .slice none 0 0] 31)).drew wr.heap.size 31 [.int .u32 0, .int .i64 0, .slice none 0 0]) := Lib.hid (At.new wr 31 [.int .u32 0, .int .i64 0, .slice none 0 0])
          have HWB : Hid (xb ≠ wr.heap.size ∧ w.heap.size ≤ wr.heap.size) := Lib.hid ⟨by have := HBO.out.1.lt; omega, HBO.out.2.2.2.2.2.bel.size⟩
          have HA0 := Lib.hid (HBO.out.below dw)
          have HA1 := Lib.hid (HBO.out.below al)
          have KP : Hid (∀ V, Below wr.heap.size wr V → V.cell? ⟨xb, 0, none⟩ = some (.int .u32 B) ∧ V.cell? ⟨xb, 1, none⟩ = some (.int .i64 n) ∧ V.cell? ⟨xb, 2, none⟩ = some (.slice A1 M.length c1) ∧ DdAt V (ad.add (k * 4)) ⟨kd, x, s, z⟩) := Lib.hid fun V hV => by
            have q := HBO.out.below hV
            exact ⟨q.1.cell 0 rfl, q.1.cell 1 rfl, q.1.cell 2 rfl, HCS.out _ q.2.2.2.2.2.bel⟩
          obtain ⟨p0, p1, p2, p3, p4, p5, p6⟩ := KP.out wr (Below.refl _ _)
          obtain ⟨l0, l1, l2, l3, l4, l5, l6⟩ := KP.out _ al
          obtain ⟨r0, r1, r2, r3, r4, r5, r6⟩ := KP.out _ dw
          dsimp only at p3 p4 p5 p6 l3 l4 l5 l6 r3 r4 r5 r6
          clear al dw hL2 hB2 hs2 his2
          obtain ⟨Mid, hmid⟩ : ∃ Mid : Value → World → Prop, Mid = MidO w b xb n B L (roC B n A1 M.length c1) B2 L2 := ⟨_, rfl⟩
          have HMID := Lib.hid hmid
          clear hmid
          go_upto_region 18 with fail
          go_cut [13, 14, 15] (fun u v o wx => v = .string s2 ∧ o = .bool is2 ∧ Mid u wx)
          case first =>
            go_region_law (first
              | (go_simp; go_at_call 10; refine (HDO1.out).mono ?_; intro e w4 hp; obtain ⟨A2, c2, M2, rfl, hc2, hA2, hw2, hr2, kk⟩ := hp; have y4 := HY1.out.below kk HY1.out.lt; have e0 := y4.cell 0 rfl; have e1 := y4.cell 1 rfl; have e2 := y4.cell 2 rfl; have i0 := y4.free 0; have i1 := y4.free 1; have i2 := y4.free 2; have HF := Lib.hid (mid_one (.int .u32 B2) (.int .i64 n) (.slice A2 M2.length c2) rfl rfl rfl HY1.out HA1.out.1 HA1.out.2.2.2.2.2 kk HWB.out.1 HWB.out.2 hc2 hA2 hw2 hr2); clear y4 kk hc2 hA2 hw2 hr2)
              | (go_simp; go_at_call 10; refine (HDO0.out).mono ?_; intro e w4 hp; obtain ⟨A2, c2, M2, rfl, hc2, hA2, hw2, hr2, kk⟩ := hp; have HF := Lib.hid (mid_two HA0.out.1 HA0.out.2.2.2.2.2 kk hc2 hA2 hw2 hr2); clear kk hc2 hA2 hw2 hr2))
            all_goals
              go_wp2_with fail
              go_meet
              rw [HMID.out]
              exact ⟨rfl, rfl, HF.out⟩
          case rest =>
            obtain ⟨rfl, rfl, hcut⟩ := hcut
            rw [HMID.out] at hcut
            obtain ⟨yb, A2, c2, M2, rfl, y2, a2, hc2, hA2, hw2, hr2, ob2⟩ := hcut
            have y0 := y2.cell 0 rfl
            have y1 := y2.cell 1 rfl
            have y3 := y2.cell 2 rfl
            have e0 := a2.cell 0 rfl
            have e1 := a2.cell 1 rfl
            have e2 := a2.cell 2 rfl
            have f0 := a2.free 0
            have f1 := a2.free 1
            have f2 := a2.free 2
            have HX5 := Lib.hid (oset3_at (x := .int .u32 B2) (y := .int .i64 n) (z := .slice A2 M2.length c2) a2)
            have HW5 := Lib.hid (bw_oset3 (x := .int .u32 B2) (y := .int .i64 n) (z := .slice A2 M2.length c2) hw2 a2)
            have HO5 := Lib.hid (ob2.oset3 (x := .int .u32 B2) (y := .int .i64 n) (z := .slice A2 M2.length c2) a2 HXB.out)
            have HC5 := Lib.hid (And.intro hc2 (And.intro hA2 hr2))
            clear y2 a2 hc2 hA2 hw2 hr2 ob2 p0 p1 p2 p3 p4 p5 p6 l0 l1 l2 l3 l4 l5 l6 r0 r1 r2 r3 r4 r5 r6 HBO HDO0 HDO1 KP HA0 HA1 HY1
            go_upto_region 20 with fail
            change Code.wp _ _ _ _ (oset3 wc xb (.int .u32 B2) (.int .i64 n) (.slice A2 M2.length c2))
            generalize oset3 wc xb (.int .u32 B2) (.int .i64 n) (.slice A2 M2.length c2) = w5 at *
            clear y0 y1 y3 e0 e1 e2 f0 f1 f2
            obtain ⟨q0, q1, q2, q3⟩ := HCS.out _ HO5.out.bel
            dsimp only at q0 q1 q2 q3
            have hss : (s2.toList == s2.toList) = true := by simp
            go_wp2_with fail
            refine (HPO.out _ HO5.out).mono ?_; rintro e w6 ⟨rfl, o6, k6⟩
            have HO6 := Lib.hid o6
            have HK6 := Lib.hid k6
            clear o6 k6
            have HB6 : Hid (BothO w b xb n B2 L2 A2 c2 M2 w6) := Lib.hid ⟨HK6.out.at_ HX5.out ro_ne_o ro_ne_s, HC5.out.1, HC5.out.2.1, HK6.out.bw HW5.out, HC5.out.2.2, HO6.out⟩
            clear HX5 HW5 HO5 HC5 HO6 HK6 q0 q1 q2 q3
            go_upto_region 23 with fail
            have QQ : Hid (Below w6.heap.size w6 w6.drew) := Lib.hid (Below.refl w6.heap.size w6).drew
            have HBQ : Hid (∀ W, Below w6.heap.size w6 W → BothO w b xb n B2 L2 A2 c2 M2 W) := Lib.hid fun W g => HB6.out.below g
            have KP : Hid (∀ W, Below w6.heap.size w6 W → W.cell? ⟨xb, 0, none⟩ = some (.int .u32 B2) ∧ W.cell? ⟨xb, 1, none⟩ = some (.int .i64 n) ∧ W.cell? ⟨xb, 2, none⟩ = some (.slice A2 M2.length c2) ∧ W.cell? ⟨(ad.add (k * 4)).block, (ad.add (k * 4)).off + 1, none⟩ = some (.int .u32 x)) := Lib.hid fun W g => by
              have q := HBQ.out W g
              exact ⟨q.1.cell 0 rfl, q.1.cell 1 rfl, q.1.cell 2 rfl, (HCS.out _ q.2.2.2.2.2.bel).c1⟩
            have H1 := Lib.hid (fun W g => ob_base (HBQ.out W g).2.2.2.2.2)
            have H2 : Hid (∀ W, Below w6.heap.size w6 W → Calls Try.prog 13 #[.pointer (some ⟨b, 0, none⟩)] W fun e w' => e = .returned (.int .i64 (M2.length : Nat)) ∧ W = w') := Lib.hid fun W g => by
              have q := HBQ.out W g
              rw [q.2.2.2.2.1.count]
              exact ob_len q.2.2.2.2.2
            have H3 := Lib.hid (fun W g => ob_has (HBQ.out W g).2.2.2.2.2 x HU.out)
            have H4 := Lib.hid (fun W g => rhas_any B2 n A2 c2 L2 M2 x W (HBQ.out W g).2.2.2.1 (HBQ.out W g).2.2.2.2.1 (HBQ.out W g).2.2.2.2.2.u32 HU.out (by have := (HBQ.out W g).2.2.2.2.2.few; omega))
            generalize hasO B2 L2 x = t at *
            obtain ⟨k0, k1, k2, k3⟩ := KP.out w6.drew QQ.out
            generalize hml : M2.length = m2 at *
            have HML := Lib.hid hml
            clear hml
            go_region_held3 (fun w' => w'.cell? ⟨xb, 0, none⟩ = some (.int .u32 B2) ∧ w'.cell? ⟨xb, 1, none⟩ = some (.int .i64 n) ∧ w'.cell? ⟨xb, 2, none⟩ = some (.slice A2 m2 c2) ∧ w'.cell? ⟨(ad.add (k * 4)).block, (ad.add (k * 4)).off + 1, none⟩ = some (.int .u32 x))
              (first | go_keep | with_reducible exact KP.out _ QQ.out)
              (first
              | ((with_reducible refine (H1.out _ QQ.out).mono ?_); rintro e wq ⟨rfl, rfl⟩)
              | ((with_reducible refine (H2.out _ QQ.out).mono ?_); rintro e wq ⟨rfl, rfl⟩)
              | ((with_reducible refine (H3.out _ QQ.out).mono ?_); rintro e wq ⟨rfl, gq⟩; have QN := Lib.hid (QQ.out.trans ((two_drawn (B := wq.heap.size) gq).mono (by obtain ⟨q, rfl⟩ := gq; exact QQ.out.size))); clear gq QQ; have QQ := QN; clear QN)
              | ((with_reducible refine (H4.out _ QQ.out).mono ?_); rintro e wq ⟨rfl, gq⟩; have QN := Lib.hid (QQ.out.trans (gq.mono QQ.out.size)); clear gq QQ; have QQ := QN; clear QN))
            go_wp2_with fail
            go_roundw
            case rel => exact ⟨k + 1, by omega, by go_num, B2, L2, A2, c2, M2, HBQ.out _ QQ.out⟩
            case measure => simp [intOf]; omega
    · obtain rfl : k = m := by omega
      go_wp2_with fail
      refine (or_awake_any _).mono ?_; rintro e w3 ⟨rfl, g3⟩
      have R4 := Lib.hid (HBO.out.2.2.2.2.2.below g3)
      clear g3
      go_wp2_with fail
      go_ret
      exact ⟨rfl, R4.out.bel⟩
set_option maxRecDepth 100000 in
set_option maxHeartbeats 1600000 in
theorem or_play_walk (B0 z : Int) (A : Option Addr) (m c : Nat) (ds : List Dd) (w : World) (hd : Dds w A m ds) (hB : (Lit.int .u32 B0).wf = true) :
    Calls Try.prog 3 #[.int .u32 B0, .int .i64 z, .slice A m c] w fun e w' => e = .returned (.bool true) ∧ Below w.heap.size w w' := by
  by_cases hm : (m : Int) ≤ 80
  · by_cases hz : 1 ≤ z ∧ z ≤ 64
    · exact or_play_main B0 z A m c ds w hm hd (u32_of hB) hz.1 hz.2
    · have HO := Lib.hid (fun W => or_new_bad B0 z W (by omega))
      clear hd hB
      by_cases h1 : z < 1
      · clear hz
        go_enter Try.func3, Try.ntmps3
        go_wp2_with fail
        refine (HO.out _).mono ?_; rintro e w1 ⟨rfl, rfl⟩
        go_wp2_with fail
        refine (or_awake_any _).mono ?_; rintro e w2 ⟨rfl, g2⟩
        have G2 := Lib.hid g2
        clear g2
        go_wp2_with fail
        go_ret
        exact ⟨rfl, G2.out⟩
      · have h2 : (64 : Int) < z := by omega
        clear hz
        go_enter Try.func3, Try.ntmps3
        go_wp2_with fail
        refine (HO.out _).mono ?_; rintro e w1 ⟨rfl, rfl⟩
        go_wp2_with fail
        refine (or_awake_any _).mono ?_; rintro e w2 ⟨rfl, g2⟩
        have G2 := Lib.hid g2
        clear g2
        go_wp2_with fail
        go_ret
        exact ⟨rfl, G2.out⟩
  · have h' : (80 : Int) < (m : Int) := by omega
    clear hd hm hB
    go_enter Try.func3, Try.ntmps3
    go_wp2_with fail
    refine (or_awake_any _).mono ?_; rintro e w2 ⟨rfl, g2⟩
    have G2 := Lib.hid g2
    clear g2
    go_wp2_with fail
    go_ret
    exact ⟨rfl, G2.out⟩
end Go.Proofs.Ytifekpdjenfnbaa

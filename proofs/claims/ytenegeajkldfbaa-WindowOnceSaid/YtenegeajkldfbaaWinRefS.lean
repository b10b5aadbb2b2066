/- Proved: what the document's Slide of windows answers. Conditions: those that the theorems name. -/
import Derived.Test.YtenegeajkldfbaaWinRefM
namespace Go.Proofs.Ytenegeajkldfbaa
open Go.ChangeShapes Go.WideShapes Go.ChangeAt Go.RowKit

theorem res_rslide {T : Array Value} {W : World} {b n k c : Nat} {B z : Int} {A : Option Addr} (h2 : T.getD 4 undef = .pointer (some ⟨b, 0, none⟩)) (h3 : T.getD 5 undef = .int .i64 z) (h : At W b 31 (rwC B n A k c)) : (results Try.f10 T).run Try.prog W = .ok (.tuple #[rwV B n A k c, .int .i64 z]) W := by
  have h2' : T[4]?.getD undef = .pointer (some ⟨b, 0, none⟩) := by simpa using h2
  have h3' : T[5]?.getD undef = .int .i64 z := by simpa using h3
  have c0 := h.cell 0 rfl
  have c1 := h.cell 1 rfl
  have c2 := h.cell 2 rfl
  simp [results, Try.results10, h2', h3', c0, c1, c2, go_sem]
theorem take_more {l : List Int} {j : Nat} (h : j < l.length) : l.take (j + 1) = l.take j ++ [l.getD j 0] := by
  rw [List.take_add_one, List.getElem?_eq_getElem h, List.getD_eq_getElem?_getD, List.getElem?_eq_getElem h]; rfl
theorem drop_hit {l : List Int} {j : Nat} {y : Int} (h : j < l.length) (e : l.getD j 0 = y) : dropX (l.take (j + 1)) y = dropX (l.take j) y := by
  rw [take_more h, e]
  unfold dropX
  rw [List.filter_append]
  simp
theorem drop_miss {l : List Int} {j : Nat} {x y : Int} (h : j < l.length) (e : l.getD j 0 = x) (hne : x ≠ y) : dropX (l.take (j + 1)) y = dropX (l.take j) y ++ [x] := by
  rw [take_more h, e]
  unfold dropX
  rw [List.filter_append]
  simp [hne]
/-- What the outer loop holds. -/
def RsAt (w : World) (B : Int) (n : Nat) (l : List Int) (k : Nat) (wr : World) : Prop :=
  ∃ A c, At wr w.heap.size 31 (rwC (wpl B k) n A (keepL B l k).length c) ∧ (keepL B l k).length ≤ c ∧ (A = none → c = 0) ∧ Uw wr A (keepL B l k).length (keepL B l k) ∧ At wr (w.heap.size + 1) 31 [.int .u32 0, .int .i64 0, .slice none 0 0] ∧ Below w.heap.size w wr
set_option maxRecDepth 100000 in
set_option maxHeartbeats 3200000 in
theorem rslide_any (B : Int) (n : Nat) (A : Option Addr) (k c : Nat) (l : List Int) (most : Int) (w : World) (hl : Uw w A k l) (hc : k ≤ c) (hA : A = none → c = 0) (hn : k ≤ 500) (hO : WOk B n l) :
    Calls Try.prog 10 #[rwV B n A k c, .int .i64 most] w (GivesW w (wpl B (slK B l most)) n (keepL B l (slK B l most)) (slK B l most : Nat)) := by
  obtain ⟨W, HW, A1, A2, B1, hs⟩ := wboxes B n A k c w
  have HO := Lib.hid hO
  have HS0 : Hid (l.length ≤ 500 ∧ w.heap.size + 2 ≤ W.heap.size) := Lib.hid ⟨by rw [hl.len]; exact hn, by omega⟩
  have hR : RsAt w B n l 0 W := by
    obtain rfl := hl.len
    refine ⟨A, c, ?_, ?_, hA, ?_, A2, B1⟩
    · rw [wpl_zero hO.base, keep_zero]; exact A1
    · rw [keep_zero]; exact hc
    · rw [keep_zero]; exact hl.below B1
  have HR := Lib.hid hR
  clear A1 A2 B1 hl hc hA hs hO hn hR
  go_enter Try.func10, Try.ntmps10
  go_wp2_with fail
  rw [← HW]; clear HW
  go_loopw [6] (fun i wr => ∃ k : Nat, i = .int .i64 k ∧ (∀ j, j < k → (j : Int) < most ∧ wpl B j ∈ l) ∧ RsAt w B n l k wr) (fun i _ => 64 - (intOf i).toNat)
  case atStart => exact ⟨0, rfl, fun j hj => absurd hj (by omega), HR.out⟩
  case round =>
    obtain ⟨k, rfl, hls, A, c, ha1, hc, hA, hu, ha2, hb⟩ := hrel
    have HS := Lib.hid hls
    have HA1 := Lib.hid ha1
    have HA2 := Lib.hid ha2
    have HU := Lib.hid hu
    have HB := Lib.hid hb
    have HC := Lib.hid (And.intro hc hA)
    have hk64 : k ≤ 64 := Nat.le_trans (HO.out.sl_low fun j hj => (hls j hj).2) HO.out.high
    have hk0 : (0 : Int) ≤ (k : Int) := Int.natCast_nonneg _
    have hpl : (keepL B l k).length ≤ 500 := Nat.le_trans (keep_len B l k) HS0.out.1
    have c0 := ha1.cell 0 rfl
    have c2 := ha1.cell 2 rfl
    clear hls ha1 ha2 hu hb hc hA HR
    by_cases hm : (k : Int) < most
    · have HI := Lib.hid (rin_any A (keepL B l k).length c (keepL B l k) (wpl B k) wr HU.out (by omega))
      have HX := Lib.hid (wpl_next B k)
      by_cases hin : wpl B k ∈ l
      · have hin2 : decide (wpl B k ∈ keepL B l k) = true := decide_eq_true ((keep_mem (by omega)).2 hin)
        rw [hin2] at HI
        have HKS := Lib.hid (keep_step (B := B) (L := l) (k := k) HO.out.u32 (by omega))
        have HIN := Lib.hid hin
        have HMM := Lib.hid hm
        have HLT : Hid (k < 64) := Lib.hid (by have := HO.out.at_ (i := k) (by omega) hin; have := HO.out.high; omega)
        have HG : Hid (∀ W2 A2 c2, At W2 w.heap.size 31 (rwC (wpl B (k + 1)) n A2 (keepL B l (k + 1)).length c2) → (keepL B l (k + 1)).length ≤ c2 → (A2 = none → c2 = 0) → Uw W2 A2 (keepL B l (k + 1)).length (keepL B l (k + 1)) → At W2 (w.heap.size + 1) 31 [.int .u32 0, .int .i64 0, .slice none 0 0] → Below w.heap.size w W2 → RsAt w B n l (k + 1) W2) := Lib.hid fun W2 A2 c2 q1 q2 q3 q4 q5 q6 => ⟨A2, c2, q1, q2, q3, q4, q5, q6⟩
        rw [← HX.out, ← HKS.out] at HG
        have HY := Lib.hid (show wpl B k = wpl B k from rfl)
        generalize hp : keepL B l k = p at HA1 HU HC hpl HI HG c2 ⊢
        generalize hy : wpl B k = y at HA1 HI HG c0 ⊢
        have HE := Lib.hid hy
        clear hp hy hin2 hin HKS HX HY
        go_wp2_with fail
        refine HI.out.mono ?_; rintro e w1 ⟨rfl, rfl⟩
        go_wp2_with fail
        obtain ⟨bb, hbb⟩ : ∃ bb, wr.heap.size = bb := ⟨_, rfl⟩
        have HZ : Hid (bb ≤ wr.heap.size) := Lib.hid (by omega)
        have HBB : Hid (w.heap.size + 2 ≤ bb) := Lib.hid (by have := HA2.out.lt; omega)
        have HUL : Hid (∀ ad, A = some ad → 0 < p.length → ad.block < bb) := Lib.hid (by rw [← hbb]; exact HU.out.lt)
        clear HI c0 c2 hbb
        go_loopw [7, 8] (fun v i wi => ∃ j : Nat, j ≤ p.length ∧ i = .int .i64 j ∧ wi.ownsRow bb 22 1 v (dropX (p.take j) y).length (ucells (dropX (p.take j) y)) ∧ At wi w.heap.size 31 (rwC y n A p.length c) ∧ At wi (w.heap.size + 1) 31 [.int .u32 0, .int .i64 0, .slice none 0 0] ∧ Uw wi A p.length p ∧ Below w.heap.size w wi ∧ bb ≤ wi.heap.size) (fun _ i _ => p.length - (intOf i).toNat)
        case atStart => exact ⟨0, by omega, rfl, World.ownsRow_nil _ _ _ _, HA1.out, HA2.out, HU.out, HB.out, HZ.out⟩
        case round =>
          obtain ⟨j, hj, rfl, hown, ha1, ha2, hu, hb, hz⟩ := hrel
          have HO1 := Lib.hid hown
          have HA3 := Lib.hid ha1
          have HA4 := Lib.hid ha2
          have HU3 := Lib.hid hu
          have HB3 := Lib.hid hb
          have HZ3 := Lib.hid hz
          have c0 := ha1.cell 0 rfl
          have c2 := ha1.cell 2 rfl
          have hj0 : (0 : Int) ≤ (j : Int) := Int.natCast_nonneg _
          clear hown ha1 ha2 hu hb hz HA1 HA2 HU HB HZ
          by_cases hlt : j < p.length
          · obtain ⟨ad, rfl, had, d0⟩ := HU3.out.at_ hlt
            have hlt' : (j : Int) < (p.length : Int) := by omega
            have HX := Lib.hid (show p.getD j 0 = p.getD j 0 from rfl)
            generalize hx : p.getD j 0 = x at d0 HX
            by_cases e : x = y
            · have HD := Lib.hid (drop_hit hlt (hx.trans e))
              have e2 : (x == y) = true := by simpa using e
              have e3 : (x != y) = false := by simp [e]
              clear hx HX e
              go_wp2_with fail
              go_quiet (fail)
              go_wp2_with fail
              go_roundw
              case rel => exact ⟨j + 1, by omega, by go_num, by rw [HD.out]; exact HO1.out.kept (grown_drewN wr nq none) (Classical.em _), HA3.out.kept (grown_drewN wr nq none) (by simp), HA4.out.kept (grown_drewN wr nq none) (by simp), HU3.out.below (below_grown (grown_drewN wr nq none) (Nat.le_refl _) (by simp)), HB3.out.grown (grown_drewN wr nq none) HB3.out.size (by simp), HZ3.out⟩
              case measure => simp [intOf]; omega
            · have HD := Lib.hid (drop_miss hlt hx e)
              have HQ : Hid ((dropX (p.take j) y).length ≤ 500) := Lib.hid (by
                have := drop_len1 (p.take j) y
                rw [List.length_take] at this
                omega)
              have e2 : (x == y) = false := by simpa using e
              have e3 : (x != y) = true := by simp [e]
              generalize dropX (p.take j) y = q at *
              clear hx HX e
              go_wp2_with fail
              go_quiet (fail)
              have HA5 := Lib.hid (HA3.out.kept (grown_drewN wr nq none) (by simp))
              have HA6 := Lib.hid (HA4.out.kept (grown_drewN wr nq none) (by simp))
              have HU5 := Lib.hid (HU3.out.below (below_grown (grown_drewN wr nq none) (Nat.le_refl _) (by simp)))
              have HB5 := Lib.hid (HB3.out.grown (grown_drewN wr nq none) HB3.out.size (by simp))
              have HO5 : Hid ((wr.drewN nq).ownsRow bb 22 1 u7 q.length (ucells q)) := Lib.hid (HO1.out.kept (grown_drewN wr nq none) (Classical.em _))
              have HZ5 : Hid (bb ≤ (wr.drewN nq).heap.size) := Lib.hid HZ3.out
              have f2 := HA5.out.cell 2 rfl
              have f0 : (wr.drewN nq).cell? (ad.add j) = some (.int .u32 x) := d0
              clear HA3 HA4 HU3 HB3 HO1 HZ3 c0 c2 d0
              generalize wr.drewN nq = w2 at *
              have hg7 := World.grownBy_alloc w2 (.cells #[.int .u32 x] 22) none
              have HO7 := Lib.hid (HO5.out.alloc (.cells #[.int .u32 x] 22))
              have HA7 := Lib.hid (HA5.out.kept hg7 (by simp))
              have HA8 := Lib.hid (HA6.out.kept hg7 (by simp))
              have HU7 := Lib.hid (HU5.out.below (below_grown hg7 (Nat.le_refl _) (by simp)))
              have HB7 := Lib.hid (HB5.out.grown hg7 HB5.out.size (by simp))
              have hz7 : bb ≤ (w2.alloc (.cells #[.int .u32 x] 22)).heap.size := Nat.le_trans HZ5.out hg7.size
              have HC7 := Lib.hid (uw_one w2 x)
              have HR7 : Hid (∀ g, u7.ownBlock = some g → bb ≤ g) := Lib.hid fun g e => (HO5.out.lt g e).1
              have hq := HQ.out
              clear hg7 HA5 HA6 HU5 HB5 HO5 HZ5
              go_wp2_with (at_builtin; refine uw_append rfl _ _ rfl bb _ _ q rfl HO7.out _ 1 1 [x] rfl HC7.out (fun e => nomatch e) (by omega) hz7 ?_; intro v9 w9 hown9 hg9; have HO9 := Lib.hid hown9; have HG9 := Lib.hid hg9; have HZ9 := Lib.hid hz7; clear hown9 hg9)
              go_roundw
              case rel =>
                refine ⟨j + 1, by omega, by go_num, by rw [HD.out, List.length_append]; exact HO9.out, HA7.out.kept HG9.out (fun e => by have := HR7.out _ e; have := HBB.out; omega), HA8.out.kept HG9.out (fun e => by have := HR7.out _ e; have := HBB.out; omega), HU7.out.far HG9.out HR7.out HUL.out, HB7.out.grown HG9.out HB7.out.size (fun g e => by have := HR7.out _ e; have := HBB.out; omega), Nat.le_trans HZ9.out HG9.out.size⟩
              case measure => simp [intOf]; omega
          · obtain rfl : j = p.length := by omega
            obtain ⟨A5, c5, rfl, hc5, hA5, hu5⟩ := uw_of HO1.out
            have ht : p.take p.length = p := List.take_length
            rw [ht] at hc5 hu5
            have HU5 := Lib.hid hu5
            have HC5 := Lib.hid (And.intro hc5 hA5)
            have f2 := HA3.out.free 2
            have f0 := HA3.out.free 0
            clear hc5 hA5 hu5
            go_wp2_with fail
            go_roundw
            case rel =>
              refine ⟨k + 1, by go_num, fun j hj => ?_, HG.out _ A5 c5 ((HA3.out.set_ 2 _).set_ 0 _) HC5.out.1 HC5.out.2 (uw_set (uw_set HU5.out HA3.out u32_ne_w 2 _) (HA3.out.set_ 2 _) u32_ne_w 0 _) ((HA4.out.far (p := ⟨w.heap.size, 2, none⟩) (by show w.heap.size + 1 ≠ w.heap.size; omega) _).far (p := ⟨w.heap.size, 0, none⟩) (by show w.heap.size + 1 ≠ w.heap.size; omega) _) (below_set (below_set HB3.out (Nat.le_refl _) (Nat.le_refl _)) (Nat.le_refl _) (Nat.le_refl _))⟩
              rcases Nat.lt_or_ge j k with q | q
              · exact HS.out j q
              · obtain rfl : j = k := by omega
                exact ⟨HMM.out, HIN.out⟩
            case measure => simp [intOf]; have := HLT.out; omega
      · have hin2 : decide (wpl B k ∈ keepL B l k) = false := decide_eq_false fun e => hin ((keep_mem (by omega)).1 e)
        rw [hin2] at HI
        have HK : Hid (slK B l most = k) := Lib.hid ((HO.out.sl most).only ⟨HS.out, fun e => hin e.2⟩)
        have c1 := HA1.out.cell 1 rfl
        have x0 := HA2.out.cell 0 rfl
        have x1 := HA2.out.cell 1 rfl
        have x2 := HA2.out.cell 2 rfl
        have y0 := HA2.out.free 0
        have y1 := HA2.out.free 1
        have y2 := HA2.out.free 2
        clear hin hin2 HX
        generalize hp : keepL B l k = p at *
        generalize hy : wpl B k = y at *
        have HPE := Lib.hid (And.intro hp hy)
        clear hp hy
        go_wp2_with fail
        refine HI.out.mono ?_; rintro e w1 ⟨rfl, rfl⟩
        go_wp2_with fail
        rw [HK.out, HPE.out.1, HPE.out.2]
        exact bodyPost_ret (v := .tuple #[rwV y n A p.length c, .int .i64 (k : Nat)]) (res_rslide rfl rfl (wset3_at HA2.out)) rfl ⟨A, c, rfl, HC.out.1, HC.out.2, uw_wset3 HU.out HA2.out, wset3_below HB.out (by omega)⟩
    · have HK : Hid (slK B l most = k) := Lib.hid ((HO.out.sl most).only ⟨HS.out, fun e => hm e.1⟩)
      have c1 := HA1.out.cell 1 rfl
      have x0 := HA2.out.cell 0 rfl
      have x1 := HA2.out.cell 1 rfl
      have x2 := HA2.out.cell 2 rfl
      have y0 := HA2.out.free 0
      have y1 := HA2.out.free 1
      have y2 := HA2.out.free 2
      generalize hp : keepL B l k = p at *
      generalize hy : wpl B k = y at *
      have HPE := Lib.hid (And.intro hp hy)
      clear hp hy
      go_wp2_with fail
      rw [HK.out, HPE.out.1, HPE.out.2]
      exact bodyPost_ret (v := .tuple #[rwV y n A p.length c, .int .i64 (k : Nat)]) (res_rslide rfl rfl (wset3_at HA2.out)) rfl ⟨A, c, rfl, HC.out.1, HC.out.2, uw_wset3 HU.out HA2.out, wset3_below HB.out (by omega)⟩
end Go.Proofs.Ytenegeajkldfbaa

/- Proved: the walk of the law on whatever calls wait, and do not any more. Conditions: those that the theorems name. -/
import Derived.Test.YtamcpdhehipcfaaCaAwake
import Derived.Test.YtamcpdhehipcfaaCaArg
namespace Go.Proofs.Ytamcpdhehipcfaa
open Go.ChangeShapes Go.WideShapes Go.ChangeAt Go.RowKit

/-- What CallsPlay's loop holds: the program's calls and the document's. -/
def PlayC (w : World) (b k : Nat) (v : Value) (wr : World) : Prop := ∃ q A c, v = .slice A q.length c ∧ Ws wr A q.length q ∧ q.length ≤ c ∧ (A = none → c = 0) ∧ CX w wr b q ∧ q.length ≤ k
theorem eqg_wt (p r : Operand) (x y : Wt) (W : World) : (eqGuard .neq tW p r (wtV x) (wtV y)).run Try.prog W = .ok () W := run_eqGuard_agg W _ _ _ _ _ _ (by kernel_rfl)
theorem take_gone {q : List Wt} (h : GoodW q) {s k : Int} (hw : wasW q (s, k) = true) : leftW q s k = dropW q (s, k) := by
  obtain ⟨x, hx, e⟩ := wasW_iff.1 hw
  have := (h.ok x hx).1
  have e2 : x.kind = k := congrArg Prod.snd e
  exact leftW_one q (by omega)
set_option maxRecDepth 100000 in
set_option maxHeartbeats 6400000 in
theorem ca_play_main (A : Option Addr) (m c : Nat) (ds : List Dw) (w : World) (hm : (m : Int) ≤ 60) (hd : Dws w A m ds) :
    Calls Try.prog 3 #[.slice A m c] w fun e w' => e = .returned (.bool true) ∧ Below w.heap.size w w' := by
  have HN := Lib.hid (cx_new w w (Below.refl _ _))
  have HL := Lib.hid hd
  clear hd
  go_enter Try.func3, Try.ntmps3
  go_wp2_with fail
  refine HN.out.mono ?_; rintro e w1 ⟨rfl, r1⟩
  have R0 : Hid (PlayC w (w.heap.size + 1) 0 (.slice none 0 0) w1) := Lib.hid ⟨[], none, 0, rfl, Ws.nil _ _, Nat.le_refl _, fun _ => rfl, r1, Nat.le_refl _⟩
  clear r1 HN
  generalize w.heap.size + 1 = b at *
  go_wp2_with fail
  go_loopw [4, 5] (fun v i wr => ∃ k : Nat, k ≤ m ∧ i = .int .i64 k ∧ PlayC w b k v wr) (fun _ i _ => m - (intOf i).toNat)
  case atStart => exact ⟨0, by omega, rfl, R0.out⟩
  case round =>
    obtain ⟨k, hk, rfl, q, X, cx, rfl, htx, hqc, hxn, hrb, hqk⟩ := hrel
    have HT := Lib.hid htx
    have HR := Lib.hid hrb
    have HC : Hid (q.length ≤ cx ∧ (X = none → cx = 0)) := Lib.hid ⟨hqc, hxn⟩
    have HQ : Hid (q.length ≤ k ∧ k ≤ m) := Lib.hid ⟨hqk, hk⟩
    have hq9 : q.length ≤ 900 := by omega
    clear R0 htx hrb hqc hxn hqk
    have hk0 : (0 : Int) ≤ (k : Int) := Int.natCast_nonneg _
    by_cases hlt : k < m
    · obtain ⟨ad, rfl, hkey, hds⟩ := HL.out.at_ hlt
      have hlt' : (k : Int) < (m : Int) := by omega
      have HDS := Lib.hid hds
      have HKEY : Hid (PkOk ((dw_ ds k).w.str, (dw_ ds k).w.kind)) := Lib.hid hkey
      clear hds hkey
      generalize dw_ ds k = d at *
      obtain ⟨kd, y⟩ := d
      dsimp only at HKEY
      have HD0 := Lib.hid (HDS.out wr HR.out.bel)
      have hw0 := HD0.out.c1
      dsimp only at hw0
      have HW0 := Lib.hid hw0
      have HX0 := Lib.hid (At.new wr tW (wtC wt0))
      clear hw0 HD0
      go_upto_region 11 with (first
        | (refine wpw_load rfl _ rfl rfl HW0.out ?_)
        | (refine wpw_store rfl _ _ rfl rfl y rfl HX0.out rfl ?_; intro w2 ha2 hg2 _; have HA2 := Lib.hid ha2; have R2 := Lib.hid (cx_fill HR.out hg2).1; have T2 := Lib.hid ((cx_fill HR.out hg2).2.row HT.out); clear ha2 hg2))
      generalize wr.heap.size = b6 at *
      clear HW0 HX0 HR HT
      have x1 := HA2.out.cell 1 rfl
      have x2 := HA2.out.cell 2 rfl
      have x4 := HA2.out.cell 4 rfl
      by_cases hbody : (100 : Int) < (y.body.size : Int)
      · clear x1 x2
        go_wp2_with fail
        go_roundw
        case rel => exact ⟨k + 1, by omega, by go_num, q, _, _, rfl, T2.out, HC.out.1, HC.out.2, R2.out, by have := HQ.out; omega⟩
        case measure => simp [intOf]; omega
      · have hbody' : decide ((100 : Int) < (y.body.size : Int)) = false := decide_eq_false hbody
        have hgetc := cx_get R2.out (k := (y.str, y.kind)) HKEY.out
        dsimp only at hgetc
        have HGET := Lib.hid hgetc
        have HRG := Lib.hid (fun W (g : Ws W X q.length q) => rca_get X q.length cx q y.str y.kind W g R2.out.good (by omega))
        have HTK := Lib.hid (fun W (g : CX w W b q) => cx_take g (k := (y.str, y.kind)) HKEY.out)
        have HTN : Hid (wasW q (y.str, y.kind) = false → dropW q (y.str, y.kind) = q) := Lib.hid dropW_none
        have HTY : Hid (wasW q (y.str, y.kind) = true → leftW q y.str y.kind = dropW q (y.str, y.kind)) := Lib.hid (take_gone R2.out.good)
        have HLE : Hid ((dropW q (y.str, y.kind)).length ≤ q.length ∧ (leftW q y.str 0).length ≤ q.length ∧ (askM q y).length ≤ q.length + 1) := Lib.hid ⟨dropW_le _ _, leftW_le _ _ _, askM_len _ _⟩
        clear hgetc hbody
        generalize atW q (y.str, y.kind) = z at *
        generalize wasW q (y.str, y.kind) = s at *
        go_wp2_with fail
        refine HGET.out.mono ?_; rintro e w3 ⟨rfl, r3, k3⟩
        have R3 := Lib.hid r3
        have T3 := Lib.hid (k3.row T2.out)
        have HA3 := Lib.hid (k3.box HA2.out)
        clear r3 k3 x1 x2 x4 R2 T2 HA2 HGET
        have HX3 := Lib.hid (At.new w3 tW (wtC wt0))
        go_upto_region 13 with (refine wpw_store rfl _ _ rfl rfl z rfl HX3.out rfl ?_; intro w4 ha4 hg4 _; have HB4 := Lib.hid ha4; have R4 := Lib.hid (cx_fill R3.out hg4).1; have T4 := Lib.hid ((cx_fill R3.out hg4).2.row T3.out); have HA4 := Lib.hid ((cx_fill R3.out hg4).2.box HA3.out); clear ha4 hg4)
        generalize w3.heap.size = b7 at *
        have x1 := HA4.out.cell 1 rfl
        have x2 := HA4.out.cell 2 rfl
        clear HX3 R3 T3 HA3
        go_wp2_with fail
        refine (HRG.out _ T4.out).mono ?_; rintro e w5 ⟨rfl, g5⟩
        have R5 := Lib.hid (R4.out.below g5)
        have T5 := Lib.hid (T4.out.below g5)
        have HA5 := Lib.hid (HA4.out.below g5 HA4.out.lt)
        have HB5 := Lib.hid (HB4.out.below g5 HB4.out.lt)
        clear g5 x1 x2 R4 T4 HA4 HB4 HRG
        have HX5 := Lib.hid (At.new w5 tW (wtC wt0))
        go_upto_region 14 with (refine wpw_store rfl _ _ rfl rfl z rfl HX5.out rfl ?_; intro w6 ha6 hg6 _; have HE6 := Lib.hid ha6; have R6 := Lib.hid (cx_fill R5.out hg6).1; have T6 := Lib.hid ((cx_fill R5.out hg6).2.row T5.out); have HA6 := Lib.hid ((cx_fill R5.out hg6).2.box HA5.out); have HB6 := Lib.hid ((cx_fill R5.out hg6).2.box HB5.out); clear ha6 hg6)
        generalize w5.heap.size = b9 at *
        clear HX5 R5 T5 HA5 HB5
        have he := fun W => neq_wt z z W
        rw [decide_eq_true rfl] at he
        have hqg := fun (p r : Operand) W => eqg_wt p r z z W
        have hd6 := HDS.out w6 R6.out.bel
        have c0 := hd6.c0
        dsimp only at c0
        clear hd6
        by_cases k0 : kd = 0
        · subst k0
          have HASK := Lib.hid (fun W (g : Ws W X q.length q) => rca_ask X q.length cx q y W g R6.out.good hq9 HC.out.1 HC.out.2)
          have HCA := Lib.hid (fun W (g : CX w W b q) => cx_ask g hq9 y HKEY.out)
          have hq10 : (askM q y).length ≤ 900 := by have := HLE.out; have := HQ.out; omega
          have HAQ : Hid ((askM q y).length ≤ q.length + 1) := Lib.hid HLE.out.2.2
          cases s
          all_goals
            go_wp2_with (first | (refine wpw_load rfl _ rfl rfl (wtc_at HB6.out) ?_) | (refine wpw_load rfl _ rfl rfl (wtc_at HE6.out) ?_) | (refine wpw_load rfl _ rfl rfl (wtc_at HA6.out) ?_))
            refine (HASK.out _ T6.out).mono ?_; rintro e w7 ⟨A7, n7, c7, rfl, hw7, hc7, hn7, g7⟩
            have e7 := hw7.len
            subst e7
            have T7 := Lib.hid hw7
            have HC7 : Hid ((askM q y).length ≤ c7 ∧ (A7 = none → c7 = 0)) := Lib.hid ⟨hc7, hn7⟩
            have R7 := Lib.hid (R6.out.below g7)
            have HA7 := Lib.hid (HA6.out.below g7 HA6.out.lt)
            clear hw7 hc7 hn7 g7 HASK R6 T6 HA6 HB6 HE6 c0
            go_wp2_with (refine wpw_load rfl _ rfl rfl (wtc_at HA7.out) ?_)
            refine (HCA.out _ R7.out).mono ?_; rintro e w8 ⟨rfl, r8, k8⟩
            have R8 := Lib.hid r8
            have T8 := Lib.hid (k8.row T7.out)
            clear r8 k8 HCA R7 T7 HA7
            go_wp2_with fail
            refine (cx_all R8.out (by omega)).mono ?_; rintro e w20 ⟨AL, cL, rfl, tl, r20, k20⟩
            have T20 := Lib.hid (k20.row T8.out)
            have TL := Lib.hid tl
            have R20 := Lib.hid r20
            clear tl r20 k20 R8 T8
            go_wp2_with fail
            refine (rca_same AL A7 (askM q y).length cL c7 (askM q y) w20 TL.out T20.out (by omega)).mono ?_; rintro e w21 ⟨rfl, g21⟩
            have T21 := Lib.hid (T20.out.below g21)
            have R21 := Lib.hid (R20.out.below g21)
            have HLN := Lib.hid (cx_len R21.out)
            clear g21 T20 R20 TL
            go_wp2_with fail
            refine HLN.out.mono ?_; rintro e w22 ⟨rfl, rfl⟩
            clear HLN
            go_wp2_with fail
            go_roundw
            case rel => exact ⟨k + 1, by omega, by go_num, (askM q y), _, _, rfl, T21.out, HC7.out.1, HC7.out.2, R21.out, by have := HQ.out; have := HLE.out; omega⟩
            case measure => simp [intOf]; omega
        · by_cases k1 : kd = 1
          · subst k1
            have y1 := HA6.out.cell 1 rfl
            have y2 := HA6.out.cell 2 rfl
            have hq11 : (dropW q (y.str, y.kind)).length ≤ 900 := by have := HLE.out; omega
            cases s
            · have hdrop := HTN.out rfl
              go_wp2_with (first | (refine wpw_load rfl _ rfl rfl (wtc_at HB6.out) ?_) | (refine wpw_load rfl _ rfl rfl (wtc_at HE6.out) ?_))
              refine (HTK.out _ R6.out).mono ?_; rintro e w7 ⟨rfl, r7, k7⟩
              rw [hdrop] at r7
              have R7 := Lib.hid r7
              have T7 := Lib.hid (k7.row T6.out)
              have HE7 := Lib.hid (k7.box HE6.out)
              clear r7 k7 hdrop HTN HTY HTK R6 T6 HA6 HB6 HE6 c0 y1 y2
              have HX7 := Lib.hid (At.new w7 tW (wtC wt0))
              go_upto_region 28 with (refine wpw_store rfl _ _ rfl rfl z rfl HX7.out rfl ?_; intro w8 ha8 hg8 _; have HD8 := Lib.hid ha8; have R8 := Lib.hid (cx_fill R7.out hg8).1; have T8 := Lib.hid ((cx_fill R7.out hg8).2.row T7.out); have HE8 := Lib.hid ((cx_fill R7.out hg8).2.box HE7.out); clear ha8 hg8)
              clear HX7 R7 T7 HE7
              go_wp2_with (first | (refine wpw_load rfl _ rfl rfl (wtc_at HD8.out) ?_) | (refine wpw_load rfl _ rfl rfl (wtc_at HE8.out) ?_))
              refine (cx_all R8.out (by omega)).mono ?_; rintro e w20 ⟨AL, cL, rfl, tl, r20, k20⟩
              have T20 := Lib.hid (k20.row T8.out)
              have TL := Lib.hid tl
              have R20 := Lib.hid r20
              clear tl r20 k20 R8 T8
              go_wp2_with fail
              refine (rca_same AL X q.length cL cx q w20 TL.out T20.out (by omega)).mono ?_; rintro e w21 ⟨rfl, g21⟩
              have T21 := Lib.hid (T20.out.below g21)
              have R21 := Lib.hid (R20.out.below g21)
              have HLN := Lib.hid (cx_len R21.out)
              clear g21 T20 R20 TL
              go_wp2_with fail
              refine HLN.out.mono ?_; rintro e w22 ⟨rfl, rfl⟩
              clear HLN
              go_wp2_with fail
              go_roundw
              case rel => exact ⟨k + 1, by omega, by go_num, q, _, _, rfl, T21.out, HC.out.1, HC.out.2, R21.out, by have := HQ.out; have := HLE.out; omega⟩
              case measure => simp [intOf]; omega
            · have hleft := HTY.out rfl
              have HDR := Lib.hid (fun W (g : Ws W X q.length q) => rca_drop X q.length cx q y.str y.kind W g hq9)
              go_wp2_with (first | (refine wpw_load rfl _ rfl rfl (wtc_at HB6.out) ?_) | (refine wpw_load rfl _ rfl rfl (wtc_at HE6.out) ?_))
              refine (HTK.out _ R6.out).mono ?_; rintro e w7 ⟨rfl, r7, k7⟩
              have R7 := Lib.hid r7
              have T7 := Lib.hid (k7.row T6.out)
              have HE7 := Lib.hid (k7.box HE6.out)
              have HA7 := Lib.hid (k7.box HA6.out)
              clear r7 k7 HTN HTY HTK R6 T6 HA6 HB6 HE6 c0 y1 y2
              have HX7 := Lib.hid (At.new w7 tW (wtC wt0))
              go_upto_region 28 with (refine wpw_store rfl _ _ rfl rfl z rfl HX7.out rfl ?_; intro w8 ha8 hg8 _; have HD8 := Lib.hid ha8; have R8 := Lib.hid (cx_fill R7.out hg8).1; have T8 := Lib.hid ((cx_fill R7.out hg8).2.row T7.out); have HE8 := Lib.hid ((cx_fill R7.out hg8).2.box HE7.out); have HA8 := Lib.hid ((cx_fill R7.out hg8).2.box HA7.out); clear ha8 hg8)
              clear HX7 R7 T7 HE7 HA7
              have y1 := HA8.out.cell 1 rfl
              have y2 := HA8.out.cell 2 rfl
              go_wp2_with (first | (refine wpw_load rfl _ rfl rfl (wtc_at HD8.out) ?_) | (refine wpw_load rfl _ rfl rfl (wtc_at HE8.out) ?_))
              refine (HDR.out _ T8.out).mono ?_; rintro e w9 ⟨u9, v9, rfl, _, ho9, g9⟩
              rw [hleft] at ho9
              obtain ⟨A9, c9, rfl, hc9, hn9, hw9⟩ := ws_of ho9
              have T9 := Lib.hid hw9
              have HC9 : Hid ((dropW q (y.str, y.kind)).length ≤ c9 ∧ (A9 = none → c9 = 0)) := Lib.hid ⟨hc9, hn9⟩
              have R9 := Lib.hid (R8.out.below g9)
              clear hw9 hc9 hn9 ho9 g9 hleft HDR R8 T8 HE8 HA8 HD8 y1 y2
              go_wp2_with fail
              refine (cx_all R9.out (by omega)).mono ?_; rintro e w20 ⟨AL, cL, rfl, tl, r20, k20⟩
              have T20 := Lib.hid (k20.row T9.out)
              have TL := Lib.hid tl
              have R20 := Lib.hid r20
              clear tl r20 k20 R9 T9
              go_wp2_with fail
              refine (rca_same AL A9 (dropW q (y.str, y.kind)).length cL c9 (dropW q (y.str, y.kind)) w20 TL.out T20.out (by omega)).mono ?_; rintro e w21 ⟨rfl, g21⟩
              have T21 := Lib.hid (T20.out.below g21)
              have R21 := Lib.hid (R20.out.below g21)
              have HLN := Lib.hid (cx_len R21.out)
              clear g21 T20 R20 TL
              go_wp2_with fail
              refine HLN.out.mono ?_; rintro e w22 ⟨rfl, rfl⟩
              clear HLN
              go_wp2_with fail
              go_roundw
              case rel => exact ⟨k + 1, by omega, by go_num, (dropW q (y.str, y.kind)), _, _, rfl, T21.out, HC9.out.1, HC9.out.2, R21.out, by have := HQ.out; have := HLE.out; omega⟩
              case measure => simp [intOf]; omega
          · have k0' : (kd == 0) = false := by simp [k0]
            have k1' : (kd == 1) = false := by simp [k1]
            have y2 := HA6.out.cell 2 rfl
            have HDR := Lib.hid (fun W (g : Ws W X q.length q) => rca_drop X q.length cx q y.str 0 W g hq9)
            have HCD := Lib.hid (fun W (g : CX w W b q) => cx_drop g hq9 y.str HKEY.out.s0 HKEY.out.s1)
            have hq11 : (leftW q y.str 0).length ≤ 900 := by have := HLE.out; omega
            have hq12 : (goneW q y.str 0).length ≤ 900 := Nat.le_trans (goneW_le _ _ _) hq9
            clear k0 k1
            cases s
            all_goals
              go_wp2_with (first | (refine wpw_load rfl _ rfl rfl (wtc_at HB6.out) ?_) | (refine wpw_load rfl _ rfl rfl (wtc_at HE6.out) ?_))
              refine (HDR.out _ T6.out).mono ?_; rintro e w7 ⟨u7, v7, rfl, hu7, ho7, g7⟩
              obtain ⟨A7, c7, rfl, hc7, hn7, hw7⟩ := ws_of ho7
              obtain ⟨B7, d7, rfl, _, _, hv7⟩ := ws_of hu7
              have T7 := Lib.hid hw7
              have V7 := Lib.hid hv7
              have HC7 : Hid ((leftW q y.str 0).length ≤ c7 ∧ (A7 = none → c7 = 0)) := Lib.hid ⟨hc7, hn7⟩
              have R7 := Lib.hid (R6.out.below g7)
              have HA7 := Lib.hid (HA6.out.below g7 HA6.out.lt)
              clear hw7 hc7 hn7 ho7 hu7 hv7 g7 HDR R6 T6 HA6 HB6 HE6 c0 y2
              have y2 := HA7.out.cell 2 rfl
              go_wp2_with fail
              refine (HCD.out _ R7.out).mono ?_; rintro e w8 ⟨D8, e8, rfl, hg8, r8, k8⟩
              have R8 := Lib.hid r8
              have T8 := Lib.hid (k8.row T7.out)
              have V8 := Lib.hid (k8.row V7.out)
              have G8 := Lib.hid hg8
              clear r8 k8 hg8 HCD R7 T7 V7 HA7 y2
              go_wp2_with fail
              refine (rca_same D8 B7 (goneW q y.str 0).length e8 d7 (goneW q y.str 0) w8 G8.out V8.out (by omega)).mono ?_; rintro e w9 ⟨rfl, g9⟩
              have R9 := Lib.hid (R8.out.below g9)
              have T9 := Lib.hid (T8.out.below g9)
              clear g9 R8 T8 V8 G8
              go_wp2_with fail
              refine (cx_all R9.out (by omega)).mono ?_; rintro e w20 ⟨AL, cL, rfl, tl, r20, k20⟩
              have T20 := Lib.hid (k20.row T9.out)
              have TL := Lib.hid tl
              have R20 := Lib.hid r20
              clear tl r20 k20 R9 T9
              go_wp2_with fail
              refine (rca_same AL A7 (leftW q y.str 0).length cL c7 (leftW q y.str 0) w20 TL.out T20.out (by omega)).mono ?_; rintro e w21 ⟨rfl, g21⟩
              have T21 := Lib.hid (T20.out.below g21)
              have R21 := Lib.hid (R20.out.below g21)
              have HLN := Lib.hid (cx_len R21.out)
              clear g21 T20 R20 TL
              go_wp2_with fail
              refine HLN.out.mono ?_; rintro e w22 ⟨rfl, rfl⟩
              clear HLN
              go_wp2_with fail
              go_roundw
              case rel => exact ⟨k + 1, by omega, by go_num, (leftW q y.str 0), _, _, rfl, T21.out, HC7.out.1, HC7.out.2, R21.out, by have := HQ.out; have := HLE.out; omega⟩
              case measure => simp [intOf]; omega
    · obtain rfl : k = m := by omega
      go_wp2_with fail
      refine (ca_awake _).mono ?_; rintro e w2 ⟨rfl, g2⟩
      have R2 := Lib.hid (HR.out.below g2)
      clear g2
      go_wp2_with fail
      go_ret
      exact ⟨rfl, R2.out.bel⟩
set_option maxRecDepth 100000 in
set_option maxHeartbeats 1600000 in
theorem ca_play_walk (A : Option Addr) (m c : Nat) (ds : List Dw) (w : World) (hd : Dws w A m ds) :
    Calls Try.prog 3 #[.slice A m c] w fun e w' => e = .returned (.bool true) ∧ Below w.heap.size w w' := by
  by_cases hm : (m : Int) ≤ 60
  · exact ca_play_main A m c ds w hm hd
  · have h' : (60 : Int) < (m : Int) := by omega
    clear hd hm
    go_enter Try.func3, Try.ntmps3
    go_wp2_with fail
    refine (ca_awake _).mono ?_; rintro e w2 ⟨rfl, g2⟩
    have G2 := Lib.hid g2
    clear g2
    go_wp2_with fail
    go_ret
    exact ⟨rfl, G2.out⟩
end Go.Proofs.Ytamcpdhehipcfaa

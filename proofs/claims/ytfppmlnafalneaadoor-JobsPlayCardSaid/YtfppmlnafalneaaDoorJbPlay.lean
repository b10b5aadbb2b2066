/- Proved: the walk of JobsPlay. Conditions: those that the theorems name. -/
import Derived.Test.YtfppmlnafalneaaDoorJbPlayM
import Derived.Lib.AppendZeros
namespace Go.Proofs.YtfppmlnafalneaaDoor
open Go.ChangeShapes Go.WideShapes Go.ChangeAt Go.RowKit Go.MuLone

/-- behind k rounds. -/
def JpAt (w0 : World) (b : Nat) (room : Int) (k : Nat) (cl : Bool) (v : Value) (wr : World) : Prop := ∃ K : List Ke, Jp w0 wr b room (K.map Ke.job) cl v K ∧ (K.length : Int) ≤ room ∧ K.length ≤ k
set_option maxRecDepth 100000 in
set_option maxHeartbeats 6400000 in
theorem jb_play_main (room : Int) (A : Option Addr) (m c : Nat) (ds : List De) {w : World} {B : Nat} {a0 a1 : Addr} (E : Er w B a0 a1) (hB : B ≤ szW w) (hm : (m : Int) ≤ 80) (hr : 1 ≤ room ∧ room ≤ 4096) (hd : Des w A m ds) :
    Calls Tryd.prog 3 #[.int .i64 room, .slice A m c] w fun e w' => e = .returned (.bool true) ∧ Tn Nil w w' := by
  have HE := Lib.hid E
  have HB := Lib.hid hB
  have HN := Lib.hid (jB_new (w0 := w) room hr (Tn.refl Nil w))
  have HD := Lib.hid hd
  have hr1 : ¬ room < 1 := by omega
  have hr2 : ¬ 4096 < room := by omega
  clear E hB hd hr
  go_enter Tryd.func3, Tryd.ntmps3
  go_wp2_with fail
  refine HN.out.mono ?_; rintro e w1 ⟨rfl, h1, t1⟩
  have R0 : Hid (JpAt w w.heap.size room 0 false (.slice none 0 0) w1) := Lib.hid ⟨[], ⟨none, none, h1, Qu.nil _ _ _, fun g e => nomatch e⟩, by simp; omega, Nat.le_refl _⟩
  clear h1 t1 HN
  generalize w.heap.size = b at *
  go_wp2_with fail
  clear hr1 hr2
  go_loopw [7, 8, 9] (fun v c i wr => ∃ (k : Nat) (cl : Bool), k ≤ m ∧ i = .int .i64 k ∧ c = .bool cl ∧ JpAt w b room k cl v wr) (fun _ _ i _ => m - (intOf i).toNat)
  case atStart => exact ⟨0, false, by omega, rfl, rfl, R0.out⟩
  case round =>
    obtain ⟨k, cl, hk, rfl, rfl, K, hj, hkr, hkk⟩ := hrel
    obtain ⟨X, cx, rfl⟩ := hj.form
    have H := Lib.hid hj
    have HL := Lib.hid (And.intro hkr hkk)
    clear R0 hj hkr hkk
    have hk0 : (0 : Int) ≤ (k : Int) := Int.natCast_nonneg _
    by_cases hlt : k < m
    · obtain ⟨ad, rfl, hda⟩ := HD.out.at_ H.out.tn hlt
      have HC : Hid (∀ W, Tn Nil w W → DeAt W (ad.add (k * 3)) (de_ ds k)) := Lib.hid fun W t => by
        obtain ⟨ad', e, h⟩ := HD.out.at_ t hlt
        injection e with e
        subst e; exact h
      have hlt' : (k : Int) < (m : Int) := by omega
      generalize de_ ds k = d at *
      obtain ⟨kd, s, bb⟩ := d
      obtain ⟨c0, c1, c2⟩ := hda
      dsimp only at c0 c1 c2
      have hl80 : K.length ≤ 65536 := by have := HL.out.2; omega
      by_cases hk0' : kd = 0
      · subst hk0'
        have HC2 : Hid (∀ W, Tn Nil w W → W.cell? ⟨(ad.add (k * 3)).block, (ad.add (k * 3)).off + 1, none⟩ = some (.int .i64 s) ∧ W.cell? ⟨(ad.add (k * 3)).block, (ad.add (k * 3)).off + 2, none⟩ = some (.int .u32 bb)) := Lib.hid fun W t => ⟨(HC.out W t).c1, (HC.out W t).c2⟩
        clear HC
        cases cl with
        | true =>
          have HP := Lib.hid (jp_push HE.out HB.out H.out (by simpa using hl80) s bb (n := 11) (S' := K.map Ke.job) rfl (if_neg (by show ¬ (11 : Int) = 0; decide)))
          go_wp2_with fail
          refine HP.out.mono ?_; rintro e w2 ⟨rfl, h2⟩
          have H2 := Lib.hid h2
          clear h2 HP H c0 c1 c2
          go_wp2_with fail
          refine (jp_len H2.out (n := K.length) (by simp)).mono ?_; rintro e wA ⟨rfl, hA⟩
          have HA := Lib.hid hA
          clear hA
          go_wp2_with fail
          refine (jp_closed HA.out).mono ?_; rintro e wB ⟨rfl, hB⟩
          have HB' := Lib.hid hB
          clear hB
          go_wp2_with fail
          go_roundw
          case rel => exact ⟨k + 1, true, by omega, by go_num, rfl, K, HB'.out, by have := HL.out.1; omega, by have := HL.out.2; omega⟩
          case measure => simp [intOf]; omega
        | false =>
          by_cases hf : (K.length : Int) = room
          · have HP := Lib.hid (jp_push HE.out HB.out H.out (by simpa using hl80) s bb (n := 9) (S' := K.map Ke.job) (by unfold pushE; rw [List.length_map, decide_eq_true hf]; rfl) (if_neg (by unfold pushE; rw [List.length_map, decide_eq_true hf]; decide)))
            have hge : room ≤ (K.length : Int) := by omega
            clear hf
            go_wp2_with fail
            refine HP.out.mono ?_; rintro e w2 ⟨rfl, h2⟩
            have H2 := Lib.hid h2
            clear h2 HP H c0 c1 c2
            go_wp2_with fail
            refine (jp_len H2.out (n := K.length) (by simp)).mono ?_; rintro e wA ⟨rfl, hA⟩
            have HA := Lib.hid hA
            clear hA
            go_wp2_with fail
            refine (jp_closed HA.out).mono ?_; rintro e wB ⟨rfl, hB⟩
            have HB' := Lib.hid hB
            clear hB
            go_wp2_with fail
            go_roundw
            case rel => exact ⟨k + 1, false, by omega, by go_num, rfl, K, HB'.out, by have := HL.out.1; omega, by have := HL.out.2; omega⟩
            case measure => simp [intOf]; omega
          · have HP := Lib.hid (jp_push HE.out HB.out H.out (by simpa using hl80) s bb (n := 0) (S' := (K ++ [(⟨s, bb⟩ : Ke)]).map Ke.job) (by unfold pushE; rw [List.length_map, decide_eq_false hf]; rfl) (by
              unfold pushS
              rw [if_pos (by unfold pushE; rw [List.length_map, decide_eq_false hf]; rfl), List.map_append]
              rfl))
            have hge : ¬ room ≤ (K.length : Int) := by have := HL.out.1; omega
            clear hf
            go_wp2_with fail
            refine HP.out.mono ?_; rintro e w2 ⟨rfl, h2⟩
            have H2 := Lib.hid h2
            clear h2 HP H c0 c1 c2
            obtain ⟨c1, c2⟩ := HC2.out _ H2.out.tn
            obtain ⟨v', w3, hrun, h3⟩ := H2.out.append hl80 s bb
            obtain ⟨A3, c3, rfl⟩ := h3.form
            rw [List.length_append, List.length_singleton] at hrun h3
            have H3 := Lib.hid h3
            clear h3 H2
            go_wp2_with (at_builtin; refine Lib.wpList_append_run _ rfl _ _ _ _ rfl _ _ rfl rfl _ _ hrun ?_)
            clear hrun c1 c2
            go_wp2_with fail
            refine (jp_len H3.out (n := K.length + 1) (by simp)).mono ?_; rintro e wA ⟨rfl, hA⟩
            have HA := Lib.hid hA
            clear hA
            go_wp2_with fail
            refine (jp_closed HA.out).mono ?_; rintro e wB ⟨rfl, hB⟩
            have HB' := Lib.hid hB
            clear hB
            go_wp2_with fail
            go_roundw
            case rel => exact ⟨k + 1, false, by omega, by go_num, rfl, K ++ [(⟨s, bb⟩ : Ke)], HB'.out, by rw [List.length_append, List.length_singleton]; omega, by rw [List.length_append, List.length_singleton]; have := HL.out.2; omega⟩
            case measure => simp [intOf]; omega
      · by_cases hk1 : kd = 1
        · subst hk1
          clear c1 c2 HC
          cases K with
          | nil =>
            have HP := Lib.hid (jp_pop H.out (x := ⟨0, 0, 0, 0, 0⟩) (z := false) (S' := []) rfl rfl rfl)
            have H0 : Hid (Jp w wr b room [] cl (.slice X 0 cx) []) := H
            go_wp2_with fail
            refine HP.out.mono ?_; rintro e w2 ⟨rfl, h2⟩
            have H2 := Lib.hid (h2.free ((Tn.refl Nil w2).alloc (.cells #[.int .i64 0, .int .u32 0, .int .i64 0, .int .i64 0, .int .i64 0, .slice none 0 0] 37)))
            clear h2 HP H H0 c0
            go_wp2_with fail
            generalize w2.alloc (.cells #[.int .i64 0, .int .u32 0, .int .i64 0, .int .i64 0, .int .i64 0, .slice none 0 0] 37) = w3 at *
            go_quiet (fail)
            have H3 := Lib.hid (H2.out.free ((Tn.refl Nil w3).drewN nq))
            clear H2
            generalize w3.drewN nq = w4 at *
            go_wp2_with fail
            refine (jp_len H3.out (n := 0) (by simp)).mono ?_; rintro e wA ⟨rfl, hA⟩
            have HA := Lib.hid hA
            clear hA
            go_wp2_with fail
            refine (jp_closed HA.out).mono ?_; rintro e wB ⟨rfl, hB⟩
            have HB' := Lib.hid hB
            clear hB
            go_wp2_with fail
            go_roundw
            case rel => exact ⟨k + 1, cl, by omega, by go_num, rfl, [], HB'.out, by simp; omega, by simp⟩
            case measure => simp [intOf]; omega
          | cons x K =>
            have HP := Lib.hid (jp_pop H.out (x := x.job) (z := true) (S' := K.map Ke.job) rfl rfl rfl)
            go_wp2_with fail
            refine HP.out.mono ?_; rintro e w2 ⟨rfl, h2⟩
            have H2 := Lib.hid (h2.free ((Tn.refl Nil w2).alloc (.cells #[.int .i64 x.s, .int .u32 x.b, .int .i64 0, .int .i64 0, .int .i64 0, .slice none 0 0] 37)))
            have HX2 := Lib.hid (At.new w2 37 [.int .i64 x.s, .int .u32 x.b, .int .i64 0, .int .i64 0, .int .i64 0, .slice none 0 0])
            clear h2 HP H c0
            rw [show x.job.s = x.s from rfl, show x.job.b = x.b from rfl, show x.job.k = 0 from rfl, show x.job.n = 0 from rfl, show x.job.l = 0 from rfl]
            go_wp2_with fail
            generalize w2.heap.size = bx at *
            generalize w2.alloc (.cells #[.int .i64 x.s, .int .u32 x.b, .int .i64 0, .int .i64 0, .int .i64 0, .slice none 0 0] 37) = w3 at *
            obtain ⟨g, o, cp, hv, hc⟩ := H2.out.first
            injection hv with hv1 _ hv3
            subst hv1; subst hv3
            obtain ⟨y0, y1⟩ := hc _ (Tn.refl Nil w3)
            have x0 := HX2.out.cell 0 rfl
            have x1 := HX2.out.cell 1 rfl
            have hq := fun W => neq_key x.s x.b W
            clear hc
            have hp : (0 : Int) < (K.length : Int) + 1 := by omega
            go_quiet (fail)
            have H4 := Lib.hid (H2.out.free ((Tn.refl Nil w3).drewN nq))
            clear H2 HX2 x0 x1 y0 y1 hq hp
            generalize w3.drewN nq = w4 at *
            obtain ⟨A5, c5, hrun, h5⟩ := H4.out.rest
            rw [List.length_cons] at hrun
            have H5 := Lib.hid h5
            clear h5 H4
            go_wp2_with fail
            refine (jp_len H5.out (n := K.length) (by simp)).mono ?_; rintro e wA ⟨rfl, hA⟩
            have HA := Lib.hid hA
            clear hA
            go_wp2_with fail
            refine (jp_closed HA.out).mono ?_; rintro e wB ⟨rfl, hB⟩
            have HB' := Lib.hid hB
            clear hB
            go_wp2_with fail
            go_roundw
            case rel => exact ⟨k + 1, cl, by omega, by go_num, rfl, K, HB'.out, by have := HL.out.1; rw [List.length_cons] at this; omega, by have := HL.out.2; rw [List.length_cons] at this; omega⟩
            case measure => simp [intOf]; omega
        · have e0 : (kd == 0) = false := beq_eq_false_iff_ne.2 hk0'
          have e1 : (kd == 1) = false := beq_eq_false_iff_ne.2 hk1
          clear hk0' hk1
          cases cl with
          | true =>
            have HCl := Lib.hid (jp_close H.out (n := 11) rfl)
            go_wp2_with fail
            refine HCl.out.mono ?_; rintro e w2 ⟨rfl, h2⟩
            have H2 := Lib.hid h2
            clear h2 HCl H c0 c1 c2
            go_wp2_with fail
            refine (jp_len H2.out (n := K.length) (by simp)).mono ?_; rintro e wA ⟨rfl, hA⟩
            have HA := Lib.hid hA
            clear hA
            go_wp2_with fail
            refine (jp_closed HA.out).mono ?_; rintro e wB ⟨rfl, hB⟩
            have HB' := Lib.hid hB
            clear hB
            go_wp2_with fail
            go_roundw
            case rel => exact ⟨k + 1, true, by omega, by go_num, rfl, K, HB'.out, by have := HL.out.1; omega, by have := HL.out.2; omega⟩
            case measure => simp [intOf]; omega
          | false =>
            have HCl := Lib.hid (jp_close H.out (n := 0) rfl)
            go_wp2_with fail
            refine HCl.out.mono ?_; rintro e w2 ⟨rfl, h2⟩
            have H2 := Lib.hid h2
            clear h2 HCl H c0 c1 c2
            go_wp2_with fail
            refine (jp_len H2.out (n := K.length) (by simp)).mono ?_; rintro e wA ⟨rfl, hA⟩
            have HA := Lib.hid hA
            clear hA
            go_wp2_with fail
            refine (jp_closed HA.out).mono ?_; rintro e wB ⟨rfl, hB⟩
            have HB' := Lib.hid hB
            clear hB
            go_wp2_with fail
            go_roundw
            case rel => exact ⟨k + 1, true, by omega, by go_num, rfl, K, HB'.out, by have := HL.out.1; omega, by have := HL.out.2; omega⟩
            case measure => simp [intOf]; omega
    · obtain rfl : k = m := by omega
      have HT := Lib.hid H.out.tn
      have HE4 := HE.out.free HT.out
      go_wp2_with fail
      refine (jb_awake HE4 (Nat.le_trans HB.out HT.out.size)).mono ?_; rintro e w2 ⟨rfl, t2⟩
      have T2 := Lib.hid (HT.out.trans t2)
      clear t2 HE4
      go_wp2_with fail
      go_ret
      exact ⟨rfl, T2.out⟩
set_option maxRecDepth 100000 in
set_option maxHeartbeats 1600000 in
theorem jb_play_walk (room : Int) (A : Option Addr) (m c : Nat) (ds : List De) {w : World} {B : Nat} {a0 a1 : Addr} (E : Er w B a0 a1) (hB : B ≤ szW w) (hd : Des w A m ds) :
    Calls Tryd.prog 3 #[.int .i64 room, .slice A m c] w fun e w' => e = .returned (.bool true) ∧ Tn Nil w w' := by
  by_cases hm : (m : Int) ≤ 80
  · by_cases hr : 1 ≤ room ∧ room ≤ 4096
    · exact jb_play_main room A m c ds E hB hm hr hd
    · have HA := Lib.hid (jb_awake E hB)
      have hb : room < 1 ∨ (¬ room < 1 ∧ 4096 < room) := by omega
      have HN := Lib.hid (jb_new_bad room w (by omega))
      clear hd E hB hr
      rcases hb with hb | ⟨hb, hb'⟩
      all_goals
        go_enter Tryd.func3, Tryd.ntmps3
        go_wp2_with fail
        refine HN.out.mono ?_; rintro e w1 ⟨rfl, rfl⟩
        go_wp2_with fail
        refine HA.out.mono ?_; rintro e w2 ⟨rfl, t2⟩
        have T2 := Lib.hid t2
        clear t2
        go_wp2_with fail
        go_ret
        exact ⟨rfl, T2.out⟩
  · have h' : (80 : Int) < (m : Int) := by omega
    have HA := Lib.hid (jb_awake E hB)
    clear hd hm E hB
    go_enter Tryd.func3, Tryd.ntmps3
    go_wp2_with fail
    refine HA.out.mono ?_; rintro e w2 ⟨rfl, t2⟩
    have T2 := Lib.hid t2
    clear t2
    go_wp2_with fail
    go_ret
    exact ⟨rfl, T2.out⟩
end Go.Proofs.YtfppmlnafalneaaDoor

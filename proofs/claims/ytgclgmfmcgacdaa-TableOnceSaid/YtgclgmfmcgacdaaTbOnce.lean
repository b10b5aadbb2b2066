/- Proved: TableOnce. Conditions: those that the theorems name. -/
import Derived.Test.YtgclgmfmcgacdaaTbKeys
import Derived.Test.YtgclgmfmcgacdaaTbOnM
import Derived.Test.YtgclgmfmcgacdaaTbAwake
import Derived.Deep.DeepCutAuto
namespace Go.Proofs.Ytgclgmfmcgacdaa
open Go.ChangeShapes Go.WideShapes Go.ChangeAt Go.RowKit Go.MuLone

/-- a table made since w, and a row of keys made since. -/
def On (w W : World) (b nr : Nat) (S : List Fe) (v : Value) (done : List Ky) : Prop :=
  ∃ L : Ly, L.b = b ∧ SB w W L 8 nr S ∧ Kr W (fun g => L.col g = -1 ∧ szW w ≤ g) v done
section
variable {w W w' : World} {b nr : Nat} {S S' : List Fe} {v : Value} {done : List Ky}
theorem On.tn (h : On w W b nr S v done) : Tn Nil w W := by
  obtain ⟨L, hb, ⟨_, _, _, _, t⟩, _⟩ := h
  exact t
theorem On.row (h : On w W b nr S v done) : ∃ A cap, v = .slice A done.length cap := by
  obtain ⟨L, _, _, hk⟩ := h
  exact hk.len
theorem On.step {L L' : Ly} (hb : L'.b = b) (hs : SB w w' L' 8 nr S') (f : Fr W L w' L') (hk : Kr W (fun g => L.col g = -1 ∧ szW w ≤ g) v done) : On w w' b nr S' v done := by
  refine ⟨L', hb, hs, ?_⟩
  have h1 : Kr W (fun g => L'.col g = -1 ∧ szW w ≤ g) v done := hk.mono fun g hg hc => ⟨(f.col g hg).trans hc.1, hc.2⟩
  exact h1.tn f.tn fun g hg hc e => e ((f.col g hg).symm.trans hc.1)
theorem On.free (h : On w W b nr S v done) (t : Tn Nil W w') : On w w' b nr S v done := by
  obtain ⟨L, hb, hs, hk⟩ := h
  exact On.step hb (hs.free t) (Fr.free L t) hk
theorem On.append (h : On w W b nr S v done) (hn : done.length ≤ 65536) (k : Ky) :
    ∃ v' w3, (Builtin.append_ #[45, 45] 45 #[v, .slice (some ⟨W.heap.size, 0, none⟩) 1 1]).run Try.prog (W.alloc (.cells #[.int .i64 k.1, .int .u32 k.2] 35)) = .ok v' w3 ∧ On w w3 b nr S v' (done ++ [k]) := by
  have t1 : Tn Nil W (W.alloc (.cells #[.int .i64 k.1, .int .u32 k.2] 35)) := (Tn.refl Nil W).alloc _
  have hat := At.new W 35 [.int .i64 k.1, .int .u32 k.2]
  obtain ⟨L, hb, hs, hk⟩ := h.free t1
  obtain ⟨v', w3, g, hrun, hk', hg, t3⟩ := hk.append hn k ⟨W.heap.size, 0, none⟩ (hat.cell 0 rfl) (hat.cell 1 rfl) 1 45
  have hs3 := hs.own t3 (fun g _ hc => hc)
  refine ⟨v', w3, hrun, L, hb, hs3, hk'.mono fun i _ e => ?_⟩
  have e : i = g := e
  subst e
  rcases hg with hg | hg
  · exact hg
  · obtain ⟨X, hx, _, _, t⟩ := hs
    exact ⟨hx.st.ahead _ hg, Nat.le_trans t.size hg⟩
theorem on_put (h : On w W b nr S v done) {k0 k1 : Int} (hk : KyOk (k0, k1)) (need i : Int) (t : ByteArray) {r : Int} (hr : putF S nr (k0, k1) need (i, t) = (r, S')) :
    Calls Try.prog 12 #[.pointer (some ⟨b, 0, none⟩), .agg #[.int .i64 k0, .int .u32 k1], .int .i64 need, .agg #[.int .i64 i, .string t]] W fun e w' => e = .returned (.int .i64 r) ∧ On w w' b nr S' v done := by
  obtain ⟨L, rfl, hs, hkr⟩ := h
  refine (sb_put hs hk need i t hr).mono ?_
  rintro e w' ⟨rfl, L', hb, hs', f⟩
  exact ⟨rfl, On.step hb hs' f hkr⟩
theorem on_get (h : On w W b nr S v done) {k0 k1 : Int} (hk : KyOk (k0, k1)) {n : Nat} (hf : (findF S (k0, k1)).isSome = true) (hl : (getF S (k0, k1)).length = n) :
    Calls Try.prog 13 #[.pointer (some ⟨b, 0, none⟩), .agg #[.int .i64 k0, .int .u32 k1]] W fun e w' => (∃ A cap, e = .returned (.tuple #[.slice A n cap, .bool true])) ∧ On w w' b nr S v done := by
  obtain ⟨L, rfl, hs, hkr⟩ := h
  refine (sb_get hs hk rfl hf).mono ?_
  rintro e w' ⟨⟨v', rfl, ho⟩, hs', f⟩
  obtain ⟨A, cap, rfl⟩ := own_form ho
  rw [hl]
  exact ⟨⟨A, cap, rfl⟩, On.step rfl hs' f hkr⟩
theorem on_len (h : On w W b nr S v done) {m : Nat} (hm : S.length = m) :
    Calls Try.prog 11 #[.pointer (some ⟨b, 0, none⟩)] W fun e w' => e = .returned (.int .i64 (m : Nat)) ∧ On w w' b nr S v done := by
  obtain ⟨L, rfl, hs, hkr⟩ := h
  refine (sb_len hs hm).mono ?_
  rintro e w' ⟨rfl, hs', f⟩
  exact ⟨rfl, On.step rfl hs' f hkr⟩
theorem On.cell (h : On w W b nr S v done) (hn : 0 < done.length) : ∃ ad cap, v = .slice (some ad) done.length cap ∧ ∀ W', Tn Nil W W' → ∀ j, j < done.length → W'.cell? (ad.add (j * 2)) = some (.int .i64 (ky_ done j).1) ∧ W'.cell? ⟨(ad.add (j * 2)).block, (ad.add (j * 2)).off + 1, none⟩ = some (.int .u32 (ky_ done j).2) := by
  obtain ⟨L, rfl, hs, hkr⟩ := h
  obtain ⟨ad, cap, e, _⟩ := hkr.cell hn
  refine ⟨ad, cap, e, fun W' t => ?_⟩
  obtain ⟨ad', cap', e', h'⟩ := (hkr.tn t (fun _ _ _ e => e)).cell hn
  rw [e] at e'
  injection e' with e1 e2 e3
  injection e1 with e1
  subst e1
  exact h'
end
/-- behind k rounds. -/
def OnAt (w : World) (b nr k : Nat) (v : Value) (wr : World) : Prop := ∃ S done, On w wr b nr S v done ∧ OnOk nr S done ∧ done.length ≤ k
set_option maxRecDepth 100000 in
set_option maxHeartbeats 3200000 in
theorem tb_once_main (nr : Nat) (A : Option Addr) (m c : Nat) (l : List De) (w : World) (hm : (m : Int) ≤ 100) (hd : Des w A m l) (hr : nr ≤ 255) :
    Calls Try.prog 4 #[.int .u8 nr, .slice A m c] w fun e w' => e = .returned (.bool true) ∧ Below w.heap.size w w' := by
  have HN : Hid (Calls Try.prog 7 #[.int .i64 8, .int .i64 ((nr : Int) + 1)] w fun e w' => ∃ L, e = .returned (.tuple #[ptv L.b, .int .i64 0]) ∧ SB w w' L 8 (nr + 1) [] ∧ Tn Nil w w' ∧ ∀ i, i < w.heap.size → L.col i = -1) := Lib.hid (sb_new 8 (nr + 1) (by decide) (by omega) (Tn.refl _ _))
  have HD := Lib.hid hd
  have hr0 : (0 : Int) ≤ (nr : Int) := Int.natCast_nonneg _
  have hr1 : (nr : Int) ≤ 255 := by omega
  clear hd hr
  go_enter Try.func4, Try.ntmps4
  go_wp2_with fail
  refine HN.out.mono ?_; rintro e w1 ⟨L, rfl, r1, t1, c1⟩
  have R0 : Hid (On w w1 L.b (nr + 1) [] (.slice none 0 0) []) := Lib.hid ⟨L, rfl, r1, Kr.nil _ _⟩
  clear r1 HN t1 c1
  generalize L.b = b at *
  go_wp2_with fail
  go_loopw [7, 8] (fun v i wr => ∃ k : Nat, k ≤ m ∧ i = .int .i64 k ∧ OnAt w b (nr + 1) k v wr) (fun _ i _ => m - (intOf i).toNat)
  case atStart => exact ⟨0, by omega, rfl, [], [], R0.out, OnOk.new _, Nat.le_refl _⟩
  case round =>
    obtain ⟨k, hk, rfl, S, done, hon, hok, hdl⟩ := hrel
    obtain ⟨B, cp, rfl⟩ := hon.row
    have HO := Lib.hid hon
    have HK := Lib.hid hok
    have HDL := Lib.hid hdl
    clear hon hok hdl R0
    have hk0 : (0 : Int) ≤ (k : Int) := Int.natCast_nonneg _
    by_cases hlt : k < m
    · obtain ⟨ad, rfl, hin, hda⟩ := HD.out.at_ HO.out.tn hlt
      have HC : Hid (∀ W, Tn Nil w W → DeAt W (ad.add (k * 6)) (de_ l k)) := Lib.hid fun W t => by
        obtain ⟨ad', e, _, h⟩ := HD.out.at_ t hlt
        injection e with e
        subst e; exact h
      have hlt' : (k : Int) < (m : Int) := by omega
      have HIN := Lib.hid hin
      clear hin
      generalize de_ l k = d at *
      obtain ⟨kd, ⟨k0, k1⟩, nd, i, t⟩ := d
      have x5 := hda.c5
      clear hda
      dsimp only at x5
      by_cases h300 : 300 < t.size
      · have h300' : (300 : Int) < (t.size : Int) := by omega
        go_wp2_with fail
        go_roundw
        case rel => exact ⟨k + 1, by omega, by go_num, S, done, HO.out, HK.out, by have := HDL.out; omega⟩
        case measure => simp [intOf]; omega
      · have h300' : ¬ (300 : Int) < (t.size : Int) := by omega
        obtain ⟨S', r, hput⟩ : ∃ S' r, putF S (nr + 1) (k0, k1) nd (i, t) = (r, S') := ⟨_, _, rfl⟩
        obtain ⟨hok2, h3⟩ := HK.out.put hput
        have HO1 : Hid (On w wr.drew b (nr + 1) S (.slice B done.length cp) done) := Lib.hid (HO.out.free (Tn.refl Nil wr).drew)
        have HP := Lib.hid (on_put HO1.out HIN.out.1 nd i t hput)
        have HK2 := Lib.hid hok2
        have HC0 : Hid (∀ W, Tn Nil w W → W.cell? ⟨(ad.add (k * 6)).block, (ad.add (k * 6)).off + 1, none⟩ = some (.int .i64 k0) ∧ W.cell? ⟨(ad.add (k * 6)).block, (ad.add (k * 6)).off + 2, none⟩ = some (.int .u32 k1) ∧ W.cell? ⟨(ad.add (k * 6)).block, (ad.add (k * 6)).off + 3, none⟩ = some (.int .i64 nd) ∧ W.cell? ⟨(ad.add (k * 6)).block, (ad.add (k * 6)).off + 4, none⟩ = some (.int .i64 i) ∧ W.cell? ⟨(ad.add (k * 6)).block, (ad.add (k * 6)).off + 5, none⟩ = some (.string t)) := Lib.hid fun W t => by
          have h := HC.out W t
          exact ⟨h.c1, h.c2, h.c3, h.c4, h.c5⟩
        have HT0 := Lib.hid HO.out.tn
        have HT1 := Lib.hid HO1.out.tn
        clear hok2 hput HC
        by_cases hr3 : r = 3
        · subst hr3
          obtain ⟨hnew, ⟨n, rfl, hfn, hgl⟩, hok3⟩ := h3 rfl
          have HNW := Lib.hid hnew
          have HF := Lib.hid (And.intro hfn hgl)
          have HK3 := Lib.hid hok3
          clear hnew hfn hgl hok3 h3
          obtain ⟨x1, x2, x3, x4, x5⟩ := HC0.out _ HT0.out
          go_wp2_with fail
          go_region_held3 (fun w' => w'.cell? ⟨(ad.add (k * 6)).block, (ad.add (k * 6)).off + 1, none⟩ = some (.int .i64 k0) ∧ w'.cell? ⟨(ad.add (k * 6)).block, (ad.add (k * 6)).off + 2, none⟩ = some (.int .u32 k1) ∧ w'.cell? ⟨(ad.add (k * 6)).block, (ad.add (k * 6)).off + 3, none⟩ = some (.int .i64 n) ∧ w'.cell? ⟨(ad.add (k * 6)).block, (ad.add (k * 6)).off + 4, none⟩ = some (.int .i64 i) ∧ w'.cell? ⟨(ad.add (k * 6)).block, (ad.add (k * 6)).off + 5, none⟩ = some (.string t))
            (first | go_keep | with_reducible exact HC0.out _ HT1.out | with_reducible exact HC0.out _ HO2.out.tn)
            (((with_reducible refine HP.out.mono ?_); rintro e w2 ⟨rfl, h2⟩; have HO2 := Lib.hid h2; clear h2))
          clear x1 x2 x3 x4 x5 HP HO HO1 HT0 HT1 HK
          obtain ⟨wo, rfl⟩ : ∃ wo : World, wo = wr := ⟨_, rfl⟩
          have hdl : (done.length : Int) ≤ 100 := by have := HDL.out; omega
          go_wp2_with fail
          go_loopw [9] (fun j wi => ∃ q : Nat, q ≤ done.length ∧ j = .int .i64 q ∧ On w wi b (nr + 1) S' (.slice B done.length cp) done) (fun j _ => done.length - (intOf j).toNat)
          case atStart => exact ⟨0, Nat.zero_le _, rfl, HO2.out⟩
          case round =>
            obtain ⟨q, hq, rfl, hon⟩ := hrel
            have HO := Lib.hid hon
            clear hon HO2
            have hq0 : (0 : Int) ≤ (q : Int) := Int.natCast_nonneg _
            have HT := Lib.hid HO.out.tn
            obtain ⟨x1, x2, x3, x4, x5⟩ := HC0.out _ HT.out
            by_cases hqt : q < done.length
            · obtain ⟨ad2, cap2, e, hc⟩ := HO.out.cell (by omega)
              injection e with e1 e2 e3
              subst e1
              obtain ⟨y0, y1⟩ := hc _ (Tn.refl _ _) q hqt
              clear hc e2 e3 x3 x4 x5
              have hqt' : (q : Int) < (done.length : Int) := by omega
              have he := fun W => eq_key (ky_ done q) (k0, k1) W
              have hnk : ky_ done q ≠ (k0, k1) := fun e => HNW.out (by rw [← e]; exact ky_mem hqt)
              rw [decide_eq_false hnk] at he
              clear hnk
              generalize ky_ done q = kq at *
              obtain ⟨q0, q1⟩ := kq
              dsimp only at y0 y1 he
              go_wp2_with fail
              go_quiet (fail)
              go_wp2_with fail
              go_roundw
              case rel => exact ⟨q + 1, by omega, by go_num, HO.out.free ((Tn.refl Nil _).drewN _)⟩
              case measure => simp [intOf]; omega
            · obtain rfl : q = done.length := by omega
              clear hqt x3 x4 x5
              obtain ⟨v', w4, hrun, hon⟩ := HO.out.append (by omega) (k0, k1)
              have HO4 := Lib.hid hon
              clear hon
              obtain ⟨z1, z2, _, _, _⟩ := HC0.out _ HO4.out.tn
              have HG := Lib.hid (on_get HO4.out HIN.out.1 HF.out.1 HF.out.2)
              go_wp2_with (at_builtin; refine Lib.wpList_append_run _ rfl _ _ _ _ rfl _ _ rfl rfl _ _ hrun ?_)
              refine HG.out.mono ?_; rintro e w5 ⟨⟨A5, c5, rfl⟩, h5⟩
              have HO5 := Lib.hid h5
              clear h5 HG hrun x1 x2 z1 z2
              obtain ⟨_, _, x3, _, _⟩ := HC0.out _ HO5.out.tn
              have HLN := Lib.hid (on_len HO5.out rfl)
              have hsl : ¬ ((nr : Int) + 1 < (S'.length : Int)) := by have := HK2.out.len; omega
              generalize S'.length = sl at *
              go_wp2_with fail
              refine HLN.out.mono ?_; rintro e w6 ⟨rfl, h6⟩
              have HO6 := Lib.hid h6
              clear h6 HLN x3
              go_wp2_with fail
              go_roundw
              case rel => exact ⟨k + 1, by omega, by go_num, S', done ++ [(k0, k1)], HO6.out, HK3.out, by have := HDL.out; rw [List.length_append, List.length_singleton]; omega⟩
              case measure => simp [intOf]; omega
        · clear h3
          have hr3' : (r == 3) = false := by simpa using hr3
          clear hr3
          obtain ⟨x1, x2, x3, x4, x5⟩ := HC0.out _ HT0.out
          go_wp2_with fail
          go_region_held3 (fun w' => w'.cell? ⟨(ad.add (k * 6)).block, (ad.add (k * 6)).off + 1, none⟩ = some (.int .i64 k0) ∧ w'.cell? ⟨(ad.add (k * 6)).block, (ad.add (k * 6)).off + 2, none⟩ = some (.int .u32 k1) ∧ w'.cell? ⟨(ad.add (k * 6)).block, (ad.add (k * 6)).off + 3, none⟩ = some (.int .i64 nd) ∧ w'.cell? ⟨(ad.add (k * 6)).block, (ad.add (k * 6)).off + 4, none⟩ = some (.int .i64 i) ∧ w'.cell? ⟨(ad.add (k * 6)).block, (ad.add (k * 6)).off + 5, none⟩ = some (.string t))
            (first | go_keep | with_reducible exact HC0.out _ HT1.out | with_reducible exact HC0.out _ HO2.out.tn)
            (((with_reducible refine HP.out.mono ?_); rintro e w2 ⟨rfl, h2⟩; have HO2 := Lib.hid h2; clear h2))
          clear x1 x2 x3 x4 x5 HP HO HO1 HT0 HT1 HK
          have HLN := Lib.hid (on_len HO2.out rfl)
          have hsl : ¬ ((nr : Int) + 1 < (S'.length : Int)) := by have := HK2.out.len; omega
          generalize S'.length = sl at *
          go_wp2_with fail
          refine HLN.out.mono ?_; rintro e w3 ⟨rfl, h4⟩
          have HO3 := Lib.hid h4
          clear h4 HLN
          go_wp2_with fail
          go_roundw
          case rel => exact ⟨k + 1, by omega, by go_num, S', done, HO3.out, HK2.out, by have := HDL.out; omega⟩
          case measure => simp [intOf]; omega
    · obtain rfl : k = m := by omega
      have HT := Lib.hid HO.out.tn
      go_wp2_with fail
      refine (tb_awake _).mono ?_; rintro e w2 ⟨rfl, t2⟩
      have T2 := Lib.hid (HT.out.trans t2)
      clear t2
      go_wp2_with fail
      go_ret
      exact ⟨rfl, T2.out.below (Below.refl w.heap.size w) (Nat.le_refl _) (fun _ _ e => e)⟩
set_option maxRecDepth 100000 in
set_option maxHeartbeats 1600000 in
theorem tb_once_walk (r : Int) (A : Option Addr) (m c : Nat) (l : List De) (w : World) (hd : Des w A m l) (hr : (Lit.int .u8 r).wf = true) :
    Calls Try.prog 4 #[.int .u8 r, .slice A m c] w fun e w' => e = .returned (.bool true) ∧ Below w.heap.size w w' := by
  by_cases hm : (m : Int) ≤ 100
  · simp [Lit.wf, IntKind.min, IntKind.max, IntKind.signed, IntKind.bits] at hr
    obtain ⟨nr, rfl⟩ : ∃ nr : Nat, r = nr := ⟨r.toNat, by omega⟩
    exact tb_once_main nr A m c l w hm hd (by omega)
  · have h' : (100 : Int) < (m : Int) := by omega
    clear hd hm hr
    go_enter Try.func4, Try.ntmps4
    go_wp2_with fail
    refine (tb_awake _).mono ?_; rintro e w2 ⟨rfl, t2⟩
    have T2 := Lib.hid t2
    clear t2
    go_wp2_with fail
    go_ret
    exact ⟨rfl, T2.out.below (Below.refl w.heap.size w) (Nat.le_refl _) (fun _ _ e => e)⟩
end Go.Proofs.Ytgclgmfmcgacdaa

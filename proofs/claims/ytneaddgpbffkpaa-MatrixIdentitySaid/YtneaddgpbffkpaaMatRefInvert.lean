/- Proved: what the document's Rank and Invert answer for every table. Conditions: those that the theorems name. -/
import Derived.Test.YtneaddgpbffkpaaMatReduced
import Derived.Test.YtneaddgpbffkpaaMatInvert
namespace Go.Proofs.Ytneaddgpbffkpaa
open Go.ChangeShapes Go.WideShapes Go.ChangeAt Go.RowKit

set_option maxHeartbeats 400000 in
theorem rrank_bad (A : Option Addr) (n c : Nat) (t : List (List Nat)) (w : World) (ht : Rows w A n t) (h1 : chk t ≠ 0) :
    Calls Try.prog 12 #[.slice A n c] w (GivesRank w t) := by
  have HC := fun W h => rcheck_any A n c t W h
  have HT := Lib.hid ht
  have HR : Hid (RankIs t 0) := Lib.hid ⟨fun _ => rfl, fun e => absurd e h1⟩
  clear ht
  generalize hk : chk t = k at *
  have HK := Lib.hid hk
  have HC' := Lib.hid HC
  clear HC hk
  have hk : ((k : Int) != 0) = true := by simp; omega
  have hk' : ¬ ((k : Int) = 0) := by omega
  go_enter Try.func12, Try.ntmps12
  go_wp2_with fail
  refine (HC'.out _ HT.out).mono ?_; rintro e w' ⟨rfl, q, rfl⟩
  go_wp2_with fail
  go_ret2
  exact ⟨0, by rw [HK.out]; rfl, HR.out, below_drawn ⟨_, rfl⟩⟩

set_option maxRecDepth 100000 in
set_option maxHeartbeats 800000 in
theorem rrank_good (A : Option Addr) (n m c : Nat) (t : List (List Nat)) (w : World) (ht : Rows w A n t) (h1 : chk t = 0) (hl : ∀ r, r < n → (rw_ t r).length = m) (hn1 : 1 ≤ n) (hn2 : n ≤ 255) (hm1 : 1 ≤ m) (hm2 : m ≤ 255) :
    Calls Try.prog 12 #[.slice A n c] w (GivesRank w t) := by
  have HC := fun W h => rcheck_any A n c t W h
  rw [h1] at HC
  have HC' := Lib.hid HC
  have HT := Lib.hid ht
  have HL := Lib.hid hl
  have H1 := Lib.hid h1
  clear ht h1 hl HC
  have hpos : (0 : Int) < (n : Int) := by omega
  go_enter Try.func12, Try.ntmps12
  go_wp2_with fail
  refine (HC'.out _ HT.out).mono ?_; rintro e w1 ⟨rfl, q1, h1⟩
  have S1 := Lib.hid (below_drawn (B := w.heap.size) ⟨q1, h1⟩); clear h1
  have HT1 := Lib.hid (HT.out.below S1.out)
  obtain ⟨ad, B0, c0, rfl, had, hc0, _⟩ := HT1.out.at_ (k := 0) (by omega)
  rw [HL.out 0 (by omega), Addr.add_zero' ad] at hc0
  go_wp2_with fail
  refine (rreduced_any _ n c m m t _ HT1.out HL.out hn1 hn2 (Nat.le_refl m) hm1 (by omega)).mono ?_; rintro e w2 ⟨g, cap, t', d, rfl, hg, hd, hb⟩
  have HR : Hid (RankIs t d) := Lib.hid (by
    obtain ⟨cc, _, _, h3, h4, _⟩ := hd
    refine ⟨fun e => absurd H1.out e, fun _ => ?_⟩
    rw [HT.out.len, HL.out 0 (by omega)]
    exact h3.rank h4)
  have HW : Hid (Below w.heap.size w w2) := Lib.hid (S1.out.trans (hb.mono S1.out.size))
  clear hg hd hb hc0
  go_wp2_with fail
  go_ret2
  exact ⟨d, by rw [H1.out]; rfl, HR.out, HW.out⟩
theorem rrank_any (A : Option Addr) (n c : Nat) (t : List (List Nat)) (w : World) (ht : Rows w A n t) :
    Calls Try.prog 12 #[.slice A n c] w (GivesRank w t) := by
  by_cases h : chk t = 0
  · obtain ⟨n1, m1, l1, r1, r2, r3, r4, r5, r6⟩ := chk_dims h
    have hn : n1 = n := l1.symm.trans ht.len
    subst hn
    exact rrank_good A n1 m1 c t w ht h r6 r1 r2 r3 r4
  · exact rrank_bad A n c t w ht h

set_option maxHeartbeats 400000 in
theorem rinvert_bad (A : Option Addr) (n c : Nat) (t : List (List Nat)) (w : World) (ht : Rows w A n t) (h1 : chk t ≠ 0) :
    Calls Try.prog 14 #[.slice A n c] w (GivesInv w t) := by
  have HC := fun W h => rcheck_any A n c t W h
  have HT := Lib.hid ht
  have HR : Hid (InvIs t [] (chk t)) := Lib.hid (Or.inl ⟨h1, rfl, rfl⟩)
  clear ht
  generalize hk : chk t = k at *
  have HC' := Lib.hid HC
  clear HC hk
  have hk : ((k : Int) != 0) = true := by simp; omega
  have hk' : ¬ ((k : Int) = 0) := by omega
  go_enter Try.func14, Try.ntmps14
  go_wp2_with fail
  refine (HC'.out _ HT.out).mono ?_; rintro e w' ⟨rfl, q, rfl⟩
  go_wp2_with fail
  go_ret2
  exact ⟨none, 0, [], k, rfl, Rows.nil _ _, HR.out, below_drawn ⟨_, rfl⟩⟩

set_option maxHeartbeats 400000 in
theorem rinvert_unlike (A : Option Addr) (n c : Nat) (t : List (List Nat)) (w : World) (ht : Rows w A n t) (h1 : chk t = 0) (h2 : (rw_ t 0).length ≠ t.length) :
    Calls Try.prog 14 #[.slice A n c] w (GivesInv w t) := by
  have HC := fun W h => rcheck_any A n c t W h
  rw [h1] at HC
  have HC' := Lib.hid HC
  have HT := Lib.hid ht
  have HR : Hid (InvIs t [] 16) := Lib.hid (Or.inr (Or.inl ⟨h1, h2, rfl, rfl⟩))
  have hd := chk_zero h1
  rw [ht.len] at hd h2
  have hn : 0 < n := hd.1.1
  have H2 := Lib.hid h2
  clear ht h1 HC hd h2
  go_enter Try.func14, Try.ntmps14
  go_wp2_with fail
  refine (HC'.out _ HT.out).mono ?_; rintro e w1 ⟨rfl, q1, h1⟩
  have S1 := Lib.hid (below_drawn (B := w.heap.size) ⟨q1, h1⟩); clear h1
  obtain ⟨ad, B0, c0, rfl, had, hc0, _⟩ := (HT.out.below S1.out).at_ (k := 0) hn
  rw [Addr.add_zero' ad] at hc0
  have h2 := H2.out
  generalize (rw_ t 0).length = m at *
  have hk : ((m : Int) != (n : Int)) = true := by simp; omega
  have hk' : ¬ ((m : Int) = (n : Int)) := by omega
  clear h2
  go_wp2_with fail
  go_ret2
  exact ⟨none, 0, [], 16, rfl, Rows.nil _ _, HR.out, S1.out⟩

theorem mk_snoc (n : Nat) (f : Nat → Nat) : mk n f ++ [f n] = mk (n + 1) f := by
  unfold mk
  rw [List.range_succ, List.map_append]; rfl
theorem cells_one_more (a : List Nat) (n : Nat) (f : Nat → Nat) (x : Nat) (h : f n = x) : cells (a ++ mk n f) ++ [Value.int .u8 (x : Nat)] = cells (a ++ mk (n + 1) f) := by
  rw [← mk_snoc, h]
  show cells (a ++ mk n f) ++ cells [x] = _
  rw [cells_app, List.append_assoc]

set_option maxRecDepth 100000 in
set_option maxHeartbeats 3200000 in
theorem rinvert_good (A : Option Addr) (n c : Nat) (t : List (List Nat)) (w : World) (ht : Rows w A n t) (h1 : chk t = 0) (hl : ∀ r, r < n → (rw_ t r).length = n) (hn1 : 1 ≤ n) (hn2 : n ≤ 255) :
    Calls Try.prog 14 #[.slice A n c] w (GivesInv w t) := by
  obtain ⟨i0, hi0, hz0, hz1, hz2⟩ := info_parts Try.infoRow
  obtain ⟨j0, hj0, hy0, hy1, hy2⟩ := info_parts Try.infoByte
  have HC := fun W h => rcheck_any A n c t W h
  rw [h1] at HC
  have HC' := Lib.hid HC
  have HT := Lib.hid ht
  have HL := Lib.hid hl
  have H1 := Lib.hid h1
  have HGd := Lib.hid (ht.good hl)
  have hn : 0 < n := hn1
  clear ht h1 HC hl
  go_enter Try.func14, Try.ntmps14
  go_wp2_with fail
  refine (HC'.out _ HT.out).mono ?_; rintro e w1 ⟨rfl, q1, h1⟩
  have S1 := Lib.hid (below_drawn (B := w.heap.size) ⟨q1, h1⟩); clear h1
  obtain ⟨ad, B0, c0, rfl, had, hc0, _⟩ := (HT.out.below S1.out).at_ (k := 0) hn
  rw [Addr.add_zero' ad, HL.out 0 hn] at hc0
  go_wp2_with fail
  clear hc0
  go_loopw [6, 7] (fun v i wr => ∃ r : Nat, r ≤ n ∧ i = .int .i64 r ∧ ∃ xs, wr.ownsRow w.heap.size 42 1 v r xs ∧ Cut wr v xs (mkR r fun i => rw_ t i ++ rw_ (idL n) i) ∧ Below w.heap.size w wr) (fun _ i _ => n - (intOf i).toNat)
  case atStart => exact ⟨0, by omega, rfl, _, World.ownsRow_nil _ _ _ _, Cut.nil _ _, S1.out⟩
  case round =>
    obtain ⟨r, hr, rfl, xs, hown, hcut, hbel⟩ := hrel
    rename World => w0
    have HO := Lib.hid hown
    have HCt := Lib.hid hcut
    have HW := Lib.hid hbel
    clear hown hcut hbel S1
    by_cases hlt : r < n
    · obtain ⟨ad', A1, e1, h', hadlt, hac, has⟩ := (HT.out.below HW.out).at_ hlt
      cases h'
      rw [HL.out r hlt] at hac has
      obtain ⟨bd, rfl, _, _⟩ := has.at_ hn
      have HAs := Lib.hid has
      clear has
      have hlen : (rw_ t r).length = n := HL.out r hlt
      have HLen := Lib.hid hlen
      clear hlen
      have hmax : r + 1 ≤ maxLen := by unfold maxLen; omega
      have hws := HW.out.size
      go_wp2_with (at_builtin; refine wpList_append_lies _ rfl _ _ _ rfl w0.heap.size 5 j0 _ 1 1 Try.underlying42 hj0 hy0 hy1 hy2 rfl (by omega) _ 0 _ rfl (World.ownsRow_nil _ _ _ _) bd n e1 (cells (rw_ t r)) rfl (by rw [cells_len, HLen.out, Nat.mul_one]) HAs.out.source (cells_one _) hn (by unfold maxLen; omega) (by omega) (Nat.le_refl _) _ rfl ?_; intro g1 cap1 w1 hown1 hgrow hat hlt1)
      have HO1 : Hid (w1.ownsRow w0.heap.size 5 1 (.slice (some ⟨g1, 0, none⟩) n cap1) (n + 0) (cells (rw_ t r ++ mk 0 (unitN r)))) := Lib.hid (by
        have h := hown1
        rw [Nat.zero_add] at h
        have e : rw_ t r ++ mk 0 (unitN r) = rw_ t r := List.append_nil _
        rw [e]; exact h)
      have HW1 : Hid (Below w0.heap.size w0 w1) := Lib.hid ((Below.refl _ _).grown hgrow (Nat.le_refl _) (fun k e => nomatch (show (none : Option Nat) = some k from e)))
      clear hown1 hgrow hat hlt1 hac
      go_loopw [8, 9] (fun v i wr => ∃ q : Nat, q ≤ n ∧ i = .int .i64 q ∧ wr.ownsRow w0.heap.size 5 1 v (n + q) (cells (rw_ t r ++ mk q (unitN r))) ∧ Below w0.heap.size w0 wr) (fun _ i _ => n - (intOf i).toNat)
      case atStart => exact ⟨0, by omega, rfl, HO1.out, HW1.out⟩
      case round =>
        obtain ⟨q, hq, rfl, hown, hbel⟩ := hrel
        rename World => w3
        have HO3 := Lib.hid hown
        have HW3 := Lib.hid hbel
        have HWW : Hid (Below w.heap.size w w3) := Lib.hid (HW.out.trans (HW3.out.mono HW.out.size))
        clear hown hbel HO1 HW1
        by_cases hqn : q < n
        · have hmax3 : n + q + 1 ≤ maxLen := by unfold maxLen; omega
          have hws3 := HW3.out.size
          by_cases hrq : r = q
          · have HX := Lib.hid (cells_one_more (rw_ t r) q (unitN r) 1 (by unfold unitN; rw [if_pos hrq]))
            have hrq' : ((r : Int) == (q : Int)) = true := by simp; omega
            clear hrq
            go_wp2_with (at_builtin; refine wpList_append_lies _ rfl _ _ _ rfl w0.heap.size 5 j0 _ 1 1 Try.underlying42 hj0 hy0 hy1 hy2 rfl (by omega) _ (n + q) _ rfl (HO3.out.alloc _) ⟨w3.heap.size, 0, none⟩ 1 1 [.int .u8 1] rfl rfl (World.news_of_block (cs := #[.int .u8 1]) (t := 5) (fr := (0, 0)) (heap_alloc_new w3 _)) (by simp [Value.oneCell']) (by omega) hmax3 (by omega) (by simp; omega) (w3.heap.size + 1) (by simp) ?_; intro gg cap4 w4 hown4 hgrow hat hlt4)
            go_roundw
            case rel =>
              refine ⟨q + 1, by omega, by go_num, ?_, (HW3.out.alloc hws3 _).grown hgrow (by simp; omega) (fun j e => (HO3.out.lt j e).1)⟩
              have h := hown4
              have e := HX.out
              rw [show (((1 : Nat) : Int)) = (1 : Int) from rfl] at e
              rw [e, Nat.add_assoc] at h
              exact h
            case measure => simp [intOf]; omega
          · have HX := Lib.hid (cells_one_more (rw_ t r) q (unitN r) 0 (by unfold unitN; rw [if_neg hrq]))
            have hrq' : ¬ (r : Int) = (q : Int) := by omega
            have hrq2 : ((r : Int) == (q : Int)) = false := by simp; omega
            clear hrq
            go_wp2_with (at_builtin; refine wpList_append_lies _ rfl _ _ _ rfl w0.heap.size 5 j0 _ 1 1 Try.underlying42 hj0 hy0 hy1 hy2 rfl (by omega) _ (n + q) _ rfl (HO3.out.alloc _) ⟨w3.heap.size, 0, none⟩ 1 1 [.int .u8 0] rfl rfl (World.news_of_block (cs := #[.int .u8 0]) (t := 5) (fr := (0, 0)) (heap_alloc_new w3 _)) (by simp [Value.oneCell']) (by omega) hmax3 (by omega) (by simp; omega) (w3.heap.size + 1) (by simp) ?_; intro gg cap4 w4 hown4 hgrow hat hlt4)
            go_roundw
            case rel =>
              refine ⟨q + 1, by omega, by go_num, ?_, (HW3.out.alloc hws3 _).grown hgrow (by simp; omega) (fun j e => (HO3.out.lt j e).1)⟩
              have h := hown4
              have e := HX.out
              rw [show (((0 : Nat) : Int)) = (0 : Int) from rfl] at e
              rw [e, Nat.add_assoc] at h
              exact h
            case measure => simp [intOf]; omega
        · obtain rfl : q = n := by omega
          obtain ⟨g3, cap3, rfl, hg3, hcap3, _, ho3⟩ := own_of HO3.out (app_lt HAs.out.lt (mk_lt q _ fun j => unitN_lt r j)) (by omega)
          have f1 := Lib.hid ho3.bs
          have f2 := Lib.hid (ownsRow_below HO.out HW3.out)
          have f3 := Lib.hid (HCt.out.below HW3.out)
          have f5 : Hid (∀ ad : Addr, (some ⟨g3, 0, none⟩ : Option Addr) = some ad → 0 < q + q → u6.ownBlock ≠ some ad.block) := Lib.hid fun ad e _ q => by
            injection e with e
            subst e
            have h1 : g3 < w0.heap.size := (HO.out.lt _ q).2
            omega
          have hrowI : Hid (rw_ (idL q) r = mk q (unitN r)) := Lib.hid (mkR_at _ _ _ hlt)
          clear ho3 HO HCt HO3 hg3
          have hws := HWW.out.size
          go_wp2_with (at_builtin; refine wpList_append_lies _ rfl _ _ _ rfl w.heap.size 42 i0 _ 1 24 Try.underlying22 hi0 hz0 hz1 hz2 rfl (by omega) _ r _ rfl (f2.out.alloc _) ⟨w3.heap.size, 0, none⟩ 1 1 [.slice (some ⟨g3, 0, none⟩) (q + q) cap3] rfl rfl (World.news_of_block (cs := #[.slice (some ⟨g3, 0, none⟩) (q + q) cap3]) (t := 42) (fr := (0, 0)) (heap_alloc_new w3 _)) (by simp [Value.oneCell']) (by omega) hmax (by omega) (by simp; omega) (w3.heap.size + 1) (by simp) ?_; intro gg cap2 w6 hown1 hgrow hat hlt1)
          go_roundw
          case rel =>
            refine ⟨r + 1, by omega, by go_num, _, hown1, ?_, (HWW.out.alloc hws _).grown hgrow (by simp; omega) (fun j e => (f2.out.lt j e).1)⟩
            rw [← mkR_succ, hrowI.out]
            exact f3.out.grow hcap3 f1.out f5.out hgrow hat
          case measure => simp [intOf]; omega
    · obtain rfl : r = n := by omega
      obtain ⟨gw, capw, rfl, hgw, _, _, how⟩ := ownT_of HO.out HCt.out hn
      have HRw := Lib.hid how.rows
      clear hgw how
      go_wp2_with fail
      refine (rreduced_any _ r capw (r + r) r _ _ HRw.out (wide_good HGd.out).row hn1 hn2 (by omega) (by omega) (by omega)).mono ?_; rintro e w2 ⟨g, cap, t', d, rfl, hg, hd, hb⟩
      have HD := Lib.hid hd
      have HV := Lib.hid (inv_of (c := 0) HGd.out H1.out (HL.out 0 hn) rfl hd)
      have hdn : d ≤ r := by obtain ⟨_, _, _, h3, _⟩ := hd; exact h3.rows
      have G3 : Hid (Below w.heap.size w w2) := Lib.hid (HW.out.trans (hb.mono HW.out.size))
      have HG : Hid (w.heap.size ≤ g) := Lib.hid (Nat.le_trans HW.out.size hg)
      clear hd hb hg
      by_cases hlt : d < r
      · go_wp2_with fail
        go_ret2
        exact ⟨none, 0, [], 14, rfl, Rows.nil _ _, HV.out.1 hlt, G3.out⟩
      · obtain rfl : d = r := by omega
        have hO : OwnT w2 g d t' ∧ Good d (d + d) t' := by obtain ⟨_, a, b, _⟩ := HD.out; exact ⟨a, b⟩
        have HOo := Lib.hid hO.1
        have HG3 := Lib.hid hO.2
        clear hO
        go_wp2_with fail
        go_loopw [13] (fun i wr => ∃ q : Nat, q ≤ d ∧ i = .int .i64 q ∧ ∃ s, s.length = d ∧ (∀ r, r < d → rw_ s r = if r < q then (rw_ t' r).drop d else rw_ t' r) ∧ OwnT wr g d s ∧ Below w.heap.size w wr) (fun i _ => d - (intOf i).toNat)
        case atStart => exact ⟨0, by omega, rfl, t', HG3.out.len, fun r _ => (if_neg (by omega)).symm, HOo.out, G3.out⟩
        case round =>
          obtain ⟨q, hq, rfl, s, hs, hrow, ho, hbel⟩ := hrel
          have HS := Lib.hid hs
          have HR := Lib.hid hrow
          have HO' := Lib.hid ho
          have HW' := Lib.hid hbel
          clear hs hrow ho hbel HOo
          by_cases hlt : q < d
          · obtain ⟨B, e, hac, hcap, hbs⟩ := HO'.out.at_cap hlt
            have hrq : rw_ s q = rw_ t' q := by rw [HR.out q hlt, if_neg (by omega)]
            rw [hrq, HG3.out.row q hlt] at hac hcap
            rw [hrq, HG3.out.row q hlt] at hbs
            obtain ⟨bd, rfl, _, _⟩ := hbs.at_ (k := 0) (by omega)
            have htl := hbs.tail (k := d) (by omega)
            rw [Nat.add_sub_cancel] at htl
            have HB := Lib.hid htl
            clear htl
            clear hbs hrq
            have hle : (d : Int) ≤ ((d + d : Nat) : Int) := by omega
            have hed : ¬ e = d := by omega
            have hd0 : (0 : Int) ≤ (d : Int) := by omega
            have hgl := HO'.out.block_lt
            have hfz := HO'.out.frozen q
            have hcap' : d ≤ e - d := by omega
            have HO5 := Lib.hid (HO'.out.set_ hlt hcap' HB.out)
            go_wp2_with fail
            go_roundw
            case rel =>
              refine ⟨q + 1, by omega, by go_num, s.set q ((rw_ t' q).drop d), by rw [List.length_set, HS.out], fun r hr => ?_, HO5.out, HW'.out.setCell (p := ⟨g, q, none⟩) HG.out _⟩
              rw [rw_set _ _ _ _ (by rw [HS.out]; exact hlt)]
              by_cases e : q = r
              · subst e; rw [if_pos rfl, if_pos (by omega)]
              · rw [if_neg e, HR.out r hr]
                by_cases e2 : r < q
                · rw [if_pos e2, if_pos (by omega)]
                · rw [if_neg e2, if_neg (by omega)]
            case measure => simp [intOf]; omega
          · obtain rfl : q = d := by omega
            have hsb : s = behind q t' := eq_mkR HS.out fun r hr => by rw [HR.out r hr, if_pos hr]
            subst hsb
            have HV2 : Hid (InvIs t (behind q t') 0) := Lib.hid (by first | exact HV.out.2 rfl | exact HV.out.2 trivial)
            have hlen : (behind q t').length = q := mkR_len _ _
            have HLen := Lib.hid hlen
            clear hlen HV
            go_wp2_with fail
            go_ret2
            exact ⟨some ⟨g, 0, none⟩, cap, behind q t', 0, by rw [HLen.out]; rfl, by rw [HLen.out]; exact HO'.out.rows, HV2.out, HW'.out⟩

theorem rinvert_any (A : Option Addr) (n c : Nat) (t : List (List Nat)) (w : World) (ht : Rows w A n t) :
    Calls Try.prog 14 #[.slice A n c] w (GivesInv w t) := by
  by_cases h : chk t = 0
  · by_cases h2 : (rw_ t 0).length = t.length
    · obtain ⟨n1, m1, l1, r1, r2, r3, r4, r5, r6⟩ := chk_dims h
      have hn : n1 = n := l1.symm.trans ht.len
      have hm : m1 = n1 := by omega
      subst hn hm
      exact rinvert_good A m1 c t w ht h r6 r1 r2
    · exact rinvert_unlike A n c t w ht h h2
  · exact rinvert_bad A n c t w ht h
end Go.Proofs.Ytneaddgpbffkpaa

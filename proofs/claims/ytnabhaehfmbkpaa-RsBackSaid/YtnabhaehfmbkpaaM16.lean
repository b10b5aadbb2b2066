/- Proved: lemmas of one statement's proof, merged by program: what each part proves stands ahead of it. Conditions: those that the lemmas name. -/
import Derived.Test.YtnabhaehfmbkpaaM6
import Derived.Test.YtnabhaehfmbkpaaM8
import Derived.Test.YtnabhaehfmbkpaaM10

/- Proved: what the document's Mul of tables answers for every two tables. Conditions: those that the theorems name. -/
namespace Go.Proofs.Ytnabhaehfmbkpaa
open Go.ChangeShapes Go.WideShapes Go.ChangeAt Go.RowKit

theorem ownsRow_below {w w' : World} {base size n : Nat} {e : TypeId} {v : Value} {xs : List Value} (h : w.ownsRow base e size v n xs) (hb : Below w.heap.size w w') : w'.ownsRow base e size v n xs := by
  obtain ⟨h1, h2 | ⟨g, cap, cur, rfl, hg, hc, h3⟩⟩ := h
  · exact ⟨h1, Or.inl h2⟩
  · exact ⟨h1, Or.inr ⟨g, cap, cur, rfl, hg, (hb.block g (Array.getElem?_eq_some_iff.1 hc).1).trans hc, h3⟩⟩

end Go.Proofs.Ytnabhaehfmbkpaa

/- Proved: what the document's copied leaves of every table. Conditions: those that the theorems name. -/
namespace Go.Proofs.Ytnabhaehfmbkpaa
open Go.ChangeShapes Go.WideShapes Go.ChangeAt Go.RowKit

set_option maxRecDepth 100000 in
set_option maxHeartbeats 1600000 in
theorem copied_any (A : Option Addr) (n c : Nat) (t : List (List Nat)) (w : World) (ht : Rows w A n t) (h0 : 0 < n) (hn : n ≤ 255) (h1 : ∀ r, r < n → 0 < (rw_ t r).length ∧ (rw_ t r).length ≤ 1000) :
    Calls Try.prog 44 #[.slice A n c] w fun e w' => ∃ g cap, e = .returned (.slice (some ⟨g, 0, none⟩) n cap) ∧ w.heap.size ≤ g ∧ OwnT w' g n t ∧ Below w.heap.size w w' := by
  obtain ⟨i0, hi0, hz0, hz1, hz2⟩ := info_parts Try.infoRow
  obtain ⟨j0, hj0, hy0, hy1, hy2⟩ := info_parts Try.infoByte
  have HT := Lib.hid ht
  have H1 := Lib.hid h1
  clear ht h1
  go_enter Try.func44, Try.ntmps44
  go_wp2_with fail
  go_loopw [3, 4] (fun v i wr => ∃ r : Nat, r ≤ n ∧ i = .int .i64 r ∧ ∃ xs, wr.ownsRow w.heap.size 33 1 v r xs ∧ Cut wr v xs (mkR r (rw_ t)) ∧ Below w.heap.size w wr) (fun _ i _ => n - (intOf i).toNat)
  case atStart => exact ⟨0, by omega, rfl, _, World.ownsRow_nil _ _ _ _, Cut.nil _ _, Below.refl _ _⟩
  case round =>
    obtain ⟨r, hr, rfl, xs, hown, hcut, hbel⟩ := hrel
    rename World => w0
    have HO := Lib.hid hown
    have HCt := Lib.hid hcut
    have HW := Lib.hid hbel
    clear hown hcut hbel
    by_cases hlt : r < n
    · obtain ⟨ad, A1, e1, rfl, hadlt, hac, has⟩ := (HT.out.below HW.out).at_ hlt
      have hp := H1.out r hlt
      obtain ⟨bd, rfl, _, _⟩ := has.at_ hp.1
      have HAs := Lib.hid has
      have HL := Lib.hid has.len
      clear has
      generalize hl : rw_ t r = l at *
      have HLL := Lib.hid hl
      clear hl
      obtain ⟨y, hy⟩ : ∃ y, y = l.length := ⟨_, rfl⟩
      rw [← hy] at hac HAs hp
      have HY := Lib.hid hy
      clear hy HL
      have hp1 := hp.1
      have hp2 := hp.2
      clear hp
      have hmax : r + 1 ≤ maxLen := by unfold maxLen; omega
      have hws := HW.out.size
      go_wp2_with (first
        | (at_builtin; refine wpList_append_grows _ rfl _ _ 33 rfl 5 j0 (.int .u8 0) 1 1 Try.underlying33 hj0 hy0 hy1 hy2 rfl (by decide) none 0 0 [] rfl (fun _ => ⟨rfl, rfl⟩) rfl (by simp) bd y e1 (cells l) rfl (by rw [cells_len, HY.out, Nat.mul_one]) HAs.out.source (cells_one l) (by omega) (by unfold maxLen; omega) (by omega) ?_; intro v1 w1 hown1 hgr; rw [Nat.zero_add, List.nil_append] at hown1; have hb1 := (Below.refl _ _).grown hgr (Nat.le_refl _) (by simp); obtain ⟨g, cap, rfl, hg, hcap, _, ho1⟩ := own_of hown1 HAs.out.lt hp1; have f1 := Lib.hid ho1.bs; have f2 := Lib.hid (ownsRow_below HO.out hb1); have f3 := Lib.hid (HCt.out.below hb1); have f4 : Hid (Below w.heap.size w w1) := Lib.hid (HW.out.trans (hb1.mono hws)); have hws1 := f4.out.size; have f5 : Hid (∀ ad : Addr, (some ⟨g, 0, none⟩ : Option Addr) = some ad → 0 < y → u3.ownBlock ≠ some ad.block) := Lib.hid (by intro ad e _ q; injection e with e; subst e; have h1 : g < w0.heap.size := (HO.out.lt _ q).2; omega); clear hown1 hgr hb1 ho1 hg)
        | (at_builtin; refine wpList_append_lies _ rfl _ _ _ rfl w.heap.size 33 i0 _ 1 24 Try.underlying47 hi0 hz0 hz1 hz2 rfl (by omega) _ r _ rfl (f2.out.alloc _) ⟨w1.heap.size, 0, none⟩ 1 1 [.slice (some ⟨g, 0, none⟩) y cap] rfl rfl (World.news_of_block (cs := #[.slice (some ⟨g, 0, none⟩) y cap]) (t := 33) (fr := (0, 0)) (heap_alloc_new w1 _)) (by simp [Value.oneCell']) (by omega) hmax (by omega) (by simp; omega) (w1.heap.size + 1) (by simp) ?_; intro gg cap2 w6 hown6 hgrow hat hlt1))
      go_roundw
      case rel =>
        refine ⟨r + 1, by omega, by go_num, _, hown6, ?_, (f4.out.alloc hws1 _).grown hgrow (by simp; omega) (fun j e => (f2.out.lt j e).1)⟩
        rw [← mkR_succ, HLL.out]
        exact f3.out.grow hcap f1.out f5.out hgrow hat
      case measure => simp [intOf]; omega
    · obtain rfl : r = n := by omega
      obtain ⟨g, cap, rfl, hg, _, _, ho⟩ := ownT_of HO.out HCt.out h0
      have HOo := Lib.hid ho
      have e : mkR r (rw_ t) = t := (eq_mkR HT.out.len fun _ _ => rfl).symm
      rw [e] at HOo
      clear ho
      go_wp2_with fail
      go_ret
      exact ⟨g, cap, rfl, hg, HOo.out, HW.out⟩
end Go.Proofs.Ytnabhaehfmbkpaa

/- Proved: what the document's Scale and MulAdd of rows answer for every byte and rows of bytes. Conditions: those that the theorems name. -/
namespace Go.Proofs.Ytnabhaehfmbkpaa
open Go.ChangeShapes Go.WideShapes Go.ChangeAt Go.RowKit

set_option maxHeartbeats 400000 in
theorem rscale_cap (B : Option Addr) (m n d : Nat) (b : List Nat) (w : World) (hmm : m < 256) (hb : Bs w B n b) (hm : n ≤ 140737488355328) :
    Calls Try.prog 45 #[.int .u8 (m : Nat), .slice B n d] w (GivesC w n (scaleL n m b)) := by
  obtain ⟨i0, hi0, hz0, hz1, hz2⟩ := info_parts Try.infoByte
  have HB := Lib.hid hb
  clear hb
  go_enter Try.func45, Try.ntmps45
  go_wp2_with fail
  go_loopw [5, 6] (fun v i wr => ∃ k : Nat, k ≤ n ∧ i = .int .i64 k ∧ wr.ownsRow w.heap.size 5 1 v k (cells (mk k fun j => gmul m (b.getD j 0))) ∧ Below w.heap.size w wr) (fun _ i _ => n - (intOf i).toNat)
  case atStart => exact ⟨0, by omega, rfl, World.ownsRow_nil _ _ _ _, Below.refl _ _⟩
  case round =>
    obtain ⟨k, hk, rfl, hown, hbel⟩ := hrel
    have HO := Lib.hid hown
    have HW := Lib.hid hbel
    clear hown hbel
    by_cases hlt : k < n
    · obtain ⟨bd, rfl, lb, hbc⟩ := HB.out.at_ hlt
      rw [← HW.out.cell (p := bd.add k) (by rw [add_block]; exact lb)] at hbc
      have hy := HB.out.lt k
      obtain ⟨y, ey⟩ : ∃ y, y = b.getD k 0 := ⟨_, rfl⟩
      rw [← ey] at hbc hy
      have EY := Lib.hid ey
      clear ey
      have hmax : k + 1 ≤ maxLen := by unfold maxLen; omega
      have hws := HW.out.size
      go_wp2_with (first
        | (go_at_call 31; refine (prod_any m y hmm hy _).mono ?_; rintro e w' ⟨rfl, rfl⟩)
        | (at_builtin; refine wpList_append_lies _ rfl _ _ _ rfl w.heap.size 5 i0 _ 1 1 Try.underlying33 hi0 hz0 hz1 hz2 rfl (by omega) _ k _ rfl (HO.out.alloc _) ⟨wr.heap.size, 0, none⟩ 1 1 [.int .u8 (gmul m y : Nat)] rfl rfl (World.news_of_block (cs := #[.int .u8 (gmul m y : Nat)]) (t := 5) (fr := (0, 0)) (heap_alloc_new wr _)) (by simp [Value.oneCell']) (by omega) hmax (by omega) (by simp; omega) (wr.heap.size + 1) (by simp) ?_; intro gg cap w1 hown1 hgrow hat hlt1))
      go_roundw
      case rel =>
        refine ⟨k + 1, by omega, by go_num, ?_, (HW.out.alloc hws _).grown hgrow (by simp; omega) (fun j e => (HO.out.lt j e).1)⟩
        have h := hown1
        rw [EY.out, cells_mk_succ] at h
        exact h
      case measure => simp [intOf]; omega
    · obtain rfl : k = n := by omega
      obtain ⟨A', c', rfl, hcap, hbs⟩ := bs_of_cap HO.out (scaleL_lt k m b hmm)
      have HBS := Lib.hid hbs
      clear hbs
      go_wp2_with fail
      go_ret
      exact ⟨_, _, rfl, hcap, HBS.out, HW.out⟩
theorem rscale_any (B : Option Addr) (m n d : Nat) (b : List Nat) (w : World) (hmm : m < 256) (hb : Bs w B n b) (hm : n ≤ 140737488355328) :
    Calls Try.prog 45 #[.int .u8 (m : Nat), .slice B n d] w (Gives w n (scaleL n m b)) := (rscale_cap B m n d b w hmm hb hm).mono fun _ _ h => h.gives

set_option maxHeartbeats 400000 in
theorem rmuladd_cap (A B : Option Addr) (m n c d : Nat) (a b : List Nat) (w : World) (hmm : m < 256) (ha : Bs w A n a) (hb : Bs w B n b) (hm : n ≤ 140737488355328) :
    Calls Try.prog 46 #[.slice A n c, .int .u8 (m : Nat), .slice B n d] w (Gives2C w n (addL n a (scaleL n m b))) := by
  have HA := Lib.hid ha
  have HB := Lib.hid hb
  clear ha hb
  go_enter Try.func46, Try.ntmps46
  go_wp2_with fail
  refine (rscale_any B m n d b w hmm HB.out hm).mono ?_; rintro e w1 ⟨A1, c1, rfl, h1, g1⟩
  have H1 := Lib.hid h1; have G1 := Lib.hid g1; clear h1 g1
  go_wp2_with fail
  refine (radd_cap A A1 n c c1 a _ w1 (HA.out.below G1.out) H1.out hm).mono ?_; rintro e w2 ⟨A2, c2, rfl, k2, h2, g2⟩
  have H2 := Lib.hid h2; have G2 := Lib.hid g2; clear h2 g2
  go_wp2_with fail
  go_ret2
  exact ⟨_, _, rfl, k2, H2.out, G1.out.trans (G2.out.mono G1.out.size)⟩
theorem rmuladd_like (A B : Option Addr) (m n c d : Nat) (a b : List Nat) (w : World) (hmm : m < 256) (ha : Bs w A n a) (hb : Bs w B n b) (hm : n ≤ 140737488355328) :
    Calls Try.prog 46 #[.slice A n c, .int .u8 (m : Nat), .slice B n d] w (Gives2 w n (addL n a (scaleL n m b))) := (rmuladd_cap A B m n c d a b w hmm ha hb hm).mono fun _ _ h => h.gives

set_option maxHeartbeats 400000 in
theorem rmuladd_unlike (A B : Option Addr) (m n k c d : Nat) (b : List Nat) (w : World) (hmm : m < 256) (h : n ≠ k) (hb : Bs w B k b) (hm : k ≤ 140737488355328) :
    Calls Try.prog 46 #[.slice A n c, .int .u8 (m : Nat), .slice B k d] w fun e w' => e = .returned (.tuple #[.slice none 0 0, .int .i64 16]) ∧ Below w.heap.size w w' := by
  have HB := Lib.hid hb
  have HN := Lib.hid h
  clear hb h
  go_enter Try.func46, Try.ntmps46
  go_wp2_with fail
  refine (rscale_any B m k d b w hmm HB.out hm).mono ?_; rintro e w1 ⟨A1, c1, rfl, h1, g1⟩
  have G1 := Lib.hid g1; clear h1 g1
  go_wp2_with fail
  refine (radd_unlike A A1 n k c c1 w1 HN.out).mono ?_; rintro e w2 ⟨rfl, rfl⟩
  go_wp2_with fail
  go_ret2
  exact ⟨rfl, G1.out⟩
end Go.Proofs.Ytnabhaehfmbkpaa

/- Proved: what the document's reduced leaves of every table: pivots, and a table that is reached from it. Conditions: those that the theorems name. -/
namespace Go.Proofs.Ytnabhaehfmbkpaa
open Go.ChangeShapes Go.WideShapes Go.ChangeAt Go.RowKit

theorem ClearMid.start2 {n m d p q : Nat} {t : List (List Nat)} (h : t.length = n) (hd : d < n) (hp : p < n) :
    ClearMid n m d q 0 (swapL d p t) ((t.set p (rw_ t d)).set d (scaleL m (ginv (bt t p q)) (rw_ t p))) := by
  have hsw : rw_ (swapL d p t) d = rw_ t p := by
    rw [swapL_at (by omega) (by omega)]
    unfold swapN
    rw [if_pos rfl]
  have hlead : leadL m d q (swapL d p t) = scaleL m (ginv (bt t p q)) (rw_ t p) := by
    unfold leadL bt
    rw [hsw]
  refine ⟨by rw [List.length_set, List.length_set, h], fun r _ => ?_⟩
  rw [rw_set _ _ _ _ (by rw [List.length_set]; omega), rw_set _ _ _ _ (by omega)]
  by_cases e : d = r
  · have hR : (if r < 0 ∨ r = d then clearL m d q (swapL d p t) r else rw_ (swapL d p t) r) = clearL m d q (swapL d p t) r := if_pos (Or.inr e.symm)
    rw [if_pos e, hR]
    unfold clearL
    rw [if_pos e.symm, hlead]
  · have hR : (if r < 0 ∨ r = d then clearL m d q (swapL d p t) r else rw_ (swapL d p t) r) = rw_ (swapL d p t) r := if_neg (fun h => by rcases h with h | h; omega; exact e h.symm)
    rw [if_neg e, hR, swapL_at (by omega) (by omega)]
    unfold swapN
    rw [if_neg (fun q => e q.symm : ¬ r = d)]
    by_cases e2 : p = r
    · rw [if_pos e2, if_pos e2.symm]
    · rw [if_neg e2, if_neg (fun q => e2 q.symm : ¬ r = p)]

set_option maxRecDepth 100000 in
set_option maxHeartbeats 3200000 in
theorem rreduced_any (A : Option Addr) (n c m places : Nat) (t : List (List Nat)) (w : World) (ht : Rows w A n t) (hl : ∀ r, r < n → (rw_ t r).length = m) (hn1 : 1 ≤ n) (hn : n ≤ 255) (hp : places ≤ m) (hm1 : 1 ≤ m) (hm : m ≤ 1000) :
    Calls Try.prog 30 #[.slice A n c, .int .i64 (places : Nat)] w fun e w' => ∃ g cap t' d, e = .returned (.tuple #[.slice (some ⟨g, 0, none⟩) n cap, .int .i64 (d : Nat)]) ∧ w.heap.size ≤ g ∧ Done g n m places t w' t' d w' ∧ Below w.heap.size w w' := by
  have HT := Lib.hid ht
  have HL := Lib.hid hl
  have HGd := Lib.hid (ht.good hl)
  clear ht hl
  go_enter Try.func30, Try.ntmps30
  go_wp2_with fail
  refine (copied_any A n c t _ HT.out hn1 hn (fun r hr => by rw [HL.out r hr]; exact ⟨hm1, hm⟩)).mono ?_; rintro e w1 ⟨g, cap, rfl, hg, ho, hb⟩
  have HO := Lib.hid ho
  have HW := Lib.hid hb
  have HG := Lib.hid hg
  clear ho hb hg
  go_wp2_with fail
  go_loopw [6, 7] (fun x y wr => ∃ d p : Nat, x = .int .i64 d ∧ y = .int .i64 p ∧ p ≤ places ∧ ∃ t' cc, OwnT wr g n t' ∧ Good n m t' ∧ Piv n p d cc (tabT t') ∧ Reach n m (tabT t) (tabT t') ∧ Below w.heap.size w wr) (fun _ y _ => places - (intOf y).toNat)
  case atStart => exact ⟨0, 0, rfl, rfl, by omega, t, fun k => k, HO.out, HGd.out, Piv.start _ _ _, Reach.start _ _ _, HW.out⟩
  case round =>
    obtain ⟨d, j, rfl, rfl, hjp, t', cc, ho, hgd, hpv, hrc, hbel⟩ := hrel
    rename World => w0
    have HO0 := Lib.hid ho
    have HG0 := Lib.hid hgd
    have HP0 := Lib.hid hpv
    have HR0 := Lib.hid hrc
    have HW0 := Lib.hid hbel
    have hdn : d ≤ n := hpv.rows
    clear ho hgd hpv hrc hbel HO HW
    by_cases hj : j < places
    · by_cases hd : d < n
      · go_wp2_with fail
        go_loop [8] (fun i => ∃ p : Nat, d ≤ p ∧ p ≤ n ∧ i = .int .i64 p ∧ ∀ i, d ≤ i → i < p → bt t' i j = 0) (fun i => n - (intOf i).toNat)
        case atStart => exact ⟨d, by omega, by omega, rfl, fun i h1 h2 => absurd h2 (by omega)⟩
        case round =>
          obtain ⟨p, hdp, hpn, rfl, hz⟩ := hrel
          have HZ := Lib.hid hz
          clear hz
          by_cases hlt : p < n
          · obtain ⟨B, e, hac, hcap, hbs⟩ := HO0.out.at_cap hlt
            rw [HG0.out.row p hlt] at hac hcap hbs
            have hjm : j < m := by omega
            obtain ⟨bd, rfl, _, hbc⟩ := hbs.at_ hjm
            have HB := Lib.hid hbs
            have hxl := hbs.lt j
            clear hbs
            obtain ⟨x, ex⟩ : ∃ x, x = (rw_ t' p).getD j 0 := ⟨_, rfl⟩
            rw [← ex] at hbc hxl
            have EX : Hid (bt t' p j = x) := Lib.hid ex.symm
            clear ex
            by_cases hx : x = 0
            · subst hx
              go_wp2_with fail
              go_round
              case rel => exact ⟨p + 1, by omega, by omega, by go_num, fun i h1 h2 => by
                by_cases e : i = p
                · rw [e]; exact EX.out
                · exact HZ.out i h1 (by omega)⟩
              case measure => simp [intOf]; omega
            · have hx' : ((x : Int) == 0) = false := by simp; omega
              have hx2 : ¬ (x : Int) = 0 := by omega
              have HX := Lib.hid hx
              clear hx
              have hpn2 : ¬ (p : Int) = (n : Int) := by omega
              obtain ⟨B2, e2, hac2, hcap2, hbs2⟩ := HO0.out.at_cap hd
              rw [HG0.out.row d hd] at hac2 hcap2 hbs2
              have hf1 := HO0.out.frozen p
              have hgl := HO0.out.block_lt
              have HO1 := Lib.hid (HO0.out.set_ hlt hcap2 hbs2)
              have HB1 := Lib.hid (HB.out.put hac (.slice B2 m e2))
              have HW1 := Lib.hid (HW0.out.setCell (p := ⟨g, p, none⟩) HG.out (.slice B2 m e2))
              have hbc1 : (w0.setCell ⟨g, p, none⟩ (.slice B2 m e2)).cell? (bd.add j) = some (.int .u8 (x : Nat)) := by
                obtain ⟨ad, e, _, hc⟩ := HB1.out.at_ hjm
                injection e with e
                subst e
                rw [hc]
                exact congrArg some (val_int (congrArg _ EX.out))
              clear hbs2
              go_wp2_with fail
              refine (rinv_any x HX.out hxl _).mono ?_; rintro e w' ⟨rfl, rfl⟩
              generalize w0.setCell ⟨g, p, none⟩ (.slice B2 m e2) = w2 at *
              have hgl2 := HO1.out.block_lt
              go_wp2_with fail
              refine (rscale_cap _ (ginv x) m _ (rw_ t' p) _ (ginv_lt x) HB1.out (by omega)).mono ?_; rintro e w3 ⟨A3, c3, rfl, k3, h3, g3⟩
              have H3 := Lib.hid h3; have G3 := Lib.hid g3; clear h3 g3 hac hac2 hf1 hbc hbc1
              have HO3 := Lib.hid (HO1.out.below G3.out)
              have HW3 : Hid (Below w.heap.size w w3) := Lib.hid (HW1.out.trans (G3.out.mono HW1.out.size))
              obtain ⟨B4, c4, hc4, _⟩ := HO3.out.at_ hd
              have hfz := HO3.out.frozen d
              have HO4 := Lib.hid (HO3.out.set_ (c := c3) hd k3 H3.out)
              have HW4 := Lib.hid (HW3.out.setCell (p := ⟨g, d, none⟩) HG.out (.slice A3 m c3))
              have HC4 := Lib.hid (ClearMid.start2 (m := m) (q := j) HG0.out.len hd hlt)
              rw [EX.out] at HC4
              have HA : Hid (PivAt t' n d j places (.int .i64 (p : Nat)) j) := Lib.hid ⟨Nat.le_refl _, by omega, fun j' h1 h2 => absurd h2 (by omega), fun _ => ⟨p, rfl, hdp, hlt, by rw [EX.out]; exact HX.out⟩⟩
              have hst := step_piv (wd := m) HG0.out rfl hd hlt hdp (by rw [EX.out]; exact HX.out) hj hp HP0.out HR0.out
              have HSt := Lib.hid hst
              have HSw := Lib.hid (swap_good HG0.out hd hlt)
              clear hst
              go_wp2_with fail
              clear hc4 hfz
              go_loopw [12] (fun i wr => ∃ k : Nat, k ≤ n ∧ i = .int .i64 k ∧ ∃ s, ClearMid n m d j k (swapL d p t') s ∧ OwnT wr g n s ∧ Below w.heap.size w wr) (fun i _ => n - (intOf i).toNat)
              case atStart => exact ⟨0, by omega, rfl, _, HC4.out, HO4.out, HW4.out⟩
              case round =>
                obtain ⟨k, hk, rfl, s, hu, ho, hbel⟩ := hrel
                rename World => w5
                have HU := Lib.hid hu
                have HO5 := Lib.hid ho
                have HW5 := Lib.hid hbel
                clear hu ho hbel HO4 HW4 HC4
                by_cases hkn : k < n
                · by_cases hkd : k = d
                  · subst hkd
                    go_wp2_with fail
                    go_roundw
                    case rel => exact ⟨k + 1, by omega, by go_num, s, HU.out.skip (Or.inl rfl), HO5.out, HW5.out⟩
                    case measure => simp [intOf]; omega
                  · have hkd' : ((k : Int) != (d : Int)) = true := by simp; omega
                    have hkd2 : ¬ (k : Int) = (d : Int) := by omega
                    have hrow : rw_ s k = rw_ (swapL d p t') k := by rw [HU.out.2 k hkn, if_neg (by omega)]
                    have hrowd : rw_ s d = leadL m d j (swapL d p t') := by rw [HU.out.2 d hd, if_pos (Or.inr rfl)]; unfold clearL; rw [if_pos rfl]
                    have hlenk := HSw.out.row k hkn
                    have hlend : (leadL m d j (swapL d p t')).length = m := mk_len _ _
                    obtain ⟨B6, c6, hc6, hb6⟩ := HO5.out.at_ hkn
                    obtain ⟨B7, c7, hc7, hb7⟩ := HO5.out.at_ hd
                    rw [hrow, hlenk] at hc6 hb6
                    rw [hrowd, hlend] at hc7 hb7
                    obtain ⟨kd, rfl, _, hy6⟩ := hb6.at_ hjm
                    have HB6 := Lib.hid hb6
                    have HB7 := Lib.hid hb7
                    have hyl := HB6.out.lt j
                    clear hb6 hb7 hrow hrowd hlenk hlend
                    obtain ⟨y, ey⟩ : ∃ y, y = (rw_ (swapL d p t') k).getD j 0 := ⟨_, rfl⟩
                    rw [← ey] at hy6 hyl
                    have EY : Hid (bt (swapL d p t') k j = y) := Lib.hid ey.symm
                    clear ey
                    have hgl5 := HO5.out.block_lt
                    go_wp2_with fail
                    have HD5 : Hid (Below w.heap.size w w5.drew) := Lib.hid HW5.out.drew
                    have hkd5 : kd.block < w5.drew.heap.size := by
                      obtain ⟨ad9, e9, hlt9, _⟩ := HB6.out.at_ hjm
                      cases e9
                      exact hlt9
                    have KP : Hid (∀ w6, Below w5.drew.heap.size w5.drew w6 → w6.cell? ⟨g, k, none⟩ = some (.slice (some kd) m c6) ∧ w6.cell? ⟨g, d, none⟩ = some (.slice B7 m c7) ∧ w6.cell? (kd.add j) = some (.int .u8 (y : Nat))) := Lib.hid fun w6 h =>
                      ⟨(h.cell (p := ⟨g, k, none⟩) hgl5).trans hc6, (h.cell (p := ⟨g, d, none⟩) hgl5).trans hc7, (h.cell (p := kd.add j) (by rw [add_block]; exact hkd5)).trans hy6⟩
                    have hy256 : m ≤ 140737488355328 := by omega
                    go_region_held3 (fun w' => w'.cell? ⟨g, k, none⟩ = some (.slice (some kd) m c6) ∧ w'.cell? ⟨g, d, none⟩ = some (.slice B7 m c7) ∧ w'.cell? (kd.add j) = some (.int .u8 (y : Nat)))
                      (first | exact KP.out _ (Below.refl _ _) | exact KP.out _ G6.out)
                      ((go_at_call 46; refine (rmuladd_cap (some kd) B7 y m c6 c7 (rw_ (swapL d p t') k) (leadL m d j (swapL d p t')) w5.drew hyl HB6.out.drew HB7.out.drew hy256).mono ?_; rintro e w6 ⟨A6, e6, rfl, k6, h6, g6⟩; have H6 := Lib.hid h6; have G6 := Lib.hid g6; clear h6 g6))
                    all_goals
                      have hrow6 : addL m (rw_ (swapL d p t') k) (scaleL m y (leadL m d j (swapL d p t'))) = clearL m d j (swapL d p t') k := by unfold clearL; rw [if_neg hkd, EY.out]
                      rw [hrow6] at H6
                      have HO6 := Lib.hid (HO5.out.drew.below G6.out)
                      have HW6 : Hid (Below w.heap.size w w6) := Lib.hid (HD5.out.trans (G6.out.mono HD5.out.size))
                      obtain ⟨B8, c8, hc8, _⟩ := HO6.out.at_ hkn
                      have hfz8 := HO6.out.frozen k
                      clear hrow6 hc6 hc7 hy6
                      go_wp2_with fail
                      go_roundw
                      case rel => exact ⟨k + 1, by omega, by go_num, _, HU.out.next hkn, HO6.out.set_ hkn k6 H6.out, HW6.out.setCell (p := ⟨g, k, none⟩) HG.out _⟩
                      case measure => simp [intOf]; omega
                · obtain rfl : k = n := by omega
                  have hdone := HU.out.done_
                  go_wp2_with fail
                  go_roundw
                  case rel =>
                    subst hdone
                    exact ⟨d + 1, j + 1, by go_num, by go_num, by omega, _, _, HO5.out, HSt.out.1, HSt.out.2.1, HSt.out.2.2, HW5.out⟩
                  case measure => simp [intOf]; omega
          · obtain rfl : p = n := by omega
            go_wp2_with fail
            go_roundw
            case rel => exact ⟨d, j + 1, rfl, by go_num, by omega, t', cc, HO0.out, HG0.out, HP0.out.skip (fun i h1 h2 => (tabT_zero HG0.out h2).2 (HZ.out i h1 h2)), HR0.out, HW0.out⟩
            case measure => simp [intOf]; omega
      · obtain rfl : d = n := by omega
        go_wp2_with fail
        go_ret2
        exact ⟨g, cap, t', d, rfl, HG.out, ⟨cc, HO0.out, HG0.out, HP0.out.stop hjp, HR0.out, Below.refl _ _⟩, HW0.out⟩
    · obtain rfl : j = places := by omega
      go_wp2_with fail
      go_ret2
      exact ⟨g, cap, t', d, rfl, HG.out, ⟨cc, HO0.out, HG0.out, HP0.out, HR0.out, Below.refl _ _⟩, HW0.out⟩
end Go.Proofs.Ytnabhaehfmbkpaa

/- Proved: lemmas of one statement's proof, merged by program: what each part proves stands ahead of it. Conditions: those that the lemmas name. -/
import Derived.Test.YtooegclblgeicaaGreatDoorM10
import Derived.Deep.RegionWith
import Derived.Test.YtooegclblgeicaaGreatDoorM4
import Derived.WalkSpells
import Derived.StillTactics
import Derived.OwnWalk
import Derived.Deep.RegionHeld3
import Derived.Deep.AppendLies

/- Proved: what reduce of package matrix leaves of every table: pivots, and a table that is reached from it. Conditions: those that the theorems name. -/
namespace Go.Proofs.YtooegclblgeicaaGreatDoor
open Go.ChangeShapes Go.WideShapes Go.ChangeAt Go.RowKit

theorem OwnT.drew {w : World} {g n : Nat} {t : List (List Nat)} (h : OwnT w g n t) : OwnT w.drew g n t := h
theorem Bs.drew {w : World} {A : Option Addr} {n : Nat} {l : List Nat} (h : Bs w A n l) : Bs w.drew A n l := h
/-- two rows of a table of the call's own swapped. -/
theorem OwnT.swap {w : World} {g n a b : Nat} {t : List (List Nat)} (h : OwnT w g n t) (ha : a < n) (hb : b < n) {A B : Option Addr} {k c l d : Nat}
    (hkc : k ≤ c) (hld : l ≤ d) (hA : Bs w A k (rw_ t a)) (hB : Bs w B l (rw_ t b)) :
    OwnT ((w.setCell ⟨g, a, none⟩ (.slice B l d)).setCell ⟨g, b, none⟩ (.slice A k c)) g n (swapL a b t) := by
  obtain ⟨C, e, hc, _⟩ := h.at_ ha
  exact (h.set_ ha hld hB).set_ hb hkc (hA.put hc _)

/-- what an elimination leaves. -/
def Done (g n m places : Nat) (t : List (List Nat)) (W : World) (t' : List (List Nat)) (d : Nat) (w' : World) : Prop :=
  ∃ c, OwnT w' g n t' ∧ Good n m t' ∧ Piv n places d c (tabT t') ∧ Reach n m (tabT t) (tabT t') ∧ Below g W w'

set_option maxRecDepth 100000 in
set_option maxHeartbeats 1600000 in
theorem reduce_any (g n c m places : Nat) (t : List (List Nat)) (w : World) (ht : OwnT w g n t) (hl : ∀ r, r < n → (rw_ t r).length = m) (hn : n ≤ 255) (hp : places ≤ m) (hm : m ≤ 1000) :
    Calls Tryz.prog 63 #[.slice (some ⟨g, 0, none⟩) n c, .int .i64 (places : Nat)] w fun e w' => ∃ t' d, e = .returned (.int .i64 (d : Nat)) ∧ Done g n m places t w t' d w' := by
  have HT := Lib.hid ht
  have HGd := Lib.hid (ht.good hl)
  clear ht hl
  go_enter Tryz.func63, Tryz.ntmps63
  go_wp2_with fail
  go_loopw [5, 6] (fun x y wr => ∃ d p : Nat, x = .int .i64 d ∧ y = .int .i64 p ∧ p ≤ places ∧ ∃ t' cc, OwnT wr g n t' ∧ Good n m t' ∧ Piv n p d cc (tabT t') ∧ Reach n m (tabT t) (tabT t') ∧ Below g w wr) (fun _ y _ => places - (intOf y).toNat)
  case atStart => exact ⟨0, 0, rfl, rfl, by omega, t, fun k => k, HT.out, HGd.out, Piv.start _ _ _, Reach.start _ _ _, Below.refl _ _⟩
  case round =>
    obtain ⟨d, p, rfl, rfl, hpp, t', cc, ho, hg, hpv, hrc, hbel⟩ := hrel
    have HO := Lib.hid ho
    have HG := Lib.hid hg
    have HP := Lib.hid hpv
    have HR := Lib.hid hrc
    have HW := Lib.hid hbel
    clear ho hg hpv hrc hbel HT
    have hdn : d ≤ n := HP.out.rows
    go_wp2_with fail
    refine (pivot_any _ n c m d p places t' _ HO.out.rows HG.out.row hn hdn hpp hp hm).mono ?_; rintro e w1 ⟨rfl, v, q, rfl, hat⟩
    have HA := Lib.hid hat
    have hq := hat.2.1
    have hpq := hat.1
    clear hat
    by_cases hlt : q < places
    · obtain ⟨pr, rfl, hdp, hpn, hne⟩ := HA.out.2.2.2 hlt
      have hdn' : d < n := by omega
      have HNE := Lib.hid hne
      clear hne
      have hqq : ((q : Int) == (places : Int)) = false := by simp; omega
      have hqq2 : ¬ (q : Int) = (places : Int) := by omega
      obtain ⟨B1, c1, hc1, k1, hb1⟩ := HO.out.at_cap hdn'
      obtain ⟨B2, c2, hc2, k2, hb2⟩ := HO.out.at_cap hpn
      have hf1 := HO.out.frozen d
      have hf2 := HO.out.frozen pr
      have hgl := HO.out.block_lt
      have HS := Lib.hid (HO.out.swap (c := c1) (d := c2) hdn' hpn k1 k2 hb1 hb2)
      clear hb1 hb2 k1 k2
      generalize (rw_ t' d).length = z1 at *
      generalize (rw_ t' pr).length = z2 at *
      go_wp2_with fail
      by_cases hdd : d = pr
      · subst hdd
        have hcc := hc1.symm.trans hc2
        injection hcc with hcc
        injection hcc with e1 e2 e3
        subst e1 e2 e3
        have hcs := World.cell?_setCell_same wr ⟨g, d, none⟩ (.slice B1 z1 c1) hc1
        go_region
        have HS' := Lib.hid HS.out.drew
        have HW' : Hid (Below g w ((wr.setCell ⟨g, d, none⟩ (.slice B1 z1 c1)).setCell ⟨g, d, none⟩ (.slice B1 z1 c1)).drew) := Lib.hid (((HW.out.setCell (p := ⟨g, d, none⟩) (Nat.le_refl g) _).setCell (p := ⟨g, d, none⟩) (Nat.le_refl g) _).drew)
        clear HS HW HO hc1 hc2 hcs
        generalize ((wr.setCell ⟨g, d, none⟩ (.slice B1 z1 c1)).setCell ⟨g, d, none⟩ (.slice B1 z1 c1)).drew = W2 at *
        have hst := step_piv (wd := m) HG.out rfl hdn' hpn hdp HNE.out hlt hp (HA.out.piv HG.out HP.out) HR.out
        have HSt := Lib.hid hst
        clear hst
        have hlen : ∀ r, r < n → (rw_ (swapL d d t') r).length = m := (swap_good HG.out hdn' hpn).row
        have hbne : bt (swapL d d t') d q ≠ 0 := by
          unfold bt
          rw [swapL_at (by rw [HG.out.len]; exact hdn') (by rw [HG.out.len]; exact hpn)]
          have e : swapN d d d = d := by unfold swapN; rw [if_pos rfl]
          rw [e]; exact HNE.out
        have HLen := Lib.hid hlen
        have HBne := Lib.hid hbne
        clear hlen hbne
        go_wp2_with fail
        refine (clear_any g n c m d q (swapL d d t') _ HS'.out HLen.out hn hdn' (by omega) hm HBne.out).mono ?_; rintro e w3 ⟨rfl, ho3, g3⟩
        have HO3 := Lib.hid ho3; have HW3 : Hid (Below g w w3) := Lib.hid (HW'.out.trans g3); clear ho3 g3
        go_wp2_with fail
        go_roundw
        case rel => exact ⟨d + 1, q + 1, by go_num, by go_num, by omega, _, _, HO3.out, HSt.out.1, HSt.out.2.1, HSt.out.2.2, HW3.out⟩
        case measure => simp [intOf]; omega
      · have hne1 : (d : Int) ≠ (pr : Int) := by omega
        have hne2 : (⟨g, d, none⟩ : Addr) ≠ ⟨g, pr, none⟩ := by intro e; injection e; omega
        have hcs : (wr.setCell ⟨g, d, none⟩ (.slice B2 z2 c2)).cell? ⟨g, pr, none⟩ = some (.slice B2 z2 c2) := by rw [World.cell?_setCell_other _ _ _ _ hne2]; exact hc2
        go_region
        have HS' := Lib.hid HS.out.drew
        have HW' : Hid (Below g w ((wr.setCell ⟨g, d, none⟩ (.slice B2 z2 c2)).setCell ⟨g, pr, none⟩ (.slice B1 z1 c1)).drew) := Lib.hid (((HW.out.setCell (p := ⟨g, d, none⟩) (Nat.le_refl g) _).setCell (p := ⟨g, pr, none⟩) (Nat.le_refl g) _).drew)
        clear HS HW HO hc1 hc2 hcs hne2
        generalize ((wr.setCell ⟨g, d, none⟩ (.slice B2 z2 c2)).setCell ⟨g, pr, none⟩ (.slice B1 z1 c1)).drew = W2 at *
        have hst := step_piv (wd := m) HG.out rfl hdn' hpn hdp HNE.out hlt hp (HA.out.piv HG.out HP.out) HR.out
        have HSt := Lib.hid hst
        clear hst
        have hlen : ∀ r, r < n → (rw_ (swapL d pr t') r).length = m := (swap_good HG.out hdn' hpn).row
        have hbne : bt (swapL d pr t') d q ≠ 0 := by
          unfold bt
          rw [swapL_at (by rw [HG.out.len]; exact hdn') (by rw [HG.out.len]; exact hpn)]
          have e : swapN d pr d = pr := by unfold swapN; rw [if_pos rfl]
          rw [e]; exact HNE.out
        have HLen := Lib.hid hlen
        have HBne := Lib.hid hbne
        clear hlen hbne
        go_wp2_with fail
        refine (clear_any g n c m d q (swapL d pr t') _ HS'.out HLen.out hn hdn' (by omega) hm HBne.out).mono ?_; rintro e w3 ⟨rfl, ho3, g3⟩
        have HO3 := Lib.hid ho3; have HW3 : Hid (Below g w w3) := Lib.hid (HW'.out.trans g3); clear ho3 g3
        go_wp2_with fail
        go_roundw
        case rel => exact ⟨d + 1, q + 1, by go_num, by go_num, by omega, _, _, HO3.out, HSt.out.1, HSt.out.2.1, HSt.out.2.2, HW3.out⟩
        case measure => simp [intOf]; omega
    · obtain rfl : q = places := by omega
      go_wp2_with fail
      go_ret
      exact ⟨t', d, rfl, cc, HO.out, HG.out, HA.out.piv HG.out HP.out, HR.out, HW.out⟩
end Go.Proofs.YtooegclblgeicaaGreatDoor

/- Proved: what slices.Clone leaves of a table and of a row, and what Rank of package matrix answers for every table. Conditions: those that the theorems name. -/
namespace Go.Proofs.YtooegclblgeicaaGreatDoor
open Go.ChangeShapes Go.WideShapes Go.ChangeAt Go.RowKit

theorem Rows.drew {w : World} {A : Option Addr} {n : Nat} {t : List (List Nat)} (h : Rows w A n t) : Rows w.drew A n t := h
def cellsAt (w : World) (ad : Addr) (n : Nat) : List Value := (List.range n).map fun r => (w.cell? (ad.add r)).getD (.bool false)
theorem cellsAt_len (w : World) (ad : Addr) (n : Nat) : (cellsAt w ad n).length = n := by unfold cellsAt; rw [List.length_map, List.length_range]
theorem cellsAt_at {w : World} {ad : Addr} {n j : Nat} {u : Value} (hj : j < n) (h : w.cell? (ad.add j) = some u) : (cellsAt w ad n)[j]? = some u := by
  unfold cellsAt
  rw [List.getElem?_map, List.getElem?_range hj, Option.map_some, h]; rfl
theorem Rows.source {w : World} {ad : Addr} {n : Nat} {t : List (List Nat)} (h : Rows w (some ad) n t) : ∀ j u, (cellsAt w ad n)[j]? = some u → w.cell? (ad.add j) = some u := by
  intro j u hu
  have hj : j < n := by
    have := (List.getElem?_eq_some_iff.1 hu).1
    rwa [cellsAt_len] at this
  obtain ⟨ad', B, c, e, _, hc, _⟩ := h.at_ hj
  injection e with e
  subst e
  rw [cellsAt_at hj hc] at hu
  rw [hc, hu]
theorem Rows.one {w : World} {ad : Addr} {n : Nat} {t : List (List Nat)} (h : Rows w (some ad) n t) : ∀ u ∈ cellsAt w ad n, u.oneCell' = true := by
  intro u hu
  obtain ⟨j, hj, rfl⟩ := List.getElem_of_mem hu
  rw [cellsAt_len] at hj
  obtain ⟨ad', B, c, e, _, hc, _⟩ := h.at_ hj
  injection e with e
  subst e
  have := cellsAt_at hj hc
  rw [List.getElem?_eq_getElem (by rw [cellsAt_len]; exact hj)] at this
  injection this with this
  rw [this]; rfl
theorem Rows.cut {w w' : World} {ad : Addr} {n : Nat} {t : List (List Nat)} {v : Value} (h : Rows w (some ad) n t) (hb : Below w.heap.size w w') (hv : ∀ k, v.ownBlock = some k → w.heap.size ≤ k) : Cut w' v (cellsAt w ad n) t := by
  refine ⟨by rw [cellsAt_len, h.len], fun r hr => ?_⟩
  rw [h.len] at hr
  obtain ⟨ad', B, c, e, _, hc, h0, hs⟩ := h.at_cap hr
  injection e with e
  subst e
  refine ⟨B, c, cellsAt_at hr hc, h0, hs.below hb, fun ad e hl q => ?_⟩
  obtain ⟨ad', e', hlt, _⟩ := hs.2.2 hl
  rw [e] at e'
  injection e' with e'
  subst e'
  have := hv _ q
  omega

set_option maxHeartbeats 400000 in
theorem cloneR_any (ad : Addr) (n c : Nat) (l : List Nat) (w : World) (ht : Bs w (some ad) n l) (h0 : 0 < n) (hn : n ≤ 255) :
    Calls Tryz.prog 64 #[.slice (some ad) n c] w (GivesC w n l) := by
  obtain ⟨i0, hi0, hz0, hz1, hz2⟩ := info_parts Tryz.infoByte
  have HT := Lib.hid ht
  clear ht
  have hq : ∀ w, (binOp .eql 55 (.slice (some ad) n c) (.slice none 0 0)).run Tryz.prog w = .ok (.bool false) w := fun w => Lib.run_eql_slice_nil w _ _ (some ad) n c 0 0 Tryz.underlying55
  go_enter Tryz.func64, Tryz.ntmps64
  have hal : Below w.heap.size w (w.alloc (.cells #[] 5)) := (Below.refl _ _).alloc (Nat.le_refl _) _
  have HT1 := Lib.hid (HT.out.below hal)
  have HAL := Lib.hid hal
  clear hal
  go_wp2_with (at_builtin; refine wpList_append_grows _ rfl _ _ 55 rfl 5 i0 (.int .u8 0) 1 1 Tryz.underlying55 hi0 hz0 hz1 hz2 rfl (by decide) (some ⟨w.heap.size, 0, none⟩) 0 0 [] rfl (by simp) rfl (by simp) ad n c (cells l) rfl (by rw [cells_len, HT1.out.len, Nat.mul_one]) HT1.out.source (cells_one l) (by omega) (by unfold maxLen; omega) (by omega) ?_; intro v1 w1 hown hgr; rw [Nat.zero_add, List.nil_append] at hown; have hb1 := (Below.refl _ _).grown hgr (Nat.le_refl _) (by simp); obtain ⟨g, cap, rfl, _, hcap, _, ho⟩ := own_of hown HT1.out.lt h0; have HO := Lib.hid ho; have HB := Lib.hid (HAL.out.trans (hb1.mono HAL.out.size)); clear hown hgr hb1 ho)
  go_ret
  exact ⟨_, _, rfl, hcap, HO.out.bs, HB.out⟩

/-- what Rank must answer: 0 beside an error; else the rank. -/
def RankIs (t : List (List Nat)) (r : Nat) : Prop := (chk t ≠ 0 → r = 0) ∧ (chk t = 0 → RankT t.length (rw_ t 0).length (tabT t) r)
theorem RankIs.only {t : List (List Nat)} {r s : Nat} (h : RankIs t r) (g : RankIs t s) : r = s := by
  by_cases e : chk t = 0
  · exact (h.2 e).only (g.2 e)
  · rw [h.1 e, g.1 e]
/-- What a Rank leaves. -/
def GivesRank (W : World) (t : List (List Nat)) (e : Ending) (w' : World) : Prop :=
  ∃ r, e = .returned (.tuple #[.int .i64 (r : Nat), .int .i64 (chk t : Nat)]) ∧ RankIs t r ∧ Below W.heap.size W w'

end Go.Proofs.YtooegclblgeicaaGreatDoor

/- Proved: what the document's Add, Scale and MulAdd of rows answer for every byte and rows of bytes. Conditions: those that the theorems name. -/
namespace Go.Proofs.YtooegclblgeicaaGreatDoor
open Go.ChangeShapes Go.WideShapes Go.ChangeAt Go.RowKit

theorem cells_mk_succ (n : Nat) (f : Nat → Nat) : cells (mk n f) ++ [Value.int .u8 (f n : Nat)] = cells (mk (n + 1) f) := by
  unfold cells mk
  rw [List.range_succ, List.map_append, List.map_append]; rfl
/-- What was gathered, as a row that reads as a list. -/
theorem bs_of_cap {w : World} {base n : Nat} {v : Value} {l : List Nat} (h : w.ownsRow base 5 1 v n (cells l)) (hb : ∀ j, l.getD j 0 < 256) : ∃ A c, v = .slice A n c ∧ n ≤ c ∧ Bs w A n l := by
  by_cases hn : n = 0
  · subst hn
    have hl : l = [] := by
      have := h.1
      rw [cells_len, Nat.zero_mul] at this
      exact List.eq_nil_of_length_eq_zero this
    subst hl
    rcases h.2 with ⟨rfl, _⟩ | ⟨g, cap, cur, rfl, _⟩
    · exact ⟨_, _, rfl, Nat.zero_le _, Bs.nil _ _⟩
    · exact ⟨_, _, rfl, Nat.zero_le _, Bs.nil _ _⟩
  · obtain ⟨g, cap, rfl, _, hc, _, ho⟩ := own_of h hb (by omega)
    exact ⟨_, _, rfl, hc, ho.bs⟩
theorem bs_of {w : World} {base n : Nat} {v : Value} {l : List Nat} (h : w.ownsRow base 5 1 v n (cells l)) (hb : ∀ j, l.getD j 0 < 256) : ∃ A c, v = .slice A n c ∧ Bs w A n l := by
  obtain ⟨A, c, e, _, h2⟩ := bs_of_cap h hb
  exact ⟨A, c, e, h2⟩

set_option maxHeartbeats 400000 in
theorem radd_cap (A B : Option Addr) (n c d : Nat) (a b : List Nat) (w : World) (ha : Bs w A n a) (hb : Bs w B n b) (hm : n ≤ 140737488355328) :
    Calls Tryz.prog 59 #[.slice A n c, .slice B n d] w (Gives2C w n (addL n a b)) := by
  obtain ⟨i0, hi0, hz0, hz1, hz2⟩ := info_parts Tryz.infoByte
  have HA := Lib.hid ha
  have HB := Lib.hid hb
  clear ha hb
  go_enter Tryz.func59, Tryz.ntmps59
  go_wp2_with fail
  go_loopw [6, 7] (fun v i wr => ∃ k : Nat, k ≤ n ∧ i = .int .i64 k ∧ wr.ownsRow w.heap.size 5 1 v k (cells (mk k fun j => a.getD j 0 ^^^ b.getD j 0)) ∧ Below w.heap.size w wr) (fun _ i _ => n - (intOf i).toNat)
  case atStart => exact ⟨0, by omega, rfl, World.ownsRow_nil _ _ _ _, Below.refl _ _⟩
  case round =>
    obtain ⟨k, hk, rfl, hown, hbel⟩ := hrel
    have HO := Lib.hid hown
    have HW := Lib.hid hbel
    clear hown hbel
    by_cases hlt : k < n
    · obtain ⟨ad, rfl, la, hac⟩ := HA.out.at_ hlt
      obtain ⟨bd, rfl, lb, hbc⟩ := HB.out.at_ hlt
      rw [← HW.out.cell (p := ad.add k) (by rw [add_block]; exact la)] at hac
      rw [← HW.out.cell (p := bd.add k) (by rw [add_block]; exact lb)] at hbc
      have hx := HA.out.lt k
      have hy := HB.out.lt k
      obtain ⟨x, ex⟩ : ∃ x, x = a.getD k 0 := ⟨_, rfl⟩
      obtain ⟨y, ey⟩ : ∃ y, y = b.getD k 0 := ⟨_, rfl⟩
      rw [← ex] at hac hx
      rw [← ey] at hbc hy
      have EX := Lib.hid ex
      have EY := Lib.hid ey
      clear ex ey
      have fa := Lib.hid (show some (ad.add k).block ≠ u6.ownBlock from fun e => by have := (HO.out.lt _ e.symm).1; rw [add_block] at this; omega)
      have fb := Lib.hid (show some (bd.add k).block ≠ u6.ownBlock from fun e => by have := (HO.out.lt _ e.symm).1; rw [add_block] at this; omega)
      have la' : (ad.add k).block < wr.heap.size := by have := HW.out.size; rw [add_block]; omega
      have lb' : (bd.add k).block < wr.heap.size := by have := HW.out.size; rw [add_block]; omega
      have hlt' : (k : Int) < (n : Int) := by omega
      have hk0 : (0 : Int) ≤ (k : Int) := Int.natCast_nonneg _
      have hmax : k + 1 ≤ maxLen := by unfold maxLen; omega
      have hws := HW.out.size
      go_wp2_with fail
      go_region_held3 (fun w' => w'.cell? (ad.add k) = some (.int .u8 (x : Nat)) ∧ w'.cell? (bd.add k) = some (.int .u8 (y : Nat)))
        (first
          | go_keep
          | (go_split_ands
             refine ⟨?_, ?_⟩
             · (rw [hgrow.cell_far _ (by simp; omega) fa.out]; assumption)
             · (rw [hgrow.cell_far _ (by simp; omega) fb.out]; assumption)))
        ((refine step_append_lies _ (by rfl) _ _ _ (by rfl) w.heap.size 5 i0 _ 1 1 Tryz.underlying55 hi0 hz0 hz1 hz2 rfl (by omega) u6 k _ (by rfl) ((HO.out.alloc _).drew)
            ⟨wr.heap.size, 0, none⟩ 1 1 [.int .u8 (bits BinOp.xor IntKind.u8 (x : Nat) (y : Nat))] (by rfl) (by rfl) (World.news_of_block (cs := #[.int .u8 (bits BinOp.xor IntKind.u8 (x : Nat) (y : Nat))]) (t := 5) (fr := (0, 0)) (heap_alloc_new wr _)) (by simp [Value.oneCell'])
            (by omega) hmax (by omega) (by simp; omega) (wr.heap.size + 1) (by simp) ?_; intro gg cap w1 hown1 hgrow hat hlt1))
      go_wp2
      go_roundw
      case rel =>
        refine ⟨k + 1, by omega, by go_num, ?_, ((HW.out.alloc hws _).drew).grown hgrow (by simp; omega) (fun j e => (HO.out.lt j e).1)⟩
        have h := hown1
        rw [u8_xor_nat x y hx hy, EX.out, EY.out, cells_mk_succ] at h
        exact h
      case measure => simp [intOf]; omega
    · obtain rfl : k = n := by omega
      obtain ⟨A', c', rfl, hcap, hbs⟩ := bs_of_cap HO.out (addL_lt k a b HA.out.lt HB.out.lt)
      have HBS := Lib.hid hbs
      clear hbs
      go_wp2_with fail
      go_ret2
      exact ⟨_, _, rfl, hcap, HBS.out, HW.out⟩
theorem radd_like (A B : Option Addr) (n c d : Nat) (a b : List Nat) (w : World) (ha : Bs w A n a) (hb : Bs w B n b) (hm : n ≤ 140737488355328) :
    Calls Tryz.prog 59 #[.slice A n c, .slice B n d] w (Gives2 w n (addL n a b)) := (radd_cap A B n c d a b w ha hb hm).mono fun _ _ h => h.gives

set_option maxHeartbeats 400000 in
theorem radd_unlike (A B : Option Addr) (n m c d : Nat) (w : World) (h : n ≠ m) :
    Calls Tryz.prog 59 #[.slice A n c, .slice B m d] w fun e w' => e = .returned (.tuple #[.slice none 0 0, .int .i64 16]) ∧ w = w' := by
  have h1 : ((n : Int) != (m : Int)) = true := by simp; omega
  have h2 : ((n : Int) == (m : Int)) = false := by simp; omega
  clear h
  go_enter Tryz.func59, Tryz.ntmps59
  go_wp2_with fail
  go_ret2
  exact ⟨rfl, rfl⟩
end Go.Proofs.YtooegclblgeicaaGreatDoor

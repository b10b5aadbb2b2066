/- Proved: what reduce of package matrix leaves of every table: pivots, and a table that is reached from it. Conditions: those that the theorems name. -/
import Derived.Test.YtfndnlfinoeamaaMatClear
namespace Go.Proofs.Ytfndnlfinoeamaa
open Go.ChangeShapes Go.WideShapes Go.ChangeAt Go.RowKit

theorem OwnT.drew {w : World} {g n : Nat} {t : List (List Nat)} (h : OwnT w g n t) : OwnT w.drew g n t := h
theorem Bs.drew {w : World} {A : Option Addr} {n : Nat} {l : List Nat} (h : Bs w A n l) : Bs w.drew A n l := h
/-- two rows of a table of the call's own swapped. -/
theorem OwnT.swap {w : World} {g n a b : Nat} {t : List (List Nat)} (h : OwnT w g n t) (ha : a < n) (hb : b < n) {A B : Option Addr} {k c l d : Nat}
    (hkc : k ≤ c) (hld : l ≤ d) (hA : Bs w A k (rw_ t a)) (hB : Bs w B l (rw_ t b)) :
    OwnT ((w.setCell ⟨g, a, none⟩ (.slice B l d)).setCell ⟨g, b, none⟩ (.slice A k c)) g n (swapL a b t) := by
  obtain ⟨C, e, hc, _⟩ := h.at_ ha
  exact (h.set_ ha hld hB).set_ hb hkc (hA.put hc _)

/-- what an elimination leaves. -/
def Done (g n m places : Nat) (t : List (List Nat)) (W : World) (t' : List (List Nat)) (d : Nat) (w' : World) : Prop :=
  ∃ c, OwnT w' g n t' ∧ Good n m t' ∧ Piv n places d c (tabT t') ∧ Reach n m (tabT t) (tabT t') ∧ Below g W w'

set_option maxRecDepth 100000 in
set_option maxHeartbeats 1600000 in
theorem reduce_any (g n c m places : Nat) (t : List (List Nat)) (w : World) (ht : OwnT w g n t) (hl : ∀ r, r < n → (rw_ t r).length = m) (hn : n ≤ 255) (hp : places ≤ m) (hm : m ≤ 1000) :
    Calls Try.prog 27 #[.slice (some ⟨g, 0, none⟩) n c, .int .i64 (places : Nat)] w fun e w' => ∃ t' d, e = .returned (.int .i64 (d : Nat)) ∧ Done g n m places t w t' d w' := by
  have HT := Lib.hid ht
  have HGd := Lib.hid (ht.good hl)
  clear ht hl
  go_enter Try.func27, Try.ntmps27
  go_wp2_with fail
  go_loopw [5, 6] (fun x y wr => ∃ d p : Nat, x = .int .i64 d ∧ y = .int .i64 p ∧ p ≤ places ∧ ∃ t' cc, OwnT wr g n t' ∧ Good n m t' ∧ Piv n p d cc (tabT t') ∧ Reach n m (tabT t) (tabT t') ∧ Below g w wr) (fun _ y _ => places - (intOf y).toNat)
  case atStart => exact ⟨0, 0, rfl, rfl, by omega, t, fun k => k, HT.out, HGd.out, Piv.start _ _ _, Reach.start _ _ _, Below.refl _ _⟩
  case round =>
    obtain ⟨d, p, rfl, rfl, hpp, t', cc, ho, hg, hpv, hrc, hbel⟩ := hrel
    have HO := Lib.hid ho
    have HG := Lib.hid hg
    have HP := Lib.hid hpv
    have HR := Lib.hid hrc
    have HW := Lib.hid hbel
    clear ho hg hpv hrc hbel HT
    have hdn : d ≤ n := HP.out.rows
    go_wp2_with fail
    refine (pivot_any _ n c m d p places t' _ HO.out.rows HG.out.row hn hdn hpp hp hm).mono ?_; rintro e w1 ⟨rfl, v, q, rfl, hat⟩
    have HA := Lib.hid hat
    have hq := hat.2.1
    have hpq := hat.1
    clear hat
    by_cases hlt : q < places
    · obtain ⟨pr, rfl, hdp, hpn, hne⟩ := HA.out.2.2.2 hlt
      have hdn' : d < n := by omega
      have HNE := Lib.hid hne
      clear hne
      have hqq : ((q : Int) == (places : Int)) = false := by simp; omega
      have hqq2 : ¬ (q : Int) = (places : Int) := by omega
      obtain ⟨B1, c1, hc1, k1, hb1⟩ := HO.out.at_cap hdn'
      obtain ⟨B2, c2, hc2, k2, hb2⟩ := HO.out.at_cap hpn
      have hf1 := HO.out.frozen d
      have hf2 := HO.out.frozen pr
      have hgl := HO.out.block_lt
      have HS := Lib.hid (HO.out.swap (c := c1) (d := c2) hdn' hpn k1 k2 hb1 hb2)
      clear hb1 hb2 k1 k2
      generalize (rw_ t' d).length = z1 at *
      generalize (rw_ t' pr).length = z2 at *
      go_wp2_with fail
      by_cases hdd : d = pr
      · subst hdd
        have hcc := hc1.symm.trans hc2
        injection hcc with hcc
        injection hcc with e1 e2 e3
        subst e1 e2 e3
        have hcs := World.cell?_setCell_same wr ⟨g, d, none⟩ (.slice B1 z1 c1) hc1
        go_region
        have HS' := Lib.hid HS.out.drew
        have HW' : Hid (Below g w ((wr.setCell ⟨g, d, none⟩ (.slice B1 z1 c1)).setCell ⟨g, d, none⟩ (.slice B1 z1 c1)).drew) := Lib.hid (((HW.out.setCell (p := ⟨g, d, none⟩) (Nat.le_refl g) _).setCell (p := ⟨g, d, none⟩) (Nat.le_refl g) _).drew)
        clear HS HW HO hc1 hc2 hcs
        generalize ((wr.setCell ⟨g, d, none⟩ (.slice B1 z1 c1)).setCell ⟨g, d, none⟩ (.slice B1 z1 c1)).drew = W2 at *
        have hst := step_piv (wd := m) HG.out rfl hdn' hpn hdp HNE.out hlt hp (HA.out.piv HG.out HP.out) HR.out
        have HSt := Lib.hid hst
        clear hst
        have hlen : ∀ r, r < n → (rw_ (swapL d d t') r).length = m := (swap_good HG.out hdn' hpn).row
        have hbne : bt (swapL d d t') d q ≠ 0 := by
          unfold bt
          rw [swapL_at (by rw [HG.out.len]; exact hdn') (by rw [HG.out.len]; exact hpn)]
          have e : swapN d d d = d := by unfold swapN; rw [if_pos rfl]
          rw [e]; exact HNE.out
        have HLen := Lib.hid hlen
        have HBne := Lib.hid hbne
        clear hlen hbne
        go_wp2_with fail
        refine (clear_any g n c m d q (swapL d d t') _ HS'.out HLen.out hn hdn' (by omega) hm HBne.out).mono ?_; rintro e w3 ⟨rfl, ho3, g3⟩
        have HO3 := Lib.hid ho3; have HW3 : Hid (Below g w w3) := Lib.hid (HW'.out.trans g3); clear ho3 g3
        go_wp2_with fail
        go_roundw
        case rel => exact ⟨d + 1, q + 1, by go_num, by go_num, by omega, _, _, HO3.out, HSt.out.1, HSt.out.2.1, HSt.out.2.2, HW3.out⟩
        case measure => simp [intOf]; omega
      · have hne1 : (d : Int) ≠ (pr : Int) := by omega
        have hne2 : (⟨g, d, none⟩ : Addr) ≠ ⟨g, pr, none⟩ := by intro e; injection e; omega
        have hcs : (wr.setCell ⟨g, d, none⟩ (.slice B2 z2 c2)).cell? ⟨g, pr, none⟩ = some (.slice B2 z2 c2) := by rw [World.cell?_setCell_other _ _ _ _ hne2]; exact hc2
        go_region
        have HS' := Lib.hid HS.out.drew
        have HW' : Hid (Below g w ((wr.setCell ⟨g, d, none⟩ (.slice B2 z2 c2)).setCell ⟨g, pr, none⟩ (.slice B1 z1 c1)).drew) := Lib.hid (((HW.out.setCell (p := ⟨g, d, none⟩) (Nat.le_refl g) _).setCell (p := ⟨g, pr, none⟩) (Nat.le_refl g) _).drew)
        clear HS HW HO hc1 hc2 hcs hne2
        generalize ((wr.setCell ⟨g, d, none⟩ (.slice B2 z2 c2)).setCell ⟨g, pr, none⟩ (.slice B1 z1 c1)).drew = W2 at *
        have hst := step_piv (wd := m) HG.out rfl hdn' hpn hdp HNE.out hlt hp (HA.out.piv HG.out HP.out) HR.out
        have HSt := Lib.hid hst
        clear hst
        have hlen : ∀ r, r < n → (rw_ (swapL d pr t') r).length = m := (swap_good HG.out hdn' hpn).row
        have hbne : bt (swapL d pr t') d q ≠ 0 := by
          unfold bt
          rw [swapL_at (by rw [HG.out.len]; exact hdn') (by rw [HG.out.len]; exact hpn)]
          have e : swapN d pr d = pr := by unfold swapN; rw [if_pos rfl]
          rw [e]; exact HNE.out
        have HLen := Lib.hid hlen
        have HBne := Lib.hid hbne
        clear hlen hbne
        go_wp2_with fail
        refine (clear_any g n c m d q (swapL d pr t') _ HS'.out HLen.out hn hdn' (by omega) hm HBne.out).mono ?_; rintro e w3 ⟨rfl, ho3, g3⟩
        have HO3 := Lib.hid ho3; have HW3 : Hid (Below g w w3) := Lib.hid (HW'.out.trans g3); clear ho3 g3
        go_wp2_with fail
        go_roundw
        case rel => exact ⟨d + 1, q + 1, by go_num, by go_num, by omega, _, _, HO3.out, HSt.out.1, HSt.out.2.1, HSt.out.2.2, HW3.out⟩
        case measure => simp [intOf]; omega
    · obtain rfl : q = places := by omega
      go_wp2_with fail
      go_ret
      exact ⟨t', d, rfl, cc, HO.out, HG.out, HA.out.piv HG.out HP.out, HR.out, HW.out⟩
end Go.Proofs.Ytfndnlfinoeamaa

/- Proved: lemmas of one statement's proof, merged by program: what each part proves stands ahead of it. Conditions: those that the lemmas name. -/
import Derived.Test.YtodokgkchmpmnaaGreatM15

/- Proved: what the mixtures of package rs answer for every row and all texts. Conditions: those that the theorems name. -/
namespace Go.Proofs.YtodokgkchmpmnaaGreat
open Go.ChangeShapes Go.WideShapes Go.ChangeAt Go.RowKit

/-! ### mixtures of rows -/
/-- the sum of the first q rows of b, each times its place of c. -/
def mixP (k m q : Nat) (c : List Nat) (b : List (List Nat)) : List Nat := mk m fun j => dotN q c (colL k b j)
def mixR (k m : Nat) (c : List Nat) (b : List (List Nat)) : List Nat := mixP k m k c b
theorem mulL_mix (n k m : Nat) (a b : List (List Nat)) : mulL n k m a b = mkR n fun i => mixR k m (rw_ a i) b := rfl
theorem mixP_len (k m q : Nat) (c : List Nat) (b : List (List Nat)) : (mixP k m q c b).length = m := mk_len _ _
theorem mixP_zero (k m : Nat) (c : List Nat) (b : List (List Nat)) : mixP k m 0 c b = List.replicate m 0 :=
  (eq_mk (by simp) fun j _ => rep_at m j).symm
theorem mixP_at {k m q : Nat} {c : List Nat} {b : List (List Nat)} {j : Nat} (hj : j < m) : (mixP k m q c b).getD j 0 = dotN q c (colL k b j) := mk_at _ _ _ hj
theorem col_at {k : Nat} {b : List (List Nat)} {q j : Nat} (hq : q < k) : (colL k b j).getD q 0 = (rw_ b q).getD j 0 := by unfold colL; exact mk_at _ _ _ hq
theorem mixP_next {k m q : Nat} {c : List Nat} {b : List (List Nat)} (hq : q < k) :
    mixP k m (q + 1) c b = addL m (mixP k m q c b) (scaleL m (c.getD q 0) (rw_ b q)) := by
  refine (eq_mk (by unfold addL; rw [mk_len]) fun j hj => ?_).symm
  unfold addL
  rw [mk_at _ _ _ hj, mixP_at hj, dotN_succ, col_at hq]
  unfold scaleL
  rw [mk_at _ _ _ hj]
theorem mixP_skip {k m q : Nat} {c : List Nat} {b : List (List Nat)} (hq : q < k) (hb : ∀ j, (rw_ b q).getD j 0 < 256) (h0 : c.getD q 0 = 0) : mixP k m (q + 1) c b = mixP k m q c b := by
  refine (eq_mk (mixP_len _ _ _ _ _) fun j hj => ?_).symm
  rw [mixP_at hj, dotN_succ, col_at hq, h0, gmul_zero_left _ (hb j), Nat.xor_zero]

/-! ### the closure -/
set_option maxRecDepth 100000 in
set_option maxHeartbeats 1600000 in
theorem mix_any (R A : Option Addr) (k c a B m : Nat) (r : List Nat) (t : List (List Nat)) (w : World) (hr : Bs w R k r) (ht : Rows w A k t) (hB : w.cell? ⟨B, 0, none⟩ = some (.slice A k a)) (hBl : B < w.heap.size)
    (hl : ∀ i, i < k → (rw_ t i).length = m) (h1 : 1 ≤ k) (hm1 : 1 ≤ m) (hm : m ≤ 1024) (hk : k ≤ 255) :
    Calls Tryz.prog 100 #[.slice R k c, .pointer (some ⟨B, 0, none⟩)] w fun e w' => e = .returned (.string (tx (mixR k m r t))) ∧ Below w.heap.size w w' := by
  have hmR := run_make_row' (P := Tryz.prog) 128 5 (.int .u8 0) 1 Tryz.underlying128 Tryz.infoByte rfl .i64 .i64 m (by omega) (by omega)
  have HR := Lib.hid hr
  have HT := Lib.hid ht
  have HL := Lib.hid hl
  have HB := Lib.hid hB
  obtain ⟨ad, B0, c0, rfl, had, hc0, hb0⟩ := ht.at_ (k := 0) (by omega)
  rw [Addr.add_zero' ad, hl 0 (by omega)] at hc0
  clear hr ht hl hb0
  have hpos : (0 : Int) ≤ (m : Int) := by omega
  have hk0 : (0 : Int) < (k : Int) := by omega
  go_enter Tryz.func100, Tryz.ntmps100
  go_wp2_with fail
  have HO := Lib.hid (own_new w m)
  have HW := Lib.hid ((Below.refl w.heap.size w).alloc (Nat.le_refl _) (.cells (madeCells #[.int .u8 0] m) 5))
  clear hc0 hB
  go_loopw [4, 14] (fun v i wr => ∃ q : Nat, q ≤ k ∧ i = .int .i64 q ∧ ∃ S d, v = .slice S m d ∧ Bs wr S m (mixP k m q r t) ∧ Below w.heap.size w wr) (fun _ i _ => k - (intOf i).toNat)
  case atStart => exact ⟨0, by omega, rfl, _, _, rfl, by rw [mixP_zero]; exact HO.out.bs, HW.out⟩
  case round =>
    obtain ⟨q, hq, rfl, S, d, rfl, hs, hbel⟩ := hrel
    have HS := Lib.hid hs
    have HW' := Lib.hid hbel
    clear hs hbel HO HW
    by_cases hlt : q < k
    · have hlt' : (q : Int) < (k : Int) := by omega
      have hq0 : (0 : Int) ≤ (q : Int) := Int.natCast_nonneg _
      obtain ⟨rd, rfl, hrd, hrc⟩ := HR.out.at_ hlt
      have hrc' : wr.cell? (rd.add q) = some (.int .u8 (r.getD q 0 : Nat)) := (HW'.out.cell (by rw [add_block]; exact hrd)).trans hrc
      clear hrc
      have hx := HR.out.lt q
      obtain ⟨ad', Bq, cq, e', _, hac, hbq⟩ := (HT.out.below HW'.out).at_ hlt
      cases e'
      rw [HL.out q hlt] at hac hbq
      have hB' : wr.cell? ⟨B, 0, none⟩ = some (.slice (some ad) k a) := (HW'.out.cell (p := ⟨B, 0, none⟩) hBl).trans HB.out
      have HBq := Lib.hid hbq
      clear hbq
      have HN := Lib.hid (mixP_next (m := m) (c := r) (b := t) hlt)
      have HZ := Lib.hid (fun h => mixP_skip (m := m) (c := r) (b := t) hlt HBq.out.lt h)
      generalize r.getD q 0 = x at *
      by_cases h0 : x = 0
      · subst h0
        clear hac hB'
        go_wp2_with fail
        go_roundw
        case rel => exact ⟨q + 1, by omega, by go_num, _, _, rfl, by rw [HZ.out rfl]; exact HS.out, HW'.out⟩
        case measure => simp [intOf]; omega
      · have hx' : ((x : Int) != 0) = true := by simp; omega
        have hx2 : ¬ (x : Int) = 0 := by omega
        clear h0
        go_wp2_with (go_at_call 101; refine (muladd_cap S Bq x m d cq _ _ _ hx HS.out HBq.out (by omega)).mono ?_; rintro e w2 ⟨A2, c2, rfl, hc2, h2, g2⟩; have H2 := Lib.hid h2; have HW2 := Lib.hid (HW'.out.trans (g2.mono HW'.out.size)); clear h2 g2 hc2)
        go_roundw
        case rel => exact ⟨q + 1, by omega, by go_num, _, _, rfl, by rw [HN.out]; exact H2.out, HW2.out⟩
        case measure => simp [intOf]; omega
    · obtain rfl : q = k := by omega
      have hcv := convert_back wr S m d _ HS.out (by omega)
      go_wp2_with fail
      go_ret
      exact ⟨rfl, HW'.out⟩
end Go.Proofs.YtodokgkchmpmnaaGreat

/- Proved: what blender and blends of package rs leave for every row of texts. Conditions: those that the theorems name. -/
namespace Go.Proofs.YtodokgkchmpmnaaGreat
open Go.ChangeShapes Go.WideShapes Go.ChangeAt Go.RowKit

/-- what a blender is: a closure whose variable holds the texts as rows. -/
def Blends (W : World) (k : Nat) (t : List (List Nat)) (e : Ending) (w' : World) : Prop :=
  ∃ B A a, e = .returned (.func (.func 100) #[] #[.pointer (some ⟨B, 0, none⟩)]) ∧ B < w'.heap.size ∧ w'.cell? ⟨B, 0, none⟩ = some (.slice A k a) ∧ Rows w' A k t ∧ Below W.heap.size W w'

set_option maxRecDepth 100000 in
set_option maxHeartbeats 1600000 in
theorem blender_any (A : Option Addr) (k c : Nat) (l : List ByteArray) (w : World) (hl : Ss w A k l) (hk : k ≤ 255) :
    Calls Tryz.prog 94 #[.slice A k c] w (Blends w k (tabS l)) := by
  have hmT := run_make_row' (P := Tryz.prog) 153 128 (.slice none 0 0) 24 Tryz.underlying153 Tryz.infoRow rfl .i64 .i64 k (by omega) (by omega)
  have hmf : ∀ (fn : Fn) (first cap : Array Value) (w : World), (Instr.makeFunc fn first cap).run Tryz.prog w = .ok (.func fn first cap) w := fun _ _ _ _ => rfl
  have HL := Lib.hid hl
  clear hl
  have hpos : (0 : Int) ≤ (k : Int) := by omega
  go_enter Tryz.func94, Tryz.ntmps94
  go_wp2_with fail
  have HO := Lib.hid ((ownT_new w k).below (w' := (w.alloc (.cells (madeCells #[.slice none 0 0] k) 128)).alloc (.cells #[.slice (some ⟨w.heap.size, 0, none⟩) k k] 153)) ((Below.refl _ _).alloc (Nat.le_refl _) _))
  have HW := Lib.hid (below_two w (.cells (madeCells #[.slice none 0 0] k) 128) (.cells #[.slice (some ⟨w.heap.size, 0, none⟩) k k] 153))
  have HC : Hid (((w.alloc (.cells (madeCells #[.slice none 0 0] k) 128)).alloc (.cells #[.slice (some ⟨w.heap.size, 0, none⟩) k k] 153)).cell? ⟨w.heap.size + 1, 0, none⟩ = some (.slice (some ⟨w.heap.size, 0, none⟩) k k)) := Lib.hid (by
    rw [World.cell?_alloc_at _ _ _ _ (by simp)]; rfl)
  have HZ : Hid (w.heap.size + 1 < ((w.alloc (.cells (madeCells #[.slice none 0 0] k) 128)).alloc (.cells #[.slice (some ⟨w.heap.size, 0, none⟩) k k] 153)).heap.size) := Lib.hid (by simp)
  generalize hgg : w.heap.size = g at *
  go_loopw [11] (fun v wr => ∃ q : Nat, q ≤ k ∧ v = .int .i64 q ∧ ∃ t, UptoT k q (fun i => bts (st_ l i)) t ∧ OwnT wr g k t ∧ wr.cell? ⟨g + 1, 0, none⟩ = some (.slice (some ⟨g, 0, none⟩) k k) ∧ g + 1 < wr.heap.size ∧ Below g w wr) (fun v _ => k - (intOf v).toNat)
  case atStart => exact ⟨0, by omega, rfl, _, UptoT.start (by simp), HO.out, HC.out, HZ.out, HW.out⟩
  case round =>
    obtain ⟨q, hq, rfl, t, hu, ho, hcB, hzB, hbel⟩ := hrel
    have HU := Lib.hid hu
    have HO' := Lib.hid ho
    have HW' := Lib.hid hbel
    have HC' := Lib.hid hcB
    clear hu ho hbel HO HW HC HZ
    by_cases hlt : q < k
    · have hlt' : (q : Int) < (k : Int) := by omega
      have hq0 : (0 : Int) ≤ (q : Int) := Int.natCast_nonneg _
      obtain ⟨ad, rfl, had, hac⟩ := HL.out.at_ hlt
      have hac' : wr.cell? (ad.add q) = some (.string (st_ l q)) := (HW'.out.cell (by rw [add_block]; omega)).trans hac
      clear hac
      obtain ⟨cap, C, hcap, hcv, hbs⟩ := convert_to wr (st_ l q)
      have hg : g < wr.heap.size := HO'.out.block_lt
      have HB := Lib.hid hbs
      have hbel2 : Below wr.heap.size wr (wr.drew.alloc (.cells C 5 (C.size, C.size + 1))) := ((Below.refl wr.heap.size wr).drew).alloc (Nat.le_refl _) _
      have HW2 : Hid (Below g w (wr.drew.alloc (.cells C 5 (C.size, C.size + 1)))) := Lib.hid (HW'.out.trans (hbel2.mono (Nat.le_of_lt hg)))
      have HO2 := Lib.hid (HO'.out.below hbel2)
      have HSz : Hid (g + 1 < (wr.drew.alloc (.cells C 5 (C.size, C.size + 1))).heap.size) := Lib.hid (by simp; omega)
      have HC2 : Hid ((wr.drew.alloc (.cells C 5 (C.size, C.size + 1))).cell? ⟨g + 1, 0, none⟩ = some (.slice (some ⟨g, 0, none⟩) k k)) := Lib.hid ((hbel2.cell (p := ⟨g + 1, 0, none⟩) hzB).trans HC'.out)
      have HN := Lib.hid (HU.out.next hlt)
      have hsz := bts_len (st_ l q)
      have HHs := Lib.hid hsz
      clear hbs hbel2 hsz
      generalize hs : st_ l q = s at *
      generalize hW2 : wr.drew.alloc (.cells C 5 (C.size, C.size + 1)) = W2 at *
      have hfz := HO2.out.frozen q
      have hg2 := HO2.out.block_lt
      obtain ⟨B9, c9, hc9, _⟩ := HO2.out.at_ hlt
      have hst := HO2.out.set_ hlt hcap HB.out
      have HSt := Lib.hid hst
      clear hst hs
      have hW3 := Lib.hid hW2
      clear hW2
      go_wp2_with fail
      go_roundw
      case rel => exact ⟨q + 1, by omega, by go_num, _, HN.out, HSt.out, by rw [World.cell?_setCell_other _ _ _ _ (by intro e; injection e; omega)]; exact HC2.out, by simpa using HSz.out, HW2.out.setCell (p := ⟨g, q, none⟩) (Nat.le_refl _) _⟩
      case measure => simp [intOf]; omega
    · obtain rfl : q = k := by omega
      have hlen := Lib.hid HL.out.len
      go_wp2_with fail
      go_ret
      have e := HU.out.done
      refine ⟨g + 1, _, _, rfl, hzB, HC'.out, ?_, by rw [hgg]; exact HW'.out⟩
      have h := HO'.out.rows
      rw [e] at h
      unfold tabS
      rw [hlen.out]
      exact h

/-- the same: they lie in a row of the call's own. -/
def GivesSsO (W : World) (n : Nat) (l : List ByteArray) (e : Ending) (w' : World) : Prop :=
  ∃ g, e = .returned (.slice (some ⟨g, 0, none⟩) n n) ∧ W.heap.size ≤ g ∧ OwnS w' g n l ∧ Below W.heap.size W w'
set_option maxRecDepth 100000 in
set_option maxHeartbeats 1600000 in
theorem blends_own (T A : Option Addr) (n k c d m : Nat) (t : List (List Nat)) (l : List ByteArray) (w : World) (ht : Rows w T n t) (hg : Good n k t) (hl : Ss w A k l) (hs : ∀ i, i < k → (st_ l i).size = m)
    (hn : n ≤ 255) (h1 : 1 ≤ k) (hk : k ≤ 255) (hm1 : 1 ≤ m) (hm : m ≤ 1024) :
    Calls Tryz.prog 84 #[.slice T n c, .slice A k d] w (GivesSsO w n (txS (mulL n k m t (tabS l)))) := by
  have hmS := run_make_row' (P := Tryz.prog) 93 9 (.string S0) 16 Tryz.underlying93 Tryz.infoString rfl .i64 .i64 n (by omega) (by omega)
  have HT := Lib.hid ht
  have HG := Lib.hid hg
  have HL := Lib.hid hl
  have HX : Hid (Good k m (tabS l)) := Lib.hid (tabS_good hl.len hs)
  clear ht hg hl hs
  have hpos : (0 : Int) ≤ (n : Int) := by omega
  go_enter Tryz.func84, Tryz.ntmps84
  go_wp2_with fail
  refine (blender_any A k d l w HL.out hk).mono ?_; rintro e w1 ⟨B, A1, a1, rfl, hB, hcB, hr1, g1⟩
  have HR := Lib.hid hr1; have G1 := Lib.hid g1; have HT1 := Lib.hid (HT.out.below g1); have HCB := Lib.hid hcB
  clear hr1 g1 hcB
  go_wp2_with fail
  have hal : Below w1.heap.size w1 (w1.alloc (.cells (madeCells #[.string S0] n) 9)) := (Below.refl _ _).alloc (Nat.le_refl _) _
  have HO := Lib.hid (ownS_new w1 n)
  have HW := Lib.hid hal
  have hgg := G1.out.size
  have HG2 := Lib.hid hgg
  clear hal hgg
  generalize hgg : w1.heap.size = g at *
  have HGG := Lib.hid hgg
  go_loopw [16] (fun v wr => ∃ q : Nat, q ≤ n ∧ v = .int .i64 q ∧ ∃ s, UptoS n q (fun i => tx (mixR k m (rw_ t i) (tabS l))) s ∧ OwnS wr g n s ∧ Below g w1 wr) (fun v _ => n - (intOf v).toNat)
  case atStart => exact ⟨0, by omega, rfl, _, UptoS.start (by simp), HO.out, HW.out⟩
  case round =>
    obtain ⟨q, hq, rfl, s, hu, ho, hbel⟩ := hrel
    have HU := Lib.hid hu
    have HO' := Lib.hid ho
    have HW' := Lib.hid hbel
    clear hu ho hbel HO HW
    by_cases hlt : q < n
    · have hlt' : (q : Int) < (n : Int) := by omega
      have hq0 : (0 : Int) ≤ (q : Int) := Int.natCast_nonneg _
      have hb1 : Below w1.heap.size w1 wr := hgg ▸ HW'.out
      obtain ⟨ad, Bq, cq, rfl, had, hac, hbq⟩ := (HT1.out.below hb1).at_ hlt
      rw [HG.out.row q hlt] at hac hbq
      have HBq := Lib.hid hbq
      have HRq := Lib.hid (HR.out.below hb1)
      have hcB' : wr.cell? ⟨B, 0, none⟩ = some (.slice A1 k a1) := (hb1.cell (p := ⟨B, 0, none⟩) (hgg ▸ hB)).trans HCB.out
      have hBr : B < wr.heap.size := Nat.lt_of_lt_of_le (hgg ▸ hB) hb1.size
      have HMX := Lib.hid (mix_any Bq A1 k cq a1 B m (rw_ t q) (tabS l) wr HBq.out HRq.out hcB' hBr HX.out.row h1 hm1 hm hk)
      have HN := Lib.hid (HU.out.next hlt)
      generalize hs : tx (mixR k m (rw_ t q) (tabS l)) = x at *
      clear hb1 hbq hcB' hs
      have HHg : Hid (g ≤ wr.heap.size) := Lib.hid (Nat.le_of_lt HO'.out.block_lt)
      go_wp2_with (go_at_call 100; refine HMX.out.mono ?_; rintro e w2 ⟨rfl, hw2⟩; have HO2 := Lib.hid (HO'.out.below hw2); have HW2 := Lib.hid (HW'.out.trans (hw2.mono HHg.out)); have hfz := HO2.out.frozen q; have hc0 := HO2.out.cell hlt; clear hw2)
      go_roundw
      case rel => exact ⟨q + 1, by omega, by go_num, _, HN.out, HO2.out.set_ hlt _, HW2.out.setCell (Nat.le_refl _) _⟩
      case measure => simp [intOf]; omega
    · obtain rfl : q = n := by omega
      go_wp2_with fail
      go_ret
      refine ⟨_, rfl, HG2.out, ?_, G1.out.trans (HW'.out.mono HG2.out)⟩
      have e := HU.out.done
      rw [mulL_mix, txS_mk, ← e]
      exact HO'.out
end Go.Proofs.YtodokgkchmpmnaaGreat

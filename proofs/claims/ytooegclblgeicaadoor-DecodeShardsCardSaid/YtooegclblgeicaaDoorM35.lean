/- Proved: lemmas of one statement's proof, merged by program: what each part proves stands ahead of it. Conditions: those that the lemmas name. -/
import Derived.Test.YtooegclblgeicaaDoorM30
import Derived.Test.YtooegclblgeicaaDoorM27
import Derived.Test.YtooegclblgeicaaDoorM22
import Derived.Test.YtooegclblgeicaaDoorM33

/- Proved: what the document's Encode answers for all data that may be. Conditions: those that the theorems name. -/
namespace Go.Proofs.YtooegclblgeicaaDoor
open Go.ChangeShapes Go.WideShapes Go.ChangeAt Go.RowKit

set_option maxRecDepth 100000 in
set_option maxHeartbeats 1600000 in
theorem rcheck5_good (A : Option Addr) (n c : Nat) (l : List ByteArray) (w : World) (hl : Ss w A n l) (h : dErr l = 0) :
    Calls Tryd.prog 23 #[.slice A n c] w fun e w' => e = .returned (.int .i64 0) ∧ ∃ q, w' = w.drewN q := by
  obtain ⟨h0, hf, hs⟩ := dErr_zero h
  rw [hl.len] at h0 hs
  obtain ⟨ad, rfl, had, hac⟩ := hl.at_ (k := 0) h0.1
  rw [Addr.add_zero' ad] at hac
  have HL := Lib.hid hl
  have HS := Lib.hid hs
  have h1 : ¬ (n : Int) < 1 := by omega
  have h2 : ¬ (n : Int) > 32 := by omega
  have h3 : (0 : Int) < (n : Int) := by omega
  unfold Fits at hf
  have h4 : ¬ ((st_ l 0).size : Int) < 1 := by omega
  have h5 : ¬ ((st_ l 0).size : Int) > 1024 := by omega
  clear hl h hf hs
  generalize hs0 : st_ l 0 = s0 at *
  have HS0 := Lib.hid hs0
  clear hs0
  go_enter Tryd.func23, Tryd.ntmps23
  go_wp2_with fail
  go_loopw [3] (fun v wr => ∃ q : Nat, q ≤ n ∧ v = .int .i64 q ∧ ∃ d, wr = w.drewN d) (fun v _ => n - (intOf v).toNat)
  case atStart => exact ⟨0, by omega, rfl, 0, rfl⟩
  case round =>
    obtain ⟨q, hq, rfl, d, rfl⟩ := hrel
    by_cases hlt : q < n
    · have hlt' : (q : Int) < (n : Int) := by omega
      have hq0 : (0 : Int) ≤ (q : Int) := Int.natCast_nonneg _
      obtain ⟨ad', e', _, hqc⟩ := HL.out.at_ hlt
      cases e'
      have hsz := HS.out q hlt
      generalize st_ l q = s at *
      have hsz1 : ((s.size : Int) != (s0.size : Int)) = false := by simp; omega
      clear hsz
      go_wp2_with fail
      go_quiet (fail)
      go_wp2_with fail
      go_roundw
      case rel => exact ⟨q + 1, by omega, by go_num, _, rfl⟩
      case measure => simp [intOf]; omega
    · obtain rfl : q = n := by omega
      go_wp2_with fail
      go_ret
      exact ⟨rfl, _, rfl⟩

set_option maxRecDepth 100000 in
set_option maxHeartbeats 3200000 in
theorem rencode_good (A : Option Addr) (k c n : Nat) (l : List ByteArray) (w : World) (hl : Ss w A k l) (h : dErr l = 0) (hkn : k ≤ n) (hn : n ≤ 255) :
    Calls Tryd.prog 14 #[.slice A k c, .int .i64 (n : Nat)] w (GivesSE w (txS (mulL n k (st_ l 0).size (rowsC k (upL n)) (tabS l))) 0) := by
  obtain ⟨j0, hj0, hy0, hy1, hy2⟩ := info_parts Tryd.infoString
  have HC := Lib.hid (rcheck5_good A k c l w hl h)
  obtain ⟨h0, hf, hs⟩ := dErr_zero h
  rw [hl.len] at h0 hs
  unfold Fits at hf
  have HL := Lib.hid hl
  have HS := Lib.hid hs
  have h1 : ¬ (n : Int) < (k : Int) := by omega
  have h2 : ¬ (n : Int) > 255 := by omega
  have h6 : decide ((255 : Int) < (n : Int)) = false := decide_eq_false (by omega)
  have h7 : decide (n < k) = false := decide_eq_false (by omega)
  have HX : Hid (Good k (st_ l 0).size (tabS l)) := Lib.hid (tabS_good hl.len hs)
  obtain ⟨hm1, hm2⟩ := hf
  obtain ⟨hk1, hk2⟩ := h0
  clear hl h hs
  generalize (st_ l 0).size = m at *
  have hlu : (upL n).length = n := upL_len n
  have HGd : Hid (Good n k (rowsC k (upL n))) := Lib.hid (by have := rowsC_good k (upL n); rw [hlu] at this; exact this)
  have HRw : Hid (∀ i, i < n → rw_ (rowsC k (upL n)) i = rowC k i) := Lib.hid fun i hi => by rw [rowsC_at k (upL n) (by rw [hlu]; exact hi), upL_at hi, Int.toNat_natCast]
  clear hlu
  go_enter Tryd.func14, Tryd.ntmps14
  go_wp2_with fail
  refine HC.out.mono ?_; rintro e w1 ⟨rfl, d1, hd1⟩
  have HW1 : Hid (Below w.heap.size w w1) := Lib.hid (two_drawn ⟨d1, hd1⟩)
  have HL1 := Lib.hid (HL.out.below HW1.out)
  have hgs : w.heap.size ≤ w1.heap.size := HW1.out.size
  clear hd1 HC
  go_wp2_with fail
  go_loopw [7, 8] (fun v i wr => ∃ p : Nat, p ≤ n ∧ i = .int .i64 p ∧ wr.ownsRow w1.heap.size 9 1 v p (scells (mkS p fun i => tx (mixR k m (rowC k i) (tabS l)))) ∧ Below w1.heap.size w1 wr) (fun _ i _ => n - (intOf i).toNat)
  case atStart => exact ⟨0, by omega, rfl, World.ownsRow_nil _ _ _ _, Below.refl _ _⟩
  case round =>
    obtain ⟨p, hp, rfl, hov, hbel⟩ := hrel
    rename World => w6
    have HOv := Lib.hid hov
    have HW6 := Lib.hid hbel
    clear hov hbel
    by_cases hlp : p < n
    · have hlp' : (p : Int) < (n : Int) := by omega
      have hp0 : (0 : Int) ≤ (p : Int) := Int.natCast_nonneg _
      have HR := fun W => rrow_any k n (p : Nat) W
      have e0 : cErr (k : Int) (n : Int) (p : Nat) = 0 := cErr_in (by unfold NoTab; omega) (by omega)
      rw [e0, cRow_some e0, Int.toNat_natCast, Int.toNat_natCast] at HR
      have HR' := Lib.hid HR
      have HM := Lib.hid (fun W Bq cq (hb : Bs W Bq k (rowC k p)) (g : Below w1.heap.size w1 W) => rmix_any Bq A k cq c m (rowC k p) l W hb (HL1.out.below g) HS.out hk1 (by omega) hm1 hm2)
      have HX2 : Hid (scells (mkS p fun i => tx (mixR k m (rowC k i) (tabS l))) ++ [.string (tx (mixR k m (rowC k p) (tabS l)))] = scells (mkS (p + 1) fun i => tx (mixR k m (rowC k i) (tabS l)))) := Lib.hid (by rw [scells_snoc]; exact congrArg scells (mkS_succ p fun i => tx (mixR k m (rowC k i) (tabS l))))
      clear HR e0
      generalize tx (mixR k m (rowC k p) (tabS l)) = x at *
      have hmax : p + 1 ≤ maxLen := by unfold maxLen; omega
      have hws := HW6.out.size
      go_wp2_with (first
        | (go_at_call 24; refine (HR'.out _).mono ?_; rintro e w2 ⟨A2, m2, c2, rfl, hc2', hb2, hf2, hw2⟩; obtain rfl : m2 = k := hb2.len.symm.trans (rowC_len k p); have HB2 := Lib.hid hb2; have HOv2 := Lib.hid (ss_keep HOv.out hw2); have HW2 := Lib.hid (HW6.out.trans (hw2.mono hws)); have hw2s := HW2.out.size; clear hb2 hw2 hf2)
        | (go_at_call 25; refine (HM.out _ _ _ HB2.out HW2.out).mono ?_; rintro e w7 ⟨rfl, hw7⟩; have HOv7 := Lib.hid (ss_keep HOv2.out hw7); have HW7 := Lib.hid (HW2.out.trans (hw7.mono hw2s)); have hw7s := HW7.out.size; clear hw7)
        | (at_builtin; refine wpList_append_lies _ rfl _ _ 23 rfl w1.heap.size 9 j0 _ 1 16 Tryd.underlying23 hj0 hy0 hy1 hy2 rfl (by omega) _ p _ rfl (HOv7.out.alloc _) ⟨w7.heap.size, 0, none⟩ 1 1 [.string x] rfl rfl (World.news_of_block (cs := #[.string x]) (t := 9) (fr := (0, 0)) (heap_alloc_new w7 _)) (by simp [Value.oneCell']) (by omega) hmax (by omega) (by simp; omega) (w7.heap.size + 1) (by simp) ?_; intro g8 cap8 w8 hown8 hgr8 hat8 hlt8))
      rw [HX2.out] at hown8
      go_roundw
      case rel => exact ⟨p + 1, by omega, by go_num, hown8, (HW7.out.alloc hw7s _).grown hgr8 (by simp; omega) (fun i e => (HOv7.out.lt i e).1)⟩
      case measure => simp [intOf]; omega
    · obtain rfl : p = n := by omega
      obtain ⟨A8, c8, rfl, hcap8, hs8⟩ := ss_of HOv.out
      have HS8 : Hid (Ss w6 A8 p (txS (mulL p k m (rowsC k (upL p)) (tabS l)))) := Lib.hid (by
        rw [mulL_mix, txS_mk]
        have e : (mkS p fun i => tx (mixR k m (rw_ (rowsC k (upL p)) i) (tabS l))) = mkS p fun i => tx (mixR k m (rowC k i) (tabS l)) := eq_mkS (mkS_len _ _) fun j hj => by rw [mkS_at _ _ _ hj, HRw.out j hj]
        rw [e]; exact hs8)
      have HWF : Hid (Below w.heap.size w w6) := Lib.hid (HW1.out.trans (HW6.out.mono hgs))
      clear hs8 hcap8
      go_wp2_with fail
      go_ret2
      exact ⟨_, _, _, rfl, HS8.out, HWF.out⟩
end Go.Proofs.YtooegclblgeicaaDoor

/- Proved: what the document's Shards tells of every text and every two numbers. Conditions: those that the theorems name. -/
namespace Go.Proofs.YtooegclblgeicaaDoor
open Go.ChangeShapes Go.WideShapes Go.ChangeAt Go.RowKit

set_option maxRecDepth 100000 in
set_option maxHeartbeats 1600000 in
theorem rshards_err (s : ByteArray) (k r : Int) (w : World) (hs : s.size ≤ maxLen) (h : shE s.size k r ≠ 0) :
    Calls Tryd.prog 7 #[.string s, .int .i64 k, .int .i64 r] w (GivesSh w (shO s k r) (shM s.size k r) (shE s.size k r)) := by
  rw [shO_err h, shM_err h]
  unfold maxLen at hs
  by_cases g : k < 1 ∨ 32 < k ∨ r < 0 ∨ 255 - k < r
  · rw [shE_arg g]
    have key : k < 1 ∨ ¬ k < 1 ∧ k > 32 ∨ ¬ k < 1 ∧ ¬ k > 32 ∧ r < 0 ∨ ¬ k < 1 ∧ ¬ k > 32 ∧ ¬ r < 0 ∧ r > 255 - k ∧ wrap64 (255 - k) = 255 - k := by
      have : k < 1 ∨ 32 < k ∨ wrap64 (255 - k) = 255 - k := by
        by_cases hk : k < 1 ∨ 32 < k
        · rcases hk with hk | hk
          · exact .inl hk
          · exact .inr (.inl hk)
        · exact .inr (.inr (IntWalk.wrap64_in _ (by omega)))
      omega
    clear h g
    rcases key with h1 | ⟨h1, h2⟩ | ⟨h1, h2, h3⟩ | ⟨h1, h2, h3, h4, h5⟩
    all_goals
      go_enter Tryd.func7, Tryd.ntmps7
      go_wp2_with fail
      go_ret3
      exact ⟨_, _, _, rfl, Ss.nil _ _, Below.refl _ _⟩
  · have gl : s.size < 1 ∨ k * 1024 < s.size := by
      by_cases gl : s.size < 1 ∨ k * 1024 < s.size
      · exact gl
      · exact absurd (shE_ok g gl) h
    rw [shE_long g gl]
    have h1 : ¬ k < 1 := by omega
    have h2 : ¬ k > 32 := by omega
    have h3 : ¬ r < 0 := by omega
    have h4 : ¬ r > 255 - k := by omega
    have h5 : wrap64 (255 - k) = 255 - k := IntWalk.wrap64_in _ (by omega)
    have h6 : wrap64 (k * 1024) = k * 1024 := IntWalk.wrap64_in _ (by omega)
    have key : (s.size : Int) < 1 ∨ ¬ (s.size : Int) < 1 ∧ (s.size : Int) > k * 1024 := by omega
    clear h g gl
    rcases key with g1 | ⟨g1, g2⟩
    all_goals
      go_enter Tryd.func7, Tryd.ntmps7
      go_wp2_with fail
      go_ret3
      exact ⟨_, _, _, rfl, Ss.nil _ _, Below.refl _ _⟩

set_option maxRecDepth 100000 in
set_option maxHeartbeats 1600000 in
theorem rshards_ok (s : ByteArray) (k r : Nat) (w : World) (h1 : 1 ≤ k) (h2 : k ≤ 32) (h3 : r ≤ 255 - k) (h4 : 1 ≤ s.size) (h5 : s.size ≤ k * 1024) :
    Calls Tryd.prog 7 #[.string s, .int .i64 k, .int .i64 r] w (GivesSh w (shO s k r) (shM s.size k r) (shE s.size k r)) := by
  have hz : shE s.size k r = 0 := shE_ok (by omega) (by omega)
  obtain ⟨m, hm⟩ : ∃ m, m = min k s.size := ⟨_, rfl⟩
  have hM : shM s.size k r = m := (shM_ok hz).trans hm.symm
  rw [shO_ok hz hm, hM, hz]
  have hm1 : 1 ≤ m := by omega
  have hm2 : m ≤ 32 := by omega
  have hm4 : s.size ≤ m * 1024 := by omega
  have HD := Lib.hid (pieces_data (s := s) hm1 hm2 h4 hm4)
  have HC := Lib.hid (fun W => rcut_any s m W (by unfold maxLen; omega))
  rw [show cOut s (m : Nat) = _ from cOut_ok hm1 hm2 h4 hm4, show cErrZ s.size (m : Nat) = 0 from cErrZ_ok (by omega) (by omega) h4 (by omega)] at HC
  have HL := Lib.hid (mkS_len m (piece (szN s.size m) s))
  generalize mkS m (piece (szN s.size m) s) = o at *
  have HE := Lib.hid (fun A c W h => rencode_good A m c (m + r) o W h HD.out (by omega) (by omega))
  have he : eErr o ((m + r : Nat) : Int) = 0 := by
    unfold eErr
    rw [if_pos HD.out, HL.out]
    exact if_neg (by unfold NoTab; omega)
  have eo : eOut o ((m + r : Nat) : Int) = txS (mulL (m + r) m (st_ o 0).size (rowsC m (upL (m + r))) (tabS o)) := by unfold eOut; rw [if_pos he, HL.out, Int.toNat_natCast]
  rw [← eo] at HE
  clear eo
  generalize eOut o ((m + r : Nat) : Int) = q at *
  have k1 : ¬ (k : Int) < 1 := by omega
  have k2 : ¬ (k : Int) > 32 := by omega
  have k3 : ¬ (r : Int) < 0 := by omega
  have k4 : ¬ (r : Int) > 255 - (k : Int) := by omega
  have k5 : wrap64 (255 - (k : Int)) = 255 - (k : Int) := IntWalk.wrap64_in _ (by omega)
  have k6 : wrap64 ((k : Int) * 1024) = (k : Int) * 1024 := IntWalk.wrap64_in _ (by omega)
  have k7 : ¬ (s.size : Int) < 1 := by omega
  have k8 : ¬ (s.size : Int) > (k : Int) * 1024 := by omega
  have k9 : wrap64 ((m : Int) + (r : Int)) = ((m + r : Nat) : Int) := by rw [IntWalk.wrap64_in _ (by omega)]; rfl
  have HMn := Lib.hid hm
  clear hz hM he hm
  go_enter Tryd.func7, Tryd.ntmps7
  go_upto_region 5 with fail
  go_cut [9] (fun v wx => v = .int .i64 (m : Nat) ∧ w = wx)
  case first =>
    by_cases hx : (s.size : Int) < (k : Int)
    · obtain rfl : m = s.size := by have := HMn.out; omega
      go_wp2_with fail
      go_meet
      first
        | exact ⟨rfl, rfl⟩
        | exact ⟨congrArg (Value.int IntKind.i64) (by omega), rfl⟩
    · obtain rfl : m = k := by have := HMn.out; omega
      go_wp2_with fail
      go_meet
      first
        | exact ⟨rfl, rfl⟩
        | exact ⟨congrArg (Value.int IntKind.i64) (by omega), rfl⟩
  case rest =>
    obtain ⟨rfl, rfl⟩ := hcut
    go_wp2_with fail
    refine (HC.out _).mono ?_; rintro e w1 ⟨A1, n1, c1, rfl, hs1, g1⟩
    obtain rfl : m = n1 := HL.out.symm.trans hs1.len
    have HB1 := Lib.hid g1; have HS1 := Lib.hid hs1
    clear hs1 g1
    go_wp2_with fail
    refine (HE.out _ _ _ HS1.out).mono ?_; rintro e w2 ⟨A2, n2, c2, rfl, hs2, g2⟩
    have HS2 := Lib.hid hs2; have HB2 := Lib.hid (HB1.out.trans (g2.mono HB1.out.size))
    clear hs2 g2
    go_wp2_with fail
    go_ret3
    exact ⟨_, _, _, rfl, HS2.out, HB2.out⟩
theorem rshards_any (s : ByteArray) (k r : Int) (w : World) (hs : s.size ≤ maxLen) :
    Calls Tryd.prog 7 #[.string s, .int .i64 k, .int .i64 r] w (GivesSh w (shO s k r) (shM s.size k r) (shE s.size k r)) := by
  by_cases h : shE s.size k r = 0
  · have h' := h
    unfold shE at h'
    split at h'
    · exact absurd h' (by decide)
    · split at h'
      · exact absurd h' (by decide)
      · obtain ⟨k', rfl⟩ := Int.eq_ofNat_of_zero_le (show 0 ≤ k by omega)
        obtain ⟨r', rfl⟩ := Int.eq_ofNat_of_zero_le (show 0 ≤ r by omega)
        exact rshards_ok s k' r' w (by omega) (by omega) (by omega) (by omega) (by omega)
  · exact rshards_err s k r w hs h
end Go.Proofs.YtooegclblgeicaaDoor

/- Proved: the walk of the law that Shards of package decode tells what the document's tells. Conditions: those that the theorems name. -/
namespace Go.Proofs.YtooegclblgeicaaDoor
open Go.ChangeShapes Go.WideShapes Go.ChangeAt Go.RowKit

theorem shO_len (s : ByteArray) (k r : Int) : (shO s k r).length ≤ 140737488355328 := by
  by_cases h : shE s.size k r = 0
  · have h' := h
    unfold shE at h'
    split at h'
    · exact absurd h' (by decide)
    · split at h'
      · exact absurd h' (by decide)
      · have hm : shM s.size k r ≤ k.toNat := by unfold shM; rw [if_pos h]; exact Nat.min_le_left _ _
        unfold shO
        rw [if_pos h]
        generalize shM s.size k r = m at *
        unfold eOut
        split
        · rw [txS_len, mulL_mix, mkR_len, Int.toNat_natCast]; omega
        · exact Nat.zero_le _
  · rw [shO_err h]; exact Nat.zero_le _

set_option maxRecDepth 100000 in
set_option maxHeartbeats 3200000 in
theorem shards_walk (s : ByteArray) (k r : Int) (w : World) (hs : s.size ≤ maxLen) :
    Calls Tryd.prog 3 #[.string s, .int .i64 k, .int .i64 r] w fun e w' => e = .returned (.bool true) ∧ Below w.heap.size w w' := by
  have HA := Lib.hid (fun W => dshards_any s k r W hs)
  have HB := Lib.hid (fun W => rshards_any s k r W hs)
  have HN := Lib.hid (shO_len s k r)
  clear hs
  generalize shO s k r = o at *
  generalize shM s.size k r = m at *
  generalize shE s.size k r = z at *
  have key : ((s.size : Int) > 400 ∧ (s.size : Int) ≤ 32768) ∨ ¬ (s.size : Int) > 400 ∨ ((s.size : Int) > 400 ∧ ¬ (s.size : Int) ≤ 32768) := by omega
  rcases key with ⟨h1, h2⟩ | h1 | ⟨h1, h2⟩
  · go_enter Tryd.func3, Tryd.ntmps3
    go_wp2_with fail
    refine (dawake_any _).mono ?_; rintro e w1 ⟨rfl, g1⟩
    have G1 := Lib.hid g1; clear g1
    go_wp2_with fail
    go_ret
    exact ⟨rfl, G1.out⟩
  all_goals
    go_enter Tryd.func3, Tryd.ntmps3
    go_wp2_with fail
    refine (HA.out _).mono ?_; rintro e w1 ⟨A1, n1, c1, rfl, h1, g1⟩
    have H1 := Lib.hid h1; have G1 := Lib.hid g1
    clear h1 g1
    go_wp2_with fail
    refine (HB.out _).mono ?_; rintro e w2 ⟨A2, n2, c2, rfl, h2, g2⟩
    obtain rfl : n1 = n2 := H1.out.len.symm.trans h2.len
    have F1 := Lib.hid (H1.out.below g2); have H2 := Lib.hid h2; have G2 := Lib.hid (G1.out.trans (g2.mono G1.out.size))
    have hn : Hid (n1 ≤ 140737488355328) := Lib.hid (by rw [← h2.len]; exact HN.out)
    clear h2 g2 H1 G1
    go_wp2_with fail
    refine (texts_yes A1 A2 n1 c1 c2 o _ F1.out H2.out hn.out).mono ?_; rintro e w3 ⟨rfl, q3⟩
    have G3 := Lib.hid (G2.out.trans ((two_drawn (B := w2.heap.size) q3).mono G2.out.size)); clear q3
    go_wp2_with fail
    refine (dawake_any _).mono ?_; rintro e w4 ⟨rfl, g4⟩
    have G4 := Lib.hid (G3.out.trans (g4.mono G3.out.size)); clear g4
    go_wp2_with fail
    go_ret
    exact ⟨rfl, G4.out⟩
end Go.Proofs.YtooegclblgeicaaDoor

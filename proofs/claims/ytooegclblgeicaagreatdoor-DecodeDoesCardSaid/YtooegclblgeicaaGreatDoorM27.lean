/- Proved: lemmas of one statement's proof, merged by program: what each part proves stands ahead of it. Conditions: those that the lemmas name. -/
import Derived.Test.YtooegclblgeicaaGreatDoorM23
import Derived.Test.YtooegclblgeicaaGreatDoorM26
import Derived.Test.YtooegclblgeicaaGreatDoorM20
import Derived.Test.YtooegclblgeicaaGreatDoorM19
import Derived.StillTailTactics
import Derived.Deep.RegionHeld3

/- Proved: what Shards of package decode tells of every text and every two numbers. Conditions: those that the theorems name. -/
namespace Go.Proofs.YtooegclblgeicaaGreatDoor
open Go.ChangeShapes Go.WideShapes Go.ChangeAt Go.RowKit

/-- the error of a text of n bytes. -/
def shE (n : Nat) (k r : Int) : Int := if k < 1 ∨ 32 < k ∨ r < 0 ∨ 255 - k < r then 1 else if n < 1 ∨ k * 1024 < n then 3 else 0
/-- how many of its shards are data. -/
def shM (n : Nat) (k r : Int) : Nat := if shE n k r = 0 then min k.toNat n else 0
/-- its shards. -/
def shO (s : ByteArray) (k r : Int) : List ByteArray :=
  if shE s.size k r = 0 then eOut (mkS (shM s.size k r) (piece (szN s.size (shM s.size k r)) s)) ((shM s.size k r + r.toNat : Nat) : Int) else []
theorem shE_arg {n : Nat} {k r : Int} (h : k < 1 ∨ 32 < k ∨ r < 0 ∨ 255 - k < r) : shE n k r = 1 := if_pos h
theorem shE_long {n : Nat} {k r : Int} (h : ¬ (k < 1 ∨ 32 < k ∨ r < 0 ∨ 255 - k < r)) (g : n < 1 ∨ k * 1024 < n) : shE n k r = 3 := by unfold shE; rw [if_neg h, if_pos g]
theorem shE_ok {n : Nat} {k r : Int} (h : ¬ (k < 1 ∨ 32 < k ∨ r < 0 ∨ 255 - k < r)) (g : ¬ (n < 1 ∨ k * 1024 < n)) : shE n k r = 0 := by unfold shE; rw [if_neg h, if_neg g]
theorem shM_ok {n k r : Nat} (h : shE n k r = 0) : shM n k r = min k n := by unfold shM; rw [if_pos h]; rfl
theorem shM_err {n : Nat} {k r : Int} (h : shE n k r ≠ 0) : shM n k r = 0 := if_neg h
theorem shO_err {s : ByteArray} {k r : Int} (h : shE s.size k r ≠ 0) : shO s k r = [] := if_neg h
theorem shO_ok {s : ByteArray} {k r m : Nat} (h : shE s.size k r = 0) (hm : m = min k s.size) : shO s k r = eOut (mkS m (piece (szN s.size m) s)) ((m + r : Nat) : Int) := by
  unfold shO; rw [if_pos h, shM_ok h, ← hm]; rfl
/-- the shards of a text are data that may be. -/
theorem pieces_data {s : ByteArray} {m : Nat} (h1 : 1 ≤ m) (h2 : m ≤ 32) (h3 : 1 ≤ s.size) (h4 : s.size ≤ m * 1024) : dErr (mkS m (piece (szN s.size m) s)) = 0 := by
  have hp := szN_pos (k := m) h1 h3
  have hl := szN_le (n := s.size) (k := m) (m := 1024) h1 h4
  have h0 : (st_ (mkS m (piece (szN s.size m) s)) 0).size = szN s.size m := by rw [mkS_at _ _ _ (by omega), piece_size]
  refine dErr_ok (by rw [mkS_len]; exact ⟨h1, h2⟩) (by unfold Fits; rw [h0]; exact ⟨hp, hl⟩) fun i hi => ?_
  rw [mkS_len] at hi
  rw [h0, mkS_at _ _ _ hi, piece_size]
/-- Texts, a number and an error come back; nothing that was there has turned. -/
def GivesSh (W : World) (l : List ByteArray) (m : Nat) (z : Int) (e : Ending) (w' : World) : Prop :=
  ∃ A n c, e = .returned (.tuple #[.slice A n c, .int .i64 (m : Nat), .int .i64 z]) ∧ Ss w' A n l ∧ Below W.heap.size W w'

set_option maxRecDepth 100000 in
set_option maxHeartbeats 1600000 in
theorem dshards_err (s : ByteArray) (k r : Int) (w : World) (hs : s.size ≤ maxLen) (h : shE s.size k r ≠ 0) :
    Calls Tryz.prog 9 #[.string s, .int .i64 k, .int .i64 r] w (GivesSh w (shO s k r) (shM s.size k r) (shE s.size k r)) := by
  rw [shO_err h, shM_err h]
  unfold maxLen at hs
  by_cases g : k < 1 ∨ 32 < k ∨ r < 0 ∨ 255 - k < r
  · rw [shE_arg g]
    have key : k < 1 ∨ ¬ k < 1 ∧ k > 32 ∨ ¬ k < 1 ∧ ¬ k > 32 ∧ r < 0 ∨ ¬ k < 1 ∧ ¬ k > 32 ∧ ¬ r < 0 ∧ r > 255 - k ∧ wrap64 (255 - k) = 255 - k := by
      have : k < 1 ∨ 32 < k ∨ wrap64 (255 - k) = 255 - k := by
        by_cases hk : k < 1 ∨ 32 < k
        · rcases hk with hk | hk
          · exact .inl hk
          · exact .inr (.inl hk)
        · exact .inr (.inr (IntWalk.wrap64_in _ (by omega)))
      omega
    clear h g
    rcases key with h1 | ⟨h1, h2⟩ | ⟨h1, h2, h3⟩ | ⟨h1, h2, h3, h4, h5⟩
    all_goals
      go_enter Tryz.func9, Tryz.ntmps9
      go_wp2_with fail
      go_ret3
      exact ⟨_, _, _, rfl, Ss.nil _ _, Below.refl _ _⟩
  · have gl : s.size < 1 ∨ k * 1024 < s.size := by
      by_cases gl : s.size < 1 ∨ k * 1024 < s.size
      · exact gl
      · exact absurd (shE_ok g gl) h
    rw [shE_long g gl]
    have h1 : ¬ k < 1 := by omega
    have h2 : ¬ k > 32 := by omega
    have h3 : ¬ r < 0 := by omega
    have h4 : ¬ r > 255 - k := by omega
    have h5 : wrap64 (255 - k) = 255 - k := IntWalk.wrap64_in _ (by omega)
    have h6 : wrap64 (k * 1024) = k * 1024 := IntWalk.wrap64_in _ (by omega)
    have key : (s.size : Int) < 1 ∨ ¬ (s.size : Int) < 1 ∧ (s.size : Int) > k * 1024 := by omega
    clear h g gl
    rcases key with g1 | ⟨g1, g2⟩
    all_goals
      go_enter Tryz.func9, Tryz.ntmps9
      go_wp2_with fail
      go_ret3
      exact ⟨_, _, _, rfl, Ss.nil _ _, Below.refl _ _⟩

set_option maxRecDepth 100000 in
set_option maxHeartbeats 1600000 in
theorem dshards_ok (s : ByteArray) (k r : Nat) (w : World) (h1 : 1 ≤ k) (h2 : k ≤ 32) (h3 : r ≤ 255 - k) (h4 : 1 ≤ s.size) (h5 : s.size ≤ k * 1024) :
    Calls Tryz.prog 9 #[.string s, .int .i64 k, .int .i64 r] w (GivesSh w (shO s k r) (shM s.size k r) (shE s.size k r)) := by
  have hz : shE s.size k r = 0 := shE_ok (by omega) (by omega)
  obtain ⟨m, hm⟩ : ∃ m, m = min k s.size := ⟨_, rfl⟩
  have hM : shM s.size k r = m := (shM_ok hz).trans hm.symm
  rw [shO_ok hz hm, hM, hz]
  have hm1 : 1 ≤ m := by omega
  have hm2 : m ≤ 32 := by omega
  have hm4 : s.size ≤ m * 1024 := by omega
  have HD := Lib.hid (pieces_data (s := s) hm1 hm2 h4 hm4)
  have HC := Lib.hid (fun W => cut_any s m W (by unfold maxLen; omega))
  rw [show cOut s (m : Nat) = _ from cOut_ok hm1 hm2 h4 hm4, show cErrZ s.size (m : Nat) = 0 from cErrZ_ok (by omega) (by omega) h4 (by omega)] at HC
  have HL := Lib.hid (mkS_len m (piece (szN s.size m) s))
  generalize mkS m (piece (szN s.size m) s) = o at *
  have HE := Lib.hid (fun A n c W h => encode_any A n c o ((m + r : Nat) : Int) W h)
  have he : eErr o ((m + r : Nat) : Int) = 0 := by
    unfold eErr
    rw [if_pos HD.out, HL.out]
    exact if_neg (by unfold NoTab; omega)
  rw [he] at HE
  generalize eOut o ((m + r : Nat) : Int) = q at *
  have k1 : ¬ (k : Int) < 1 := by omega
  have k2 : ¬ (k : Int) > 32 := by omega
  have k3 : ¬ (r : Int) < 0 := by omega
  have k4 : ¬ (r : Int) > 255 - (k : Int) := by omega
  have k5 : wrap64 (255 - (k : Int)) = 255 - (k : Int) := IntWalk.wrap64_in _ (by omega)
  have k6 : wrap64 ((k : Int) * 1024) = (k : Int) * 1024 := IntWalk.wrap64_in _ (by omega)
  have k7 : ¬ (s.size : Int) < 1 := by omega
  have k8 : ¬ (s.size : Int) > (k : Int) * 1024 := by omega
  have k9 : wrap64 ((m : Int) + (r : Int)) = ((m + r : Nat) : Int) := by rw [IntWalk.wrap64_in _ (by omega)]; rfl
  have HMn := Lib.hid hm
  clear hz hM he hm
  go_enter Tryz.func9, Tryz.ntmps9
  go_upto_region 5 with fail
  go_cut [9] (fun v wx => v = .int .i64 (m : Nat) ∧ w = wx)
  case first =>
    by_cases hx : (s.size : Int) < (k : Int)
    · obtain rfl : m = s.size := by have := HMn.out; omega
      go_wp2_with fail
      go_meet
      first
        | exact ⟨rfl, rfl⟩
        | exact ⟨congrArg (Value.int IntKind.i64) (by omega), rfl⟩
    · obtain rfl : m = k := by have := HMn.out; omega
      go_wp2_with fail
      go_meet
      first
        | exact ⟨rfl, rfl⟩
        | exact ⟨congrArg (Value.int IntKind.i64) (by omega), rfl⟩
  case rest =>
    obtain ⟨rfl, rfl⟩ := hcut
    go_wp2_with fail
    refine (HC.out _).mono ?_; rintro e w1 ⟨A1, n1, c1, rfl, hs1, g1⟩
    have HB1 := Lib.hid g1; have HS1 := Lib.hid hs1
    clear hs1 g1
    go_wp2_with fail
    refine (HE.out _ _ _ _ HS1.out).mono ?_; rintro e w2 ⟨A2, n2, c2, rfl, hs2, g2⟩
    have HS2 := Lib.hid hs2; have HB2 := Lib.hid (HB1.out.trans (g2.mono HB1.out.size))
    clear hs2 g2
    go_wp2_with fail
    go_ret3
    exact ⟨_, _, _, rfl, HS2.out, HB2.out⟩
theorem dshards_any (s : ByteArray) (k r : Int) (w : World) (hs : s.size ≤ maxLen) :
    Calls Tryz.prog 9 #[.string s, .int .i64 k, .int .i64 r] w (GivesSh w (shO s k r) (shM s.size k r) (shE s.size k r)) := by
  by_cases h : shE s.size k r = 0
  · have h' := h
    unfold shE at h'
    split at h'
    · exact absurd h' (by decide)
    · split at h'
      · exact absurd h' (by decide)
      · obtain ⟨k', rfl⟩ := Int.eq_ofNat_of_zero_le (show 0 ≤ k by omega)
        obtain ⟨r', rfl⟩ := Int.eq_ofNat_of_zero_le (show 0 ≤ r by omega)
        exact dshards_ok s k' r' w (by omega) (by omega) (by omega) (by omega) (by omega)
  · exact dshards_err s k r w hs h
end Go.Proofs.YtooegclblgeicaaGreatDoor

/- Proved: what the document's Unlike answers for all shards. Conditions: those that the theorems name. -/
namespace Go.Proofs.YtooegclblgeicaaGreatDoor
open Go.ChangeShapes Go.WideShapes Go.ChangeAt Go.RowKit

def FreeTo (a : List Shd) (q : Nat) (i : Int) : Prop := ∀ p, p < q → (sh_ a p).1 ≠ i
def MeetsTo (a : List Shd) (q : Nat) (x : Shd) : Prop := ∀ p, p < q → (sh_ a p).1 = x.1 → (sh_ a p).2 = x.2
theorem FreeTo.next {a : List Shd} {q : Nat} {i : Int} (h : FreeTo a q i) (g : (sh_ a q).1 ≠ i) : FreeTo a (q + 1) i := fun p hp => by
  rcases Nat.lt_or_ge p q with hlt | hge
  · exact h p hlt
  · rw [show p = q by omega]; exact g
theorem MeetsTo.next {a : List Shd} {q : Nat} {x : Shd} (h : MeetsTo a q x) (g : (sh_ a q).1 = x.1 → (sh_ a q).2 = x.2) : MeetsTo a (q + 1) x := fun p hp => by
  rcases Nat.lt_or_ge p q with hlt | hge
  · exact h p hlt
  · rw [show p = q by omega]; exact g

set_option maxRecDepth 100000 in
set_option maxHeartbeats 6400000 in
theorem runlike_any (A : Option Addr) (m c n : Nat) (l : List Shd) (w : World) (hl : Sh w A m l) (hm : m ≤ 100) :
    Calls Tryz.prog 17 #[.int .i64 (n : Nat), .slice A m c] w (GivesHE w (uOut n l) (uErr n l)) := by
  obtain ⟨i0, hi0, hz0, hz1, hz2⟩ := info_parts Tryz.infoShard
  have HL := Lib.hid hl
  clear hl
  go_enter Tryz.func17, Tryz.ntmps17
  go_wp2_with fail
  generalize hgg : w.heap.size = g
  have HGG := Lib.hid hgg
  go_loopw [6, 7] (fun v i wr => ∃ j : Nat, j ≤ m ∧ i = .int .i64 j ∧ NoU n l j ∧ wr.ownsRow g 42 2 v (accL (l.take j)).length (hcells (accL (l.take j))) ∧ (accL (l.take j)).length ≤ j ∧ Below g w wr) (fun _ i _ => m - (intOf i).toNat)
  case atStart => exact ⟨0, by omega, rfl, NoU.start _ _, World.ownsRow_nil _ _ _ _, Nat.le_refl _, by rw [← hgg]; exact Below.refl _ _⟩
  case round =>
    obtain ⟨j, hj, rfl, he, hown, hle, hbel⟩ := hrel
    have hgs : g ≤ wr.heap.size := hgg ▸ hbel.size
    have HE := Lib.hid he
    have HO' := Lib.hid hown
    have HW' := Lib.hid hbel
    clear he hown hbel
    by_cases hlt : j < m
    · obtain ⟨ad, rfl, had, hc1, hc2⟩ := HL.out.at_ hlt
      have hc1' : wr.cell? (ad.add (j * 2)) = some (.int .i64 (sh_ l j).1) := (HW'.out.cell (by rw [add_block]; omega)).trans hc1
      have hc2' : wr.cell? ⟨(ad.add (j * 2)).block, (ad.add (j * 2)).off + 1, none⟩ = some (.string (sh_ l j).2) := (HW'.out.cell (by show (ad.add (j * 2)).block < g; rw [add_block]; omega)).trans hc2
      clear hc1 hc2
      have hlt' : (j : Int) < (m : Int) := by omega
      have hj0 : (0 : Int) ≤ (j : Int) := Int.natCast_nonneg _
      have hm0 : (0 : Int) < (m : Int) := by omega
      have hm00 : 0 < m := by omega
      have hadr : ad.block < wr.heap.size := by omega
      obtain ⟨ad', e', _, _, hd0⟩ := HL.out.at_ (k := 0) (by omega)
      cases e'
      rw [Nat.zero_mul, Addr.add_zero' ad] at hd0
      have hd0' : wr.cell? ⟨ad.block, ad.off + 1, none⟩ = some (.string (sh_ l 0).2) := (HW'.out.cell (by show ad.block < g; omega)).trans hd0
      clear hd0
      have HJ : Hid (j < l.length) := Lib.hid (by rw [HL.out.len]; exact hlt)
      have EU : Hid (errU n l j = sErr n (sh_ l 0).2.size (accL (l.take j)) (sh_ l j)) := Lib.hid rfl
      have AT := Lib.hid (accL_take HJ.out)
      generalize hx : sh_ l j = x at *
      generalize hx0 : (sh_ l 0).2 = x0 at *
      clear hx hx0
      obtain ⟨xi, xs⟩ := x
      by_cases hin : 0 ≤ xi ∧ xi < (n : Int)
      · have h0 : ¬ xi < 0 := by omega
        have h1 : ¬ xi ≥ (n : Int) := by omega
        by_cases hf : Fits xs
        · have h2 : ¬ (xs.size : Int) < 1 := by have := hf.1; omega
          have h3 : ¬ (xs.size : Int) > 1024 := by have := hf.2; omega
          have HHin := Lib.hid hin
          have HHf := Lib.hid hf
          clear hin hf
          by_cases hsz : xs.size = x0.size
          · have hsz1 : ((xs.size : Int) != (x0.size : Int)) = false := by simp; omega
            have hsz2 : decide ((xs.size : Int) = (x0.size : Int)) = true := by simp; omega
            have HSZ := Lib.hid hsz
            clear hsz
            go_wp2_with fail
            go_quiet (fail)
            go_wp2_with fail
            have HO2 : Hid (((wr.alloc (.cells #[.int .i64 xi, .string xs] 42)).drewN nq).ownsRow g 42 2 u6 (accL (l.take j)).length (hcells (accL (l.take j)))) := Lib.hid (HO'.out.alloc _)
            have HW2 : Hid (Below g w ((wr.alloc (.cells #[.int .i64 xi, .string xs] 42)).drewN nq)) := Lib.hid (below_drawn_of (HW'.out.alloc (by omega) _) _)
            have HZ2 : Hid (wr.heap.size < ((wr.alloc (.cells #[.int .i64 xi, .string xs] 42)).drewN nq).heap.size) := Lib.hid (by
              show wr.heap.size < (wr.alloc (.cells #[.int .i64 xi, .string xs] 42)).heap.size
              simp)
            have hs1 : ((wr.alloc (.cells #[.int .i64 xi, .string xs] 42)).drewN nq).cell? ⟨wr.heap.size, 0, none⟩ = some (.int .i64 xi) := by
              show (wr.alloc (.cells #[.int .i64 xi, .string xs] 42)).cell? ⟨wr.heap.size, 0, none⟩ = _
              rw [World.cell?_alloc_at _ _ _ _ rfl]; rfl
            have hs2 : ((wr.alloc (.cells #[.int .i64 xi, .string xs] 42)).drewN nq).cell? ⟨wr.heap.size, 1, none⟩ = some (.string xs) := by
              show (wr.alloc (.cells #[.int .i64 xi, .string xs] 42)).cell? ⟨wr.heap.size, 1, none⟩ = _
              rw [World.cell?_alloc_at _ _ _ _ rfl]; rfl
            clear hc1' hc2' hd0' HO' HW' hadr h0 h1 h2 h3 hsz1 hsz2
            generalize (wr.alloc (.cells #[.int .i64 xi, .string xs] 42)).drewN nq = w2 at *
            have HB : Hid (g ≤ wr.heap.size) := Lib.hid hgs
            clear hgs
            generalize wr.heap.size = B at *
            obtain ⟨A2, c2, rfl, hcap, hsh⟩ := sh_of HO2.out
            have HSH := Lib.hid hsh
            clear hsh hcap
            generalize haa : accL (l.take j) = aa at *
            have HAA := Lib.hid haa
            clear haa
            go_loopw [9, 10] (fun v i W => ∃ (q : Nat) (F : Bool), q ≤ aa.length ∧ i = .int .i64 q ∧ v = .bool F ∧ (F = true ↔ FreeTo aa q xi) ∧ MeetsTo aa q (xi, xs) ∧ ∃ z, W = w2.drewN z) (fun _ i _ => aa.length - (intOf i).toNat)
            case atStart => exact ⟨0, true, by omega, rfl, rfl, ⟨fun _ p hp => absurd hp (by omega), fun _ => rfl⟩, fun p hp => absurd hp (by omega), 0, rfl⟩
            case round =>
              obtain ⟨q, F, hq, rfl, rfl, hF, hM, z, rfl⟩ := hrel
              have HF := Lib.hid hF
              have HM := Lib.hid hM
              clear hF hM
              by_cases hqt : q < aa.length
              · have hqt' : (q : Int) < (aa.length : Int) := by omega
                have hq0 : (0 : Int) ≤ (q : Int) := Int.natCast_nonneg _
                obtain ⟨bd, rfl, hbd, hk1, hk2⟩ := HSH.out.at_ hqt
                generalize hy : sh_ aa q = y at *
                have HY := Lib.hid hy
                clear hy
                obtain ⟨yi, ys⟩ := y
                by_cases hyx : yi = xi
                · have hyx1 : (yi == xi) = true := by simp [hyx]
                  by_cases hss : ys = xs
                  · subst hyx hss
                    have HF1 : Hid (false = true ↔ FreeTo aa (q + 1) yi) := Lib.hid ⟨fun e => Bool.noConfusion e, fun h => absurd (by rw [HY.out]) (h q (by omega))⟩
                    have HM1 : Hid (MeetsTo aa (q + 1) (yi, ys)) := Lib.hid (HM.out.next fun _ => by rw [HY.out])
                    clear hyx1
                    go_wp2_with fail
                    go_quiet (fail)
                    go_wp2_with fail
                    go_quiet (fail)
                    go_wp2_with fail
                    go_roundw
                    case rel => exact ⟨q + 1, false, by omega, by go_num, rfl, HF1.out, HM1.out, _, rfl⟩
                    case measure => simp [intOf]; omega
                  · have hn1 := list_ne hss
                    have HD : Hid (uErr n l = 16 ∧ uOut n l = []) := Lib.hid (HE.out.stop HJ.out (EU.out.trans (sErr_unlike HHin.out HHf.out (fun u => hss (by
                      have h := u.2 q hqt (by rw [HY.out]; exact hyx)
                      rwa [HY.out] at h)))) (by decide))
                    have HHy := Lib.hid hyx
                    clear hss hyx
                    go_wp2_with fail
                    go_quiet (fail)
                    go_wp2_with fail
                    go_quiet (fail)
                    go_wp2_with fail
                    go_ret2
                    exact ⟨_, _, _, by rw [HD.out.1]; rfl, Nat.le_refl _, by rw [HD.out.2]; exact Sh.nil _ _, by rw [hgg]; exact below_drawn_of (below_drawn_of (below_drawn_of HW2.out _) _) _⟩
                · have hyx1 : (yi == xi) = false := by simp [hyx]
                  have HF1 : Hid (F = true ↔ FreeTo aa (q + 1) xi) := Lib.hid ⟨fun e => (HF.out.1 e).next (by rw [HY.out]; exact hyx), fun h => HF.out.2 fun p hp => h p (by omega)⟩
                  have HM1 : Hid (MeetsTo aa (q + 1) (xi, xs)) := Lib.hid (HM.out.next fun e => absurd (by rw [HY.out] at e; exact e) hyx)
                  clear hyx
                  go_wp2_with fail
                  go_quiet (fail)
                  go_wp2_with fail
                  go_roundw
                  case rel => exact ⟨q + 1, F, by omega, by go_num, rfl, HF1.out, HM1.out, _, rfl⟩
                  case measure => simp [intOf]; omega
              · obtain rfl : q = aa.length := by omega
                have HN : Hid (NoU n l (j + 1)) := Lib.hid (HE.out.next (EU.out.trans (sErr_ok HHin.out HHf.out ⟨HSZ.out, HM.out⟩)))
                have HWz := Lib.hid (below_drawn_of HW2.out z)
                have HZz : Hid (B < (w2.drewN z).heap.size) := Lib.hid HZ2.out
                have HO3 : Hid ((w2.drewN z).ownsRow g 42 2 (.slice A2 aa.length c2) aa.length (hcells aa)) := Lib.hid HO2.out
                have hs1' : (w2.drewN z).cell? ⟨B, 0, none⟩ = some (.int .i64 xi) := hs1
                have hs2' : (w2.drewN z).cell? ⟨B, 1, none⟩ = some (.string xs) := hs2
                have HBg := HB
                clear hs1 hs2 HO2 HW2 HZ2 HSH
                generalize w2.drewN z = w3 at *
                cases F
                · have HA : Hid (accL (l.take (j + 1)) = aa) := Lib.hid (by rw [AT.out]; exact stepA_there fun h => Bool.noConfusion (HF.out.2 h))
                  go_wp2_with fail
                  go_roundw
                  case rel => exact ⟨j + 1, by omega, by go_num, HN.out, by rw [HA.out]; exact HO3.out, by rw [HA.out]; omega, HWz.out⟩
                  case measure => simp [intOf]; omega
                · have HA : Hid (accL (l.take (j + 1)) = aa ++ [(xi, xs)]) := Lib.hid (by rw [AT.out]; exact stepA_free (HF.out.1 rfl))
                  have HNB : Hid ((w3.alloc (.cells #[.int .i64 xi, .string xs] 42)).heap[w3.heap.size]? = some (.cells #[.int .i64 xi, .string xs] 42)) := Lib.hid (heap_alloc_new w3 _)
                  have HN4 : Hid ((accL (l.take (j + 1))).length = aa.length + 1 ∧ hcells aa ++ [.int .i64 xi, .string xs] = hcells (accL (l.take (j + 1)))) := Lib.hid (by rw [HA.out]; exact ⟨by simp, hcells_snoc _ _ _⟩)
                  have hgl2 : g ≤ w3.heap.size := by have := HBg.out; have := HZz.out; omega
                  clear HA HF HM HAA
                  generalize aa.length = Q at *
                  generalize hcells aa = CS at *
                  have hmax : Q + 1 ≤ maxLen := by unfold maxLen; omega
                  go_wp2_with (at_builtin; refine wpList_append_lies _ rfl _ _ _ rfl g 42 i0 _ 2 24 Tryz.underlying28 hi0 hz0 hz1 hz2 rfl (by omega) _ Q CS rfl (HO3.out.alloc _) ⟨w3.heap.size, 0, none⟩ 1 1 [.int .i64 xi, .string xs] rfl rfl (World.news_of_block (cs := #[.int .i64 xi, .string xs]) (t := 42) (fr := (0, 0)) HNB.out) (by simp [Value.oneCell']) (by omega) hmax (by omega) (by simp; omega) (w3.heap.size + 1) (by simp) ?_; intro gg cap w4 hown1 hgrow hat hlt1)
                  have HBR := Lib.hid (fun k e => (HO3.out.lt k e).1)
                  go_roundw
                  case rel => exact ⟨j + 1, by omega, by go_num, HN.out, by rw [HN4.out.1, ← HN4.out.2]; exact hown1, by rw [HN4.out.1]; omega, (HWz.out.alloc (by omega) _).grown hgrow (by simp; omega) (fun k e => HBR.out k e)⟩
                  case measure => simp [intOf]; omega
          · have hsz1 : ((xs.size : Int) != (x0.size : Int)) = true := by simp; omega
            have HD := Lib.hid (HE.out.stop HJ.out (EU.out.trans (sErr_unlike HHin.out HHf.out (fun q => hsz q.1))) (by decide))
            clear hsz
            go_wp2_with fail
            go_quiet (fail)
            go_wp2_with fail
            go_ret2
            exact ⟨_, _, _, by rw [HD.out.1]; rfl, Nat.le_refl _, by rw [HD.out.2]; exact Sh.nil _ _, by rw [hgg]; exact below_drawn_of (HW'.out.alloc (by omega) _) _⟩
        · have HD := Lib.hid (HE.out.stop HJ.out (EU.out.trans (sErr_long hin hf)) (by decide))
          unfold Fits at hf
          by_cases h2 : (xs.size : Int) < 1
          · clear hin hf
            go_wp2_with fail
            go_ret2
            exact ⟨_, _, _, by rw [HD.out.1]; rfl, Nat.le_refl _, by rw [HD.out.2]; exact Sh.nil _ _, by rw [hgg]; exact HW'.out.alloc (by omega) _⟩
          · have h3 : (xs.size : Int) > 1024 := by omega
            clear hin hf
            go_wp2_with fail
            go_ret2
            exact ⟨_, _, _, by rw [HD.out.1]; rfl, Nat.le_refl _, by rw [HD.out.2]; exact Sh.nil _ _, by rw [hgg]; exact HW'.out.alloc (by omega) _⟩
      · have HD := Lib.hid (HE.out.stop HJ.out (EU.out.trans (sErr_range hin)) (by decide))
        by_cases h0 : xi < 0
        · clear hin
          go_wp2_with fail
          go_ret2
          exact ⟨_, _, _, by rw [HD.out.1]; rfl, Nat.le_refl _, by rw [HD.out.2]; exact Sh.nil _ _, by rw [hgg]; exact HW'.out.alloc (by omega) _⟩
        · have h1 : xi ≥ (n : Int) := by omega
          clear hin
          go_wp2_with fail
          go_ret2
          exact ⟨_, _, _, by rw [HD.out.1]; rfl, Nat.le_refl _, by rw [HD.out.2]; exact Sh.nil _ _, by rw [hgg]; exact HW'.out.alloc (by omega) _⟩
    · obtain rfl : j = m := by omega
      have hjl : l.take j = l := List.take_of_length_le (by rw [HL.out.len]; exact Nat.le_refl _)
      rw [hjl] at HO' hle
      have HD := Lib.hid (NoU.done (n := n) (l := l) (by rw [HL.out.len]; exact HE.out))
      obtain ⟨A', c', rfl, hcap, hsh⟩ := sh_of HO'.out
      have HSH := Lib.hid hsh
      have HCAP := Lib.hid hcap
      clear hjl hsh hcap
      go_wp2_with fail
      go_ret2
      exact ⟨_, _, _, by rw [HD.out.1]; rfl, HCAP.out, by rw [HD.out.2]; exact HSH.out, by rw [hgg]; exact HW'.out⟩
end Go.Proofs.YtooegclblgeicaaGreatDoor

/- Proved: what the document's mixed answers for every row and all texts. Conditions: those that the theorem names. -/
namespace Go.Proofs.YtooegclblgeicaaGreatDoor
open Go.ChangeShapes Go.WideShapes Go.ChangeAt Go.RowKit

theorem bts_at (s : ByteArray) (j : Nat) (h : j < s.size) : (bts s).getD j 0 = (s[j]).toNat := by
  have h' : j < s.data.toList.length := h
  unfold bts
  rw [List.getD_eq_getElem?_getD, List.getElem?_map, List.getElem?_eq_getElem h']
  rfl

set_option maxRecDepth 100000 in
set_option maxHeartbeats 1600000 in
theorem rmix_any (R A : Option Addr) (k c d m : Nat) (r : List Nat) (l : List ByteArray) (w : World) (hr : Bs w R k r) (hl : Ss w A k l) (hs : ∀ i, i < k → (st_ l i).size = m)
    (h1 : 1 ≤ k) (hk : k ≤ 255) (hm1 : 1 ≤ m) (hm : m ≤ 1024) :
    Calls Tryz.prog 20 #[.slice R k c, .slice A k d] w fun e w' => e = .returned (.string (tx (mixR k m r (tabS l)))) ∧ Below w.heap.size w w' := by
  have hmR := run_make_row' (P := Tryz.prog) 55 5 (.int .u8 0) 1 Tryz.underlying55 Tryz.infoByte rfl .i64 .i64 m (by omega) (by omega)
  have HR := Lib.hid hr
  have HL := Lib.hid hl
  have HS := Lib.hid hs
  have HX : Hid (Good k m (tabS l)) := Lib.hid (tabS_good hl.len hs)
  obtain ⟨ad, rfl, had, hac0⟩ := hl.at_ (k := 0) (by omega)
  rw [Addr.add_zero' ad] at hac0
  have hs0 := hs 0 (by omega)
  clear hr hl hs
  generalize hx0 : st_ l 0 = x0 at *
  have HX0 := Lib.hid hx0
  clear hx0
  have hpos : (0 : Int) ≤ (m : Int) := by omega
  have hk0 : (0 : Int) < (k : Int) := by omega
  go_enter Tryz.func20, Tryz.ntmps20
  go_wp2_with fail
  have HO := Lib.hid (own_new w m)
  have HW := Lib.hid ((Below.refl w.heap.size w).alloc (Nat.le_refl _) (.cells (madeCells #[.int .u8 0] m) 5))
  have HAD := Lib.hid had
  clear hac0 hs0 had
  generalize hgg : w.heap.size = g at *
  go_loopw [6] (fun v wr => ∃ i : Nat, i ≤ k ∧ v = .int .i64 i ∧ Own wr g m (mixP k m i r (tabS l)) ∧ Below g w wr) (fun v _ => k - (intOf v).toNat)
  case atStart => exact ⟨0, by omega, rfl, by rw [mixP_zero]; exact HO.out, HW.out⟩
  case round =>
    obtain ⟨i, hi, rfl, ho, hbel⟩ := hrel
    rename World => w0
    have HO0 := Lib.hid ho
    have HW0 := Lib.hid hbel
    clear ho hbel HO HW
    by_cases hlt : i < k
    · have hlt' : (i : Int) < (k : Int) := by omega
      have hi0 : (0 : Int) ≤ (i : Int) := Int.natCast_nonneg _
      obtain ⟨rd, rfl, hrd, hrc⟩ := HR.out.at_ hlt
      obtain ⟨ad', e', _, hac⟩ := HL.out.at_ hlt
      cases e'
      have hx := HR.out.lt i
      have hsz := HS.out i hlt
      have HZ := Lib.hid hsz
      have hrow : rw_ (tabS l) i = bts (st_ l i) := tabS_at (by rw [HL.out.len]; exact hlt)
      have HRow := Lib.hid hrow
      clear hsz hrow
      have HN := Lib.hid (mixP_next (m := m) (c := r) (b := tabS l) hlt)
      rw [HRow.out] at HN
      generalize hs : st_ l i = s at *
      generalize hxx : r.getD i 0 = x at *
      clear hs hxx
      go_wp2_with fail
      go_loopw [7] (fun v wr => ∃ j : Nat, j ≤ m ∧ v = .int .i64 j ∧ ∃ y, Upto m j (fun j => (mixP k m (i + 1) r (tabS l)).getD j 0) (mixP k m i r (tabS l)) y ∧ Own wr g m y ∧ Below g w wr) (fun v _ => m - (intOf v).toNat)
      case atStart => exact ⟨0, by omega, rfl, _, Upto.start (mixP_len _ _ _ _ _), HO0.out, HW0.out⟩
      case round =>
        obtain ⟨j, hj, rfl, y, hu, ho, hbel⟩ := hrel
        rename World => w1
        have HU := Lib.hid hu
        have HO1 := Lib.hid ho
        have HW1 := Lib.hid hbel
        clear hu ho hbel HO0 HW0
        by_cases hjm : j < m
        · have hjm' : (j : Int) < (m : Int) := by omega
          have hj0 : (0 : Int) ≤ (j : Int) := Int.natCast_nonneg _
          have hjs : j < s.size := by rw [HZ.out]; exact hjm
          have hrc1 : w1.cell? (rd.add i) = some (.int .u8 (x : Nat)) := (HW1.out.cell (by rw [add_block]; omega)).trans hrc
          have hac1 : w1.cell? (ad.add i) = some (.string s) := (HW1.out.cell (by rw [add_block]; omega)).trans hac
          have hoc := HO1.out.cell hjm
          have hfz := HO1.out.frozen j
          have hv := HO1.out.2.1 j
          have HV := Lib.hid (HU.out.here hjm)
          have HNj : Hid ((mixP k m (i + 1) r (tabS l)).getD j 0 = (mixP k m i r (tabS l)).getD j 0 ^^^ gmul x (s[j]).toNat) := Lib.hid (by
            rw [HN.out]
            unfold addL scaleL
            rw [mk_at _ _ _ hjm, mk_at _ _ _ hjm, bts_at s j hjs])
          have HUn := Lib.hid (HU.out.next hjm)
          have hsl : (s[j]).toNat < 256 := (s[j]).toNat_lt
          have hp := gmul_lt (s[j]).toNat hx
          have hgl := HO1.out.block_lt
          generalize hyv : y.getD j 0 = yv at *
          have HPr := Lib.hid (fun W => prod_any x (s[j]).toNat hx hsl W)
          go_wp2_with fail
          refine wp_region_still_tail 19 (by kernel_rfl) (by kernel_rfl) ?_
          simp only [List.take_succ_cons, List.take_zero, List.drop_succ_cons, List.drop_zero]
          repeat still_step
          still_call ((HPr.out _).mono fun _ _ h => ⟨h.1, h.2.symm⟩)
          repeat still_step
          refine wpStill_nil ?_
          change wpList _ _ _ _ _ w1.drew
          have HO2 : Hid (Own w1.drew g m y) := Lib.hid HO1.out
          have HW2 : Hid (Below g w w1.drew) := Lib.hid HW1.out.drew
          clear hrc1 hac1 hoc hfz hgl HO1 HW1
          generalize w1.drew = w2 at *
          have hoc := HO2.out.cell hjm
          have hfz := HO2.out.frozen j
          go_wp2_with fail
          go_roundw
          case rel =>
            refine ⟨j + 1, by omega, by go_num, _, HUn.out, ?_, HW2.out.setCell (p := ⟨g, j, none⟩) (Nat.le_refl _) _⟩
            rw [HNj.out, ← HV.out, u8_xor_nat yv _ hv hp]
            exact HO2.out.set_ hjm (xor_lt _ _ hv hp)
          case measure => simp [intOf]; omega
        · obtain rfl : j = m := by omega
          have HD := Lib.hid HU.out.done
          have HE : Hid (y = mixP k j (i + 1) r (tabS l)) := Lib.hid (by rw [HD.out]; exact (eq_mk (mixP_len _ _ _ _ _) fun _ _ => rfl).symm)
          go_wp2_with fail
          go_roundw
          case rel => exact ⟨i + 1, by omega, by go_num, by rw [← HE.out]; exact HO1.out, HW1.out⟩
          case measure => simp [intOf]; omega
    · obtain rfl : i = k := by omega
      have hcv := convert_back w0 _ m m _ HO0.out.bs (by omega)
      go_wp2_with fail
      go_ret
      exact ⟨rfl, by rw [hgg]; exact HW0.out⟩
end Go.Proofs.YtooegclblgeicaaGreatDoor

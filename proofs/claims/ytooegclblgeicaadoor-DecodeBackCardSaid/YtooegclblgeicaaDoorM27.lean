/- Proved: lemmas of one statement's proof, merged by program: what each part proves stands ahead of it. Conditions: those that the lemmas name. -/
import Derived.Test.YtooegclblgeicaaDoorM23
import Derived.Test.YtooegclblgeicaaDoorM26
import Derived.Test.YtooegclblgeicaaDoorM20
import Derived.Test.YtooegclblgeicaaDoorM19
import Derived.StillTailTactics
import Derived.Deep.RegionHeld3

/- Proved: what Shards of package decode tells of every text and every two numbers. Conditions: those that the theorems name. -/
namespace Go.Proofs.YtooegclblgeicaaDoor
open Go.ChangeShapes Go.WideShapes Go.ChangeAt Go.RowKit

/-- the error of a text of n bytes. -/
def shE (n : Nat) (k r : Int) : Int := if k < 1 ∨ 32 < k ∨ r < 0 ∨ 255 - k < r then 1 else if n < 1 ∨ k * 1024 < n then 3 else 0
/-- how many of its shards are data. -/
def shM (n : Nat) (k r : Int) : Nat := if shE n k r = 0 then min k.toNat n else 0
/-- its shards. -/
def shO (s : ByteArray) (k r : Int) : List ByteArray :=
  if shE s.size k r = 0 then eOut (mkS (shM s.size k r) (piece (szN s.size (shM s.size k r)) s)) ((shM s.size k r + r.toNat : Nat) : Int) else []
theorem shE_arg {n : Nat} {k r : Int} (h : k < 1 ∨ 32 < k ∨ r < 0 ∨ 255 - k < r) : shE n k r = 1 := if_pos h
theorem shE_long {n : Nat} {k r : Int} (h : ¬ (k < 1 ∨ 32 < k ∨ r < 0 ∨ 255 - k < r)) (g : n < 1 ∨ k * 1024 < n) : shE n k r = 3 := by unfold shE; rw [if_neg h, if_pos g]
theorem shE_ok {n : Nat} {k r : Int} (h : ¬ (k < 1 ∨ 32 < k ∨ r < 0 ∨ 255 - k < r)) (g : ¬ (n < 1 ∨ k * 1024 < n)) : shE n k r = 0 := by unfold shE; rw [if_neg h, if_neg g]
theorem shM_ok {n k r : Nat} (h : shE n k r = 0) : shM n k r = min k n := by unfold shM; rw [if_pos h]; rfl
theorem shM_err {n : Nat} {k r : Int} (h : shE n k r ≠ 0) : shM n k r = 0 := if_neg h
theorem shO_err {s : ByteArray} {k r : Int} (h : shE s.size k r ≠ 0) : shO s k r = [] := if_neg h
theorem shO_ok {s : ByteArray} {k r m : Nat} (h : shE s.size k r = 0) (hm : m = min k s.size) : shO s k r = eOut (mkS m (piece (szN s.size m) s)) ((m + r : Nat) : Int) := by
  unfold shO; rw [if_pos h, shM_ok h, ← hm]; rfl
/-- the shards of a text are data that may be. -/
theorem pieces_data {s : ByteArray} {m : Nat} (h1 : 1 ≤ m) (h2 : m ≤ 32) (h3 : 1 ≤ s.size) (h4 : s.size ≤ m * 1024) : dErr (mkS m (piece (szN s.size m) s)) = 0 := by
  have hp := szN_pos (k := m) h1 h3
  have hl := szN_le (n := s.size) (k := m) (m := 1024) h1 h4
  have h0 : (st_ (mkS m (piece (szN s.size m) s)) 0).size = szN s.size m := by rw [mkS_at _ _ _ (by omega), piece_size]
  refine dErr_ok (by rw [mkS_len]; exact ⟨h1, h2⟩) (by unfold Fits; rw [h0]; exact ⟨hp, hl⟩) fun i hi => ?_
  rw [mkS_len] at hi
  rw [h0, mkS_at _ _ _ hi, piece_size]
/-- Texts, a number and an error come back; nothing that was there has turned. -/
def GivesSh (W : World) (l : List ByteArray) (m : Nat) (z : Int) (e : Ending) (w' : World) : Prop :=
  ∃ A n c, e = .returned (.tuple #[.slice A n c, .int .i64 (m : Nat), .int .i64 z]) ∧ Ss w' A n l ∧ Below W.heap.size W w'

set_option maxRecDepth 100000 in
set_option maxHeartbeats 1600000 in
theorem dshards_err (s : ByteArray) (k r : Int) (w : World) (hs : s.size ≤ maxLen) (h : shE s.size k r ≠ 0) :
    Calls Tryd.prog 6 #[.string s, .int .i64 k, .int .i64 r] w (GivesSh w (shO s k r) (shM s.size k r) (shE s.size k r)) := by
  rw [shO_err h, shM_err h]
  unfold maxLen at hs
  by_cases g : k < 1 ∨ 32 < k ∨ r < 0 ∨ 255 - k < r
  · rw [shE_arg g]
    have key : k < 1 ∨ ¬ k < 1 ∧ k > 32 ∨ ¬ k < 1 ∧ ¬ k > 32 ∧ r < 0 ∨ ¬ k < 1 ∧ ¬ k > 32 ∧ ¬ r < 0 ∧ r > 255 - k ∧ wrap64 (255 - k) = 255 - k := by
      have : k < 1 ∨ 32 < k ∨ wrap64 (255 - k) = 255 - k := by
        by_cases hk : k < 1 ∨ 32 < k
        · rcases hk with hk | hk
          · exact .inl hk
          · exact .inr (.inl hk)
        · exact .inr (.inr (IntWalk.wrap64_in _ (by omega)))
      omega
    clear h g
    rcases key with h1 | ⟨h1, h2⟩ | ⟨h1, h2, h3⟩ | ⟨h1, h2, h3, h4, h5⟩
    all_goals
      go_enter Tryd.func6, Tryd.ntmps6
      go_wp2_with fail
      go_ret3
      exact ⟨_, _, _, rfl, Ss.nil _ _, Below.refl _ _⟩
  · have gl : s.size < 1 ∨ k * 1024 < s.size := by
      by_cases gl : s.size < 1 ∨ k * 1024 < s.size
      · exact gl
      · exact absurd (shE_ok g gl) h
    rw [shE_long g gl]
    have h1 : ¬ k < 1 := by omega
    have h2 : ¬ k > 32 := by omega
    have h3 : ¬ r < 0 := by omega
    have h4 : ¬ r > 255 - k := by omega
    have h5 : wrap64 (255 - k) = 255 - k := IntWalk.wrap64_in _ (by omega)
    have h6 : wrap64 (k * 1024) = k * 1024 := IntWalk.wrap64_in _ (by omega)
    have key : (s.size : Int) < 1 ∨ ¬ (s.size : Int) < 1 ∧ (s.size : Int) > k * 1024 := by omega
    clear h g gl
    rcases key with g1 | ⟨g1, g2⟩
    all_goals
      go_enter Tryd.func6, Tryd.ntmps6
      go_wp2_with fail
      go_ret3
      exact ⟨_, _, _, rfl, Ss.nil _ _, Below.refl _ _⟩

set_option maxRecDepth 100000 in
set_option maxHeartbeats 1600000 in
theorem dshards_ok (s : ByteArray) (k r : Nat) (w : World) (h1 : 1 ≤ k) (h2 : k ≤ 32) (h3 : r ≤ 255 - k) (h4 : 1 ≤ s.size) (h5 : s.size ≤ k * 1024) :
    Calls Tryd.prog 6 #[.string s, .int .i64 k, .int .i64 r] w (GivesSh w (shO s k r) (shM s.size k r) (shE s.size k r)) := by
  have hz : shE s.size k r = 0 := shE_ok (by omega) (by omega)
  obtain ⟨m, hm⟩ : ∃ m, m = min k s.size := ⟨_, rfl⟩
  have hM : shM s.size k r = m := (shM_ok hz).trans hm.symm
  rw [shO_ok hz hm, hM, hz]
  have hm1 : 1 ≤ m := by omega
  have hm2 : m ≤ 32 := by omega
  have hm4 : s.size ≤ m * 1024 := by omega
  have HD := Lib.hid (pieces_data (s := s) hm1 hm2 h4 hm4)
  have HC := Lib.hid (fun W => cut_any s m W (by unfold maxLen; omega))
  rw [show cOut s (m : Nat) = _ from cOut_ok hm1 hm2 h4 hm4, show cErrZ s.size (m : Nat) = 0 from cErrZ_ok (by omega) (by omega) h4 (by omega)] at HC
  have HL := Lib.hid (mkS_len m (piece (szN s.size m) s))
  generalize mkS m (piece (szN s.size m) s) = o at *
  have HE := Lib.hid (fun A n c W h => encode_any A n c o ((m + r : Nat) : Int) W h)
  have he : eErr o ((m + r : Nat) : Int) = 0 := by
    unfold eErr
    rw [if_pos HD.out, HL.out]
    exact if_neg (by unfold NoTab; omega)
  rw [he] at HE
  generalize eOut o ((m + r : Nat) : Int) = q at *
  have k1 : ¬ (k : Int) < 1 := by omega
  have k2 : ¬ (k : Int) > 32 := by omega
  have k3 : ¬ (r : Int) < 0 := by omega
  have k4 : ¬ (r : Int) > 255 - (k : Int) := by omega
  have k5 : wrap64 (255 - (k : Int)) = 255 - (k : Int) := IntWalk.wrap64_in _ (by omega)
  have k6 : wrap64 ((k : Int) * 1024) = (k : Int) * 1024 := IntWalk.wrap64_in _ (by omega)
  have k7 : ¬ (s.size : Int) < 1 := by omega
  have k8 : ¬ (s.size : Int) > (k : Int) * 1024 := by omega
  have k9 : wrap64 ((m : Int) + (r : Int)) = ((m + r : Nat) : Int) := by rw [IntWalk.wrap64_in _ (by omega)]; rfl
  have HMn := Lib.hid hm
  clear hz hM he hm
  go_enter Tryd.func6, Tryd.ntmps6
  go_upto_region 5 with fail
  go_cut [9] (fun v wx => v = .int .i64 (m : Nat) ∧ w = wx)
  case first =>
    by_cases hx : (s.size : Int) < (k : Int)
    · obtain rfl : m = s.size := by have := HMn.out; omega
      go_wp2_with fail
      go_meet
      first
        | exact ⟨rfl, rfl⟩
        | exact ⟨congrArg (Value.int IntKind.i64) (by omega), rfl⟩
    · obtain rfl : m = k := by have := HMn.out; omega
      go_wp2_with fail
      go_meet
      first
        | exact ⟨rfl, rfl⟩
        | exact ⟨congrArg (Value.int IntKind.i64) (by omega), rfl⟩
  case rest =>
    obtain ⟨rfl, rfl⟩ := hcut
    go_wp2_with fail
    refine (HC.out _).mono ?_; rintro e w1 ⟨A1, n1, c1, rfl, hs1, g1⟩
    have HB1 := Lib.hid g1; have HS1 := Lib.hid hs1
    clear hs1 g1
    go_wp2_with fail
    refine (HE.out _ _ _ _ HS1.out).mono ?_; rintro e w2 ⟨A2, n2, c2, rfl, hs2, g2⟩
    have HS2 := Lib.hid hs2; have HB2 := Lib.hid (HB1.out.trans (g2.mono HB1.out.size))
    clear hs2 g2
    go_wp2_with fail
    go_ret3
    exact ⟨_, _, _, rfl, HS2.out, HB2.out⟩
theorem dshards_any (s : ByteArray) (k r : Int) (w : World) (hs : s.size ≤ maxLen) :
    Calls Tryd.prog 6 #[.string s, .int .i64 k, .int .i64 r] w (GivesSh w (shO s k r) (shM s.size k r) (shE s.size k r)) := by
  by_cases h : shE s.size k r = 0
  · have h' := h
    unfold shE at h'
    split at h'
    · exact absurd h' (by decide)
    · split at h'
      · exact absurd h' (by decide)
      · obtain ⟨k', rfl⟩ := Int.eq_ofNat_of_zero_le (show 0 ≤ k by omega)
        obtain ⟨r', rfl⟩ := Int.eq_ofNat_of_zero_le (show 0 ≤ r by omega)
        exact dshards_ok s k' r' w (by omega) (by omega) (by omega) (by omega) (by omega)
  · exact dshards_err s k r w hs h
end Go.Proofs.YtooegclblgeicaaDoor

/- Proved: what the document's Unlike answers for all shards. Conditions: those that the theorems name. -/
namespace Go.Proofs.YtooegclblgeicaaDoor
open Go.ChangeShapes Go.WideShapes Go.ChangeAt Go.RowKit

def FreeTo (a : List Shd) (q : Nat) (i : Int) : Prop := ∀ p, p < q → (sh_ a p).1 ≠ i
def MeetsTo (a : List Shd) (q : Nat) (x : Shd) : Prop := ∀ p, p < q → (sh_ a p).1 = x.1 → (sh_ a p).2 = x.2
theorem FreeTo.next {a : List Shd} {q : Nat} {i : Int} (h : FreeTo a q i) (g : (sh_ a q).1 ≠ i) : FreeTo a (q + 1) i := fun p hp => by
  rcases Nat.lt_or_ge p q with hlt | hge
  · exact h p hlt
  · rw [show p = q by omega]; exact g
theorem MeetsTo.next {a : List Shd} {q : Nat} {x : Shd} (h : MeetsTo a q x) (g : (sh_ a q).1 = x.1 → (sh_ a q).2 = x.2) : MeetsTo a (q + 1) x := fun p hp => by
  rcases Nat.lt_or_ge p q with hlt | hge
  · exact h p hlt
  · rw [show p = q by omega]; exact g

end Go.Proofs.YtooegclblgeicaaDoor

/- Proved: what the document's mixed answers for every row and all texts. Conditions: those that the theorem names. -/
namespace Go.Proofs.YtooegclblgeicaaDoor
open Go.ChangeShapes Go.WideShapes Go.ChangeAt Go.RowKit

theorem bts_at (s : ByteArray) (j : Nat) (h : j < s.size) : (bts s).getD j 0 = (s[j]).toNat := by
  have h' : j < s.data.toList.length := h
  unfold bts
  rw [List.getD_eq_getElem?_getD, List.getElem?_map, List.getElem?_eq_getElem h']
  rfl

set_option maxRecDepth 100000 in
set_option maxHeartbeats 1600000 in
theorem rmix_any (R A : Option Addr) (k c d m : Nat) (r : List Nat) (l : List ByteArray) (w : World) (hr : Bs w R k r) (hl : Ss w A k l) (hs : ∀ i, i < k → (st_ l i).size = m)
    (h1 : 1 ≤ k) (hk : k ≤ 255) (hm1 : 1 ≤ m) (hm : m ≤ 1024) :
    Calls Tryd.prog 25 #[.slice R k c, .slice A k d] w fun e w' => e = .returned (.string (tx (mixR k m r (tabS l)))) ∧ Below w.heap.size w w' := by
  have hmR := run_make_row' (P := Tryd.prog) 31 5 (.int .u8 0) 1 Tryd.underlying31 Tryd.infoByte rfl .i64 .i64 m (by omega) (by omega)
  have HR := Lib.hid hr
  have HL := Lib.hid hl
  have HS := Lib.hid hs
  have HX : Hid (Good k m (tabS l)) := Lib.hid (tabS_good hl.len hs)
  obtain ⟨ad, rfl, had, hac0⟩ := hl.at_ (k := 0) (by omega)
  rw [Addr.add_zero' ad] at hac0
  have hs0 := hs 0 (by omega)
  clear hr hl hs
  generalize hx0 : st_ l 0 = x0 at *
  have HX0 := Lib.hid hx0
  clear hx0
  have hpos : (0 : Int) ≤ (m : Int) := by omega
  have hk0 : (0 : Int) < (k : Int) := by omega
  go_enter Tryd.func25, Tryd.ntmps25
  go_wp2_with fail
  have HO := Lib.hid (own_new w m)
  have HW := Lib.hid ((Below.refl w.heap.size w).alloc (Nat.le_refl _) (.cells (madeCells #[.int .u8 0] m) 5))
  have HAD := Lib.hid had
  clear hac0 hs0 had
  generalize hgg : w.heap.size = g at *
  go_loopw [6] (fun v wr => ∃ i : Nat, i ≤ k ∧ v = .int .i64 i ∧ Own wr g m (mixP k m i r (tabS l)) ∧ Below g w wr) (fun v _ => k - (intOf v).toNat)
  case atStart => exact ⟨0, by omega, rfl, by rw [mixP_zero]; exact HO.out, HW.out⟩
  case round =>
    obtain ⟨i, hi, rfl, ho, hbel⟩ := hrel
    rename World => w0
    have HO0 := Lib.hid ho
    have HW0 := Lib.hid hbel
    clear ho hbel HO HW
    by_cases hlt : i < k
    · have hlt' : (i : Int) < (k : Int) := by omega
      have hi0 : (0 : Int) ≤ (i : Int) := Int.natCast_nonneg _
      obtain ⟨rd, rfl, hrd, hrc⟩ := HR.out.at_ hlt
      obtain ⟨ad', e', _, hac⟩ := HL.out.at_ hlt
      cases e'
      have hx := HR.out.lt i
      have hsz := HS.out i hlt
      have HZ := Lib.hid hsz
      have hrow : rw_ (tabS l) i = bts (st_ l i) := tabS_at (by rw [HL.out.len]; exact hlt)
      have HRow := Lib.hid hrow
      clear hsz hrow
      have HN := Lib.hid (mixP_next (m := m) (c := r) (b := tabS l) hlt)
      rw [HRow.out] at HN
      generalize hs : st_ l i = s at *
      generalize hxx : r.getD i 0 = x at *
      clear hs hxx
      go_wp2_with fail
      go_loopw [7] (fun v wr => ∃ j : Nat, j ≤ m ∧ v = .int .i64 j ∧ ∃ y, Upto m j (fun j => (mixP k m (i + 1) r (tabS l)).getD j 0) (mixP k m i r (tabS l)) y ∧ Own wr g m y ∧ Below g w wr) (fun v _ => m - (intOf v).toNat)
      case atStart => exact ⟨0, by omega, rfl, _, Upto.start (mixP_len _ _ _ _ _), HO0.out, HW0.out⟩
      case round =>
        obtain ⟨j, hj, rfl, y, hu, ho, hbel⟩ := hrel
        rename World => w1
        have HU := Lib.hid hu
        have HO1 := Lib.hid ho
        have HW1 := Lib.hid hbel
        clear hu ho hbel HO0 HW0
        by_cases hjm : j < m
        · have hjm' : (j : Int) < (m : Int) := by omega
          have hj0 : (0 : Int) ≤ (j : Int) := Int.natCast_nonneg _
          have hjs : j < s.size := by rw [HZ.out]; exact hjm
          have hrc1 : w1.cell? (rd.add i) = some (.int .u8 (x : Nat)) := (HW1.out.cell (by rw [add_block]; omega)).trans hrc
          have hac1 : w1.cell? (ad.add i) = some (.string s) := (HW1.out.cell (by rw [add_block]; omega)).trans hac
          have hoc := HO1.out.cell hjm
          have hfz := HO1.out.frozen j
          have hv := HO1.out.2.1 j
          have HV := Lib.hid (HU.out.here hjm)
          have HNj : Hid ((mixP k m (i + 1) r (tabS l)).getD j 0 = (mixP k m i r (tabS l)).getD j 0 ^^^ gmul x (s[j]).toNat) := Lib.hid (by
            rw [HN.out]
            unfold addL scaleL
            rw [mk_at _ _ _ hjm, mk_at _ _ _ hjm, bts_at s j hjs])
          have HUn := Lib.hid (HU.out.next hjm)
          have hsl : (s[j]).toNat < 256 := (s[j]).toNat_lt
          have hp := gmul_lt (s[j]).toNat hx
          have hgl := HO1.out.block_lt
          generalize hyv : y.getD j 0 = yv at *
          have HPr := Lib.hid (fun W => prod_any x (s[j]).toNat hx hsl W)
          go_wp2_with fail
          refine wp_region_still_tail 19 (by kernel_rfl) (by kernel_rfl) ?_
          simp only [List.take_succ_cons, List.take_zero, List.drop_succ_cons, List.drop_zero]
          repeat still_step
          still_call ((HPr.out _).mono fun _ _ h => ⟨h.1, h.2.symm⟩)
          repeat still_step
          refine wpStill_nil ?_
          change wpList _ _ _ _ _ w1.drew
          have HO2 : Hid (Own w1.drew g m y) := Lib.hid HO1.out
          have HW2 : Hid (Below g w w1.drew) := Lib.hid HW1.out.drew
          clear hrc1 hac1 hoc hfz hgl HO1 HW1
          generalize w1.drew = w2 at *
          have hoc := HO2.out.cell hjm
          have hfz := HO2.out.frozen j
          go_wp2_with fail
          go_roundw
          case rel =>
            refine ⟨j + 1, by omega, by go_num, _, HUn.out, ?_, HW2.out.setCell (p := ⟨g, j, none⟩) (Nat.le_refl _) _⟩
            rw [HNj.out, ← HV.out, u8_xor_nat yv _ hv hp]
            exact HO2.out.set_ hjm (xor_lt _ _ hv hp)
          case measure => simp [intOf]; omega
        · obtain rfl : j = m := by omega
          have HD := Lib.hid HU.out.done
          have HE : Hid (y = mixP k j (i + 1) r (tabS l)) := Lib.hid (by rw [HD.out]; exact (eq_mk (mixP_len _ _ _ _ _) fun _ _ => rfl).symm)
          go_wp2_with fail
          go_roundw
          case rel => exact ⟨i + 1, by omega, by go_num, by rw [← HE.out]; exact HO1.out, HW1.out⟩
          case measure => simp [intOf]; omega
    · obtain rfl : i = k := by omega
      have hcv := convert_back w0 _ m m _ HO0.out.bs (by omega)
      go_wp2_with fail
      go_ret
      exact ⟨rfl, by rw [hgg]; exact HW0.out⟩
end Go.Proofs.YtooegclblgeicaaDoor

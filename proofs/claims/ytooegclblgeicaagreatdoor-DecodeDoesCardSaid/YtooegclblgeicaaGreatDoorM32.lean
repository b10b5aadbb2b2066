/- Proved: lemmas of one statement's proof, merged by program: what each part proves stands ahead of it. Conditions: those that the lemmas name. -/
import Derived.Test.YtooegclblgeicaaGreatDoorM31
import Derived.Test.YtooegclblgeicaaGreatDoorM27

/- Proved: the walks of the three laws of package cut, for all their arguments. Conditions: those that the theorems name. -/
namespace Go.Proofs.YtooegclblgeicaaGreatDoor
open Go.ChangeShapes Go.WideShapes Go.ChangeAt Go.RowKit

theorem cOut_len (s : ByteArray) (k : Int) : (cOut s k).length ≤ 140737488355328 := by
  unfold cOut
  split
  · rename_i h
    rw [mkS_len]
    unfold cErrZ at h
    split at h
    · omega
    · omega
  · exact (by decide : 0 ≤ 140737488355328)
end Go.Proofs.YtooegclblgeicaaGreatDoor

/- Proved: the walk of the law that a text comes back from its shards. Conditions: those that the theorems name. -/
namespace Go.Proofs.YtooegclblgeicaaGreatDoor
open Go.ChangeShapes Go.WideShapes Go.ChangeAt Go.RowKit

/-! ### shards in one are the text, with bytes 0 behind -/
theorem mk_append (a b : Nat) (f : Nat → Nat) : mk a f ++ mk b (fun j => f (a + j)) = mk (a + b) f := by
  unfold mk
  rw [List.range_add, List.map_append, List.map_map]; rfl
theorem mkS_all {k : Nat} {f : Nat → ByteArray} {j : Nat} (h : j < k) : st_ (mkS k f) j = f j := mkS_at k f j h
theorem cat_pieces (m : Nat) (s : ByteArray) (q : Nat) : catB (mkS q (piece m s)) = mk (q * m) fun j => (bts s).getD j 0 := by
  induction q with
  | zero => simp [catB, mkS, mk]
  | succ q ih =>
    rw [← mkS_succ, catB_snoc, ih, bts_piece, mk_append (q * m) m (fun j => (bts s).getD j 0), Nat.succ_mul]
theorem pieces_alike (m k : Nat) (s : ByteArray) (hk : 1 ≤ k) : alike (mkS k (piece m s)) := by
  intro j hj
  rw [mkS_len] at hj
  rw [mkS_all hj, mkS_all (by omega), piece_size, piece_size]
theorem back_err (m k : Nat) (s : ByteArray) (hk : 1 ≤ k) (h : s.size ≤ k * m) : jErr (mkS k (piece m s)) (s.size : Nat) = 0 := by
  refine jErr_ok (by rw [mkS_len]; exact hk) (pieces_alike m k s hk) (by rw [cat_pieces, mk_len]; exact h) ?_
  rw [zerosB_iff]
  intro j
  rw [drop_atC, cat_pieces]
  rcases Nat.lt_or_ge (s.size + j) (k * m) with h1 | h1
  · rw [mk_at _ _ _ h1]
    exact getD_past _ _ (by rw [bts_len]; omega)
  · exact getD_past _ _ (by rw [mk_len]; exact h1)
theorem back_out (m k : Nat) (s : ByteArray) (hk : 1 ≤ k) (h : s.size ≤ k * m) : jOut (mkS k (piece m s)) (s.size : Nat) = s := by
  rw [jOut_ok (back_err m k s hk h), cat_pieces]
  have : (mk (k * m) fun j => (bts s).getD j 0).take s.size = bts s := by
    refine ext_at (n := s.size) (by rw [List.length_take, mk_len]; omega) (bts_len s) fun j hj => ?_
    rw [List.getD_eq_getElem?_getD, List.getElem?_take, if_pos hj, ← List.getD_eq_getElem?_getD, mk_at _ _ _ (by omega)]
  rw [this, tx_bts]

end Go.Proofs.YtooegclblgeicaaGreatDoor

/- Plain lemmas: what is told of shards that come of a text, in whatever order, some of them twice. No condition beyond those that each lemma names. -/
namespace Go.Proofs.YtooegclblgeicaaGreatDoor
open Go.ChangeShapes Go.WideShapes Go.ChangeAt Go.RowKit

/-- whatever shards there are, there is what they are decoded to. -/
theorem dc_exists {w : World} {A : Option Addr} {m : Nat} (k n : Int) {l : List Shd} (hl : Sh w A m l) (hm : m ≤ 100) : ∃ out, DcIs k n l out := by
  obtain ⟨e, w', fr, ⟨A', m', c', out, _, hd, _⟩, _⟩ := decode_any A m m k n l w hl hm []
  exact ⟨out, hd⟩
theorem do_exists {w : World} {A : Option Addr} {m : Nat} (k n len : Int) {l : List Shd} (hl : Sh w A m l) (hm : m ≤ 100) : ∃ t z, DoIs k n len l t z := by
  obtain ⟨out, hd⟩ := dc_exists k n hl hm
  by_cases h : dcE k n l = 0
  · exact ⟨_, _, out, hd, .inr ⟨h, rfl, rfl⟩⟩
  · exact ⟨_, _, out, hd, .inl ⟨h, rfl, rfl⟩⟩
section
variable {k N s : Nat} {data O : List ByteArray} {xs : List Nat}
theorem got_some (hk1 : 1 ≤ k) (hk2 : k ≤ 32) (hkN : k ≤ N) (hN : N ≤ 255) (hd : data.length = k) (hs : ∀ i, i < k → (st_ data i).size = s) (h1 : 1 ≤ s) (h2 : s ≤ 1024)
    (hO : O = txS (mulL N k s (rowsC k (upL N)) (tabS data))) (h : k ≤ (accL (gotL N O xs)).length) :
    dcE k N (gotL N O xs) = 0 ∧ ∀ out, DcIs k N (gotL N O xs) out → out = data := by
  have hN1 : 0 < N := by omega
  have hOs : ∀ i, i < N → (st_ O i).size = s := fun i hi => by rw [hO]; exact enc_size hi
  have hu := got_ok hN1 hOs h1 h2 xs
  have horig : Orig N O (accL (gotL N O xs)) := by
    have h := got_orig (o := O) hN1 xs (Nat.le_refl _)
    rwa [List.take_of_length_le (Nat.le_refl _)] at h
  have hDA : DArg k N := by unfold DArg; omega
  have hS0 : (sh_ (gotL N O xs) 0).2.size = s := by
    rcases Nat.eq_zero_or_pos xs.length with h0 | h0
    · have : xs = [] := List.eq_nil_of_length_eq_zero h0
      rw [this] at h
      have h1' : k ≤ 0 := h
      omega
    · rw [gotL_at h0]; exact hOs _ (Nat.mod_lt _ hN1)
  have he := dcE_ok (k := (k : Int)) hDA hu (by omega)
  refine ⟨he, fun out hd' => ?_⟩
  unfold DcIs at hd'
  rw [if_pos he, Int.toNat_natCast] at hd'
  obtain ⟨q, hq1, hq2⟩ := hd'
  rw [hq2, hS0]
  exact dec_back (n := N) hd hs (by rw [← hO]; exact horig) h hq1
theorem got_less (hk1 : 1 ≤ k) (hk2 : k ≤ 32) (hkN : k ≤ N) (hN : N ≤ 255) (h1 : 1 ≤ s) (h2 : s ≤ 1024)
    (hO : O = txS (mulL N k s (rowsC k (upL N)) (tabS data))) (h : ¬ k ≤ (accL (gotL N O xs)).length) : dcE k N (gotL N O xs) = 15 := by
  have hOs : ∀ i, i < N → (st_ O i).size = s := fun i hi => by rw [hO]; exact enc_size hi
  exact dcE_less (k := (k : Int)) (by unfold DArg; omega) (got_ok (by omega) hOs h1 h2 xs) (by omega)
end
set_option maxRecDepth 100000 in
/-- of a text's shards: as many unlike ones as data tell the text; fewer tell that they are too few. -/
theorem back_is {w : World} {A : Option Addr} {j : Nat} {s : ByteArray} {k r m : Nat} {O : List ByteArray} {xs : List Nat} (hz : shE s.size k r = 0) (hm : m = min k s.size) (hO : O = shO s k r) (hl : Sh w A j (gotL (m + r) O xs)) (hj : j ≤ 100) :
    DoIs m (m + r : Nat) s.size (gotL (m + r) O xs) (if m ≤ (accL (gotL (m + r) O xs)).length then s else S0) (if m ≤ (accL (gotL (m + r) O xs)).length then 0 else 15) := by
  have hb : 1 ≤ k ∧ k ≤ 32 ∧ r ≤ 255 - k ∧ 1 ≤ s.size ∧ s.size ≤ k * 1024 := by
    unfold shE at hz
    split at hz
    · exact absurd hz (by decide)
    · split at hz
      · exact absurd hz (by decide)
      · omega
  obtain ⟨h1, h2, h3, h4, h5⟩ := hb
  have hm1 : 1 ≤ m := by omega
  have hm4 : s.size ≤ m * 1024 := by omega
  have hD := pieces_data (s := s) hm1 (by omega) h4 hm4
  have hp := szN_pos (n := s.size) (k := m) hm1 h4
  have hle := szN_le (n := s.size) (k := m) (m := 1024) hm1 hm4
  have hho := szN_holds (n := s.size) (k := m) hm1
  have hlen : (mkS m (piece (szN s.size m) s)).length = m := mkS_len _ _
  have hsz : ∀ i, i < m → (st_ (mkS m (piece (szN s.size m) s)) i).size = szN s.size m := fun i hi => by rw [mkS_at _ _ _ hi, piece_size]
  have he : eErr (mkS m (piece (szN s.size m) s)) ((m + r : Nat) : Int) = 0 := by
    unfold eErr
    rw [if_pos hD, hlen]
    exact if_neg (by unfold NoTab; omega)
  have hO' : O = txS (mulL (m + r) m (szN s.size m) (rowsC m (upL (m + r))) (tabS (mkS m (piece (szN s.size m) s)))) := by
    rw [hO, shO_ok hz hm]
    unfold eOut
    rw [if_pos he, hlen, Int.toNat_natCast, hsz 0 (by omega)]
  obtain ⟨out, hd⟩ := dc_exists (m : Int) ((m + r : Nat) : Int) hl hj
  by_cases h : m ≤ (accL (gotL (m + r) O xs)).length
  · rw [if_pos h, if_pos h]
    obtain ⟨e0, hu⟩ := got_some hm1 (by omega) (by omega) (by omega) hlen hsz hp hle hO' h
    obtain rfl := hu out hd
    exact ⟨_, hd, .inr ⟨e0, (back_err _ _ s hm1 hho).symm, (back_out _ _ s hm1 hho).symm⟩⟩
  · rw [if_neg h, if_neg h]
    have e0 := got_less hm1 (by omega) (by omega) (by omega) hp hle hO' h
    exact ⟨out, hd, .inl ⟨by rw [e0]; decide, by rw [e0]; rfl, rfl⟩⟩
end Go.Proofs.YtooegclblgeicaaGreatDoor

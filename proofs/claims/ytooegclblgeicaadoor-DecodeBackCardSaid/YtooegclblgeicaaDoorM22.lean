/- Proved: lemmas of one statement's proof, merged by program: what each part proves stands ahead of it. Conditions: those that the lemmas name. -/
import Derived.Test.YtooegclblgeicaaDoorM21
import Derived.IntWalk
import Derived.Deep.AppendLies
import Derived.Deep.QuietTactic
import Derived.BigQuiet

/- Proved: what Size answers, the program's and the document's, for every two numbers. Conditions: those that each lemma names. -/
namespace Go.Proofs.YtooegclblgeicaaDoor
open Go.ChangeShapes Go.WideShapes Go.ChangeAt Go.RowKit

theorem i64_hi {a : Int} (h : (Lit.int .i64 a).wf = true) : -9223372036854775808 ≤ a ∧ a ≤ 9223372036854775807 := by
  simpa [Lit.wf, IntKind.min, IntKind.max, IntKind.signed, IntKind.bits] using h
theorem size_fits {a b : Int} (h : (Lit.int .i64 a).wf = true) (ha : 0 ≤ a) (hb : 1 ≤ b) (g : a % b ≠ 0) : wrap64 (a / b + 1) = a / b + 1 := by
  have h1 := (i64_hi h).2
  have h2 : 2 ≤ b := by
    rcases Int.lt_or_le b 2 with h3 | h3
    · have : b = 1 := by omega
      subst this; omega
    · exact h3
  have h5 : 2 * (a / b) ≤ b * (a / b) := Int.mul_le_mul_of_nonneg_right h2 (Int.ediv_nonneg ha (by omega))
  have h6 := Int.mul_ediv_add_emod a b
  have h7 := Int.emod_nonneg a (show b ≠ 0 by omega)
  have h4 : 0 ≤ a / b := Int.ediv_nonneg ha (by omega)
  exact IntWalk.wrap64_in _ ⟨by omega, by omega⟩
theorem quo_fits {a b : Int} (h : (Lit.int .i64 a).wf = true) (ha : 0 ≤ a) (hb : 1 ≤ b) : wrap64 (a.tdiv b) = a / b := by
  have h1 := (i64_hi h).2
  have h4 : 0 ≤ a / b := Int.ediv_nonneg ha (by omega)
  have h5 : 1 * (a / b) ≤ b * (a / b) := Int.mul_le_mul_of_nonneg_right hb h4
  have h6 := Int.mul_ediv_add_emod a b
  have h7 := Int.emod_nonneg a (show b ≠ 0 by omega)
  rw [Int.tdiv_eq_ediv_of_nonneg ha]
  exact IntWalk.wrap64_in _ ⟨by omega, by omega⟩
set_option maxHeartbeats 400000 in
theorem size_any (a b : Int) (w : World) (wa : (Lit.int .i64 a).wf = true) :
    Calls Tryd.prog 30 #[.int .i64 a, .int .i64 b] w fun e w' => e = .returned (.int .i64 (sizeZ a b)) ∧ w = w' := by
  have W := Lib.hid wa
  clear wa
  by_cases ha : a < 0
  · go_enter Tryd.func30, Tryd.ntmps30
    go_wp2
    go_ret
    exact ⟨ret_int (sizeZ_none (Or.inl ha)).symm, rfl⟩
  · have ha' : 0 ≤ a := by omega
    by_cases hb : b < 1
    · go_enter Tryd.func30, Tryd.ntmps30
      go_wp2
      go_ret
      exact ⟨ret_int (sizeZ_none (Or.inr hb)).symm, rfl⟩
    · have hb' : 1 ≤ b := by omega
      clear hb ha
      by_cases hr : a % b = 0
      · have he := sizeZ_even ha' hb' hr
        have HE := Lib.hid he
        clear he
        have hr2 : (a % b == 0) = true := by simpa using hr
        go_enter Tryd.func30, Tryd.ntmps30
        go_wp2
        go_ret
        exact ⟨ret_int (by rw [quo_fits W.out ha' hb', HE.out]), rfl⟩
      · have HE := Lib.hid (sizeZ_odd ha' hb' hr)
        have HF := Lib.hid (size_fits W.out ha' hb' hr)
        have hr2 : (a % b == 0) = false := by simpa using hr
        go_enter Tryd.func30, Tryd.ntmps30
        go_wp2
        go_ret
        exact ⟨ret_int (by rw [quo_fits W.out ha' hb', HF.out, HE.out]), rfl⟩
set_option maxHeartbeats 400000 in
theorem rsize_any (a b : Int) (w : World) (wa : (Lit.int .i64 a).wf = true) :
    Calls Tryd.prog 22 #[.int .i64 a, .int .i64 b] w fun e w' => e = .returned (.int .i64 (sizeZ a b)) ∧ w = w' := by
  have W := Lib.hid wa
  clear wa
  by_cases ha : a < 0
  · go_enter Tryd.func22, Tryd.ntmps22
    go_wp2
    go_ret
    exact ⟨ret_int (sizeZ_none (Or.inl ha)).symm, rfl⟩
  · have ha' : 0 ≤ a := by omega
    by_cases hb : b < 1
    · go_enter Tryd.func22, Tryd.ntmps22
      go_wp2
      go_ret
      exact ⟨ret_int (sizeZ_none (Or.inr hb)).symm, rfl⟩
    · have hb' : 1 ≤ b := by omega
      clear hb ha
      by_cases hr : a % b = 0
      · have HE := Lib.hid (sizeZ_even ha' hb' hr)
        have hr2 : a % b ≤ 0 := by omega
        go_enter Tryd.func22, Tryd.ntmps22
        go_wp2
        go_ret
        exact ⟨ret_int (by rw [quo_fits W.out ha' hb', HE.out]), rfl⟩
      · have HE := Lib.hid (sizeZ_odd ha' hb' hr)
        have HF := Lib.hid (size_fits W.out ha' hb' hr)
        have hr2 : 0 < a % b := by have := Int.emod_nonneg a (show b ≠ 0 by omega); omega
        go_enter Tryd.func22, Tryd.ntmps22
        go_wp2
        go_ret
        exact ⟨ret_int (by rw [quo_fits W.out ha' hb', HF.out, HE.out]), rfl⟩
end Go.Proofs.YtooegclblgeicaaDoor

/- Proved: what the document's Cut answers, for every text and every number. Conditions: those that the theorems name. -/
namespace Go.Proofs.YtooegclblgeicaaDoor
open Go.ChangeShapes Go.WideShapes Go.ChangeAt Go.RowKit

/-- Texts and an error come back; nothing that was there has turned. -/
def GivesSZ (W : World) (l : List ByteArray) (z : Int) (e : Ending) (w' : World) : Prop :=
  ∃ A n c, e = .returned (.tuple #[.slice A n c, .int .i64 z]) ∧ Ss w' A n l ∧ Below W.heap.size W w'
/-- a text with p bytes 0 behind. -/
def pad (s : ByteArray) (p : Nat) : ByteArray := tx (bts s ++ List.replicate p 0)
theorem pad_zero (s : ByteArray) : pad s 0 = s := by unfold pad; simp [tx_bts]
theorem pad_size (s : ByteArray) (p : Nat) : (pad s p).size = s.size + p := by unfold pad; rw [tx_size, List.length_append, bts_len, List.length_replicate]
theorem getD_append_zeros (l : List Nat) (p j : Nat) : (l ++ List.replicate p 0).getD j 0 = l.getD j 0 := by
  rw [List.getD_eq_getElem?_getD, List.getD_eq_getElem?_getD]
  rcases Nat.lt_or_ge j l.length with h | h
  · rw [List.getElem?_append_left h]
  · rw [List.getElem?_append_right h, List.getElem?_replicate, List.getElem?_eq_none h]
    split <;> rfl
theorem bts_pad (s : ByteArray) (p : Nat) : bts (pad s p) = bts s ++ List.replicate p 0 := by
  unfold pad
  exact bts_tx fun j => by rw [getD_append_zeros]; exact bts_lt s j
theorem bts_append (s t : ByteArray) : bts (s ++ t) = bts s ++ bts t := by
  unfold bts
  rw [ByteArray.data_append]
  simp
theorem pad_succ (s : ByteArray) (p : Nat) : pad s p ++ ⟨#[0]⟩ = pad s (p + 1) := by
  apply bts_inj
  rw [bts_append, bts_pad, bts_pad, List.append_assoc]
  congr 1
  show List.replicate p 0 ++ [0] = _
  rw [List.replicate_succ']
theorem bts_extract (s : ByteArray) (a b : Nat) : bts (s.extract a b) = ((bts s).take b).drop a := by
  unfold bts
  rw [ByteArray.data_extract]
  simp [List.map_drop, List.map_take, List.extract_eq_take_drop, List.drop_take]
theorem piece_of {s : ByteArray} {m p i : Nat} (h : i * m + m ≤ s.size + p) : (pad s p).extract (i * m) (i * m + m) = piece m s i := by
  apply bts_inj
  rw [bts_extract, bts_piece, bts_pad]
  refine eq_mk ?_ fun j hj => ?_
  · rw [List.length_drop, List.length_take, List.length_append, bts_len, List.length_replicate]; omega
  · rw [← getD_append_zeros (bts s) p (i * m + j)]
    rw [List.getD_eq_getElem?_getD, List.getD_eq_getElem?_getD, List.getElem?_drop, List.getElem?_take, if_pos (by omega)]

set_option maxHeartbeats 800000 in
theorem rcut_bad (s : ByteArray) (k : Int) (w : World) (hs : s.size ≤ maxLen) (h : cErrZ s.size k ≠ 0) :
    Calls Tryd.prog 13 #[.string s, .int .i64 k] w (GivesSZ w [] (cErrZ s.size k)) := by
  unfold maxLen at hs
  by_cases h1 : k < 1
  · have H := Lib.hid (cErrZ_arg (n := s.size) (k := k) (Or.inl h1))
    clear h
    go_enter Tryd.func13, Tryd.ntmps13
    go_wp2_with fail
    go_ret2
    rw [H.out]
    exact ⟨_, _, _, rfl, Ss.nil _ _, Below.refl _ _⟩
  · by_cases h2 : 32 < k
    · have H := Lib.hid (cErrZ_arg (n := s.size) (k := k) (Or.inr h2))
      clear h
      have h1' : 1 ≤ k := by omega
      go_enter Tryd.func13, Tryd.ntmps13
      go_wp2_with fail
      go_ret2
      rw [H.out]
      exact ⟨_, _, _, rfl, Ss.nil _ _, Below.refl _ _⟩
    · have h1' : 1 ≤ k := by omega
      have h2' : k ≤ 32 := by omega
      clear h1 h2
      by_cases h3 : s.size < 1
      · have H := Lib.hid (cErrZ_long (n := s.size) h1' h2' (Or.inl h3))
        have h3' : (s.size : Int) < 1 := by omega
        clear h h3
        go_enter Tryd.func13, Tryd.ntmps13
        go_wp2_with fail
        go_ret2
        rw [H.out]
        exact ⟨_, _, _, rfl, Ss.nil _ _, Below.refl _ _⟩
      · have h3' : (1 : Int) ≤ (s.size : Int) := by omega
        have h4 : k * 1024 < (s.size : Int) := by
          rcases Int.lt_or_le (k * 1024) (s.size : Int) with h4 | h4
          · exact h4
          · exact absurd (cErrZ_ok h1' h2' (by omega) h4) h
        have H := Lib.hid (cErrZ_long (n := s.size) h1' h2' (Or.inr h4))
        clear h h3
        go_enter Tryd.func13, Tryd.ntmps13
        go_wp2_with fail
        go_ret2
        rw [H.out]
        exact ⟨_, _, _, rfl, Ss.nil _ _, Below.refl _ _⟩

set_option maxRecDepth 100000 in
set_option maxHeartbeats 800000 in
theorem rcut_good (s : ByteArray) (k : Nat) (w : World) (h1 : 1 ≤ k) (h2 : k ≤ 32) (h3 : 1 ≤ s.size) (h4 : s.size ≤ k * 1024) :
    Calls Tryd.prog 13 #[.string s, .int .i64 (k : Nat)] w (GivesSZ w (mkS k (piece (szN s.size k) s)) 0) := by
  obtain ⟨i0, hi0, hz0, hz1, hz2⟩ := info_parts Tryd.infoString
  have HZ := Lib.hid (rsize_any s.size k w (by simp [Lit.wf, IntKind.min, IntKind.max, IntKind.signed, IntKind.bits]; omega))
  rw [sizeZ_nat h1] at HZ
  have hm1 := szN_le (n := s.size) (k := k) (m := 1024) h1 h4
  have hm2 := szN_holds (n := s.size) (k := k) h1
  generalize szN s.size k = m at *
  have hk1 : (1 : Int) ≤ (k : Int) := by omega
  have hk2 : (k : Int) ≤ 32 := by omega
  have hs1 : (1 : Int) ≤ (s.size : Int) := by omega
  have hs2 : (s.size : Int) ≤ (k : Int) * 1024 := by omega
  obtain ⟨z, hz⟩ : ∃ z, z = k * m := ⟨_, rfl⟩
  have hzb : z ≤ 32768 := by rw [hz]; exact Nat.mul_le_mul h2 hm1
  have hzi : (m : Int) * (k : Int) = (z : Int) := by rw [hz, Nat.mul_comm]; simp
  have HM := Lib.hid hz
  rw [← hz] at hm2
  have N1 := Lib.hid (And.intro h1 (And.intro h2 (And.intro h3 (And.intro h4 hm1))))
  clear h1 h2 h3 h4 hm1 hz
  go_enter Tryd.func13, Tryd.ntmps13
  go_wp2_with fail
  refine HZ.out.mono ?_; rintro e w' ⟨rfl, rfl⟩
  go_wp2_with fail
  go_loop [0] (fun v => ∃ p : Nat, s.size + p ≤ z ∧ v = .string (pad s p)) (fun v => match v with | .string t => z - t.size | _ => 0)
  case atStart => exact ⟨0, by omega, by rw [pad_zero]⟩
  case round =>
    obtain ⟨p, hp, rfl⟩ := hrel
    have hps := pad_size s p
    have HPs := Lib.hid (pad_succ s p)
    have HSz := Lib.hid (pad_size s (p + 1))
    by_cases hlt : s.size + p < z
    · have hlt' : ((pad s p).size : Int) < (z : Int) := by omega
      have hle : ((pad s p).size : Int) ≤ 32768 := by omega
      have HP2 := Lib.hid hps
      clear hps
      go_wp2_with fail
      go_round
      case rel => exact ⟨p + 1, by omega, by rw [HPs.out]⟩
      case measure => simp [HPs.out, HSz.out, HP2.out]; omega
    · have hpz : s.size + p = z := by omega
      have hlt' : ¬ ((pad s p).size : Int) < (z : Int) := by omega
      have hle : ((pad s p).size : Int) ≤ 32768 := by omega
      have HP2 := Lib.hid (hps.trans hpz)
      have HPz := Lib.hid hpz
      have HPc := Lib.hid (fun i h => piece_of (s := s) (m := m) (p := p) (i := i) h)
      clear hps
      go_wp2_with fail
      generalize pad s p = S at *
      clear hlt' hlt hp hpz
      go_loopw [7, 8] (fun v i wr => ∃ q : Nat, q ≤ k ∧ i = .int .i64 q ∧ wr.ownsRow w.heap.size 9 1 v q (scells (mkS q (piece m s))) ∧ Below w.heap.size w wr) (fun _ i _ => k - (intOf i).toNat)
      case atStart => exact ⟨0, by omega, rfl, World.ownsRow_nil _ _ _ _, Below.refl _ _⟩
      case round =>
        obtain ⟨q, hq, rfl, hown, hbel⟩ := hrel
        have HO := Lib.hid hown
        have HW := Lib.hid hbel
        clear hown hbel
        by_cases hlt : q < k
        · have hlt' : (q : Int) < (k : Int) := by omega
          have hq0 : (0 : Int) ≤ (q : Int) := Int.natCast_nonneg _
          obtain ⟨y, hy⟩ : ∃ y, y = q * m := ⟨_, rfl⟩
          have hyz : y + m ≤ z := by rw [hy, HM.out, ← Nat.succ_mul]; exact Nat.mul_le_mul_right m hlt
          have hyi : (q : Int) * (m : Int) = (y : Int) := by rw [hy]; simp
          have HQ := Lib.hid (HPc.out q (by rw [← hy]; have := HPz.out; omega))
          rw [← hy] at HQ
          have hyS : (y : Int) + (m : Int) ≤ (S.size : Int) := by rw [HP2.out]; omega
          have hyb : (y : Int) + (m : Int) ≤ 32768 := by omega
          have hy0 : (0 : Int) ≤ (y : Int) := by omega
          have hm0 : (0 : Int) ≤ (m : Int) := by omega
          have hmax : q + 1 ≤ maxLen := by have := N1.out.2.1; unfold maxLen; omega
          have hqb : q + 1 ≤ 32 := by have := N1.out.2.1; omega
          have hws := HW.out.size
          clear hy hyz hq hlt
          have hsl : ∀ W, (Instr.slice 9 (Value.string S) (some (Value.int .i64 (y : Int))) (some (Value.int .i64 ((y : Int) + (m : Int)))) none).run Tryd.prog W = .ok (Value.string (piece m s q)) W := fun W => by
            rw [run_slice_string W 9 S _ _ _ _ Tryd.underlying9 hy0 (by omega) hyS]
            show Result.ok (Value.string (S.extract y (y + m))) W = _
            rw [HQ.out]
          have HK := Lib.hid (mkS_succ q (piece m s))
          generalize piece m s q = x at *
          go_wp2_with (at_builtin; refine wpList_append_lies _ rfl _ _ _ rfl w.heap.size 9 i0 _ 1 16 Tryd.underlying23 hi0 hz0 hz1 hz2 rfl (by omega) _ q _ rfl (HO.out.alloc _) ⟨wr.heap.size, 0, none⟩ 1 1 [Value.string x] rfl rfl (World.news_of_block (cs := #[Value.string x]) (t := 9) (fr := (0, 0)) (heap_alloc_new wr _)) (by simp [Value.oneCell']) (by omega) hmax (by omega) (by simp; omega) (wr.heap.size + 1) (by simp) ?_; intro gg cap w1 hown1 hgrow hat hlt1)
          go_roundw
          case rel =>
            refine ⟨q + 1, by omega, by go_num, ?_, (HW.out.alloc hws _).grown hgrow (by simp; omega) (fun i e => (HO.out.lt i e).1)⟩
            rw [← HK.out, ← scells_snoc]
            exact hown1
          case measure => simp [intOf]; omega
        · obtain rfl : q = k := by omega
          obtain ⟨A', c', rfl, _, hi⟩ := ss_of HO.out
          have HI := Lib.hid hi
          clear hi
          go_wp2_with fail
          go_ret2
          exact ⟨_, _, _, rfl, HI.out, HW.out⟩
theorem rcut_any (s : ByteArray) (k : Int) (w : World) (hs : s.size ≤ maxLen) :
    Calls Tryd.prog 13 #[.string s, .int .i64 k] w (GivesSZ w (cOut s k) (cErrZ s.size k)) := by
  by_cases h : cErrZ s.size k = 0
  · have h' := h
    unfold cErrZ at h'
    split at h'
    · omega
    · split at h'
      · omega
      · obtain ⟨k', rfl⟩ := Int.eq_ofNat_of_zero_le (show 0 ≤ k by omega)
        rw [h, show cOut s (k' : Int) = _ from cOut_ok (by omega) (by omega) (by omega) (by omega)]
        exact rcut_good s k' w (by omega) (by omega) (by omega) (by omega)
  · rw [cOut_err h]
    exact rcut_bad s k w hs h
end Go.Proofs.YtooegclblgeicaaDoor

/- Proved: what the document's Join answers, for all texts within the given bounds and every number. Conditions: those that the theorems name. -/
namespace Go.Proofs.YtooegclblgeicaaDoor
open Go.ChangeShapes Go.WideShapes Go.ChangeAt Go.RowKit

/-- A text and an error come back; nothing that was there has turned. -/
def GivesTZ (W : World) (t : ByteArray) (z : Int) (e : Ending) (w' : World) : Prop :=
  e = .returned (.tuple #[.string t, .int .i64 z]) ∧ Below W.heap.size W w'
theorem tx_append {l : List Nat} (h : ∀ j, l.getD j 0 < 256) (t : ByteArray) : tx l ++ t = tx (l ++ bts t) := by
  apply bts_inj
  rw [bts_append, bts_tx h, bts_tx]
  intro j
  rw [List.getD_eq_getElem?_getD]
  rcases Nat.lt_or_ge j l.length with hj | hj
  · rw [List.getElem?_append_left hj, ← List.getD_eq_getElem?_getD]; exact h j
  · rw [List.getElem?_append_right hj, ← List.getD_eq_getElem?_getD]; exact bts_lt t _
theorem index_at (s : ByteArray) (j : Nat) (h : j < s.size) (W : World) : (Instr.index 9 (Value.string s) (Value.int .i64 (j : Int))).run Tryd.prog W = .ok (Value.int .u8 ((bts s).getD j 0 : Nat)) W := by
  rw [run_index_string W 9 s .i64 (j : Int) Tryd.underlying9, dif_pos ⟨by omega, by omega⟩]
  have : (bts s).getD j 0 = s[j].toNat := by
    unfold bts
    rw [List.getD_eq_getElem?_getD, List.getElem?_map, Array.getElem?_toList, Array.getElem?_eq_getElem h]; rfl
  rw [this]; rfl
theorem tx_take {l : List Nat} (h : ∀ j, l.getD j 0 < 256) (n : Nat) : (tx l).extract 0 n = tx (l.take n) := by
  apply bts_inj
  rw [bts_extract, bts_tx h, bts_tx, List.drop_zero]
  intro j
  rw [List.getD_eq_getElem?_getD, List.getElem?_take]
  split
  · rw [← List.getD_eq_getElem?_getD]; exact h j
  · exact (by decide : 0 < 256)
set_option maxRecDepth 100000 in
theorem catB_bound (l : List ByteArray) (r : Nat) (h : ∀ j, j < r → (st_ l j).size ≤ 1100) : (catB (l.take r)).length ≤ r * 1100 := by
  induction r with
  | zero => simp [catB]
  | succ r ih =>
    have := ih fun j hj => h j (by omega)
    rcases Nat.lt_or_ge r l.length with h1 | h1
    · rw [catB_take h1, List.length_append, bts_len]
      have := h r (by omega)
      omega
    · rw [List.take_of_length_le (by omega)]
      rw [List.take_of_length_le (by omega)] at this
      omega
/-- the first r texts are as long as the first one. -/
def AlikeTo (l : List ByteArray) (r : Nat) : Prop := ∀ j, j < r → (st_ l j).size = (st_ l 0).size
theorem AlikeTo.next {l : List ByteArray} {r : Nat} (h : AlikeTo l r) (g : (st_ l r).size = (st_ l 0).size) : AlikeTo l (r + 1) := fun j hj => by
  rcases Nat.lt_or_ge j r with h1 | h1
  · exact h j h1
  · rw [show j = r by omega]; exact g
/-- the bytes from place n up to place j are 0. -/
def ZerosTo (b : List Nat) (n j : Nat) : Prop := ∀ i, n ≤ i → i < j → b.getD i 0 = 0
theorem ZerosTo.next {b : List Nat} {n j : Nat} (h : ZerosTo b n j) (g : b.getD j 0 = 0) : ZerosTo b n (j + 1) := fun i h1 h2 => by
  rcases Nat.lt_or_ge i j with h3 | h3
  · exact h i h1 h3
  · rw [show i = j by omega]; exact g
theorem drop_atC (b : List Nat) (n j : Nat) : (b.drop n).getD j 0 = b.getD (n + j) 0 := by
  rw [List.getD_eq_getElem?_getD, List.getD_eq_getElem?_getD, List.getElem?_drop]
theorem ZerosTo.done {b : List Nat} {n : Nat} (h : ZerosTo b n b.length) : zerosB (b.drop n) = true := (zerosB_iff _).2 fun j => by
  rw [drop_atC]
  rcases Nat.lt_or_ge (n + j) b.length with h1 | h1
  · exact h _ (by omega) h1
  · exact getD_past _ _ h1
theorem zeros_not {b : List Nat} {n j : Nat} (h : n ≤ j) (g : b.getD j 0 ≠ 0) : zerosB (b.drop n) = false := by
  rw [Bool.eq_false_iff]
  intro e
  refine g ?_
  have := (zerosB_iff _).1 e (j - n)
  rwa [drop_atC, show n + (j - n) = j by omega] at this

end Go.Proofs.YtooegclblgeicaaDoor

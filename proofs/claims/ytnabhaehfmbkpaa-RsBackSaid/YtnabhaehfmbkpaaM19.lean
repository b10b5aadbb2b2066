/- Proved: lemmas of one statement's proof, merged by program: what each part proves stands ahead of it. Conditions: those that the lemmas name. -/
import Derived.Test.YtnabhaehfmbkpaaM18

/- Plain lemmas: shards that come of data, in whatever order, some of them twice: which are kept, that none is refused, and that they are decoded as the data were. No condition beyond those that each lemma names. -/
namespace Go.Proofs.Ytnabhaehfmbkpaa

/-- the shards at the places that bytes tell, of texts that are n. -/
def gotL (n : Nat) (o : List ByteArray) (xs : List Nat) : List Shd := xs.map fun x => (((x % n : Nat) : Int), st_ o (x % n))
theorem gotL_len (n : Nat) (o : List ByteArray) (xs : List Nat) : (gotL n o xs).length = xs.length := by unfold gotL; rw [List.length_map]
theorem gotL_at {n : Nat} {o : List ByteArray} {xs : List Nat} {j : Nat} (h : j < xs.length) : sh_ (gotL n o xs) j = (((xs.getD j 0 % n : Nat) : Int), st_ o (xs.getD j 0 % n)) := by
  unfold gotL sh_
  rw [List.getD_eq_getElem?_getD, List.getElem?_map, List.getElem?_eq_getElem h, List.getD_eq_getElem?_getD, List.getElem?_eq_getElem h]; rfl
theorem nat_take {l : List Nat} {j : Nat} (h : j < l.length) : l.take (j + 1) = l.take j ++ [l.getD j 0] := by
  rw [List.take_succ_eq_append_getElem h, List.getD_eq_getElem?_getD, List.getElem?_eq_getElem h]; rfl
theorem gotL_next {n : Nat} {o : List ByteArray} {l : List Nat} {j : Nat} (h : j < l.length) : gotL n o (l.take (j + 1)) = gotL n o (l.take j) ++ [(((l.getD j 0 % n : Nat) : Int), st_ o (l.getD j 0 % n))] := by
  rw [nat_take h]; unfold gotL; rw [List.map_append]; rfl
theorem gotL_take (n : Nat) (o : List ByteArray) (l : List Nat) (j : Nat) : (gotL n o l).take j = gotL n o (l.take j) := by unfold gotL; rw [List.map_take]

/-- each is one of n texts, at its place. -/
def Orig (n : Nat) (o : List ByteArray) (a : List Shd) : Prop := ∀ p, p < a.length → ∃ i, i < n ∧ sh_ a p = (((i : Nat) : Int), st_ o i)
theorem Orig.nil (n : Nat) (o : List ByteArray) : Orig n o [] := fun _ h => absurd h (by simp)
theorem Orig.snoc {n : Nat} {o : List ByteArray} {a : List Shd} (h : Orig n o a) {i : Nat} (hi : i < n) : Orig n o (a ++ [(((i : Nat) : Int), st_ o i)]) := fun p hp => by
  rw [List.length_append, List.length_singleton] at hp
  rw [sh_snoc _ _ _ hp]
  split
  · exact h p ‹_›
  · exact ⟨i, hi, rfl⟩
theorem Orig.step {n : Nat} {o : List ByteArray} {a : List Shd} (h : Orig n o a) {i : Nat} (hi : i < n) : Orig n o (stepA a (((i : Nat) : Int), st_ o i)) := by
  unfold stepA
  split
  · exact h.snoc hi
  · exact h
theorem Orig.meets {n : Nat} {o : List ByteArray} {a : List Shd} (h : Orig n o a) (i : Nat) : Meets a (((i : Nat) : Int), st_ o i) := fun p hp e => by
  obtain ⟨j, _, hj⟩ := h p hp
  rw [hj] at e ⊢
  have : j = i := Int.ofNat.inj e
  rw [this]
theorem got_orig {n : Nat} {o : List ByteArray} (hn : 0 < n) (l : List Nat) {j : Nat} (hj : j ≤ l.length) : Orig n o (accL (gotL n o (l.take j))) := by
  induction j with
  | zero => exact Orig.nil _ _
  | succ j ih =>
    rw [gotL_next (by omega), accL_snoc]
    exact (ih (by omega)).step (Nat.mod_lt _ hn)
theorem got_ok {n s : Nat} {o : List ByteArray} (hn : 0 < n) (ho : ∀ i, i < n → (st_ o i).size = s) (h1 : 1 ≤ s) (h2 : s ≤ 1024) (l : List Nat) : uErr n (gotL n o l) = 0 := by
  refine firstE_zero fun j hj => ?_
  rw [gotL_len] at hj
  have h0 : (sh_ (gotL n o l) 0).2.size = s := by
    rw [gotL_at (by omega)]
    exact ho _ (Nat.mod_lt _ hn)
  unfold errU
  rw [h0, gotL_take, gotL_at hj]
  have hm := Nat.mod_lt (l.getD j 0) hn
  have hs := ho _ hm
  exact sErr_ok ⟨by show (0 : Int) ≤ _; omega, by show _ < (n : Int); omega⟩ ⟨by show 1 ≤ (st_ o _).size; omega, by show (st_ o _).size ≤ 1024; omega⟩ ⟨hs, (got_orig hn l (by omega)).meets _⟩

/-- what was mixed by a table is back by its inverse. -/
theorem back_data {k s : Nat} {q C D : List (List Nat)} (hC : Good k k C) (hD : Good k s D) (hi : InvIs C q 0) : mulL k k s q (mulL k k s C D) = D := by
  have h : Good k k q ∧ InvT k (tabT q) (tabT C) := by
    rcases hi with ⟨x1, x2, _⟩ | ⟨_, _, x3, _⟩ | ⟨_, _, _, x4, _⟩ | ⟨_, _, x3, x4, _⟩
    · exact absurd x2.symm x1
    · exact absurd x3 (by decide)
    · exact absurd x4 (by decide)
    · rw [hC.len] at x3 x4; exact ⟨x3, x4⟩
  obtain ⟨hq, hinv⟩ := h
  refine (mulL_good hq).ext hD ?_
  have e1 := tab_mulL hq (mulL_good (b := D) (m := s) hC)
  have e2 := EqT.mul (EqT.refl k k (tabT q)) (tab_mulL hC hD)
  have e3 := (mulT_assocE k k k s (tabT q) (tabT C) (tabT D)).symm
  have e4 := EqT.mul hinv.1 (EqT.refl k s (tabT D))
  exact e1.trans (e2.trans (e3.trans (e4.trans (id_mulTE k s (tabT D)))))

theorem enc_at {n k s : Nat} {D : List (List Nat)} {i : Nat} (hi : i < n) : st_ (txS (mulL n k s (rowsC k (upL n)) D)) i = tx (mixR k s (rowC k i) D) := by
  rw [mulL_mix, txS_mk, mkS_at _ _ _ hi, rowsC_at k (upL n) (by rw [upL_len]; exact hi), upL_at hi, Int.toNat_natCast]
theorem enc_size {n k s : Nat} {D : List (List Nat)} {i : Nat} (hi : i < n) : (st_ (txS (mulL n k s (rowsC k (upL n)) D)) i).size = s := by
  rw [enc_at hi, tx_size]; exact mixP_len _ _ _ _ _
/-- any k unlike ones of what was encoded tell the data. -/
theorem dec_back {k n s : Nat} {data : List ByteArray} {a : List Shd} {q : List (List Nat)} (hd : data.length = k) (hs : ∀ i, i < k → (st_ data i).size = s)
    (ho : Orig n (txS (mulL n k s (rowsC k (upL n)) (tabS data))) a) (hk : k ≤ a.length) (hi : InvIs (rowsC k (idxL (a.take k))) q 0) :
    txS (mulL k k s q (tabS (bodL (a.take k)))) = data := by
  have hlen := take_len hk
  have hD : Good k s (tabS data) := tabS_good hd hs
  have hC : Good k k (rowsC k (idxL (a.take k))) := by
    have h := rowsC_good k (idxL (a.take k))
    rw [idxL_len, hlen] at h
    exact h
  have e : tabS (bodL (a.take k)) = mulL k k s (rowsC k (idxL (a.take k))) (tabS data) := by
    rw [mulL_mix]
    refine eq_mkR (by rw [tabS_len, bodL_len, hlen]) fun j hj => ?_
    rw [tabS_at (by rw [bodL_len, hlen]; exact hj), bodL_at (by rw [hlen]; exact hj), rowsC_at k _ (by rw [idxL_len, hlen]; exact hj), idxL_at (by rw [hlen]; exact hj), sh_take hj]
    obtain ⟨i, hi', e'⟩ := ho j (by omega)
    rw [e', enc_at hi', Int.toNat_natCast]
    exact bts_tx (mixP_lt _ _ _ _ (rowC_lt k i))
  rw [e, back_data hC hD hi, txS_tabS]

/-- a place is marked when its index is among a's. -/
def Marks (a : List Shd) (b : Nat → Bool) : Prop := ∀ i, i < 256 → (b i = false ↔ Free a (i : Nat))
theorem Marks.start : Marks [] (fun _ => false) := fun _ _ => ⟨fun _ => Free.nil _, fun _ => rfl⟩
theorem Marks.mark {a : List Shd} {b : Nat → Bool} (h : Marks a b) {i : Nat} {s : ByteArray} : Marks (a ++ [(((i : Nat) : Int), s)]) (fun j => if j = i then true else b j) := fun j hj => by
  rw [Free.snoc]
  show (if j = i then true else b j) = false ↔ _
  by_cases e : j = i
  · subst e
    rw [if_pos rfl]
    exact ⟨fun q => Bool.noConfusion q, fun q => absurd rfl q.2⟩
  · rw [if_neg e]
    exact ⟨fun q => ⟨(h j hj).1 q, fun q' => e (Int.ofNat.inj q').symm⟩, fun q => (h j hj).2 q.1⟩
end Go.Proofs.Ytnabhaehfmbkpaa

/- Proved: the walk of the law that whatever unlike shards come of data are decoded as they were, for all texts, every byte and every row of bytes. Conditions: those that the theorems name. -/
namespace Go.Proofs.Ytnabhaehfmbkpaa
open Go.ChangeShapes Go.WideShapes Go.ChangeAt Go.RowKit

/-! ### 256 marks of the call's own -/
def markRow (b : Nat → Bool) : Array Value := Array.ofFn fun i : Fin 256 => Value.bool (b i.val)
theorem markRow_size (b : Nat → Bool) : (markRow b).size = 256 := by unfold markRow; exact Array.size_ofFn
theorem markRow_at (b : Nat → Bool) (i : Nat) (h : i < 256) : (markRow b)[i]? = some (Value.bool (b i)) := by
  unfold markRow
  rw [Array.getElem?_ofFn, dif_pos h]
theorem markRow_set (b : Nat → Bool) (i : Nat) : (markRow b).setIfInBounds i (.bool true) = markRow (fun j => if j = i then true else b j) := by
  apply Array.ext
  · rw [Array.size_setIfInBounds, markRow_size, markRow_size]
  · intro j h1 h2
    have hj : j < 256 := by rw [markRow_size] at h2; exact h2
    have hj' : j < (markRow b).size := by rw [markRow_size]; exact hj
    have e1 := markRow_at b j hj
    have e2 := markRow_at (fun j => if j = i then true else b j) j hj
    rw [Array.getElem?_eq_getElem hj'] at e1
    rw [Array.getElem?_eq_getElem h2] at e2
    have e1 := Option.some.inj e1
    have e2 := Option.some.inj e2
    rw [Array.getElem_setIfInBounds hj', e2, e1]
    by_cases e : i = j
    · rw [if_pos e, if_pos e.symm]
    · rw [if_neg e, if_neg (fun h => e h.symm)]
theorem zeroMarks (w : World) : (zeroValue 36).run Try.prog w = .ok (.agg (markRow fun _ => false)) w := by kernel_rfl
/-- Block g is 256 marks of the call's own. -/
def OwnB (w : World) (g : Nat) (b : Nat → Bool) : Prop := w.heap[g]? = some (.cells (markRow b) 36 (0, 0))
theorem OwnB.block_lt {w : World} {g : Nat} {b : Nat → Bool} (h : OwnB w g b) : g < w.heap.size := (Array.getElem?_eq_some_iff.1 h).1
theorem OwnB.cell {w : World} {g : Nat} {b : Nat → Bool} (h : OwnB w g b) {i : Nat} (hi : i < 256) : w.cell? ⟨g, i, none⟩ = some (.bool (b i)) := by
  rw [cell_of_row w g i _ _ (0, 0) h]; exact markRow_at b i hi
theorem OwnB.frozen {w : World} {g : Nat} {b : Nat → Bool} (h : OwnB w g b) (i : Nat) : w.frozen? ⟨g, i, none⟩ = false := by
  unfold OwnB at h
  simp [World.frozen?, h]
theorem OwnB.below {w w' : World} {g : Nat} {b : Nat → Bool} (h : OwnB w g b) (hb : Below w.heap.size w w') : OwnB w' g b := (hb.block g h.block_lt).trans h
theorem OwnB.grown {w w' : World} {g : Nat} {b : Nat → Bool} (h : OwnB w g b) {row : Option Nat} (hg : w.grownBy w' row) (hr : row ≠ some g) : OwnB w' g b := (hg.block g h.block_lt (fun e => hr e.symm)).trans h
theorem OwnB.mark {w : World} {g : Nat} {b : Nat → Bool} (h : OwnB w g b) (i : Nat) : OwnB (w.setCell ⟨g, i, none⟩ (.bool true)) g (fun j => if j = i then true else b j) := by
  unfold OwnB at h ⊢
  rw [← markRow_set]
  simp [World.setCell, Array.getElem?_modify, h]

set_option maxRecDepth 100000 in
set_option maxHeartbeats 1600000 in
theorem sfew_any (A : Option Addr) (m c : Nat) (l : List ByteArray) (w : World) (hl : Ss w A m l) :
    Calls Try.prog 10 #[.slice A m c] w (AtMost w m) := by
  have HL := Lib.hid hl
  clear hl
  by_cases h : (m : Int) > 40
  · go_enter Try.func10, Try.ntmps10
    go_wp2_with fail
    go_ret
    exact ⟨false, rfl, fun e => Bool.noConfusion e, rfl⟩
  · go_enter Try.func10, Try.ntmps10
    go_wp2_with fail
    go_loop [3] (fun v => ∃ q : Nat, q ≤ m ∧ v = .int .i64 q) (fun v => m - (intOf v).toNat)
    case atStart => exact ⟨0, by omega, rfl⟩
    case round =>
      obtain ⟨q, hq, rfl⟩ := hrel
      by_cases hlt : q < m
      · obtain ⟨ad, rfl, _, hc⟩ := HL.out.at_ hlt
        have hlt' : (q : Int) < (m : Int) := by omega
        have hq0 : (0 : Int) ≤ (q : Int) := Int.natCast_nonneg _
        generalize st_ l q = s at *
        have key : (¬ (s.size : Int) > 40 ∧ ¬ (s.size : Int) > 1100) ∨ ((s.size : Int) > 40 ∧ (s.size : Int) ≤ 1024) ∨ ((s.size : Int) > 40 ∧ ¬ (s.size : Int) ≤ 1024 ∧ ¬ (s.size : Int) > 1100) ∨ ((s.size : Int) > 40 ∧ ¬ (s.size : Int) ≤ 1024 ∧ (s.size : Int) > 1100) := by omega
        rcases key with ⟨k1, k2⟩ | ⟨k1, k2⟩ | ⟨k1, k2, k3⟩ | ⟨k1, k2, k3⟩
        · go_wp2_with fail
          go_round
          case rel => exact ⟨q + 1, by omega, by go_num⟩
          case measure => simp [intOf]; omega
        · go_wp2_with fail
          go_ret
          exact ⟨false, rfl, fun e => Bool.noConfusion e, rfl⟩
        · go_wp2_with fail
          go_round
          case rel => exact ⟨q + 1, by omega, by go_num⟩
          case measure => simp [intOf]; omega
        · go_wp2_with fail
          go_ret
          exact ⟨false, rfl, fun e => Bool.noConfusion e, rfl⟩
      · obtain rfl : q = m := by omega
        go_wp2_with fail
        go_ret
        exact ⟨true, rfl, fun _ => by omega, rfl⟩

set_option maxRecDepth 100000 in
set_option maxHeartbeats 1600000 in
theorem back_many (A R : Option Addr) (k c more r d : Nat) (w : World) (h : k > 12 ∨ r > 60) (hm : more ≤ 255) :
    Calls Try.prog 4 #[.slice A k c, .int .u8 (more : Nat), .slice R r d] w fun e w' => e = .returned (.bool true) ∧ Below w.heap.size w w' := by
  have key : (k : Int) > 12 ∨ ¬ (k : Int) > 12 ∧ (r : Int) > 60 := by omega
  clear h
  have wm : wrap64 (more : Int) = more := IntWalk.wrap64_in _ (by omega)
  rcases key with h1 | ⟨h1, h2⟩
  · by_cases hx : (255 : Int) < wrap64 ((k : Int) + (more : Int))
    all_goals
      go_enter Try.func4, Try.ntmps4
      go_wp2_with fail
      refine (rawake_any _).mono ?_; rintro e w2 ⟨rfl, g2⟩
      have G2 := Lib.hid g2; clear g2
      go_wp2_with fail
      go_ret
      exact ⟨rfl, G2.out⟩
  by_cases hx : (255 : Int) < (k : Int) + (more : Int)
  all_goals
    go_enter Try.func4, Try.ntmps4
    go_wp2_with fail
    refine (rawake_any _).mono ?_; rintro e w2 ⟨rfl, g2⟩
    have G2 := Lib.hid g2; clear g2
    go_wp2_with fail
    go_ret
    exact ⟨rfl, G2.out⟩

set_option maxRecDepth 100000 in
set_option maxHeartbeats 6400000 in
theorem back_main (A R : Option Addr) (k c more r d : Nat) (data : List ByteArray) (l : List Nat) (w : World) (hl : Ss w A k data) (hr : Bs w R r l) (hk : k ≤ 12) (hr60 : r ≤ 60) (hm : more ≤ 255) :
    Calls Try.prog 4 #[.slice A k c, .int .u8 (more : Nat), .slice R r d] w fun e w' => e = .returned (.bool true) ∧ Below w.heap.size w w' := by
  have HL := Lib.hid hl
  have HR := Lib.hid hr
  have HF := Lib.hid (sfew_any A k c data w hl)
  clear hl hr
  have wm : wrap64 (more : Int) = more := IntWalk.wrap64_in _ (by omega)
  have h1 : ¬ (k : Int) > 12 := by omega
  have h2 : ¬ (r : Int) > 60 := by omega
  obtain ⟨N, hN, hNd⟩ : ∃ N : Nat, N ≤ 255 ∧ N = min (k + more) 255 := ⟨_, Nat.min_le_right _ _, rfl⟩
  go_enter Try.func4, Try.ntmps4
  go_upto_region 2 with fail
  go_cut [8] (fun v wx => v = .int .i64 (N : Nat) ∧ w = wx)
  case first =>
    by_cases hx : (255 : Int) < (k : Int) + (more : Int)
    · obtain rfl : N = 255 := by omega
      clear hNd
      go_wp2_with fail
      go_meet
      exact ⟨rfl, rfl⟩
    · have e : (k : Int) + (more : Int) = ((N : Nat) : Int) := by omega
      have E := Lib.hid e
      clear e hNd
      go_wp2_with fail
      go_meet
      exact ⟨val_int E.out, rfl⟩
  case rest =>
    obtain ⟨rfl, rfl⟩ := hcut
    have hNk : N = min (k + more) 255 := hNd
    have hkN : k ≤ N := by omega
    clear hNd hNk
    go_wp2_with fail
    refine HF.out.mono ?_; rintro e w1 ⟨b, rfl, _, rfl⟩
    cases b
    · go_wp2_with fail
      refine (rawake_any _).mono ?_; rintro e w2 ⟨rfl, g2⟩
      have G2 := Lib.hid g2; clear g2
      go_wp2_with fail
      go_ret
      exact ⟨rfl, G2.out⟩
    · have HE := Lib.hid (encode_any A k c data N w HL.out)
      by_cases he : eErr data N = 0
      · have he' := he
        have hda : dErr data = 0 := by
          unfold eErr at he'
          split at he'
          · assumption
          · rename_i q; exact absurd he' q
        obtain ⟨hd1, hd2, hd3⟩ := dErr_zero hda
        rw [HL.out.len] at hd1 hd3
        have eo : eOut data N = txS (mulL N k (st_ data 0).size (rowsC k (upL N)) (tabS data)) := by unfold eOut; rw [if_pos he, HL.out.len, Int.toNat_natCast]
        rw [he, eo] at HE
        unfold Fits at hd2
        have HD1 := Lib.hid hd1
        have HD3 := Lib.hid hd3
        clear he he' hda eo hd1 hd3
        generalize (st_ data 0).size = s at *
        generalize hO : txS (mulL N k s (rowsC k (upL N)) (tabS data)) = O at *
        have HO := Lib.hid hO
        clear hO
        go_wp2_with fail
        refine HE.out.mono ?_; rintro e w2 ⟨A2, n2, c2, rfl, hs2, g2⟩
        obtain rfl : N = n2 := by rw [← hs2.len, ← HO.out, txS_len, mulL_mix, mkR_len]
        have HS2 := Lib.hid hs2; have G2 := Lib.hid g2; have HR2 := Lib.hid (HR.out.below g2); have HL2 := Lib.hid (HL.out.below g2)
        clear hs2 g2
        have HZ := Lib.hid (heap_alloc_new w2 (.cells (markRow fun _ => false) 36))
        have HB0 : Hid (OwnB (w2.alloc (.cells (markRow fun _ => false) 36)) w2.heap.size (fun _ => false)) := Lib.hid HZ.out
        have HW0 := Lib.hid ((Below.refl w2.heap.size w2).alloc (Nat.le_refl _) (.cells (markRow fun _ => false) 36))
        have HS0 : Hid (w2.heap.size + 1 ≤ (w2.alloc (.cells (markRow fun _ => false) 36)).heap.size) := Lib.hid (by simp)
        have hzm := zeroMarks
        go_wp2_with fail
        clear hzm HZ
        generalize hgg : w2.heap.size = g at *
        have HGG := Lib.hid hgg
        clear hgg
        generalize w2.alloc (.cells (markRow fun _ => false) 36) = w20 at *
        obtain ⟨i0, hi0, hz0, hz1, hz2⟩ := info_parts Try.infoShard
        go_loopw [11, 12, 14] (fun v sn i wr => ∃ j : Nat, j ≤ r ∧ i = .int .i64 j ∧ sn = .int .i64 ((accL (gotL N O (l.take j))).length : Nat) ∧ (accL (gotL N O (l.take j))).length ≤ j ∧ ∃ b, Marks (accL (gotL N O (l.take j))) b ∧ OwnB wr g b ∧ wr.ownsRow (g + 1) 38 2 v j (hcells (gotL N O (l.take j))) ∧ Below g w2 wr ∧ g + 1 ≤ wr.heap.size) (fun _ _ i _ => r - (intOf i).toNat)
        case atStart => exact ⟨0, by omega, rfl, rfl, Nat.le_refl _, _, Marks.start, HB0.out, World.ownsRow_nil _ _ _ _, HW0.out, HS0.out⟩
        case round =>
          obtain ⟨j, hj, rfl, rfl, hle, b, hmk, hob, hown, hbel, hgs⟩ := hrel
          have HM := Lib.hid hmk
          have HB := Lib.hid hob
          have HO' := Lib.hid hown
          have HW := Lib.hid hbel
          clear hmk hob hown hbel HB0 HW0 HS0
          by_cases hlt : j < r
          · have hbw : Below w2.heap.size w2 wr := HGG.out ▸ HW.out
            obtain ⟨rd, rfl, hrd, hrc⟩ := (HR2.out.below hbw).at_ hlt
            have hx := HR2.out.lt j
            have hjl : j < l.length := by rw [HR2.out.len]; exact hlt
            have HG1 := Lib.hid (gotL_next (n := N) (o := O) hjl)
            have hlt' : (j : Int) < (r : Int) := by omega
            have hj0 : (0 : Int) ≤ (j : Int) := Int.natCast_nonneg _
            have hN0 : ¬ (N : Int) = 0 := by have := HD1.out; omega
            generalize l.getD j 0 = x at *
            have wx : wrap64 (x : Int) = x := IntWalk.wrap64_in _ (by omega)
            have hrm : (x : Int).tmod (N : Int) = ((x % N : Nat) : Int) := by
              rw [Int.tmod_eq_emod_of_nonneg (Int.natCast_nonneg _)]; rfl
            have hy : x % N < N := Nat.mod_lt _ (by have := HD1.out; omega)
            generalize x % N = y at *
            obtain ⟨ad2, rfl, had2, hac⟩ := (HS2.out.below hbw).at_ hy
            have hy' : (y : Int) < (N : Int) := by omega
            have hy0 : (0 : Int) ≤ (y : Int) := Int.natCast_nonneg _
            have hy256 : y < 256 := by omega
            have hyi : (y : Int) < 256 := by omega
            have HA1 : Hid (accL (gotL N O (l.take (j + 1))) = stepA (accL (gotL N O (l.take j))) (((y : Nat) : Int), st_ O y)) := Lib.hid (by rw [HG1.out, accL_snoc])
            have HH1 : Hid (hcells (gotL N O (l.take j)) ++ [.int .i64 (y : Nat), .string (st_ O y)] = hcells (gotL N O (l.take (j + 1)))) := Lib.hid (by rw [HG1.out]; exact hcells_snoc _ _ _)
            have HF1 := Lib.hid (HM.out y hy256)
            have HMM := Lib.hid (HM.out.mark (i := y) (s := st_ O y))
            generalize hacc : accL (gotL N O (l.take j)) = a at *
            generalize hcells (gotL N O (l.take j)) = CS at *
            generalize st_ O y = t at *
            clear hacc hbw
            have hmax : j + 1 ≤ maxLen := by unfold maxLen; omega
            have hov : Hid (∀ k, u11.ownBlock = some k → g + 1 ≤ k) := Lib.hid fun k e => (HO'.out.lt k e).1
            have halen : (0 : Int) ≤ (a.length : Int) := Int.natCast_nonneg _
            have NUM := Lib.hid (show (j ≤ r ∧ a.length ≤ j ∧ g + 1 ≤ wr.heap.size ∧ j < r ∧ y < N ∧ y < 256 ∧ j + 1 ≤ maxLen ∧ r ≤ 60) from ⟨hj, hle, hgs, hlt, hy, hy256, hmax, hr60⟩)
            have hal9 : a.length ≤ 9223372036854775806 := by omega
            clear hj hle hgs hN hkN hk hr60 hlt hx hjl hy hy256 hmax had2 hrd h1 hd2 hm wm
            by_cases hb : b y = false
            · have hfree := HF1.out.1 hb
              have HA2 : Hid (accL (gotL N O (l.take (j + 1))) = a ++ [(((y : Nat) : Int), t)]) := Lib.hid (by rw [HA1.out]; exact stepA_free hfree)
              have HHB := Lib.hid hb
              clear hfree hb
              go_wp2_with (at_builtin; refine wpList_append_lies _ rfl _ _ _ rfl (g + 1) 38 i0 _ 2 24 Try.underlying22 hi0 hz0 hz1 hz2 rfl (by decide) u11 j CS rfl (HO'.out.alloc _) ⟨wr.heap.size, 0, none⟩ 1 1 [.int .i64 (y : Nat), .string t] rfl rfl (World.news_of_block (cs := #[.int .i64 (y : Nat), .string t]) (t := 38) (fr := (0, 0)) (heap_alloc_new wr _)) (by simp [Value.oneCell']) (by decide) NUM.out.2.2.2.2.2.2.1 (by have := NUM.out; omega) (by have := NUM.out; simp; omega) (wr.heap.size + 1) (by simp) ?_; intro gg cap w4 hown1 hgrow hat hlt1; have HB4 := Lib.hid ((HB.out.below ((Below.refl _ _).alloc (Nat.le_refl _) _)).grown hgrow (fun e => by have := hov.out g e; omega)); have hcb := HB4.out.cell NUM.out.2.2.2.2.2.1; rw [HHB.out] at hcb; have hfz := HB4.out.frozen y; have hgl4 := HB4.out.block_lt; have HW4 := Lib.hid ((HW.out.alloc (by have := NUM.out; omega) _).grown hgrow (by have := NUM.out; simp; omega) (fun k e => by have := hov.out k e; omega)); have HZ4 : Hid (g + 1 ≤ w4.heap.size) := Lib.hid (by omega); have HO4 := Lib.hid (hown1); clear hown1 hgrow hat)
              go_roundw
              case rel =>
                refine ⟨j + 1, by have := NUM.out; omega, by go_num, by rw [HA2.out, List.length_append, List.length_singleton]; go_num, by rw [HA2.out, List.length_append, List.length_singleton]; have := NUM.out; omega, _, by rw [HA2.out]; exact HMM.out, HB4.out.mark y, ?_, HW4.out.setCell (p := ⟨g, y, none⟩) (Nat.le_refl _) _, by simpa using HZ4.out⟩
                rw [← HH1.out]
                exact own_far HO4.out (p := ⟨g, y, none⟩) (fun e => by have := (HO4.out.lt _ e).1; simp at this; omega) _
              case measure => have := NUM.out; simp [intOf]; omega
            · have hb : b y = true := by cases h : b y; exact absurd h hb; rfl
              have HA2 : Hid (accL (gotL N O (l.take (j + 1))) = a) := Lib.hid (by rw [HA1.out]; exact stepA_there fun h => by rw [HF1.out.2 h] at hb; exact Bool.noConfusion hb)
              have HHB := Lib.hid hb
              clear hb
              go_wp2_with (at_builtin; refine wpList_append_lies _ rfl _ _ _ rfl (g + 1) 38 i0 _ 2 24 Try.underlying22 hi0 hz0 hz1 hz2 rfl (by decide) u11 j CS rfl (HO'.out.alloc _) ⟨wr.heap.size, 0, none⟩ 1 1 [.int .i64 (y : Nat), .string t] rfl rfl (World.news_of_block (cs := #[.int .i64 (y : Nat), .string t]) (t := 38) (fr := (0, 0)) (heap_alloc_new wr _)) (by simp [Value.oneCell']) (by decide) NUM.out.2.2.2.2.2.2.1 (by have := NUM.out; omega) (by have := NUM.out; simp; omega) (wr.heap.size + 1) (by simp) ?_; intro gg cap w4 hown1 hgrow hat hlt1; have HB4 := Lib.hid ((HB.out.below ((Below.refl _ _).alloc (Nat.le_refl _) _)).grown hgrow (fun e => by have := hov.out g e; omega)); have hcb := HB4.out.cell NUM.out.2.2.2.2.2.1; rw [HHB.out] at hcb; have hfz := HB4.out.frozen y; have hgl4 := HB4.out.block_lt; have HW4 := Lib.hid ((HW.out.alloc (by have := NUM.out; omega) _).grown hgrow (by have := NUM.out; simp; omega) (fun k e => by have := hov.out k e; omega)); have HZ4 : Hid (g + 1 ≤ w4.heap.size) := Lib.hid (by omega); have HO4 := Lib.hid (hown1); clear hown1 hgrow hat)
              go_roundw
              case rel => exact ⟨j + 1, by have := NUM.out; omega, by go_num, by rw [HA2.out], by rw [HA2.out]; have := NUM.out; omega, b, by rw [HA2.out]; exact HM.out, HB4.out, by rw [← HH1.out]; exact HO4.out, HW4.out, HZ4.out⟩
              case measure => have := NUM.out; simp [intOf]; omega
          · obtain rfl : j = r := by omega
            have hjl : l.take j = l := List.take_of_length_le (by rw [HR2.out.len]; exact Nat.le_refl _)
            rw [hjl] at HO' hle ⊢
            clear hjl
            have hbw : Below w2.heap.size w2 wr := HGG.out ▸ HW.out
            have hN1 : 0 < N := by have := HD1.out; omega
            have hOs : ∀ i, i < N → (st_ O i).size = s := fun i hi => by rw [← HO.out]; exact enc_size hi
            have HU := Lib.hid (got_ok hN1 hOs hd2.1 hd2.2 l)
            have horig : Orig N O (accL (gotL N O l)) := by
              have h := got_orig (o := O) hN1 l (Nat.le_refl _)
              rwa [List.take_of_length_le (Nat.le_refl _)] at h
            have HOr := Lib.hid horig
            have hDA : DArg k N := by have := HD1.out; unfold DArg; omega
            have HDA := Lib.hid hDA
            obtain ⟨A3, c3, rfl, _, hs3⟩ := sh_of HO'.out
            have HDc := Lib.hid (decode_any A3 j c3 k N (gotL N O l) wr hs3 (by omega))
            have HL3 := Lib.hid (HL2.out.below hbw)
            have GW : Hid (Below w.heap.size w wr) := Lib.hid (G2.out.trans ((HGG.out ▸ HW.out : Below w2.heap.size w2 wr).mono G2.out.size))
            have HLk := Lib.hid HL.out.len
            have hS0 : k ≤ (accL (gotL N O l)).length → 1 ≤ k → (sh_ (gotL N O l) 0).2.size = s := fun h1 h2 => by
              rcases Nat.eq_zero_or_pos l.length with h0 | h0
              · have : l = [] := List.eq_nil_of_length_eq_zero h0
                rw [this] at h1
                have h1' : k ≤ 0 := h1
                omega
              · rw [gotL_at h0]; exact hOs _ (Nat.mod_lt _ hN1)
            have HS0' := Lib.hid hS0
            clear horig hDA hs3 hbw hOs hS0
            by_cases hlk : k ≤ (accL (gotL N O l)).length
            · have HE0 := Lib.hid (dcE_ok (k := (k : Int)) HDA.out HU.out (by omega))
              have HBk : Hid (∀ out, DcIs k N (gotL N O l) out → out = data) := Lib.hid fun out hd => by
                unfold DcIs at hd
                rw [if_pos HE0.out, Int.toNat_natCast] at hd
                obtain ⟨q, hq1, hq2⟩ := hd
                rw [hq2, HS0'.out hlk (HD1.out).1]
                exact dec_back (n := N) HLk.out HD3.out (by rw [HO.out]; exact HOr.out) hlk hq1
              have hlk2 : ¬ ((accL (gotL N O l)).length : Int) < (k : Int) := by omega
              have NK : Hid (k ≤ 140737488355328) := Lib.hid (by omega)
              clear hlk
              generalize (accL (gotL N O l)).length = Q at *
              go_wp2_with fail
              refine HDc.out.mono ?_; rintro e w5 ⟨A5, n5, c5, out, rfl, hd5, hs5, g5⟩
              obtain rfl := HBk.out out hd5
              obtain rfl : n5 = k := hs5.len.symm.trans HLk.out
              rw [HE0.out]
              have HS5 := Lib.hid hs5; have HL5 := Lib.hid (HL3.out.below g5); have G5 := Lib.hid (GW.out.trans (g5.mono GW.out.size))
              clear hd5 hs5 g5
              go_wp2_with fail
              refine (texts_yes A5 A n5 c5 c out _ HS5.out HL5.out NK.out).mono ?_; rintro e w6 ⟨rfl, q6⟩
              have G6 := Lib.hid (G5.out.trans ((two_drawn (B := w5.heap.size) q6).mono G5.out.size)); clear q6
              go_wp2_with fail
              refine (rawake_any _).mono ?_; rintro e w7 ⟨rfl, g7⟩
              have G7 := Lib.hid (G6.out.trans (g7.mono G6.out.size)); clear g7
              go_wp2_with fail
              go_ret
              exact ⟨rfl, G7.out⟩
            · have HE0 := Lib.hid (dcE_less (k := (k : Int)) HDA.out HU.out (by omega))
              have HBk : Hid (∀ out, DcIs k N (gotL N O l) out → out = []) := Lib.hid fun out hd => by
                unfold DcIs at hd
                rw [if_neg (by rw [HE0.out]; decide)] at hd
                exact hd
              have hlk2 : ((accL (gotL N O l)).length : Int) < (k : Int) := by omega
              clear hlk
              generalize (accL (gotL N O l)).length = Q at *
              go_wp2_with fail
              refine HDc.out.mono ?_; rintro e w5 ⟨A5, n5, c5, out, rfl, hd5, hs5, g5⟩
              obtain rfl := HBk.out out hd5
              obtain rfl : n5 = 0 := hs5.len.symm
              rw [HE0.out]
              have G5 := Lib.hid (GW.out.trans (g5.mono GW.out.size))
              clear hd5 hs5 g5
              go_wp2_with fail
              refine (rawake_any _).mono ?_; rintro e w7 ⟨rfl, g7⟩
              have G7 := Lib.hid (G5.out.trans (g7.mono G5.out.size)); clear g7
              go_wp2_with fail
              go_ret
              exact ⟨rfl, G7.out⟩
      · have eo : eOut data N = [] := if_neg he
        rw [eo] at HE
        generalize eErr data N = z at *
        have hz : ((z : Int) != 0) = true := by simp; omega
        have hz2 : ¬ (z : Int) = 0 := by omega
        clear he eo
        go_wp2_with fail
        refine HE.out.mono ?_; rintro e w2 ⟨A2, n2, c2, rfl, hs2, g2⟩
        obtain rfl : 0 = n2 := hs2.len
        have G2 := Lib.hid g2
        clear hs2 g2
        go_wp2_with fail
        refine (rawake_any _).mono ?_; rintro e w3 ⟨rfl, g3⟩
        have G3 := Lib.hid (G2.out.trans (g3.mono G2.out.size)); clear g3
        go_wp2_with fail
        go_ret
        exact ⟨rfl, G3.out⟩
end Go.Proofs.Ytnabhaehfmbkpaa

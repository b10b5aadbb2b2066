/- Proved: lemmas of one statement's proof, merged by program: what each part proves stands ahead of it. Conditions: those that the lemmas name. -/
import Derived.Test.YtooegclblgeicaaGreatDoorM30
import Derived.Test.YtooegclblgeicaaGreatDoorM26
import Derived.Test.YtooegclblgeicaaGreatDoorM24

/- Proved: the walk of the law that Decode of package rs answers as the document's, for every two ints and all shards. Conditions: those that the theorems name. -/
namespace Go.Proofs.YtooegclblgeicaaGreatDoor
open Go.ChangeShapes Go.WideShapes Go.ChangeAt Go.RowKit

/-- A bool comes back; if it is true, there are at most 40. -/
def AtMost (W : World) (m : Nat) (e : Ending) (w' : World) : Prop := ∃ b : Bool, e = .returned (.bool b) ∧ (b = true → m ≤ 40) ∧ W = w'

theorem dc_len {k n : Int} {l : List Shd} {out : List ByteArray} (h : DcIs k n l out) : out.length ≤ 140737488355328 := by
  unfold DcIs at h
  split at h
  · rename_i e
    obtain ⟨q, _, rfl⟩ := h
    have hk : DArg k n := by
      by_cases g : DArg k n
      · exact g
      · rw [dcE_arg g] at e; exact absurd e (by decide)
    unfold DArg at hk
    rw [txS_len, mulL_mix, mkR_len]
    omega
  · rw [h]; exact Nat.zero_le _

end Go.Proofs.YtooegclblgeicaaGreatDoor

/- Plain lemmas: shards that come of data, in whatever order, some of them twice: which are kept, that none is refused, and that they are decoded as the data were. No condition beyond those that each lemma names. -/
namespace Go.Proofs.YtooegclblgeicaaGreatDoor

/-- the shards at the places that bytes tell, of texts that are n. -/
def gotL (n : Nat) (o : List ByteArray) (xs : List Nat) : List Shd := xs.map fun x => (((x % n : Nat) : Int), st_ o (x % n))
theorem gotL_len (n : Nat) (o : List ByteArray) (xs : List Nat) : (gotL n o xs).length = xs.length := by unfold gotL; rw [List.length_map]
theorem gotL_at {n : Nat} {o : List ByteArray} {xs : List Nat} {j : Nat} (h : j < xs.length) : sh_ (gotL n o xs) j = (((xs.getD j 0 % n : Nat) : Int), st_ o (xs.getD j 0 % n)) := by
  unfold gotL sh_
  rw [List.getD_eq_getElem?_getD, List.getElem?_map, List.getElem?_eq_getElem h, List.getD_eq_getElem?_getD, List.getElem?_eq_getElem h]; rfl
theorem nat_take {l : List Nat} {j : Nat} (h : j < l.length) : l.take (j + 1) = l.take j ++ [l.getD j 0] := by
  rw [List.take_succ_eq_append_getElem h, List.getD_eq_getElem?_getD, List.getElem?_eq_getElem h]; rfl
theorem gotL_next {n : Nat} {o : List ByteArray} {l : List Nat} {j : Nat} (h : j < l.length) : gotL n o (l.take (j + 1)) = gotL n o (l.take j) ++ [(((l.getD j 0 % n : Nat) : Int), st_ o (l.getD j 0 % n))] := by
  rw [nat_take h]; unfold gotL; rw [List.map_append]; rfl
theorem gotL_take (n : Nat) (o : List ByteArray) (l : List Nat) (j : Nat) : (gotL n o l).take j = gotL n o (l.take j) := by unfold gotL; rw [List.map_take]

/-- each is one of n texts, at its place. -/
def Orig (n : Nat) (o : List ByteArray) (a : List Shd) : Prop := ∀ p, p < a.length → ∃ i, i < n ∧ sh_ a p = (((i : Nat) : Int), st_ o i)
theorem Orig.nil (n : Nat) (o : List ByteArray) : Orig n o [] := fun _ h => absurd h (by simp)
theorem Orig.snoc {n : Nat} {o : List ByteArray} {a : List Shd} (h : Orig n o a) {i : Nat} (hi : i < n) : Orig n o (a ++ [(((i : Nat) : Int), st_ o i)]) := fun p hp => by
  rw [List.length_append, List.length_singleton] at hp
  rw [sh_snoc _ _ _ hp]
  split
  · exact h p ‹_›
  · exact ⟨i, hi, rfl⟩
theorem Orig.step {n : Nat} {o : List ByteArray} {a : List Shd} (h : Orig n o a) {i : Nat} (hi : i < n) : Orig n o (stepA a (((i : Nat) : Int), st_ o i)) := by
  unfold stepA
  split
  · exact h.snoc hi
  · exact h
theorem Orig.meets {n : Nat} {o : List ByteArray} {a : List Shd} (h : Orig n o a) (i : Nat) : Meets a (((i : Nat) : Int), st_ o i) := fun p hp e => by
  obtain ⟨j, _, hj⟩ := h p hp
  rw [hj] at e ⊢
  have : j = i := Int.ofNat.inj e
  rw [this]
theorem got_orig {n : Nat} {o : List ByteArray} (hn : 0 < n) (l : List Nat) {j : Nat} (hj : j ≤ l.length) : Orig n o (accL (gotL n o (l.take j))) := by
  induction j with
  | zero => exact Orig.nil _ _
  | succ j ih =>
    rw [gotL_next (by omega), accL_snoc]
    exact (ih (by omega)).step (Nat.mod_lt _ hn)
theorem got_ok {n s : Nat} {o : List ByteArray} (hn : 0 < n) (ho : ∀ i, i < n → (st_ o i).size = s) (h1 : 1 ≤ s) (h2 : s ≤ 1024) (l : List Nat) : uErr n (gotL n o l) = 0 := by
  refine firstE_zero fun j hj => ?_
  rw [gotL_len] at hj
  have h0 : (sh_ (gotL n o l) 0).2.size = s := by
    rw [gotL_at (by omega)]
    exact ho _ (Nat.mod_lt _ hn)
  unfold errU
  rw [h0, gotL_take, gotL_at hj]
  have hm := Nat.mod_lt (l.getD j 0) hn
  have hs := ho _ hm
  exact sErr_ok ⟨by show (0 : Int) ≤ _; omega, by show _ < (n : Int); omega⟩ ⟨by show 1 ≤ (st_ o _).size; omega, by show (st_ o _).size ≤ 1024; omega⟩ ⟨hs, (got_orig hn l (by omega)).meets _⟩

/-- what was mixed by a table is back by its inverse. -/
theorem back_data {k s : Nat} {q C D : List (List Nat)} (hC : Good k k C) (hD : Good k s D) (hi : InvIs C q 0) : mulL k k s q (mulL k k s C D) = D := by
  have h : Good k k q ∧ InvT k (tabT q) (tabT C) := by
    rcases hi with ⟨x1, x2, _⟩ | ⟨_, _, x3, _⟩ | ⟨_, _, _, x4, _⟩ | ⟨_, _, x3, x4, _⟩
    · exact absurd x2.symm x1
    · exact absurd x3 (by decide)
    · exact absurd x4 (by decide)
    · rw [hC.len] at x3 x4; exact ⟨x3, x4⟩
  obtain ⟨hq, hinv⟩ := h
  refine (mulL_good hq).ext hD ?_
  have e1 := tab_mulL hq (mulL_good (b := D) (m := s) hC)
  have e2 := EqT.mul (EqT.refl k k (tabT q)) (tab_mulL hC hD)
  have e3 := (mulT_assocE k k k s (tabT q) (tabT C) (tabT D)).symm
  have e4 := EqT.mul hinv.1 (EqT.refl k s (tabT D))
  exact e1.trans (e2.trans (e3.trans (e4.trans (id_mulTE k s (tabT D)))))

theorem enc_at {n k s : Nat} {D : List (List Nat)} {i : Nat} (hi : i < n) : st_ (txS (mulL n k s (rowsC k (upL n)) D)) i = tx (mixR k s (rowC k i) D) := by
  rw [mulL_mix, txS_mk, mkS_at _ _ _ hi, rowsC_at k (upL n) (by rw [upL_len]; exact hi), upL_at hi, Int.toNat_natCast]
theorem enc_size {n k s : Nat} {D : List (List Nat)} {i : Nat} (hi : i < n) : (st_ (txS (mulL n k s (rowsC k (upL n)) D)) i).size = s := by
  rw [enc_at hi, tx_size]; exact mixP_len _ _ _ _ _
/-- any k unlike ones of what was encoded tell the data. -/
theorem dec_back {k n s : Nat} {data : List ByteArray} {a : List Shd} {q : List (List Nat)} (hd : data.length = k) (hs : ∀ i, i < k → (st_ data i).size = s)
    (ho : Orig n (txS (mulL n k s (rowsC k (upL n)) (tabS data))) a) (hk : k ≤ a.length) (hi : InvIs (rowsC k (idxL (a.take k))) q 0) :
    txS (mulL k k s q (tabS (bodL (a.take k)))) = data := by
  have hlen := take_len hk
  have hD : Good k s (tabS data) := tabS_good hd hs
  have hC : Good k k (rowsC k (idxL (a.take k))) := by
    have h := rowsC_good k (idxL (a.take k))
    rw [idxL_len, hlen] at h
    exact h
  have e : tabS (bodL (a.take k)) = mulL k k s (rowsC k (idxL (a.take k))) (tabS data) := by
    rw [mulL_mix]
    refine eq_mkR (by rw [tabS_len, bodL_len, hlen]) fun j hj => ?_
    rw [tabS_at (by rw [bodL_len, hlen]; exact hj), bodL_at (by rw [hlen]; exact hj), rowsC_at k _ (by rw [idxL_len, hlen]; exact hj), idxL_at (by rw [hlen]; exact hj), sh_take hj]
    obtain ⟨i, hi', e'⟩ := ho j (by omega)
    rw [e', enc_at hi', Int.toNat_natCast]
    exact bts_tx (mixP_lt _ _ _ _ (rowC_lt k i))
  rw [e, back_data hC hD hi, txS_tabS]

/-- a place is marked when its index is among a's. -/
def Marks (a : List Shd) (b : Nat → Bool) : Prop := ∀ i, i < 256 → (b i = false ↔ Free a (i : Nat))
theorem Marks.start : Marks [] (fun _ => false) := fun _ _ => ⟨fun _ => Free.nil _, fun _ => rfl⟩
theorem Marks.mark {a : List Shd} {b : Nat → Bool} (h : Marks a b) {i : Nat} {s : ByteArray} : Marks (a ++ [(((i : Nat) : Int), s)]) (fun j => if j = i then true else b j) := fun j hj => by
  rw [Free.snoc]
  show (if j = i then true else b j) = false ↔ _
  by_cases e : j = i
  · subst e
    rw [if_pos rfl]
    exact ⟨fun q => Bool.noConfusion q, fun q => absurd rfl q.2⟩
  · rw [if_neg e]
    exact ⟨fun q => ⟨(h j hj).1 q, fun q' => e (Int.ofNat.inj q').symm⟩, fun q => (h j hj).2 q.1⟩
end Go.Proofs.YtooegclblgeicaaGreatDoor

/- Proved: the law's own first calls of package cut come out as they should. No condition. -/
namespace Go.Proofs.YtooegclblgeicaaGreatDoor
open Go.ChangeShapes Go.WideShapes Go.ChangeAt Go.RowKit

theorem cut_as (s : ByteArray) (k : Int) (o : List ByteArray) (z : Int) (w : World) (hs : s.size ≤ maxLen) (ho : cOut s k = o) (hz : cErrZ s.size k = z) :
    Calls Tryz.prog 15 #[.string s, .int .i64 k] w (GivesSZ w o z) := by
  rw [← ho, ← hz]; exact cut_any s k w hs
theorem join_as (A : Option Addr) (m c : Nat) (l : List ByteArray) (n : Int) (t : ByteArray) (z : Int) (w : World) (hl : Ss w A m l) (hm : m ≤ 40) (hs : ∀ j, j < m → (st_ l j).size ≤ 1100) (ht : jOut l n = t) (hz : jErr l n = z) :
    Calls Tryz.prog 23 #[.slice A m c, .int .i64 n] w (GivesTZ w t z) := by
  rw [← ht, ← hz]; exact join_any A m c l n w hl hm hs
theorem size_as (a b z : Int) (w : World) (wa : (Lit.int .i64 a).wf = true) (hz : sizeZ a b = z) :
    Calls Tryz.prog 42 #[.int .i64 a, .int .i64 b] w fun e w' => e = .returned (.int .i64 z) ∧ w = w' := by
  rw [← hz]; exact size_any a b w wa
abbrev xAbcde : ByteArray := ⟨#[97, 98, 99, 100, 101]⟩
abbrev xAbc : ByteArray := ⟨#[97, 98, 99]⟩
abbrev xDe0 : ByteArray := ⟨#[100, 101, 0]⟩
abbrev xA : ByteArray := ⟨#[97]⟩
abbrev xBc : ByteArray := ⟨#[98, 99]⟩

end Go.Proofs.YtooegclblgeicaaGreatDoor

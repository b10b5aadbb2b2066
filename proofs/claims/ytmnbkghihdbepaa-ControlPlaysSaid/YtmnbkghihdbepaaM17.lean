/- Proved: lemmas of one statement's proof, merged by program: what each part proves stands ahead of it. Conditions: those that the lemmas name. -/
import Derived.Test.YtmnbkghihdbepaaM12

/- Plain lemmas on datagrams that are read of bytes: what is read, that it comes back, and that one byte that is another one is found out. No condition beyond those that each lemma names. -/
namespace Go.Proofs.Ytmnbkghihdbepaa

theorem ext_left (x y : ByteArray) {i j : Nat} (h : j ≤ x.size) : (x ++ y).extract i j = x.extract i j := by
  apply bts_inj
  rw [bts_extract, bts_extract, bts_append, List.take_append_of_le_length (by rw [bts_len]; exact h)]
theorem ext_right (x y : ByteArray) {i j : Nat} (h : x.size ≤ i) : (x ++ y).extract i j = y.extract (i - x.size) (j - x.size) := by
  apply bts_inj
  rw [bts_extract, bts_extract, bts_append, List.take_append, List.drop_append, bts_len]
  rw [List.drop_of_length_le (by rw [List.length_take, bts_len]; omega), List.nil_append, List.length_take, bts_len]
  by_cases g : j ≤ x.size
  · rw [show j - x.size = 0 by omega]
    simp
  · rw [Nat.min_eq_right (by omega)]
theorem ext_self {x : ByteArray} {n : Nat} (h : x.size = n) : x.extract 0 n = x := by rw [← h]; exact extract_all x
/-- the parts of a head. -/
theorem parts_head (A K S B O : ByteArray) (hA : A.size = 2) (hK : K.size = 1) (hS : S.size = 1) (hB : B.size = 4) :
    (A ++ K ++ S ++ B ++ O).extract 0 2 = A ∧ (A ++ K ++ S ++ B ++ O).extract 2 3 = K ∧ (A ++ K ++ S ++ B ++ O).extract 3 4 = S ∧ (A ++ K ++ S ++ B ++ O).extract 4 8 = B ∧ ∀ i j, 8 ≤ i → (A ++ K ++ S ++ B ++ O).extract i j = O.extract (i - 8) (j - 8) := by
  have h1 : (A ++ K).size = 3 := by rw [ByteArray.size_append]; omega
  have h2 : (A ++ K ++ S).size = 4 := by rw [ByteArray.size_append]; omega
  have h3 : (A ++ K ++ S ++ B).size = 8 := by rw [ByteArray.size_append]; omega
  refine ⟨?_, ?_, ?_, ?_, fun i j hi => ?_⟩
  · rw [ext_left _ _ (by omega), ext_left _ _ (by omega), ext_left _ _ (by omega), ext_left _ _ (by omega), ext_self hA]
  · rw [ext_left _ _ (by omega), ext_left _ _ (by omega), ext_left _ _ (by omega), ext_right _ _ (by omega), hA, ext_self hK]
  · rw [ext_left _ _ (by omega), ext_left _ _ (by omega), ext_right _ _ (by omega), h1, ext_self hS]
  · rw [ext_left _ _ (by omega), ext_right _ _ (by omega), h2, ext_self hB]
  · rw [ext_right _ _ (by omega), h3]
theorem parts_shard (I K N L B : ByteArray) (hI : I.size = 1) (hK : K.size = 1) (hN : N.size = 1) (hL : L.size = 2) :
    (I ++ K ++ N ++ L ++ B).extract 0 1 = I ∧ (I ++ K ++ N ++ L ++ B).extract 1 2 = K ∧ (I ++ K ++ N ++ L ++ B).extract 2 3 = N ∧ (I ++ K ++ N ++ L ++ B).extract 3 5 = L ∧ (I ++ K ++ N ++ L ++ B).extract 5 (5 + B.size) = B := by
  have h1 : (I ++ K).size = 2 := by rw [ByteArray.size_append]; omega
  have h2 : (I ++ K ++ N).size = 3 := by rw [ByteArray.size_append]; omega
  have h3 : (I ++ K ++ N ++ L).size = 5 := by rw [ByteArray.size_append]; omega
  refine ⟨?_, ?_, ?_, ?_, ?_⟩
  · rw [ext_left _ _ (by omega), ext_left _ _ (by omega), ext_left _ _ (by omega), ext_left _ _ (by omega), ext_self hI]
  · rw [ext_left _ _ (by omega), ext_left _ _ (by omega), ext_left _ _ (by omega), ext_right _ _ (by omega), hI, ext_self hK]
  · rw [ext_left _ _ (by omega), ext_left _ _ (by omega), ext_right _ _ (by omega), h1, ext_self hN]
  · rw [ext_left _ _ (by omega), ext_right _ _ (by omega), h2, ext_self hL]
  · rw [ext_right _ _ (by omega), h3]
    show B.extract 0 (5 + B.size - 5) = B
    exact ext_self (by omega)

/-! ### what is read -/
/-- the datagram of all but the sum, so far unchecked. -/
def pD (g : Grp) (a : ByteArray) : Dg := match g with
  | .shard => ⟨cutN a 2 3, cutN a 3 4, cutN a 4 8, cutN a 8 9, cutN a 9 10, cutN a 10 11, (cutN a 11 13 : Int) + 1, 0, S0, a.extract 13 a.size⟩
  | .hav => ⟨cutN a 2 3, cutN a 3 4, cutN a 4 8, 0, 0, 0, 0, 0, a.extract 8 40, S0⟩
  | .cred => ⟨cutN a 2 3, cutN a 3 4, cutN a 4 8, 0, 0, 0, 0, cutN a 8 10, S0, S0⟩
  | .bare => ⟨cutN a 2 3, cutN a 3 4, cutN a 4 8, 0, 0, 0, 0, 0, S0, S0⟩
/-- the error of so many bytes behind the head. -/
def grpF (g : Grp) (n : Nat) : Int := match g with
  | .shard => if n < 5 then 4 else 0
  | .hav => if n < 32 then 4 else if 32 < n then 5 else 0
  | .cred => if n < 2 then 4 else if 2 < n then 5 else 0
  | .bare => if 0 < n then 5 else 0
def pE (a : ByteArray) : Int :=
  if a.extract 0 2 ≠ xLS then 5
  else if ¬ (1 ≤ cutN a 2 3 ∧ cutN a 2 3 ≤ 6) then 1
  else grpF (grpOf (cutN a 2 3)) (a.size - 8)
def dg0 : Dg := ⟨0, 0, 0, 0, 0, 0, 0, 0, S0, S0⟩
/-- all but the sum; the sum. -/
def front (s : ByteArray) : ByteArray := s.extract 0 (s.size - 4)
def sumOf (s : ByteArray) : Nat := numS (s.extract (s.size - 4) s.size)
/-- Read's error. -/
def rE (s : ByteArray) : Int :=
  if s.size < 12 then 4
  else if sumOf s ≠ crcS 0 (front s) then 6
  else if pE (front s) ≠ 0 then pE (front s)
  else chk (pD (grpOf (cutN (front s) 2 3)) (front s))
/-- what Read answers. -/
def rD (s : ByteArray) : Dg := if rE s = 0 then pD (grpOf (cutN (front s) 2 3)) (front s) else dg0
theorem rE_cut {s : ByteArray} (h : s.size < 12) : rE s = 4 := if_pos h
theorem rE_sum {s : ByteArray} (h : ¬ s.size < 12) (h2 : sumOf s ≠ crcS 0 (front s)) : rE s = 6 := by
  unfold rE
  rw [if_neg h, if_pos h2]
theorem rE_fields {s : ByteArray} (h : ¬ s.size < 12) (h2 : sumOf s = crcS 0 (front s)) (h3 : pE (front s) ≠ 0) : rE s = pE (front s) := by
  unfold rE
  rw [if_neg h, if_neg (fun q => q h2), if_pos h3]
theorem rE_check {s : ByteArray} (h : ¬ s.size < 12) (h2 : sumOf s = crcS 0 (front s)) (h3 : pE (front s) = 0) : rE s = chk (pD (grpOf (cutN (front s) 2 3)) (front s)) := by
  unfold rE
  rw [if_neg h, if_neg (fun q => q h2), if_neg (fun q => q h3)]
theorem rD_bad {s : ByteArray} (h : rE s ≠ 0) : rD s = dg0 := if_neg h
theorem rD_good {s : ByteArray} (h : rE s = 0) : rD s = pD (grpOf (cutN (front s) 2 3)) (front s) := if_pos h
theorem rE_zero {s : ByteArray} (h : rE s = 0) : ¬ s.size < 12 ∧ sumOf s = crcS 0 (front s) ∧ pE (front s) = 0 ∧ chk (pD (grpOf (cutN (front s) 2 3)) (front s)) = 0 := by
  by_cases h1 : s.size < 12
  · rw [rE_cut h1] at h; exact absurd h (by decide)
  · by_cases h2 : sumOf s = crcS 0 (front s)
    · by_cases h3 : pE (front s) = 0
      · rw [rE_check h1 h2 h3] at h
        exact ⟨h1, h2, h3, h⟩
      · rw [rE_fields h1 h2 h3] at h; exact absurd h h3
    · rw [rE_sum h1 h2] at h; exact absurd h (by decide)
theorem front_size (s : ByteArray) : (front s).size = s.size - 4 := by
  unfold front
  rw [ByteArray.size_extract]; omega
theorem front_sum (s : ByteArray) : front s ++ s.extract (s.size - 4) s.size = s := by
  unfold front
  rw [extract_parts _ (by omega) (by omega), extract_all]
theorem front_app (a b : ByteArray) (hb : b.size = 4) : front (a ++ b) = a ∧ (a ++ b).extract ((a ++ b).size - 4) (a ++ b).size = b := by
  have h : (a ++ b).size = a.size + 4 := by rw [ByteArray.size_append, hb]
  unfold front
  rw [h, show a.size + 4 - 4 = a.size by omega]
  refine ⟨?_, ?_⟩
  · rw [ext_left _ _ (Nat.le_refl _), extract_all]
  · rw [ext_right _ _ (Nat.le_refl _), Nat.sub_self, show a.size + 4 - a.size = 4 by omega, ext_self hb]

theorem toNat_cast {x : Int} (h : 0 ≤ x) : ((x.toNat : Nat) : Int) = x := Int.toNat_of_nonneg h
theorem sub_body {g : Grp} {d : Dg} (ho : d.own g = d) (hg : g ≠ .shard) : d.body = S0 := by
  rw [← ho]
  cases g with
  | shard => exact absurd rfl hg
  | _ => rfl
/-- what was put is read as it was, all but the sum. -/
theorem head_back {d : Dg} (h : chk d = 0) (hb : d.block < 4294967296) : pE (headS d) = 0 ∧ cutN (headS d) 2 3 = d.kind.toNat ∧ pD (grpOf d.kind) (headS d) = d := by
  obtain ⟨hk, hs, hg, ho⟩ := chk_zero h
  have hz := ownS_size hg ho
  have hhz := headS_size d
  obtain ⟨p1, p2, p3, p4, p5⟩ := parts_head xLS (tx (byteL d.kind.toNat 1)) (tx (byteL d.stream.toNat 1)) (tx (byteL d.block 4)) (ownS (grpOf d.kind) d) rfl (by rw [tx_size, byteL_len]) (by rw [tx_size, byteL_len]) (by rw [tx_size, byteL_len])
  have q1 : (headS d).extract 0 2 = xLS := p1
  have q2 : cutN (headS d) 2 3 = d.kind.toNat := by unfold cutN; rw [show (headS d).extract 2 3 = _ from p2]; exact num_put (by omega)
  have q3 : cutN (headS d) 3 4 = d.stream.toNat := by unfold cutN; rw [show (headS d).extract 3 4 = _ from p3]; exact num_put (by omega)
  have q4 : cutN (headS d) 4 8 = d.block := by unfold cutN; rw [show (headS d).extract 4 8 = _ from p4]; exact num_put hb
  have q5 : ∀ i j, 8 ≤ i → (headS d).extract i j = (ownS (grpOf d.kind) d).extract (i - 8) (j - 8) := p5
  have hkc := toNat_cast (show 0 ≤ d.kind by omega)
  have hsc := toNat_cast hs.1
  clear p1 p2 p3 p4 p5
  generalize hgg : grpOf d.kind = g at *
  refine ⟨?_, q2, ?_⟩
  · unfold pE
    rw [if_neg (fun e => e q1), q2, if_neg (fun e => e ⟨by omega, by omega⟩), hkc, hgg, hhz, hz]
    cases g with
    | shard => exact if_neg (by show ¬ (8 + (5 + d.body.size) - 8 < 5); omega)
    | hav =>
      have : d.body.size = 0 := by rw [sub_body ho (by simp)]; rfl
      rw [this]; rfl
    | cred =>
      have : d.body.size = 0 := by rw [sub_body ho (by simp)]; rfl
      rw [this]; rfl
    | bare =>
      have : d.body.size = 0 := by rw [sub_body ho (by simp)]; rfl
      rw [this]; rfl
  · cases g with
    | shard =>
      obtain ⟨⟨a1, a2, a3, a4, a5, a6⟩, a7, a8, a9⟩ := shardE_zero (show shardE d = 0 from hg)
      obtain ⟨r1, r2, r3, r4, r5⟩ := parts_shard (tx (byteL d.index.toNat 1)) (tx (byteL d.k.toNat 1)) (tx (byteL d.n.toNat 1)) (tx (byteL (d.len - 1).toNat 2)) d.body (by rw [tx_size, byteL_len]) (by rw [tx_size, byteL_len]) (by rw [tx_size, byteL_len]) (by rw [tx_size, byteL_len])
      have s1 : cutN (headS d) 8 9 = d.index.toNat := by unfold cutN; rw [q5 8 9 (by omega), show (ownS Grp.shard d).extract 0 1 = _ from r1]; exact num_put (by omega)
      have s2 : cutN (headS d) 9 10 = d.k.toNat := by unfold cutN; rw [q5 9 10 (by omega), show (ownS Grp.shard d).extract 1 2 = _ from r2]; exact num_put (by omega)
      have s3 : cutN (headS d) 10 11 = d.n.toNat := by unfold cutN; rw [q5 10 11 (by omega), show (ownS Grp.shard d).extract 2 3 = _ from r3]; exact num_put (by omega)
      have s4 : cutN (headS d) 11 13 = (d.len - 1).toNat := by unfold cutN; rw [q5 11 13 (by omega), show (ownS Grp.shard d).extract 3 5 = _ from r4]; exact num_put (by omega)
      have s5 : (headS d).extract 13 (headS d).size = d.body := by
        rw [q5 13 _ (by omega), hhz, hz, show 8 + (grpSz Grp.shard + d.body.size) - 8 = 5 + d.body.size by show 8 + (5 + d.body.size) - 8 = _; omega]
        exact r5
      have e1 : d.credit = 0 := by rw [← ho]; rfl
      have e2 : d.has = S0 := by rw [← ho]; rfl
      unfold pD
      simp only [q2, q3, q4, s1, s2, s3, s4, s5, hkc, hsc, toNat_cast a5, toNat_cast (show 0 ≤ d.k by omega), toNat_cast (show 0 ≤ d.n by omega), toNat_cast (show 0 ≤ d.len - 1 by omega)]
      obtain ⟨b0, b1, b2, b3, b4, b5, b6, b7, b8, b9⟩ := d
      simp only at e1 e2
      rw [e1, e2]
      simp only [Dg.mk.injEq, true_and, and_true]
      omega
    | hav =>
      have s1 : (headS d).extract 8 40 = d.has := by
        have hh : d.has.size = 32 := by
          have h0 : (ownS Grp.hav d).size = 32 + d.body.size := hz
          rw [sub_body ho (by simp)] at h0
          exact h0
        rw [q5 8 40 (by omega)]
        exact ext_self hh
      unfold pD
      simp only [q2, q3, q4, s1, hkc, hsc]
      exact ho
    | cred =>
      have hc : 0 ≤ d.credit ∧ d.credit ≤ 65535 := by
        have h0 : (if 0 ≤ d.credit ∧ d.credit ≤ 65535 then (0 : Int) else 2) = 0 := hg
        split at h0
        · assumption
        · exact absurd h0 (by decide)
      have s1 : cutN (headS d) 8 10 = d.credit.toNat := by
        unfold cutN
        rw [q5 8 10 (by omega)]
        show numS ((tx (byteL d.credit.toNat 2)).extract 0 2) = _
        rw [ext_self (by rw [tx_size, byteL_len])]
        exact num_put (by omega)
      unfold pD
      simp only [q2, q3, q4, s1, hkc, hsc, toNat_cast hc.1]
      exact ho
    | bare =>
      unfold pD
      simp only [q2, q3, q4, hkc, hsc]
      exact ho
theorem fullS_size2 (d : Dg) : ¬ (fullS d).size < 12 := by
  rw [fullS_size, headS_size]; omega
/-- A datagram comes back from its bytes. -/
theorem put_read {d : Dg} (h : chk d = 0) (hb : d.block < 4294967296) : rE (fullS d) = 0 ∧ rD (fullS d) = d := by
  obtain ⟨h1, h2, h3⟩ := head_back h hb
  obtain ⟨f1, f2⟩ := front_app (headS d) (tx (byteL (crcS 0 (headS d)) 4)) (by rw [tx_size, byteL_len])
  have g1 : front (fullS d) = headS d := f1
  have g2 : sumOf (fullS d) = crcS 0 (headS d) := by
    unfold sumOf
    rw [show (fullS d).extract ((fullS d).size - 4) (fullS d).size = _ from f2]
    exact num_put (crcS_lt (by decide) _)
  obtain ⟨hk, _⟩ := chk_zero h
  have hkc := toNat_cast (show 0 ≤ d.kind by omega)
  have h4 : rE (fullS d) = 0 := by
    rw [rE_check (fullS_size2 d) (by rw [g1, g2]) (by rw [g1]; exact h1), g1, h2, hkc, h3]
    exact h
  refine ⟨h4, ?_⟩
  rw [rD_good h4, g1, h2, hkc, h3]
theorem grpF_zero {g : Grp} {n : Nat} (h : grpF g n = 0) : grpSz g ≤ n ∧ (g ≠ .shard → n = grpSz g) := by
  cases g with
  | shard =>
    have h0 : (if n < 5 then (4 : Int) else 0) = 0 := h
    split at h0
    · exact absurd h0 (by decide)
    · exact ⟨by show 5 ≤ n; omega, fun q => absurd rfl q⟩
  | hav =>
    have h0 : (if n < 32 then (4 : Int) else if 32 < n then 5 else 0) = 0 := h
    split at h0
    · exact absurd h0 (by decide)
    · split at h0
      · exact absurd h0 (by decide)
      · exact ⟨by show 32 ≤ n; omega, fun _ => by show n = 32; omega⟩
  | cred =>
    have h0 : (if n < 2 then (4 : Int) else if 2 < n then 5 else 0) = 0 := h
    split at h0
    · exact absurd h0 (by decide)
    · split at h0
      · exact absurd h0 (by decide)
      · exact ⟨by show 2 ≤ n; omega, fun _ => by show n = 2; omega⟩
  | bare =>
    have h0 : (if 0 < n then (5 : Int) else 0) = 0 := h
    split at h0
    · exact absurd h0 (by decide)
    · exact ⟨Nat.zero_le _, fun _ => by show n = 0; omega⟩
theorem pE_zero {a : ByteArray} (h : pE a = 0) : a.extract 0 2 = xLS ∧ (1 ≤ cutN a 2 3 ∧ cutN a 2 3 ≤ 6) ∧ grpF (grpOf (cutN a 2 3)) (a.size - 8) = 0 := by
  unfold pE at h
  split at h
  · exact absurd h (by decide)
  · split at h
    · exact absurd h (by decide)
    · rename_i h1 h2
      exact ⟨Decidable.not_not.1 h1, Decidable.not_not.1 h2, h⟩
theorem own_read {g : Grp} {a : ByteArray} (h8 : 8 ≤ a.size) (hf : grpF g (a.size - 8) = 0) : ownS g (pD g a) = a.extract 8 a.size := by
  obtain ⟨z1, z2⟩ := grpF_zero hf
  cases g with
  | shard =>
    have hz : 5 ≤ a.size - 8 := z1
    show tx (byteL ((cutN a 8 9 : Nat) : Int).toNat 1) ++ tx (byteL ((cutN a 9 10 : Nat) : Int).toNat 1) ++ tx (byteL ((cutN a 10 11 : Nat) : Int).toNat 1) ++ tx (byteL (((cutN a 11 13 : Nat) : Int) + 1 - 1).toNat 2) ++ a.extract 13 a.size = _
    rw [Int.add_sub_cancel, Int.toNat_natCast, Int.toNat_natCast, Int.toNat_natCast, Int.toNat_natCast]
    rw [cut_back (i := 8) (j := 9) (by omega) rfl, cut_back (i := 9) (j := 10) (by omega) rfl, cut_back (i := 10) (j := 11) (by omega) rfl, cut_back (i := 11) (j := 13) (by omega) rfl]
    rw [extract_parts _ (by omega) (by omega), extract_parts _ (by omega) (by omega), extract_parts _ (by omega) (by omega), extract_parts _ (by omega) (by omega)]
  | hav =>
    have hz : a.size - 8 = 32 := z2 (by simp)
    show a.extract 8 40 = _
    rw [show a.size = 40 by omega]
  | cred =>
    have hz : a.size - 8 = 2 := z2 (by simp)
    show tx (byteL ((cutN a 8 10 : Nat) : Int).toNat 2) = _
    rw [Int.toNat_natCast, cut_back (i := 8) (j := 10) (by omega) rfl, show a.size = 10 by omega]
  | bare =>
    have hz : a.size - 8 = 0 := z2 (by simp)
    refine (size_zero ?_).symm
    rw [ByteArray.size_extract]; omega
theorem pD_head (g : Grp) (a : ByteArray) : (pD g a).kind = (cutN a 2 3 : Nat) ∧ (pD g a).stream = (cutN a 3 4 : Nat) ∧ (pD g a).block = cutN a 4 8 := by
  cases g <;> exact ⟨rfl, rfl, rfl⟩
theorem head_read {a : ByteArray} (h8 : 8 ≤ a.size) (h : pE a = 0) : headS (pD (grpOf (cutN a 2 3)) a) = a := by
  obtain ⟨h1, h2, h3⟩ := pE_zero h
  obtain ⟨k1, k2, k3⟩ := pD_head (grpOf (cutN a 2 3)) a
  unfold headS
  rw [k1, k2, k3, own_read h8 h3, Int.toNat_natCast, Int.toNat_natCast, ← h1]
  rw [cut_back (i := 2) (j := 3) (by omega) rfl, cut_back (i := 3) (j := 4) (by omega) rfl, cut_back (i := 4) (j := 8) (by omega) rfl]
  rw [extract_parts _ (by omega) (by omega), extract_parts _ (by omega) (by omega), extract_parts _ (by omega) (by omega), extract_parts _ (by omega) (by omega), extract_all]
/-- Whatever bytes are read are just those of what is read. -/
theorem read_put {s : ByteArray} (h : rE s = 0) : chk (rD s) = 0 ∧ fullS (rD s) = s := by
  obtain ⟨h1, h2, h3, h4⟩ := rE_zero h
  have hz := front_size s
  rw [rD_good h]
  refine ⟨h4, ?_⟩
  unfold fullS
  rw [head_read (by omega) h3, ← h2]
  unfold sumOf
  rw [num_back (by rw [ByteArray.size_extract]; omega), front_sum]
theorem rD_block (s : ByteArray) : (rD s).block < 4294967296 := by
  by_cases h : rE s = 0
  · obtain ⟨h1, h2, h3, h4⟩ := rE_zero h
    have hz := front_size s
    rw [rD_good h, (pD_head _ _).2.2]
    exact cutN_lt (k := 4) (by omega) rfl
  · rw [rD_bad h]; decide

theorem set_parts (l : List Nat) (j y : Nat) (h : j < l.length) : l.set j y = l.take j ++ y :: l.drop (j + 1) := by
  rw [List.set_eq_take_append_cons_drop, if_pos h]
theorem byte_ext {s t : ByteArray} (h : bts s = bts t) : s = t := bts_inj h
theorem set_end {s t : ByteArray} {j y : Nat} (ht : bts t = (bts s).set j y) (hj : j < s.size - 4) : t.extract (s.size - 4) s.size = s.extract (s.size - 4) s.size := by
  have hlen : (bts s).length = s.size := bts_len s
  apply bts_inj
  rw [bts_extract, bts_extract, ht, List.take_of_length_le (by rw [List.length_set]; omega), List.take_of_length_le (by omega), List.drop_set_of_lt hj]
theorem set_front {s t : ByteArray} {j y : Nat} (ht : bts t = (bts s).set j y) (hsz : t.size = s.size) (hj : j < s.size - 4) (hy : y < 256) : front t = (front s).extract 0 j ++ tx [y] ++ (front s).extract (j + 1) (front s).size := by
  have hlen : (bts s).length = s.size := bts_len s
  apply bts_inj
  have hy1 : bts (tx [y]) = [y] := bts_tx fun i => by
    cases i with
    | zero => exact hy
    | succ i => simp
  have hfb : bts (front s) = (bts s).take (s.size - 4) := by unfold front; rw [bts_extract, List.drop_zero]
  rw [bts_append, bts_append, hy1, bts_extract, bts_extract, List.drop_zero]
  rw [List.take_of_length_le (i := (front s).size) (by rw [bts_len]; exact Nat.le_refl _), hfb]
  have hft : bts (front t) = ((bts s).set j y).take (s.size - 4) := by unfold front; rw [bts_extract, List.drop_zero, ht, hsz]
  rw [hft, List.take_set, set_parts _ _ _ (by rw [List.length_take]; omega)]
  simp
theorem front_at {s : ByteArray} {j : Nat} (h : j < s.size - 4) : (bts (front s)).getD j 0 = (bts s).getD j 0 := by
  unfold front
  rw [bts_extract, List.drop_zero, List.getD_eq_getElem?_getD, List.getElem?_take, if_pos h, ← List.getD_eq_getElem?_getD]
theorem set_behind {s t : ByteArray} {j y : Nat} (ht : bts t = (bts s).set j y) (hsz : t.size = s.size) (hj : ¬ j < s.size - 4) : front t = front s := by
  apply bts_inj
  unfold front
  rw [bts_extract, bts_extract, ht, hsz, List.take_set_of_le (by omega)]
theorem sum_text {s : ByteArray} (h : ¬ s.size < 12) : tx (byteL (sumOf s) 4) = s.extract (s.size - 4) s.size :=
  num_back (by rw [ByteArray.size_extract]; omega)
/-- One byte that is another one is found out. -/
theorem bit_found {s t : ByteArray} {j y : Nat} (h : rE s = 0) (hj : j < s.size) (hy : y < 256) (hne : (bts s).getD j 0 ≠ y) (ht : bts t = (bts s).set j y) : rE t = 6 := by
  obtain ⟨h1, h2, _, _⟩ := rE_zero h
  have hsz : t.size = s.size := by rw [← bts_len t, ht, List.length_set, bts_len]
  have h1t : ¬ t.size < 12 := by rw [hsz]; exact h1
  refine rE_sum h1t fun e => ?_
  by_cases g : j < s.size - 4
  · have hs : sumOf t = sumOf s := by
      unfold sumOf
      rw [hsz, set_end ht g]
    have hb : (bts (front s)).getD j 0 ≠ y := by rw [front_at g]; exact hne
    have hc := crcS_one (c := 0) (by decide) (front s) j y (by rw [front_size]; exact g) hy hb
    rw [← set_front ht hsz g hy, ← h2, ← hs] at hc
    exact hc e.symm
  · have hf := set_behind ht hsz g
    have hs : sumOf t = sumOf s := by rw [e, hf, h2]
    have hst : s = t := by
      have e1 := front_sum s
      have e2 := front_sum t
      rw [← sum_text h1, ← hs] at e1
      rw [← sum_text h1t, hf] at e2
      rw [← e1, e2]
    have hq : (bts t).getD j 0 = y := by
      rw [ht, List.getD_eq_getElem?_getD, List.getElem?_set, if_pos rfl, if_pos (by rw [bts_len]; exact hj)]; rfl
    rw [← hst] at hq
    exact hne hq
end Go.Proofs.Ytmnbkghihdbepaa

/- Proved: what layoutOf answers, and what the functions of each layout that check, and leave out, answer. Conditions: those that the theorems name. -/
namespace Go.Proofs.Ytmnbkghihdbepaa
open Go.ChangeShapes Go.WideShapes Go.ChangeAt Go.RowKit

/-! ### the functions of a layout -/
def fChk (g : Grp) : Nat := match g with
  | .shard => 39
  | .hav => 43
  | .cred => 47
  | .bare => 51
def fOut (g : Grp) : Nat := match g with
  | .shard => 40
  | .hav => 44
  | .cred => 48
  | .bare => 52
def fPut (g : Grp) : Nat := match g with
  | .shard => 41
  | .hav => 45
  | .cred => 49
  | .bare => 53
def fRead (g : Grp) : Nat := match g with
  | .shard => 42
  | .hav => 46
  | .cred => 50
  | .bare => 54
theorem call_enter {f : FuncId} {fn : Func} {c : Code} (hf : Try.prog.funcs[f]? = some fn) (hname : (fn.name == "runtime.NumGoroutine") = false) (hb : fn.body = some c) (args : Array Value) (W : World) : (callFunc f args).run Try.prog W = .ok (.enter f args) W := by
  have h1 : fn.name ≠ "runtime.NumGoroutine" := by simpa using hname
  simp [callFunc, hf, h1, hb]
theorem call_chk (g : Grp) (args : Array Value) (W : World) : (callFunc (fChk g) args).run Try.prog W = .ok (.enter (fChk g) args) W := by
  cases g with
  | shard => exact call_enter Try.func39 (by kernel_rfl) rfl args W
  | hav => exact call_enter Try.func43 (by kernel_rfl) rfl args W
  | cred => exact call_enter Try.func47 (by kernel_rfl) rfl args W
  | bare => exact call_enter Try.func51 (by kernel_rfl) rfl args W
theorem call_out (g : Grp) (args : Array Value) (W : World) : (callFunc (fOut g) args).run Try.prog W = .ok (.enter (fOut g) args) W := by
  cases g with
  | shard => exact call_enter Try.func40 (by kernel_rfl) rfl args W
  | hav => exact call_enter Try.func44 (by kernel_rfl) rfl args W
  | cred => exact call_enter Try.func48 (by kernel_rfl) rfl args W
  | bare => exact call_enter Try.func52 (by kernel_rfl) rfl args W
theorem call_put (g : Grp) (args : Array Value) (W : World) : (callFunc (fPut g) args).run Try.prog W = .ok (.enter (fPut g) args) W := by
  cases g with
  | shard => exact call_enter Try.func41 (by kernel_rfl) rfl args W
  | hav => exact call_enter Try.func45 (by kernel_rfl) rfl args W
  | cred => exact call_enter Try.func49 (by kernel_rfl) rfl args W
  | bare => exact call_enter Try.func53 (by kernel_rfl) rfl args W
theorem call_read (g : Grp) (args : Array Value) (W : World) : (callFunc (fRead g) args).run Try.prog W = .ok (.enter (fRead g) args) W := by
  cases g with
  | shard => exact call_enter Try.func42 (by kernel_rfl) rfl args W
  | hav => exact call_enter Try.func46 (by kernel_rfl) rfl args W
  | cred => exact call_enter Try.func50 (by kernel_rfl) rfl args W
  | bare => exact call_enter Try.func54 (by kernel_rfl) rfl args W
/-- a kind's layout, as a value. -/
def layV (g : Grp) : Value := .agg #[.func (.func (fChk g)) #[] #[], .func (.func (fOut g)) #[] #[], .func (.func (fPut g)) #[] #[], .func (.func (fRead g)) #[] #[], .int .i64 (grpSz g : Nat)]
/-- no layout, as a value. -/
def layNone : Value := .agg #[.nilFunc, .nilFunc, .nilFunc, .nilFunc, .int .i64 0]
/-- A layout and a bool come back; nothing that was there has turned. -/
def GivesL (W : World) (v : Value) (b : Bool) (e : Ending) (w' : World) : Prop := e = .returned (.tuple #[v, .bool b]) ∧ Below W.heap.size W w'

theorem layout_yes (x : Int) (w : World) (h : 1 ≤ x ∧ x ≤ 6) : Calls Try.prog 37 #[.int .i64 x] w (GivesL w (layV (grpOf x)) true) := by
  rcases (show x = 1 ∨ x = 2 ∨ x = 3 ∨ x = 4 ∨ x = 5 ∨ x = 6 by omega) with rfl | rfl | rfl | rfl | rfl | rfl
  · go_enter Try.func37, Try.ntmps37
    go_wp2_with fail
    exact bodyPost_ret (v := .tuple #[layV .shard, .bool true]) (by simp [results, Try.results37, layV, fChk, fOut, fPut, fRead, grpSz, go_sem]) rfl ⟨rfl, (Below.refl _ _).alloc (Nat.le_refl _) _⟩
  · go_enter Try.func37, Try.ntmps37
    go_wp2_with fail
    exact bodyPost_ret (v := .tuple #[layV .shard, .bool true]) (by simp [results, Try.results37, layV, fChk, fOut, fPut, fRead, grpSz, go_sem]) rfl ⟨rfl, (Below.refl _ _).alloc (Nat.le_refl _) _⟩
  · go_enter Try.func37, Try.ntmps37
    go_wp2_with fail
    exact bodyPost_ret (v := .tuple #[layV .hav, .bool true]) (by simp [results, Try.results37, layV, fChk, fOut, fPut, fRead, grpSz, go_sem]) rfl ⟨rfl, (Below.refl _ _).alloc (Nat.le_refl _) _⟩
  · go_enter Try.func37, Try.ntmps37
    go_wp2_with fail
    exact bodyPost_ret (v := .tuple #[layV .cred, .bool true]) (by simp [results, Try.results37, layV, fChk, fOut, fPut, fRead, grpSz, go_sem]) rfl ⟨rfl, (Below.refl _ _).alloc (Nat.le_refl _) _⟩
  · go_enter Try.func37, Try.ntmps37
    go_wp2_with fail
    exact bodyPost_ret (v := .tuple #[layV .bare, .bool true]) (by simp [results, Try.results37, layV, fChk, fOut, fPut, fRead, grpSz, go_sem]) rfl ⟨rfl, (Below.refl _ _).alloc (Nat.le_refl _) _⟩
  · go_enter Try.func37, Try.ntmps37
    go_wp2_with fail
    exact bodyPost_ret (v := .tuple #[layV .bare, .bool true]) (by simp [results, Try.results37, layV, fChk, fOut, fPut, fRead, grpSz, go_sem]) rfl ⟨rfl, (Below.refl _ _).alloc (Nat.le_refl _) _⟩
theorem layout_no (x : Int) (w : World) (h : ¬ (1 ≤ x ∧ x ≤ 6)) : Calls Try.prog 37 #[.int .i64 x] w (GivesL w layNone false) := by
  have e1 : (x == 1) = false := by rw [beq_eq_false_iff_ne]; omega
  have e2 : (x == 2) = false := by rw [beq_eq_false_iff_ne]; omega
  have e3 : (x == 3) = false := by rw [beq_eq_false_iff_ne]; omega
  have e4 : (x == 4) = false := by rw [beq_eq_false_iff_ne]; omega
  have e5 : (x == 5) = false := by rw [beq_eq_false_iff_ne]; omega
  have e6 : (x == 6) = false := by rw [beq_eq_false_iff_ne]; omega
  clear h
  go_enter Try.func37, Try.ntmps37
  go_wp2_with fail
  exact bodyPost_ret (v := .tuple #[layNone, .bool false]) (by simp [results, Try.results37, layNone, go_sem]) rfl ⟨rfl, (Below.refl _ _).alloc (Nat.le_refl _) _⟩

/-! ### fields left out -/
/-- A datagram comes back; nothing that was there has turned. -/
def GivesD (W : World) (d : Dg) (e : Ending) (w' : World) : Prop := e = .returned d.val ∧ Below W.heap.size W w'
theorem out_any (g : Grp) (d : Dg) (w : World) : Calls Try.prog (fOut g) #[d.val] w (GivesD w (d.without g)) := by
  obtain ⟨a0, a1, a2, a3, a4, a5, a6, a7, a8, a9⟩ := d
  cases g with
  | shard =>
    unfold fOut Dg.val
    simp only
    go_enter Try.func40, Try.ntmps40
    go_wp2_with fail
    exact bodyPost_ret (v := Dg.val (Dg.without .shard ⟨a0, a1, a2, a3, a4, a5, a6, a7, a8, a9⟩)) (by simp [results, Try.results40, Dg.val, Dg.without, go_sem]; rfl) rfl ⟨rfl, ((Below.refl _ _).alloc (Nat.le_refl _) _).alloc (by simp) _⟩
  | hav =>
    unfold fOut Dg.val
    simp only
    go_enter Try.func44, Try.ntmps44
    go_wp2_with fail
    exact bodyPost_ret (v := Dg.val (Dg.without .hav ⟨a0, a1, a2, a3, a4, a5, a6, a7, a8, a9⟩)) (by simp [results, Try.results44, Dg.val, Dg.without, go_sem]; rfl) rfl ⟨rfl, ((Below.refl _ _).alloc (Nat.le_refl _) _).alloc (by simp) _⟩
  | cred =>
    unfold fOut Dg.val
    simp only
    go_enter Try.func48, Try.ntmps48
    go_wp2_with fail
    exact bodyPost_ret (v := Dg.val (Dg.without .cred ⟨a0, a1, a2, a3, a4, a5, a6, a7, a8, a9⟩)) (by simp [results, Try.results48, Dg.val, Dg.without, go_sem]) rfl ⟨rfl, ((Below.refl _ _).alloc (Nat.le_refl _) _).alloc (by simp) _⟩
  | bare =>
    unfold fOut Dg.val
    simp only
    go_enter Try.func52, Try.ntmps52
    go_wp2_with fail
    exact bodyPost_ret (v := Dg.val (Dg.without .bare ⟨a0, a1, a2, a3, a4, a5, a6, a7, a8, a9⟩)) (by simp [results, Try.results52, Dg.val, Dg.without, go_sem]) rfl ⟨rfl, ((Below.refl _ _).alloc (Nat.le_refl _) _).alloc (by simp) _⟩
end Go.Proofs.Ytmnbkghihdbepaa

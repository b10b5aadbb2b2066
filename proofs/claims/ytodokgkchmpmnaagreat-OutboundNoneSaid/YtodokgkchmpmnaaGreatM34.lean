/- Proved: lemmas of one statement's proof, merged by program: what each part proves stands ahead of it. Conditions: those that the lemmas name. -/
import Derived.Test.YtodokgkchmpmnaaGreatM33

/- Proved: what Set, Of and Count of package bits, and their twins of the document, answer for every string, int and slice of ints. Conditions: those that the theorems name. -/
namespace Go.Proofs.YtodokgkchmpmnaaGreat
open Go.ChangeShapes Go.WideShapes Go.ChangeAt Go.RowKit

/-- a text and an error come back. -/
def GivesBSE (W : World) (s : ByteArray) (z : Int) (e : Ending) (w' : World) : Prop := e = .returned (.tuple #[.string s, .int .i64 z]) ∧ Below W.heap.size W w'
theorem setE_size {s : ByteArray} (h : s.size ≠ 32) (i : Int) : setE s i = 5 ∧ setS s i = S0 := by unfold setE setS; rw [if_neg h, if_neg h]; exact ⟨rfl, rfl⟩
theorem setE_out {s : ByteArray} {i : Int} (h : s.size = 32) (hi : inB i = false) : setE s i = 2 ∧ setS s i = S0 := by
  unfold setE setS
  rw [if_pos h, if_pos h, if_neg (by simp [hi]), if_neg (by simp [hi])]; exact ⟨rfl, rfl⟩
theorem setE_in {s : ByteArray} {i : Int} (h : s.size = 32) (hi : inB i = true) : setE s i = 0 ∧ setS s i = tx (withB (bts s) i) := by
  unfold setE setS
  rw [if_pos h, if_pos h, if_pos hi, if_pos hi]; exact ⟨rfl, rfl⟩
set_option maxRecDepth 100000 in
set_option maxHeartbeats 800000 in
theorem rset11_bad (s : ByteArray) (i : Int) (w : World) (h : s.size ≠ 32 ∨ s.size = 32 ∧ i < 0 ∨ s.size = 32 ∧ 0 ≤ i ∧ 256 ≤ i) :
    Calls Tryz.prog 66 #[.string s, .int .i64 i] w (GivesBSE w (setS s i) (setE s i)) := by
  rcases h with h | ⟨h, h0⟩ | ⟨h, h0, h1⟩
  · obtain ⟨e1, e2⟩ := setE_size h i
    rw [e1, e2]
    have h1 : ((s.size : Int) != 32) = true := by simp; omega
    clear h e1 e2
    go_enter Tryz.func66, Tryz.ntmps66
    go_wp2_with fail
    go_ret2
    exact ⟨rfl, Below.refl _ _⟩
  · obtain ⟨e1, e2⟩ := setE_out (i := i) h (by unfold inB; simp; omega)
    rw [e1, e2]
    have h1 : ((s.size : Int) != 32) = false := by simp; omega
    clear h e1 e2
    go_enter Tryz.func66, Tryz.ntmps66
    go_wp2_with fail
    go_ret2
    exact ⟨rfl, Below.refl _ _⟩
  · obtain ⟨e1, e2⟩ := setE_out (i := i) h (by unfold inB; simp; omega)
    rw [e1, e2]
    have h2 : ((s.size : Int) != 32) = false := by simp; omega
    have h3 : i > 255 := by omega
    clear h e1 e2
    go_enter Tryz.func66, Tryz.ntmps66
    go_wp2_with fail
    go_ret2
    exact ⟨rfl, Below.refl _ _⟩
set_option maxRecDepth 100000 in
set_option maxHeartbeats 800000 in
theorem rset11_good (s : ByteArray) (m : Nat) (w : World) (hs : s.size = 32) (hm : m < 256) :
    Calls Tryz.prog 66 #[.string s, .int .i64 m] w (GivesBSE w (tx (withB (bts s) m)) 0) := by
  obtain ⟨cap, w1, hcap, hcv, hown, hbel⟩ := convert_own w s
  rw [hs] at hcv hown
  have h1 : ((s.size : Int) != 32) = false := by simp; omega
  have HE := Lib.hid (withB_at (bts s) hm)
  have hj : m / 8 < 32 := by omega
  have hyl := bts_lt s (m / 8)
  have hor := u8_or_nat ((bts s).getD (m / 8) 0) (2 ^ (m % 8)) hyl (pow_byte (by omega))
  rw [← pow_mod (r := m % 8) (by omega)] at hor
  have hzl := or_bit_lt (x := (bts s).getD (m / 8) 0) (r := m % 8) hyl (by omega)
  have e1 : (m : Int) / 8 = ((m / 8 : Nat) : Int) := by omega
  have e2 : (m : Int) % 8 = ((m % 8 : Nat) : Int) := by omega
  have hm1 : (m : Int) ≤ 255 := by omega
  have hm0 : (0 : Int) ≤ (m : Int) := Int.natCast_nonneg _
  have hoc := hown.cell hj
  have hfz := hown.frozen hj
  have O2 := hown.set_ hj hzl
  have B2 := Lib.hid (hbel.setCell (p := ⟨w.heap.size, m / 8, none⟩) (Nat.le_refl _) (.int .u8 ((bts s).getD (m / 8) 0 ||| 2 ^ (m % 8) : Nat)))
  have hcb := convert_back _ (some ⟨w.heap.size, 0, none⟩) 32 cap _ O2.bs (by decide)
  rw [← HE.out] at hcb
  generalize withB (bts s) (m : Int) = bb at *
  have hgl := hown.lt
  generalize (bts s).getD (m / 8) 0 ||| 2 ^ (m % 8) = z at *
  generalize (bts s).getD (m / 8) 0 = y at *
  have hj0 : (0 : Int) ≤ ((m / 8 : Nat) : Int) := Int.natCast_nonneg _
  have hj1 : ((m / 8 : Nat) : Int) < 32 := by omega
  have hr0 : (0 : Int) ≤ ((m % 8 : Nat) : Int) := Int.natCast_nonneg _
  have hr1 : ((m % 8 : Nat) : Int) < 8 := by omega
  generalize m / 8 = j at *
  generalize m % 8 = r at *
  generalize hg : w.heap.size = g at *
  have HG := Lib.hid hg
  clear hg
  clear hs hm hj hyl hzl hown hbel HE O2 hcap
  go_enter Tryz.func66, Tryz.ntmps66
  go_wp2_with fail
  go_ret2
  exact ⟨rfl, by rw [HG.out]; exact B2.out⟩
theorem rset11_any (s : ByteArray) (i : Int) (w : World) :
    Calls Tryz.prog 66 #[.string s, .int .i64 i] w (GivesBSE w (setS s i) (setE s i)) := by
  by_cases h : s.size = 32
  · cases hi : inB i with
    | false =>
      refine rset11_bad s i w ?_
      rcases inB_no hi with h' | h'
      · exact Or.inr (Or.inl ⟨h, h'⟩)
      · exact Or.inr (Or.inr ⟨h, by omega, h'⟩)
    | true =>
      obtain ⟨h1, h2⟩ := setE_in h hi
      rw [h1, h2]
      obtain ⟨h0, h1⟩ := inB_yes hi
      obtain ⟨m, rfl⟩ := Int.eq_ofNat_of_zero_le h0
      exact rset11_good s m w h (by omega)
  · exact rset11_bad s i w (Or.inl h)

theorem withK_size (l : List Int) (k : Nat) : (tx (withK noB l k)).size = 32 := by rw [tx_size, withK_len, noB_len]
set_option maxRecDepth 100000 in
set_option maxHeartbeats 1600000 in
theorem rof_any (A : Option Addr) (n c : Nat) (l : List Int) (w : World) (hl : Is w A n l) (hn : n ≤ 140737488355328) :
    Calls Tryz.prog 38 #[.slice A n c] w (GivesS w (ofS l)) := by
  obtain rfl : l.length = n := hl.len
  have HL := Lib.hid hl
  clear hl
  have HE := Lib.hid (fun w => rempty_any w)
  go_enter Tryz.func38, Tryz.ntmps38
  go_wp2_with fail
  refine (HE.out _).mono ?_; rintro e w1 ⟨rfl, g1⟩
  have B1 := Lib.hid g1
  clear g1
  go_wp2_with fail
  go_loopw [3, 4] (fun v i wr => ∃ k : Nat, k ≤ l.length ∧ i = .int .i64 k ∧ v = .string (tx (withK noB l k)) ∧ Below w.heap.size w wr) (fun _ i _ => l.length - (intOf i).toNat)
  case atStart => exact ⟨0, by omega, rfl, rfl, B1.out⟩
  case round =>
    clear B1
    obtain ⟨k, hk, rfl, rfl, hb⟩ := hrel
    have HB := Lib.hid hb
    clear hb
    by_cases hlt : k < l.length
    · obtain ⟨ad, rfl, had, hac⟩ := HL.out.at_ hlt
      have hac1 : wr.cell? (ad.add k) = some (.int .i64 (l.getD k 0)) := (HB.out.cell (by rw [add_block]; exact had)).trans hac
      clear hac
      have hlt' : (k : Int) < (l.length : Int) := by omega
      have hk0 : (0 : Int) ≤ (k : Int) := Int.natCast_nonneg _
      have hs := withK_size l k
      have HX := Lib.hid (withK_succ noB l k)
      have HR := fun w => rset11_any (tx (withK noB l k)) (l.getD k 0) w
      generalize l.getD k 0 = x at *
      cases hi : inB x with
      | false =>
        obtain ⟨h1, h2⟩ := setE_out (i := x) hs hi
        rw [h1, h2] at HR
        have HR' := Lib.hid HR
        have HE : Hid (withK noB l (k + 1) = withK noB l k) := Lib.hid (by rw [HX.out, withB_out hi])
        clear HR h1 h2 hs hi
        generalize hT : tx (withK noB l k) = t at *
        have HT := Lib.hid hT
        clear hT
        go_wp2_with fail
        refine (HR'.out _).mono ?_; rintro e w2 ⟨rfl, g2⟩
        have HB2 := Lib.hid (HB.out.trans (g2.mono HB.out.size))
        clear g2
        go_wp2_with fail
        go_roundw
        case rel => exact ⟨k + 1, by omega, by go_num, by rw [HE.out, HT.out], HB2.out⟩
        case measure => simp [intOf]; omega
      | true =>
        obtain ⟨h1, h2⟩ := setE_in (i := x) hs hi
        rw [h1, h2, bts_tx (withK_lt noB_lt l k), ← HX.out] at HR
        have HR' := Lib.hid HR
        clear HR h1 h2 hs hi
        go_wp2_with fail
        refine (HR'.out _).mono ?_; rintro e w2 ⟨rfl, g2⟩
        have HB2 := Lib.hid (HB.out.trans (g2.mono HB.out.size))
        clear g2
        go_wp2_with fail
        go_roundw
        case rel => exact ⟨k + 1, by omega, by go_num, rfl, HB2.out⟩
        case measure => simp [intOf]; omega
    · obtain rfl : k = l.length := by omega
      go_wp2_with fail
      go_ret
      exact ⟨rfl, HB.out⟩
set_option maxRecDepth 100000 in
set_option maxHeartbeats 800000 in
theorem count_any (s : ByteArray) (w : World) :
    Calls Tryz.prog 51 #[.string s] w fun e w' => e = .returned (.int .i64 (cntN s 256 : Nat)) ∧ Below w.heap.size w w' := by
  go_enter Tryz.func51, Tryz.ntmps51
  go_wp2_with fail
  go_loopw [3, 5] (fun v i wr => ∃ k : Nat, k ≤ 256 ∧ i = .int .i64 k ∧ v = .int .i64 (cntN s k : Nat) ∧ Below w.heap.size w wr) (fun _ i _ => 256 - (intOf i).toNat)
  case atStart => exact ⟨0, by omega, rfl, rfl, Below.refl _ _⟩
  case round =>
    obtain ⟨k, hk, rfl, rfl, hb⟩ := hrel
    have HB := Lib.hid hb
    clear hb
    by_cases hlt : k < 256
    · have hlt' : (k : Int) < 256 := by omega
      have hk0 : (0 : Int) ≤ (k : Int) := Int.natCast_nonneg _
      have HX := Lib.hid (cntN_succ s k)
      have hle : (cntN s k : Int) ≤ 256 := by have := cntN_le s k; omega
      have hge : (0 : Int) ≤ (cntN s k : Int) := Int.natCast_nonneg _
      have HH := Lib.hid (fun w => has_any s k w)
      cases hv : hasB s (k : Int) with
      | false =>
        have HE : Hid (cntN s (k + 1) = cntN s k) := Lib.hid (by rw [HX.out, if_neg (by simp [hv])]; rfl)
        rw [hv] at HH
        clear hv HX
        generalize cntN s k = q at *
        go_wp2_with fail
        refine (HH.out _).mono ?_; rintro e w2 ⟨rfl, g2⟩
        have HB2 := Lib.hid (HB.out.trans ((two_drawn (B := wr.heap.size) g2).mono HB.out.size))
        clear g2
        go_wp2_with fail
        go_roundw
        case rel => exact ⟨k + 1, by omega, by go_num, by rw [HE.out], HB2.out⟩
        case measure => simp [intOf]; omega
      | true =>
        have HE : Hid (cntN s (k + 1) = cntN s k + 1) := Lib.hid (by rw [HX.out, if_pos hv])
        rw [hv] at HH
        clear hv HX
        generalize cntN s k = q at *
        go_wp2_with fail
        refine (HH.out _).mono ?_; rintro e w2 ⟨rfl, g2⟩
        have HB2 := Lib.hid (HB.out.trans ((two_drawn (B := wr.heap.size) g2).mono HB.out.size))
        clear g2
        go_wp2_with fail
        go_roundw
        case rel => exact ⟨k + 1, by omega, by go_num, by rw [HE.out]; go_num, HB2.out⟩
        case measure => simp [intOf]; omega
    · obtain rfl : k = 256 := by omega
      go_wp2_with fail
      go_ret
      exact ⟨rfl, HB.out⟩
end Go.Proofs.YtodokgkchmpmnaaGreat

/- Proved: what Missing of package bits, and its twin of the document, answer for every string and all ints; and what the document's Ints answers of two lists that are the same. Conditions: those that the theorems name. -/
namespace Go.Proofs.YtodokgkchmpmnaaGreat
open Go.ChangeShapes Go.WideShapes Go.ChangeAt Go.RowKit

set_option maxRecDepth 100000 in
set_option maxHeartbeats 1600000 in
theorem mis_good (s : ByteArray) (n most : Int) (w : World) (hs : s.size = 32) :
    Calls Tryz.prog 52 #[.string s, .int .i64 n, .int .i64 most] w (GivesL w (misK s most (min n 255).toNat)) := by
  obtain ⟨i0, hi0, hz0, hz1, hz2⟩ := info_parts Tryz.zInfo
  have HS := Lib.hid (fun w => sized11_any s w)
  rw [decide_eq_true hs] at HS
  clear hs
  obtain ⟨M, hM⟩ : ∃ M, M = (min n 255).toNat := ⟨_, rfl⟩
  rw [← hM]
  have hk : 255 < n ∨ ¬ 255 < n := by omega
  rcases hk with hc | hc
  all_goals
    have hM1 : M ≤ 255 := by omega
    first | have HMC : Hid (M = 255) := Lib.hid (by omega) | have HMC : Hid (M = n.toNat) := Lib.hid (by omega)
    have HM2 : Hid ((M : Int) ≤ n ∨ M = 0) := Lib.hid (by omega)
    clear hM
    go_enter Tryz.func52, Tryz.ntmps52
    go_wp2_with fail
    refine (HS.out _).mono ?_; rintro e w1 ⟨rfl, rfl⟩
    go_wp2_with fail
    go_loopw [7, 14] (fun v i wr => ∃ k : Nat, k ≤ M ∧ i = .int .i64 k ∧ wr.ownsRow w.heap.size 3 1 v (misK s most k).length (zcells (misK s most k)) ∧ Below w.heap.size w wr) (fun _ i _ => M - (intOf i).toNat)
    case atStart => exact ⟨0, by omega, rfl, World.ownsRow_nil _ _ _ _, Below.refl _ _⟩
    case round =>
      obtain ⟨k, hk, rfl, hown, hb⟩ := hrel
      obtain ⟨A, c, rfl, hc, hi⟩ := is_zof hown
      have HO := Lib.hid hown
      have HI := Lib.hid hi
      have HB := Lib.hid hb
      clear hown hb hi hc
      have hk0 : (0 : Int) ≤ (k : Int) := Int.natCast_nonneg _
      have HLE := Lib.hid (misK_len s most k)
      by_cases hlt : k < M
      · have hlt1 : (k : Int) < 255 := by omega
        have hlt2 : (k : Int) < n := by have := HM2.out; omega
        by_cases hmo : ((misK s most k).length : Int) < most
        · have HM := Lib.hid (fun h => misK_more (k := k) hmo h)
          have HN := Lib.hid (fun h => misK_has (s := s) (most := most) (k := k) h)
          have HH := Lib.hid (fun w => has_any s k w)
          have hge : ¬ ((misK s most k).length : Int) ≥ most := by omega
          have hlz := Lib.hid (hlt)
          cases hv : hasB s (k : Int) with
          | true =>
            have HE := Lib.hid (HN.out hv)
            rw [hv] at HH
            clear hv HM HN
            generalize misK s most k = l at *
            go_wp2_with fail
            refine (HH.out _).mono ?_; rintro e w2 ⟨rfl, q, rfl⟩
            go_wp2_with fail
            go_roundw
            case rel => exact ⟨k + 1, hlz.out, by go_num, by rw [HE.out]; exact HO.out, below_drawn_of HB.out q⟩
            case measure => have := hlz.out; simp [intOf]; omega
          | false =>
            have HE := Lib.hid (HM.out hv)
            rw [hv] at HH
            clear hv HM HN
            generalize misK s most k = l at *
            have hmax : l.length + 1 ≤ maxLen := by have := HLE.out; unfold maxLen; omega
            have hlb : l.length ≤ 255 := by have := HLE.out; omega
            go_wp2_with fail
            refine (HH.out _).mono ?_; rintro e w2 ⟨rfl, q, rfl⟩
            have HO2 : Hid ((wr.drewN q).ownsRow w.heap.size 3 1 (.slice A l.length c) l.length (zcells l)) := Lib.hid HO.out
            have HB2 := Lib.hid (below_drawn_of HB.out q)
            clear HO HB HI
            generalize wr.drewN q = w3 at *
            have hws := HB2.out.size
            go_wp2_with (at_builtin; refine wpList_append_lies _ rfl _ _ _ rfl w.heap.size 3 i0 _ 1 8 Tryz.underlying82 hi0 hz0 hz1 hz2 rfl (by omega) _ l.length _ rfl (HO2.out.alloc _) ⟨w3.heap.size, 0, none⟩ 1 1 [Value.int .i64 (k : Int)] rfl rfl (World.news_of_block (cs := #[Value.int .i64 (k : Int)]) (t := 3) (fr := (0, 0)) (heap_alloc_new w3 _)) (by simp [Value.oneCell']) (by omega) hmax (by omega) (by simp; omega) (w3.heap.size + 1) (by simp) ?_; intro gg cap w4 hown1 hgrow hat hlt1)
            go_roundw
            case rel =>
              refine ⟨k + 1, hlz.out, by go_num, ?_, (HB2.out.alloc hws _).grown hgrow (by simp; omega) (fun i e => (HO2.out.lt i e).1)⟩
              rw [HE.out, ← zcells_snoc, List.length_append]
              exact hown1
            case measure => have := hlz.out; simp [intOf]; omega
        · have HE := Lib.hid (misK_stop_at hmo hk)
          have hge : ((misK s most k).length : Int) ≥ most := by omega
          generalize misK s most k = l at *
          clear hmo
          go_wp2_with fail
          go_ret
          rw [HE.out]
          exact ⟨_, _, rfl, HI.out, HB.out⟩
      · have HE : Hid (k = M) := Lib.hid (by omega)
        first | have hg : ¬ (k : Int) < 255 := by (have := HMC.out; omega) | have hg : ¬ (k : Int) < n := by (have := HMC.out; omega)
        go_wp2_with fail
        go_ret
        rw [← HE.out]
        exact ⟨_, _, rfl, HI.out, HB.out⟩
theorem misL_size {s : ByteArray} (h : s.size ≠ 32) (n most : Int) : misL s n most = [] := if_neg h
theorem misL_good {s : ByteArray} (h : s.size = 32) (n most : Int) : misL s n most = misK s most (min n 255).toNat := if_pos h
theorem missing_any (s : ByteArray) (n most : Int) (w : World) :
    Calls Tryz.prog 52 #[.string s, .int .i64 n, .int .i64 most] w (GivesL w (misL s n most)) := by
  by_cases h : s.size = 32
  · rw [misL_good h]; exact mis_good s n most w h
  · rw [misL_size h]
    have HS := Lib.hid (fun w => sized11_any s w)
    rw [decide_eq_false h] at HS
    clear h
    go_enter Tryz.func52, Tryz.ntmps52
    go_wp2_with fail
    refine (HS.out _).mono ?_; rintro e w1 ⟨rfl, rfl⟩
    go_wp2_with fail
    go_ret
    exact ⟨_, _, rfl, Is.nil _ _, Below.refl _ _⟩
end Go.Proofs.YtodokgkchmpmnaaGreat

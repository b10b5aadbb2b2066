/- Proved: what Mul of package matrix answers for every two tables. Conditions: those that the theorems name. -/
import Derived.Test.YtneaddgpbffkpaaMatMul
namespace Go.Proofs.Ytneaddgpbffkpaa
open Go.ChangeShapes Go.WideShapes Go.ChangeAt Go.RowKit

def mulE (a b : List (List Nat)) : Nat := if chk a ≠ 0 then chk a else if chk b ≠ 0 then chk b else if (rw_ a 0).length = b.length then 0 else 16
def mulV (a b : List (List Nat)) : List (List Nat) := if mulE a b = 0 then mulL a.length b.length (rw_ b 0).length a b else []

set_option maxHeartbeats 400000 in
theorem mul_bad1 (A B : Option Addr) (n m c d : Nat) (a : List (List Nat)) (w : World) (ha : Rows w A n a) (h1 : chk a ≠ 0) :
    Calls Try.prog 9 #[.slice A n c, .slice B m d] w (GivesT w 0 [] (chk a)) := by
  have HC := fun W h => check_any A n c a W h
  have HA := Lib.hid ha
  clear ha
  generalize chk a = k at *
  have HC' := Lib.hid HC
  clear HC
  have hk : ((k : Int) != 0) = true := by simp; omega
  have hk' : ¬ ((k : Int) = 0) := by omega
  go_enter Try.func9, Try.ntmps9
  go_wp2_with fail
  refine (HC'.out _ HA.out).mono ?_; rintro e w' ⟨rfl, rfl⟩
  go_wp2_with fail
  go_ret2
  exact ⟨_, _, rfl, Rows.nil _ _, Below.refl _ _⟩

set_option maxHeartbeats 400000 in
theorem mul_bad2 (A B : Option Addr) (n m c d : Nat) (a b : List (List Nat)) (w : World) (ha : Rows w A n a) (hb : Rows w B m b) (h1 : chk a = 0) (h2 : chk b ≠ 0) :
    Calls Try.prog 9 #[.slice A n c, .slice B m d] w (GivesT w 0 [] (chk b)) := by
  have HC := fun W h => check_any B m d b W h
  have HD := fun W h => check_any A n c a W h
  rw [h1] at HD
  have HD' := Lib.hid HD
  have HA := Lib.hid ha
  have HB := Lib.hid hb
  clear ha hb h1 HD
  generalize chk b = k at *
  have HC' := Lib.hid HC
  clear HC
  have hk : ((k : Int) != 0) = true := by simp; omega
  have hk' : ¬ ((k : Int) = 0) := by omega
  go_enter Try.func9, Try.ntmps9
  go_wp2_with fail
  refine (HD'.out _ HA.out).mono ?_; rintro e w' ⟨rfl, rfl⟩
  go_wp2_with fail
  refine (HC'.out _ HB.out).mono ?_; rintro e w' ⟨rfl, rfl⟩
  go_wp2_with fail
  go_ret2
  exact ⟨_, _, rfl, Rows.nil _ _, Below.refl _ _⟩

set_option maxHeartbeats 400000 in
theorem mul_bad3 (A B : Option Addr) (n m c d : Nat) (a b : List (List Nat)) (w : World) (ha : Rows w A n a) (hb : Rows w B m b) (h1 : chk a = 0) (h2 : chk b = 0) (h3 : (rw_ a 0).length ≠ b.length) :
    Calls Try.prog 9 #[.slice A n c, .slice B m d] w (GivesT w 0 [] 16) := by
  have HC := fun W h => check_any B m d b W h
  have HD := fun W h => check_any A n c a W h
  rw [h1] at HD
  rw [h2] at HC
  have hd := chk_zero h1
  rw [ha.len] at hd
  obtain ⟨ad, B1, d1, rfl, _, hc, _⟩ := ha.at_ (k := 0) (by have := hd.1.1; omega)
  rw [Addr.add_zero' ad] at hc
  rw [hb.len] at h3
  have hn : 0 < n := hd.1.1
  have HC' := Lib.hid HC
  have HD' := Lib.hid HD
  have HA := Lib.hid ha
  have HB := Lib.hid hb
  clear ha hb h1 h2 HC HD hd
  generalize (rw_ a 0).length = k at *
  have hk : ((k : Int) != (m : Int)) = true := by simp; omega
  go_enter Try.func9, Try.ntmps9
  go_wp2_with fail
  refine (HD'.out _ HA.out).mono ?_; rintro e w' ⟨rfl, rfl⟩
  go_wp2_with fail
  refine (HC'.out _ HB.out).mono ?_; rintro e w' ⟨rfl, rfl⟩
  go_wp2_with fail
  go_ret2
  exact ⟨_, _, rfl, Rows.nil _ _, Below.refl _ _⟩

set_option maxRecDepth 100000 in
set_option maxHeartbeats 800000 in
theorem mul_good (A B : Option Addr) (n k m c d : Nat) (a b : List (List Nat)) (w : World) (ha : Rows w A n a) (hb : Rows w B k b) (h1 : chk a = 0) (h2 : chk b = 0) (hla : ∀ r, r < n → (rw_ a r).length = k) (hlb : ∀ r, r < k → (rw_ b r).length = m)
    (hn1 : 1 ≤ n) (hn2 : n ≤ 255) (hk1 : 1 ≤ k) (hk2 : k ≤ 255) (hm1 : 1 ≤ m) (hm2 : m ≤ 255) :
    Calls Try.prog 9 #[.slice A n c, .slice B k d] w (GivesT w n (mulL n k m a b) 0) := by
  have hmT := run_make_row' (P := Try.prog) 22 42 (.slice none 0 0) 24 Try.underlying22 Try.infoRow rfl .i64 .i64 n (by omega) (by omega)
  have HC := fun W h => check_any B k d b W h
  have HD := fun W h => check_any A n c a W h
  rw [h1] at HD
  rw [h2] at HC
  have HC' := Lib.hid HC
  have HD' := Lib.hid HD
  have HA := Lib.hid ha
  have HB := Lib.hid hb
  have HLA := Lib.hid hla
  have HLB := Lib.hid hlb
  clear ha hb h1 h2 HC HD hla hlb
  obtain ⟨ad, B1, d1, rfl, had, hc, _⟩ := HA.out.at_ (k := 0) (by omega)
  rw [Addr.add_zero' ad, HLA.out 0 (by omega)] at hc
  have hn : 0 < n := hn1
  go_enter Try.func9, Try.ntmps9
  go_wp2_with fail
  refine (HD'.out _ HA.out).mono ?_; rintro e w' ⟨rfl, rfl⟩
  go_wp2_with fail
  refine (HC'.out _ HB.out).mono ?_; rintro e w' ⟨rfl, rfl⟩
  go_wp2_with fail
  refine (columns_any B k d m b w HB.out HLB.out hk1 hk2 hm1 hm2).mono ?_; rintro e w1 ⟨A1, c1, rfl, h1, g1⟩
  have HT := Lib.hid h1; have G1 := Lib.hid g1; clear h1 g1 hc
  go_wp2_with fail
  have HO := Lib.hid (ownT_new w1 n)
  have HW := Lib.hid ((Below.refl w1.heap.size w1).alloc (Nat.le_refl _) (.cells (madeCells #[.slice none 0 0] n) 42))
  generalize hgg : w1.heap.size = g at *
  have HG := Lib.hid hgg
  have hwg : w.heap.size ≤ g := by rw [← hgg]; exact G1.out.size
  clear hgg
  go_loopw [36] (fun i wr => ∃ q : Nat, q ≤ n ∧ i = .int .i64 q ∧ ∃ t, UptoT n q (fun i => mk m fun j => dotN k (rw_ a i) (colL k b j)) t ∧ OwnT wr g n t ∧ Below g w1 wr) (fun i _ => n - (intOf i).toNat)
  case atStart => exact ⟨0, by omega, rfl, _, UptoT.start (by simp), HO.out, HW.out⟩
  case round =>
    obtain ⟨q, hq, rfl, t, hu, ho, hbel⟩ := hrel
    have HU := Lib.hid hu
    have HO' := Lib.hid ho
    have HW' := Lib.hid hbel
    clear hu ho hbel HO HW
    have GW : Hid (Below w.heap.size w wr) := Lib.hid (G1.out.trans (HW'.out.mono hwg))
    by_cases hlt : q < n
    · obtain ⟨ad', C, e, e', _, hac, hbs⟩ := HA.out.at_ hlt
      injection e' with e'
      subst e'
      rw [← GW.out.cell (p := ad.add q) (by rw [add_block]; exact had), HLA.out q hlt] at hac
      have H1 := Lib.hid (hbs.below GW.out)
      have H2 : Hid (Rows wr A1 m (mkR m (colL k b))) := Lib.hid (HT.out.below (by rw [HG.out]; exact HW'.out))
      clear hbs
      rw [HLA.out q hlt] at H1
      have hl2 : Hid (∀ r, r < m → (rw_ (mkR m (colL k b)) r).length = k) := Lib.hid fun r hr => by rw [mkR_at _ _ _ hr]; exact mk_len _ _
      go_wp2_with fail
      refine (dots_any C A1 k m e c1 (rw_ a q) _ _ H1.out H2.out hl2.out hk2 hm1 hm2).mono ?_; rintro e w2 ⟨A2, c2, rfl, k2, h2, g2⟩
      have H3 := Lib.hid h2; have G2 := Lib.hid g2; clear h2 g2
      have HO2 := Lib.hid (HO'.out.below G2.out)
      have hgl := HO'.out.block_lt
      have HW2 : Hid (Below g w1 w2) := Lib.hid (HW'.out.trans (G2.out.mono (by omega)))
      obtain ⟨B3, c3, hc3, _⟩ := HO2.out.at_ hlt
      have hfz := HO2.out.frozen q
      go_wp2_with fail
      go_roundw
      case rel =>
        have e : (mk m fun j => dotN k (rw_ a q) (rw_ (mkR m (colL k b)) j)) = mk m fun j => dotN k (rw_ a q) (colL k b j) := eq_mk (mk_len _ _) fun j hj => by rw [mk_at _ _ _ hj, mkR_at _ _ _ hj]
        have h := H3.out
        rw [e] at h
        exact ⟨q + 1, by omega, by go_num, _, HU.out.next hlt, HO2.out.set_ hlt k2 h, HW2.out.setCell (Nat.le_refl g) _⟩
      case measure => simp [intOf]; omega
    · obtain rfl : q = n := by omega
      go_wp2_with fail
      go_ret2
      exact ⟨_, _, rfl, by rw [mulL, ← HU.out.done]; exact HO'.out.rows, GW.out⟩

theorem tmul_any (A B : Option Addr) (n m c d : Nat) (a b : List (List Nat)) (w : World) (ha : Rows w A n a) (hb : Rows w B m b) :
    Calls Try.prog 9 #[.slice A n c, .slice B m d] w (GivesT w (mulV a b).length (mulV a b) (mulE a b)) := by
  by_cases h1 : chk a = 0
  · by_cases h2 : chk b = 0
    · by_cases h3 : (rw_ a 0).length = b.length
      · have e : mulE a b = 0 := by unfold mulE; rw [if_neg (by omega), if_neg (by omega), if_pos h3]
        obtain ⟨n1, k1, l1, r1, r2, r3, r4, r5, r6⟩ := chk_dims h1
        obtain ⟨m1, p1, l2, s1, s2, s3, s4, s5, s6⟩ := chk_dims h2
        have hn : n1 = n := l1.symm.trans ha.len
        have hm : m1 = m := l2.symm.trans hb.len
        have hk : k1 = m := by omega
        subst hn hm hk
        have := mul_good A B n1 k1 p1 c d a b w ha hb h1 h2 r6 s6 r1 r2 s1 s2 s3 s4
        unfold mulV
        rw [e, if_pos rfl, l1, l2, s5]
        have hl : (mulL n1 k1 p1 a b).length = n1 := mkR_len _ _
        rw [hl]
        exact this
      · have e : mulE a b = 16 := by unfold mulE; rw [if_neg (by omega), if_neg (by omega), if_neg h3]
        unfold mulV
        rw [e, if_neg (by decide)]
        exact mul_bad3 A B n m c d a b w ha hb h1 h2 h3
    · have e : mulE a b = chk b := by unfold mulE; rw [if_neg (by omega), if_pos h2]
      unfold mulV
      rw [e, if_neg h2]
      exact mul_bad2 A B n m c d a b w ha hb h1 h2
  · have e : mulE a b = chk a := by unfold mulE; rw [if_pos h1]
    unfold mulV
    rw [e, if_neg h1]
    exact mul_bad1 A B n m c d a w ha h1
end Go.Proofs.Ytneaddgpbffkpaa

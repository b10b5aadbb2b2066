/- Proved: what columns, dots and Mul of package matrix answer for every table. Conditions: those that the theorems name. -/
import Derived.Test.YtneaddgpbffkpaaMatIdent
import Derived.Test.YtneaddgpbffkpaaVecDot
namespace Go.Proofs.Ytneaddgpbffkpaa
open Go.ChangeShapes Go.WideShapes Go.ChangeAt Go.RowKit

theorem Rows.good {w : World} {A : Option Addr} {n m : Nat} {t : List (List Nat)} (h : Rows w A n t) (hl : ∀ r, r < n → (rw_ t r).length = m) : Good n m t :=
  ⟨h.len, hl, fun r hr => by
    obtain ⟨_, _, _, _, _, _, hb⟩ := h.at_ hr
    exact hb.lt⟩
/-- A table with t comes back; nothing that was there has turned. -/
def GivesR (W : World) (n : Nat) (t : List (List Nat)) (e : Ending) (w' : World) : Prop :=
  ∃ A c, e = .returned (.slice A n c) ∧ Rows w' A n t ∧ Below W.heap.size W w'

/-- what the inner loop of columns holds. -/
def ColMid (wr : World) (g k n q : Nat) (f : Nat → Nat) (w2 : World) : Prop :=
  ∃ v l, w2 = v.setCell ⟨g, k, none⟩ (.slice (some ⟨wr.heap.size, 0, none⟩) n n) ∧ Below wr.heap.size wr v ∧ Own v wr.heap.size n l ∧ Upto n q f (List.replicate n 0) l
theorem ColMid.start {wr : World} {g k n : Nat} (f : Nat → Nat) (hg : g < wr.heap.size) :
    ColMid wr g k n 0 f ((wr.setCell ⟨g, k, none⟩ (.slice (some ⟨wr.heap.size, 0, none⟩) n n)).alloc (.cells (madeCells #[.int .u8 0] n) 5)) := by
  refine ⟨_, _, (World.setCell_alloc_past _ g k _ hg).symm, (Below.refl _ _).alloc (Nat.le_refl _) _, own_new wr n, Upto.start (by simp)⟩
theorem ColMid.drew {wr w2 : World} {g k n q : Nat} {f : Nat → Nat} (h : ColMid wr g k n q f w2) : ColMid wr g k n q f w2.drew := by
  obtain ⟨v, l, rfl, hb, hown, hu⟩ := h
  exact ⟨v.drew, l, rfl, hb.drew, hown, hu⟩
theorem ColMid.facts {wr w2 : World} {g k n q : Nat} {f : Nat → Nat} {t : List (List Nat)} {m : Nat} (h : ColMid wr g k n q f w2) (ho : OwnT wr g m t) (hk : k < m) (hq : q < n) :
    w2.cell? ⟨g, k, none⟩ = some (.slice (some ⟨wr.heap.size, 0, none⟩) n n) ∧ w2.cell? ⟨wr.heap.size, q, none⟩ = some (.int .u8 0) ∧ w2.frozen? ⟨wr.heap.size, q, none⟩ = false ∧ wr.heap.size < w2.heap.size := by
  obtain ⟨v, l, rfl, hb, hown, hu⟩ := h
  obtain ⟨B, c, hc, _⟩ := (ho.below hb).at_ hk
  have hgl := ho.block_lt
  refine ⟨World.cell?_setCell_same _ _ _ hc, ?_, ?_, ?_⟩
  · rw [World.cell?_setCell_other _ _ _ _ (by intro e; injection e; omega)]
    have := hown.cell hq
    rw [hu.here hq, rep_at] at this
    exact this
  · rw [World.frozen?_setCell]; exact hown.frozen q
  · simpa using hown.block_lt
theorem ColMid.next {wr w2 : World} {g k n q : Nat} {f : Nat → Nat} (h : ColMid wr g k n q f w2) (hg : g < wr.heap.size) (hq : q < n) (hf : f q < 256) :
    ColMid wr g k n (q + 1) f (w2.setCell ⟨wr.heap.size, q, none⟩ (.int .u8 (f q : Nat))) := by
  obtain ⟨v, l, rfl, hb, hown, hu⟩ := h
  refine ⟨_, _, set_comm _ _ _ _ _ (by simp; omega), hb.setCell (by simp) _, hown.set_ hq hf, hu.next hq⟩
theorem ColMid.done {wr w2 : World} {g k n : Nat} {f : Nat → Nat} {t : List (List Nat)} {m : Nat} (h : ColMid wr g k n n f w2) (ho : OwnT wr g m t) (hk : k < m) :
    OwnT w2 g m (t.set k (mk n f)) := by
  obtain ⟨v, l, rfl, hb, hown, hu⟩ := h
  have := hown.bs
  rw [hu.done] at this
  exact (ho.below hb).set_ hk (Nat.le_refl _) this
theorem ColMid.below {W wr w2 : World} {B g k n q : Nat} {f : Nat → Nat} (h : ColMid wr g k n q f w2) (hw : Below B W wr) (hB : B ≤ wr.heap.size) (hg : B ≤ g) : Below B W w2 := by
  obtain ⟨v, l, rfl, hb, hown, hu⟩ := h
  exact (hw.trans (hb.mono hB)).setCell hg _

set_option maxRecDepth 100000 in
set_option maxHeartbeats 1600000 in
theorem columns_any (A : Option Addr) (n c m : Nat) (t : List (List Nat)) (w : World) (ht : Rows w A n t) (hl : ∀ r, r < n → (rw_ t r).length = m) (hn1 : 1 ≤ n) (hn2 : n ≤ 255) (hm1 : 1 ≤ m) (hm2 : m ≤ 255) :
    Calls Try.prog 20 #[.slice A n c] w (GivesR w m (mkR m (colL n t))) := by
  have hmT := run_make_row' (P := Try.prog) 22 42 (.slice none 0 0) 24 Try.underlying22 Try.infoRow rfl .i64 .i64 m (by omega) (by omega)
  have hmR := run_make_row' (P := Try.prog) 42 5 (.int .u8 0) 1 Try.underlying42 Try.infoByte rfl .i64 .i64 n (by omega) (by omega)
  have HT := Lib.hid ht
  have HL := Lib.hid hl
  clear ht hl
  obtain ⟨ad, B0, c0, rfl, had, hc0, _⟩ := HT.out.at_ (k := 0) (by omega)
  rw [HL.out 0 (by omega), Addr.add_zero' ad] at hc0
  have hpos : (0 : Int) < (n : Int) := by omega
  go_enter Try.func20, Try.ntmps20
  go_wp2_with fail
  have HO := Lib.hid (ownT_new w m)
  have HW := Lib.hid ((Below.refl w.heap.size w).alloc (Nat.le_refl _) (.cells (madeCells #[.slice none 0 0] m) 42))
  generalize hgg : w.heap.size = g at *
  have HG := Lib.hid hgg
  clear hgg hc0
  go_loopw [14] (fun i wr => ∃ k : Nat, k ≤ m ∧ i = .int .i64 k ∧ ∃ t', UptoT m k (colL n t) t' ∧ OwnT wr g m t' ∧ Below g w wr) (fun i _ => m - (intOf i).toNat)
  case atStart => exact ⟨0, by omega, rfl, _, UptoT.start (by simp), HO.out, HW.out⟩
  case round =>
    obtain ⟨k, hk, rfl, t', hu, ho, hbel⟩ := hrel
    have HU := Lib.hid hu
    have HO' := Lib.hid ho
    have HW' := Lib.hid hbel
    clear hu ho hbel HO HW
    by_cases hlt : k < m
    · obtain ⟨B1, c1, hc1, _⟩ := HO'.out.at_ hlt
      have hgl := HO'.out.block_lt
      have hfz := HO'.out.frozen k
      have hne : g ≠ wr.heap.size := by omega
      go_wp2_with fail
      clear hc1 hfz
      go_loopw [25] (fun i w2 => ∃ q : Nat, q ≤ n ∧ i = .int .i64 q ∧ ColMid wr g k n q (fun r => (rw_ t r).getD k 0) w2) (fun i _ => n - (intOf i).toNat)
      case atStart => exact ⟨0, by omega, rfl, ColMid.start _ hgl⟩
      case round =>
        obtain ⟨q, hq, rfl, hmid⟩ := hrel
        rename_i w2
        have HM := Lib.hid hmid
        clear hmid
        by_cases hq' : q < n
        · obtain ⟨c2, c4, f4, hsz⟩ := HM.out.facts HO'.out hlt hq'
          have hb2 := Lib.hid (HM.out.below HW'.out (by omega) (Nat.le_refl g))
          obtain ⟨ad', B, c, e', _, hac, hbs⟩ := HT.out.at_ hq'
          injection e' with e'
          subst e'
          rw [HL.out q hq'] at hac
          have hkl : k < (rw_ t q).length := by rw [HL.out q hq']; exact hlt
          obtain ⟨bd, rfl, hbd, hbc⟩ := hbs.at_ hkl
          have hx := hbs.lt k
          clear hbs hkl
          obtain ⟨x, ex⟩ : ∃ x, x = (rw_ t q).getD k 0 := ⟨_, rfl⟩
          rw [← ex] at hbc hx
          have EX := Lib.hid ex
          clear ex
          rw [← hb2.out.cell (p := ad.add q) (by rw [add_block]; exact had)] at hac
          rw [← hb2.out.cell (p := bd.add k) (by rw [add_block, ← HG.out]; exact hbd)] at hbc
          have hne2 : (ad.add q).block ≠ wr.heap.size := by rw [add_block]; omega
          go_wp2_with fail
          go_region
          go_wp2_with fail
          go_roundw
          case rel => exact ⟨q + 1, by omega, by go_num, by have h := (HM.out.next hgl hq' (by show (rw_ t q).getD k 0 < 256; rw [← EX.out]; exact hx)).drew; rw [← EX.out] at h; exact h⟩
          case measure => simp [intOf]; omega
        · obtain rfl : q = n := by omega
          go_wp2_with fail
          go_roundw
          case rel => exact ⟨k + 1, by omega, by go_num, _, HU.out.next hlt, HM.out.done HO'.out hlt, HM.out.below HW'.out (by omega) (Nat.le_refl g)⟩
          case measure => simp [intOf]; omega
    · obtain rfl : k = m := by omega
      go_wp2_with fail
      go_ret
      exact ⟨_, _, rfl, by rw [← HU.out.done]; exact HO'.out.rows, by rw [HG.out]; exact HW'.out⟩

set_option maxRecDepth 100000 in
set_option maxHeartbeats 800000 in
theorem dots_any (A B : Option Addr) (n m c d : Nat) (a : List Nat) (t : List (List Nat)) (w : World) (ha : Bs w A n a) (ht : Rows w B m t) (hl : ∀ r, r < m → (rw_ t r).length = n) (hn : n ≤ 255) (hm1 : 1 ≤ m) (hm2 : m ≤ 255) :
    Calls Try.prog 21 #[.slice A n c, .slice B m d] w (GivesC w m (mk m fun j => dotN n a (rw_ t j))) := by
  have hmR := run_make_row' (P := Try.prog) 42 5 (.int .u8 0) 1 Try.underlying42 Try.infoByte rfl .i64 .i64 m (by omega) (by omega)
  have HA := Lib.hid ha
  have HT := Lib.hid ht
  have HL := Lib.hid hl
  clear ha ht hl
  obtain ⟨ad, _, _, rfl, had, _, _⟩ := HT.out.at_ (k := 0) (by omega)
  have hpos : (0 : Int) < (m : Int) := by omega
  go_enter Try.func21, Try.ntmps21
  go_wp2_with fail
  have HO := Lib.hid (own_new w m)
  have HW := Lib.hid ((Below.refl w.heap.size w).alloc (Nat.le_refl _) (.cells (madeCells #[.int .u8 0] m) 5))
  generalize hgg : w.heap.size = g at *
  have HG := Lib.hid hgg
  clear hgg
  go_loopw [13] (fun i wr => ∃ k : Nat, k ≤ m ∧ i = .int .i64 k ∧ ∃ l, Upto m k (fun j => dotN n a (rw_ t j)) (List.replicate m 0) l ∧ Own wr g m l ∧ Below g w wr) (fun i _ => m - (intOf i).toNat)
  case atStart => exact ⟨0, by omega, rfl, _, Upto.start (by simp), HO.out, HW.out⟩
  case round =>
    obtain ⟨k, hk, rfl, l, hu, ho, hbel⟩ := hrel
    have HU := Lib.hid hu
    have HO' := Lib.hid ho
    have HW' := Lib.hid hbel
    clear hu ho hbel HO HW
    by_cases hlt : k < m
    · obtain ⟨ad', B, c, e', _, hac, hbs⟩ := HT.out.at_ hlt
      injection e' with e'
      subst e'
      rw [← HW'.out.cell (p := ad.add k) (by rw [add_block]; exact had)] at hac
      have hbw : Below w.heap.size w wr := by rw [HG.out]; exact HW'.out
      have HB := Lib.hid (hbs.below hbw)
      have HA' := Lib.hid (HA.out.below hbw)
      clear hbs hbw
      rw [HL.out k hlt] at hac HB
      have hfz := HO'.out.frozen k
      have hcc := HO'.out.cell hlt
      have hdl := dotN_lt n a (rw_ t k) HA.out.lt
      have hbig : n ≤ 140737488355328 := by omega
      go_wp2_with (go_at_call 30; refine (dot_like A B n _ _ a (rw_ t k) _ HA'.out HB.out hbig).mono ?_; rintro e w' ⟨rfl, rfl⟩)
      go_roundw
      case rel => exact ⟨k + 1, by omega, by go_num, _, HU.out.next hlt, HO'.out.set_ hlt hdl, HW'.out.setCell (Nat.le_refl g) _⟩
      case measure => simp [intOf]; omega
    · obtain rfl : k = m := by omega
      go_wp2_with fail
      go_ret
      refine ⟨_, _, rfl, Nat.le_refl _, ?_, by rw [HG.out]; exact HW'.out⟩
      rw [← HU.out.done]
      exact HO'.out.bs
end Go.Proofs.Ytneaddgpbffkpaa

/- Proved: lemmas of one statement's proof, merged by program: what each part proves stands ahead of it. Conditions: those that the lemmas name. -/
import Derived.Test.YtooegclblgeicaaGreatDoorM6
import Derived.WalkSpells
import Derived.StillTactics
import Derived.OwnWalk
import Derived.Deep.RegionHeld3
import Derived.Deep.AppendLies
import Derived.Test.YtooegclblgeicaaGreatDoorM4

/- Proved: what Identity of package matrix and the document's Identity answer for every int. Conditions: those that the theorems name. -/
namespace Go.Proofs.YtooegclblgeicaaGreatDoor
open Go.ChangeShapes Go.WideShapes Go.ChangeAt Go.RowKit

theorem Tryz.infoRow : (Tryz.prog.info? 55).map (fun i => (i.zero, i.size, i.bytes)) = some (some (.slice none 0 0), 1, 24) := by kernel_rfl
/-- A table with t comes back, and the error k; nothing that was there has turned. -/
def GivesT (W : World) (n : Nat) (t : List (List Nat)) (k : Nat) (e : Ending) (w' : World) : Prop :=
  ∃ A c, e = .returned (.tuple #[.slice A n c, .int .i64 (k : Nat)]) ∧ Rows w' A n t ∧ Below W.heap.size W w'

set_option maxHeartbeats 400000 in
theorem ident_no (n : Int) (h : ¬ (1 ≤ n ∧ n ≤ 255)) (w : World) :
    Calls Tryz.prog 61 #[.int .i64 n] w (GivesT w 0 [] 1) := by
  have H := Lib.hid h
  clear h
  go_enter Tryz.func61, Tryz.ntmps61
  go_wp2_with fail
  refine (fits_no n H.out _).mono ?_; rintro e w' ⟨rfl, rfl⟩
  go_wp2_with fail
  go_ret2
  exact ⟨_, _, rfl, Rows.nil _ _, Below.refl _ _⟩

/-- two stores into two blocks, in whatever order. -/
theorem set_comm (w : World) (a b : Addr) (u v : Value) (h : a.block ≠ b.block) : (w.setCell a u).setCell b v = (w.setCell b v).setCell a u := by
  unfold World.setCell
  congr 1
  apply Array.ext_getElem?
  intro i
  simp only [Array.getElem?_modify]
  by_cases e1 : a.block = i <;> by_cases e2 : b.block = i
  · exact absurd (e1.trans e2.symm) h
  all_goals simp [e1, e2]

theorem ident_step {W wr : World} {g n k : Nat} {t : List (List Nat)} (ho : OwnT wr g n t) (hk : k < n) (hg : W.heap.size ≤ g) (hb : Below W.heap.size W wr) :
    OwnT ((wr.setCell ⟨g, k, none⟩ (.slice (some ⟨wr.heap.size, 0, none⟩) n n)).alloc (.cells ((madeCells #[.int .u8 0] n).setIfInBounds k (.int .u8 1)) 5)) g n (t.set k (mk n (unitN k))) ∧
    Below W.heap.size W ((wr.setCell ⟨g, k, none⟩ (.slice (some ⟨wr.heap.size, 0, none⟩) n n)).alloc (.cells ((madeCells #[.int .u8 0] n).setIfInBounds k (.int .u8 1)) 5)) := by
  have hlt := ho.block_lt
  have hs := hb.size
  refine ⟨?_, (hb.setCell hg _).alloc (by simp; omega) _⟩
  rw [← World.setCell_alloc_past _ g k _ hlt, ← World.setCell_alloc_at _ _ wr.heap.size k _ rfl]
  have h1 := (own_new wr n).set_ (x := 1) hk (by decide)
  rw [unit_of n k hk] at h1
  have h2 : OwnT ((wr.alloc (.cells (madeCells #[.int .u8 0] n) 5)).setCell ⟨wr.heap.size, k, none⟩ (.int .u8 ((1 : Nat) : Int))) g n t :=
    ho.below (((Below.refl _ _).alloc (Nat.le_refl _) _).setCell (by simp) _)
  exact h2.set_ hk (Nat.le_refl _) h1.bs

set_option maxHeartbeats 800000 in
theorem ident_yes (n : Nat) (h1 : 1 ≤ n) (h2 : n ≤ 255) (w : World) :
    Calls Tryz.prog 61 #[.int .i64 (n : Nat)] w (GivesT w n (idL n) 0) := by
  have hmT := run_make_row' (P := Tryz.prog) 54 55 (.slice none 0 0) 24 Tryz.underlying54 Tryz.infoRow rfl .i64 .i64 n (by omega) (by omega)
  have hmR := run_make_row' (P := Tryz.prog) 55 5 (.int .u8 0) 1 Tryz.underlying55 Tryz.infoByte rfl .i64 .i64 n (by omega) (by omega)
  have H1 : Hid ((1 : Int) ≤ (n : Int) ∧ (n : Int) ≤ 255) := Lib.hid ⟨by omega, by omega⟩
  have hpos : (0 : Int) ≤ (n : Int) := by omega
  go_enter Tryz.func61, Tryz.ntmps61
  go_wp2_with fail
  refine (fits_yes n H1.out.1 H1.out.2 _).mono ?_; rintro e w' ⟨rfl, rfl⟩
  go_wp2_with fail
  have HO := Lib.hid (ownT_new w n)
  have HW := Lib.hid ((Below.refl w.heap.size w).alloc (Nat.le_refl _) (.cells (madeCells #[.slice none 0 0] n) 55))
  have hg : w.heap.size ≤ w.heap.size := Nat.le_refl _
  generalize hgg : w.heap.size = g at *
  go_loopw [13] (fun i wr => ∃ k : Nat, k ≤ n ∧ i = .int .i64 k ∧ ∃ t, UptoT n k (fun i => mk n (unitN i)) t ∧ OwnT wr g n t ∧ Below g w wr) (fun i _ => n - (intOf i).toNat)
  case atStart => exact ⟨0, by omega, rfl, _, UptoT.start (by simp), HO.out, HW.out⟩
  case round =>
    obtain ⟨k, hk, rfl, t, hu, ho, hbel⟩ := hrel
    have HU := Lib.hid hu
    have HO' := Lib.hid ho
    have HW' := Lib.hid hbel
    clear hu ho hbel HO HW
    by_cases hlt : k < n
    · obtain ⟨B0, c0, hc0, _⟩ := HO'.out.at_ hlt
      have hgl := HO'.out.block_lt
      have hfz := HO'.out.frozen k
      have hne : g ≠ wr.heap.size := by omega
      have hX : (madeCells #[.int .u8 0] n)[k]? = some (.int .u8 0) := by simp [madeCells, hlt, Nat.mod_one]
      go_wp2_with fail
      go_roundw
      case rel =>
        have hst := ident_step (W := w) HO'.out hlt (by omega) (hgg ▸ HW'.out)
        exact ⟨k + 1, by omega, by go_num, _, HU.out.next hlt, hst.1, hgg ▸ hst.2⟩
      case measure => simp [intOf]; omega
    · obtain rfl : k = n := by omega
      go_wp2_with fail
      go_ret2
      refine ⟨_, _, rfl, ?_, by rw [hgg]; exact HW'.out⟩
      rw [idL, ← HU.out.done]
      exact HO'.out.rows

/-! ### the document's Identity -/
theorem made_zero {n k : Nat} (hk : k < n) : (madeCells #[.int .u8 0] n)[k]? = some (.int .u8 0) := by simp [madeCells, hk, Nat.mod_one]
theorem unit_new (w : World) (n k : Nat) (hk : k < n) : Bs (w.alloc (.cells ((madeCells #[.int .u8 0] n).setIfInBounds k (.int .u8 1)) 5)) (some ⟨w.heap.size, 0, none⟩) n (mk n (unitN k)) := by
  rw [← World.setCell_alloc_at _ _ w.heap.size k _ rfl]
  have h1 := (own_new w n).set_ (x := 1) hk (by decide)
  rw [unit_of n k hk] at h1
  exact h1.bs

end Go.Proofs.YtooegclblgeicaaGreatDoor

/- Proved: what Dot of package vector answers for every two rows of bytes. Conditions: those that the theorems name. -/
namespace Go.Proofs.YtooegclblgeicaaGreatDoor
open Go.ChangeShapes Go.WideShapes Go.ChangeAt Go.RowKit

end Go.Proofs.YtooegclblgeicaaGreatDoor

/- Proved: what columns, dots and Mul of package matrix answer for every table. Conditions: those that the theorems name. -/
namespace Go.Proofs.YtooegclblgeicaaGreatDoor
open Go.ChangeShapes Go.WideShapes Go.ChangeAt Go.RowKit

theorem Rows.good {w : World} {A : Option Addr} {n m : Nat} {t : List (List Nat)} (h : Rows w A n t) (hl : ∀ r, r < n → (rw_ t r).length = m) : Good n m t :=
  ⟨h.len, hl, fun r hr => by
    obtain ⟨_, _, _, _, _, _, hb⟩ := h.at_ hr
    exact hb.lt⟩
/-- A table with t comes back; nothing that was there has turned. -/
def GivesR (W : World) (n : Nat) (t : List (List Nat)) (e : Ending) (w' : World) : Prop :=
  ∃ A c, e = .returned (.slice A n c) ∧ Rows w' A n t ∧ Below W.heap.size W w'

/-- what the inner loop of columns holds. -/
def ColMid (wr : World) (g k n q : Nat) (f : Nat → Nat) (w2 : World) : Prop :=
  ∃ v l, w2 = v.setCell ⟨g, k, none⟩ (.slice (some ⟨wr.heap.size, 0, none⟩) n n) ∧ Below wr.heap.size wr v ∧ Own v wr.heap.size n l ∧ Upto n q f (List.replicate n 0) l
theorem ColMid.start {wr : World} {g k n : Nat} (f : Nat → Nat) (hg : g < wr.heap.size) :
    ColMid wr g k n 0 f ((wr.setCell ⟨g, k, none⟩ (.slice (some ⟨wr.heap.size, 0, none⟩) n n)).alloc (.cells (madeCells #[.int .u8 0] n) 5)) := by
  refine ⟨_, _, (World.setCell_alloc_past _ g k _ hg).symm, (Below.refl _ _).alloc (Nat.le_refl _) _, own_new wr n, Upto.start (by simp)⟩
theorem ColMid.drew {wr w2 : World} {g k n q : Nat} {f : Nat → Nat} (h : ColMid wr g k n q f w2) : ColMid wr g k n q f w2.drew := by
  obtain ⟨v, l, rfl, hb, hown, hu⟩ := h
  exact ⟨v.drew, l, rfl, hb.drew, hown, hu⟩
theorem ColMid.facts {wr w2 : World} {g k n q : Nat} {f : Nat → Nat} {t : List (List Nat)} {m : Nat} (h : ColMid wr g k n q f w2) (ho : OwnT wr g m t) (hk : k < m) (hq : q < n) :
    w2.cell? ⟨g, k, none⟩ = some (.slice (some ⟨wr.heap.size, 0, none⟩) n n) ∧ w2.cell? ⟨wr.heap.size, q, none⟩ = some (.int .u8 0) ∧ w2.frozen? ⟨wr.heap.size, q, none⟩ = false ∧ wr.heap.size < w2.heap.size := by
  obtain ⟨v, l, rfl, hb, hown, hu⟩ := h
  obtain ⟨B, c, hc, _⟩ := (ho.below hb).at_ hk
  have hgl := ho.block_lt
  refine ⟨World.cell?_setCell_same _ _ _ hc, ?_, ?_, ?_⟩
  · rw [World.cell?_setCell_other _ _ _ _ (by intro e; injection e; omega)]
    have := hown.cell hq
    rw [hu.here hq, rep_at] at this
    exact this
  · rw [World.frozen?_setCell]; exact hown.frozen q
  · simpa using hown.block_lt
theorem ColMid.next {wr w2 : World} {g k n q : Nat} {f : Nat → Nat} (h : ColMid wr g k n q f w2) (hg : g < wr.heap.size) (hq : q < n) (hf : f q < 256) :
    ColMid wr g k n (q + 1) f (w2.setCell ⟨wr.heap.size, q, none⟩ (.int .u8 (f q : Nat))) := by
  obtain ⟨v, l, rfl, hb, hown, hu⟩ := h
  refine ⟨_, _, set_comm _ _ _ _ _ (by simp; omega), hb.setCell (by simp) _, hown.set_ hq hf, hu.next hq⟩
theorem ColMid.done {wr w2 : World} {g k n : Nat} {f : Nat → Nat} {t : List (List Nat)} {m : Nat} (h : ColMid wr g k n n f w2) (ho : OwnT wr g m t) (hk : k < m) :
    OwnT w2 g m (t.set k (mk n f)) := by
  obtain ⟨v, l, rfl, hb, hown, hu⟩ := h
  have := hown.bs
  rw [hu.done] at this
  exact (ho.below hb).set_ hk (Nat.le_refl _) this
theorem ColMid.below {W wr w2 : World} {B g k n q : Nat} {f : Nat → Nat} (h : ColMid wr g k n q f w2) (hw : Below B W wr) (hB : B ≤ wr.heap.size) (hg : B ≤ g) : Below B W w2 := by
  obtain ⟨v, l, rfl, hb, hown, hu⟩ := h
  exact (hw.trans (hb.mono hB)).setCell hg _

end Go.Proofs.YtooegclblgeicaaGreatDoor

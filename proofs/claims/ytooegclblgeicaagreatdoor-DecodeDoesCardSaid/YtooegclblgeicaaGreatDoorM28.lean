/- Proved: lemmas of one statement's proof, merged by program: what each part proves stands ahead of it. Conditions: those that the lemmas name. -/
import Derived.Test.YtooegclblgeicaaGreatDoorM8
import Derived.Test.YtooegclblgeicaaGreatDoorM11

/- Proved: what the document's Mul of tables answers for every two tables. Conditions: those that the theorems name. -/
namespace Go.Proofs.YtooegclblgeicaaGreatDoor
open Go.ChangeShapes Go.WideShapes Go.ChangeAt Go.RowKit

theorem ownsRow_below {w w' : World} {base size n : Nat} {e : TypeId} {v : Value} {xs : List Value} (h : w.ownsRow base e size v n xs) (hb : Below w.heap.size w w') : w'.ownsRow base e size v n xs := by
  obtain ⟨h1, h2 | ⟨g, cap, cur, rfl, hg, hc, h3⟩⟩ := h
  · exact ⟨h1, Or.inl h2⟩
  · exact ⟨h1, Or.inr ⟨g, cap, cur, rfl, hg, (hb.block g (Array.getElem?_eq_some_iff.1 hc).1).trans hc, h3⟩⟩

end Go.Proofs.YtooegclblgeicaaGreatDoor

/- Proved: what the document's copied leaves of every table. Conditions: those that the theorems name. -/
namespace Go.Proofs.YtooegclblgeicaaGreatDoor
open Go.ChangeShapes Go.WideShapes Go.ChangeAt Go.RowKit

set_option maxRecDepth 100000 in
set_option maxHeartbeats 1600000 in
theorem copied_any (A : Option Addr) (n c : Nat) (t : List (List Nat)) (w : World) (ht : Rows w A n t) (h0 : 0 < n) (hn : n ≤ 255) (h1 : ∀ r, r < n → 0 < (rw_ t r).length ∧ (rw_ t r).length ≤ 1000) :
    Calls Tryz.prog 47 #[.slice A n c] w fun e w' => ∃ g cap, e = .returned (.slice (some ⟨g, 0, none⟩) n cap) ∧ w.heap.size ≤ g ∧ OwnT w' g n t ∧ Below w.heap.size w w' := by
  obtain ⟨i0, hi0, hz0, hz1, hz2⟩ := info_parts Tryz.infoRow
  obtain ⟨j0, hj0, hy0, hy1, hy2⟩ := info_parts Tryz.infoByte
  have HT := Lib.hid ht
  have H1 := Lib.hid h1
  clear ht h1
  go_enter Tryz.func47, Tryz.ntmps47
  go_wp2_with fail
  go_loopw [3, 4] (fun v i wr => ∃ r : Nat, r ≤ n ∧ i = .int .i64 r ∧ ∃ xs, wr.ownsRow w.heap.size 55 1 v r xs ∧ Cut wr v xs (mkR r (rw_ t)) ∧ Below w.heap.size w wr) (fun _ i _ => n - (intOf i).toNat)
  case atStart => exact ⟨0, by omega, rfl, _, World.ownsRow_nil _ _ _ _, Cut.nil _ _, Below.refl _ _⟩
  case round =>
    obtain ⟨r, hr, rfl, xs, hown, hcut, hbel⟩ := hrel
    rename World => w0
    have HO := Lib.hid hown
    have HCt := Lib.hid hcut
    have HW := Lib.hid hbel
    clear hown hcut hbel
    by_cases hlt : r < n
    · obtain ⟨ad, A1, e1, rfl, hadlt, hac, has⟩ := (HT.out.below HW.out).at_ hlt
      have hp := H1.out r hlt
      obtain ⟨bd, rfl, _, _⟩ := has.at_ hp.1
      have HAs := Lib.hid has
      have HL := Lib.hid has.len
      clear has
      generalize hl : rw_ t r = l at *
      have HLL := Lib.hid hl
      clear hl
      obtain ⟨y, hy⟩ : ∃ y, y = l.length := ⟨_, rfl⟩
      rw [← hy] at hac HAs hp
      have HY := Lib.hid hy
      clear hy HL
      have hp1 := hp.1
      have hp2 := hp.2
      clear hp
      have hmax : r + 1 ≤ maxLen := by unfold maxLen; omega
      have hws := HW.out.size
      go_wp2_with (first
        | (at_builtin; refine wpList_append_grows _ rfl _ _ 55 rfl 5 j0 (.int .u8 0) 1 1 Tryz.underlying55 hj0 hy0 hy1 hy2 rfl (by decide) none 0 0 [] rfl (fun _ => ⟨rfl, rfl⟩) rfl (by simp) bd y e1 (cells l) rfl (by rw [cells_len, HY.out, Nat.mul_one]) HAs.out.source (cells_one l) (by omega) (by unfold maxLen; omega) (by omega) ?_; intro v1 w1 hown1 hgr; rw [Nat.zero_add, List.nil_append] at hown1; have hb1 := (Below.refl _ _).grown hgr (Nat.le_refl _) (by simp); obtain ⟨g, cap, rfl, hg, hcap, _, ho1⟩ := own_of hown1 HAs.out.lt hp1; have f1 := Lib.hid ho1.bs; have f2 := Lib.hid (ownsRow_below HO.out hb1); have f3 := Lib.hid (HCt.out.below hb1); have f4 : Hid (Below w.heap.size w w1) := Lib.hid (HW.out.trans (hb1.mono hws)); have hws1 := f4.out.size; have f5 : Hid (∀ ad : Addr, (some ⟨g, 0, none⟩ : Option Addr) = some ad → 0 < y → u3.ownBlock ≠ some ad.block) := Lib.hid (by intro ad e _ q; injection e with e; subst e; have h1 : g < w0.heap.size := (HO.out.lt _ q).2; omega); clear hown1 hgr hb1 ho1 hg)
        | (at_builtin; refine wpList_append_lies _ rfl _ _ _ rfl w.heap.size 55 i0 _ 1 24 Tryz.underlying54 hi0 hz0 hz1 hz2 rfl (by omega) _ r _ rfl (f2.out.alloc _) ⟨w1.heap.size, 0, none⟩ 1 1 [.slice (some ⟨g, 0, none⟩) y cap] rfl rfl (World.news_of_block (cs := #[.slice (some ⟨g, 0, none⟩) y cap]) (t := 55) (fr := (0, 0)) (heap_alloc_new w1 _)) (by simp [Value.oneCell']) (by omega) hmax (by omega) (by simp; omega) (w1.heap.size + 1) (by simp) ?_; intro gg cap2 w6 hown6 hgrow hat hlt1))
      go_roundw
      case rel =>
        refine ⟨r + 1, by omega, by go_num, _, hown6, ?_, (f4.out.alloc hws1 _).grown hgrow (by simp; omega) (fun j e => (f2.out.lt j e).1)⟩
        rw [← mkR_succ, HLL.out]
        exact f3.out.grow hcap f1.out f5.out hgrow hat
      case measure => simp [intOf]; omega
    · obtain rfl : r = n := by omega
      obtain ⟨g, cap, rfl, hg, _, _, ho⟩ := ownT_of HO.out HCt.out h0
      have HOo := Lib.hid ho
      have e : mkR r (rw_ t) = t := (eq_mkR HT.out.len fun _ _ => rfl).symm
      rw [e] at HOo
      clear ho
      go_wp2_with fail
      go_ret
      exact ⟨g, cap, rfl, hg, HOo.out, HW.out⟩
end Go.Proofs.YtooegclblgeicaaGreatDoor

/- Proved: what the document's Scale and MulAdd of rows answer for every byte and rows of bytes. Conditions: those that the theorems name. -/
namespace Go.Proofs.YtooegclblgeicaaGreatDoor
open Go.ChangeShapes Go.WideShapes Go.ChangeAt Go.RowKit

set_option maxHeartbeats 400000 in
theorem rscale_cap (B : Option Addr) (m n d : Nat) (b : List Nat) (w : World) (hmm : m < 256) (hb : Bs w B n b) (hm : n ≤ 140737488355328) :
    Calls Tryz.prog 48 #[.int .u8 (m : Nat), .slice B n d] w (GivesC w n (scaleL n m b)) := by
  obtain ⟨i0, hi0, hz0, hz1, hz2⟩ := info_parts Tryz.infoByte
  have HB := Lib.hid hb
  clear hb
  go_enter Tryz.func48, Tryz.ntmps48
  go_wp2_with fail
  go_loopw [5, 6] (fun v i wr => ∃ k : Nat, k ≤ n ∧ i = .int .i64 k ∧ wr.ownsRow w.heap.size 5 1 v k (cells (mk k fun j => gmul m (b.getD j 0))) ∧ Below w.heap.size w wr) (fun _ i _ => n - (intOf i).toNat)
  case atStart => exact ⟨0, by omega, rfl, World.ownsRow_nil _ _ _ _, Below.refl _ _⟩
  case round =>
    obtain ⟨k, hk, rfl, hown, hbel⟩ := hrel
    have HO := Lib.hid hown
    have HW := Lib.hid hbel
    clear hown hbel
    by_cases hlt : k < n
    · obtain ⟨bd, rfl, lb, hbc⟩ := HB.out.at_ hlt
      rw [← HW.out.cell (p := bd.add k) (by rw [add_block]; exact lb)] at hbc
      have hy := HB.out.lt k
      obtain ⟨y, ey⟩ : ∃ y, y = b.getD k 0 := ⟨_, rfl⟩
      rw [← ey] at hbc hy
      have EY := Lib.hid ey
      clear ey
      have hmax : k + 1 ≤ maxLen := by unfold maxLen; omega
      have hws := HW.out.size
      go_wp2_with (first
        | (go_at_call 32; refine (prod_any m y hmm hy _).mono ?_; rintro e w' ⟨rfl, rfl⟩)
        | (at_builtin; refine wpList_append_lies _ rfl _ _ _ rfl w.heap.size 5 i0 _ 1 1 Tryz.underlying55 hi0 hz0 hz1 hz2 rfl (by omega) _ k _ rfl (HO.out.alloc _) ⟨wr.heap.size, 0, none⟩ 1 1 [.int .u8 (gmul m y : Nat)] rfl rfl (World.news_of_block (cs := #[.int .u8 (gmul m y : Nat)]) (t := 5) (fr := (0, 0)) (heap_alloc_new wr _)) (by simp [Value.oneCell']) (by omega) hmax (by omega) (by simp; omega) (wr.heap.size + 1) (by simp) ?_; intro gg cap w1 hown1 hgrow hat hlt1))
      go_roundw
      case rel =>
        refine ⟨k + 1, by omega, by go_num, ?_, (HW.out.alloc hws _).grown hgrow (by simp; omega) (fun j e => (HO.out.lt j e).1)⟩
        have h := hown1
        rw [EY.out, cells_mk_succ] at h
        exact h
      case measure => simp [intOf]; omega
    · obtain rfl : k = n := by omega
      obtain ⟨A', c', rfl, hcap, hbs⟩ := bs_of_cap HO.out (scaleL_lt k m b hmm)
      have HBS := Lib.hid hbs
      clear hbs
      go_wp2_with fail
      go_ret
      exact ⟨_, _, rfl, hcap, HBS.out, HW.out⟩
theorem rscale_any (B : Option Addr) (m n d : Nat) (b : List Nat) (w : World) (hmm : m < 256) (hb : Bs w B n b) (hm : n ≤ 140737488355328) :
    Calls Tryz.prog 48 #[.int .u8 (m : Nat), .slice B n d] w (Gives w n (scaleL n m b)) := (rscale_cap B m n d b w hmm hb hm).mono fun _ _ h => h.gives

set_option maxHeartbeats 400000 in
theorem rmuladd_cap (A B : Option Addr) (m n c d : Nat) (a b : List Nat) (w : World) (hmm : m < 256) (ha : Bs w A n a) (hb : Bs w B n b) (hm : n ≤ 140737488355328) :
    Calls Tryz.prog 49 #[.slice A n c, .int .u8 (m : Nat), .slice B n d] w (Gives2C w n (addL n a (scaleL n m b))) := by
  have HA := Lib.hid ha
  have HB := Lib.hid hb
  clear ha hb
  go_enter Tryz.func49, Tryz.ntmps49
  go_wp2_with fail
  refine (rscale_any B m n d b w hmm HB.out hm).mono ?_; rintro e w1 ⟨A1, c1, rfl, h1, g1⟩
  have H1 := Lib.hid h1; have G1 := Lib.hid g1; clear h1 g1
  go_wp2_with fail
  refine (radd_cap A A1 n c c1 a _ w1 (HA.out.below G1.out) H1.out hm).mono ?_; rintro e w2 ⟨A2, c2, rfl, k2, h2, g2⟩
  have H2 := Lib.hid h2; have G2 := Lib.hid g2; clear h2 g2
  go_wp2_with fail
  go_ret2
  exact ⟨_, _, rfl, k2, H2.out, G1.out.trans (G2.out.mono G1.out.size)⟩
theorem rmuladd_like (A B : Option Addr) (m n c d : Nat) (a b : List Nat) (w : World) (hmm : m < 256) (ha : Bs w A n a) (hb : Bs w B n b) (hm : n ≤ 140737488355328) :
    Calls Tryz.prog 49 #[.slice A n c, .int .u8 (m : Nat), .slice B n d] w (Gives2 w n (addL n a (scaleL n m b))) := (rmuladd_cap A B m n c d a b w hmm ha hb hm).mono fun _ _ h => h.gives

set_option maxHeartbeats 400000 in
theorem rmuladd_unlike (A B : Option Addr) (m n k c d : Nat) (b : List Nat) (w : World) (hmm : m < 256) (h : n ≠ k) (hb : Bs w B k b) (hm : k ≤ 140737488355328) :
    Calls Tryz.prog 49 #[.slice A n c, .int .u8 (m : Nat), .slice B k d] w fun e w' => e = .returned (.tuple #[.slice none 0 0, .int .i64 16]) ∧ Below w.heap.size w w' := by
  have HB := Lib.hid hb
  have HN := Lib.hid h
  clear hb h
  go_enter Tryz.func49, Tryz.ntmps49
  go_wp2_with fail
  refine (rscale_any B m k d b w hmm HB.out hm).mono ?_; rintro e w1 ⟨A1, c1, rfl, h1, g1⟩
  have G1 := Lib.hid g1; clear h1 g1
  go_wp2_with fail
  refine (radd_unlike A A1 n k c c1 w1 HN.out).mono ?_; rintro e w2 ⟨rfl, rfl⟩
  go_wp2_with fail
  go_ret2
  exact ⟨rfl, G1.out⟩
end Go.Proofs.YtooegclblgeicaaGreatDoor

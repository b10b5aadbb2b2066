/- Proved: what the document's copied leaves of every table. Conditions: those that the theorems name. -/
import Derived.Test.YtneaddgpbffkpaaMatRefMul
import Derived.Test.YtneaddgpbffkpaaMatClone
namespace Go.Proofs.Ytneaddgpbffkpaa
open Go.ChangeShapes Go.WideShapes Go.ChangeAt Go.RowKit

set_option maxRecDepth 100000 in
set_option maxHeartbeats 1600000 in
theorem copied_any (A : Option Addr) (n c : Nat) (t : List (List Nat)) (w : World) (ht : Rows w A n t) (h0 : 0 < n) (hn : n ≤ 255) (h1 : ∀ r, r < n → 0 < (rw_ t r).length ∧ (rw_ t r).length ≤ 1000) :
    Calls Try.prog 33 #[.slice A n c] w fun e w' => ∃ g cap, e = .returned (.slice (some ⟨g, 0, none⟩) n cap) ∧ w.heap.size ≤ g ∧ OwnT w' g n t ∧ Below w.heap.size w w' := by
  obtain ⟨i0, hi0, hz0, hz1, hz2⟩ := info_parts Try.infoRow
  obtain ⟨j0, hj0, hy0, hy1, hy2⟩ := info_parts Try.infoByte
  have HT := Lib.hid ht
  have H1 := Lib.hid h1
  clear ht h1
  go_enter Try.func33, Try.ntmps33
  go_wp2_with fail
  go_loopw [3, 4] (fun v i wr => ∃ r : Nat, r ≤ n ∧ i = .int .i64 r ∧ ∃ xs, wr.ownsRow w.heap.size 42 1 v r xs ∧ Cut wr v xs (mkR r (rw_ t)) ∧ Below w.heap.size w wr) (fun _ i _ => n - (intOf i).toNat)
  case atStart => exact ⟨0, by omega, rfl, _, World.ownsRow_nil _ _ _ _, Cut.nil _ _, Below.refl _ _⟩
  case round =>
    obtain ⟨r, hr, rfl, xs, hown, hcut, hbel⟩ := hrel
    rename World => w0
    have HO := Lib.hid hown
    have HCt := Lib.hid hcut
    have HW := Lib.hid hbel
    clear hown hcut hbel
    by_cases hlt : r < n
    · obtain ⟨ad, A1, e1, rfl, hadlt, hac, has⟩ := (HT.out.below HW.out).at_ hlt
      have hp := H1.out r hlt
      obtain ⟨bd, rfl, _, _⟩ := has.at_ hp.1
      have HAs := Lib.hid has
      have HL := Lib.hid has.len
      clear has
      generalize hl : rw_ t r = l at *
      have HLL := Lib.hid hl
      clear hl
      obtain ⟨y, hy⟩ : ∃ y, y = l.length := ⟨_, rfl⟩
      rw [← hy] at hac HAs hp
      have HY := Lib.hid hy
      clear hy HL
      have hp1 := hp.1
      have hp2 := hp.2
      clear hp
      have hmax : r + 1 ≤ maxLen := by unfold maxLen; omega
      have hws := HW.out.size
      go_wp2_with (first
        | (at_builtin; refine wpList_append_grows _ rfl _ _ 42 rfl 5 j0 (.int .u8 0) 1 1 Try.underlying42 hj0 hy0 hy1 hy2 rfl (by decide) none 0 0 [] rfl (fun _ => ⟨rfl, rfl⟩) rfl (by simp) bd y e1 (cells l) rfl (by rw [cells_len, HY.out, Nat.mul_one]) HAs.out.source (cells_one l) (by omega) (by unfold maxLen; omega) (by omega) ?_; intro v1 w1 hown1 hgr; rw [Nat.zero_add, List.nil_append] at hown1; have hb1 := (Below.refl _ _).grown hgr (Nat.le_refl _) (by simp); obtain ⟨g, cap, rfl, hg, hcap, _, ho1⟩ := own_of hown1 HAs.out.lt hp1; have f1 := Lib.hid ho1.bs; have f2 := Lib.hid (ownsRow_below HO.out hb1); have f3 := Lib.hid (HCt.out.below hb1); have f4 : Hid (Below w.heap.size w w1) := Lib.hid (HW.out.trans (hb1.mono hws)); have hws1 := f4.out.size; have f5 : Hid (∀ ad : Addr, (some ⟨g, 0, none⟩ : Option Addr) = some ad → 0 < y → u3.ownBlock ≠ some ad.block) := Lib.hid (by intro ad e _ q; injection e with e; subst e; have h1 : g < w0.heap.size := (HO.out.lt _ q).2; omega); clear hown1 hgr hb1 ho1 hg)
        | (at_builtin; refine wpList_append_lies _ rfl _ _ _ rfl w.heap.size 42 i0 _ 1 24 Try.underlying22 hi0 hz0 hz1 hz2 rfl (by omega) _ r _ rfl (f2.out.alloc _) ⟨w1.heap.size, 0, none⟩ 1 1 [.slice (some ⟨g, 0, none⟩) y cap] rfl rfl (World.news_of_block (cs := #[.slice (some ⟨g, 0, none⟩) y cap]) (t := 42) (fr := (0, 0)) (heap_alloc_new w1 _)) (by simp [Value.oneCell']) (by omega) hmax (by omega) (by simp; omega) (w1.heap.size + 1) (by simp) ?_; intro gg cap2 w6 hown6 hgrow hat hlt1))
      go_roundw
      case rel =>
        refine ⟨r + 1, by omega, by go_num, _, hown6, ?_, (f4.out.alloc hws1 _).grown hgrow (by simp; omega) (fun j e => (f2.out.lt j e).1)⟩
        rw [← mkR_succ, HLL.out]
        exact f3.out.grow hcap f1.out f5.out hgrow hat
      case measure => simp [intOf]; omega
    · obtain rfl : r = n := by omega
      obtain ⟨g, cap, rfl, hg, _, _, ho⟩ := ownT_of HO.out HCt.out h0
      have HOo := Lib.hid ho
      have e : mkR r (rw_ t) = t := (eq_mkR HT.out.len fun _ _ => rfl).symm
      rw [e] at HOo
      clear ho
      go_wp2_with fail
      go_ret
      exact ⟨g, cap, rfl, hg, HOo.out, HW.out⟩
end Go.Proofs.Ytneaddgpbffkpaa

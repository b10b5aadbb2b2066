/- Proved: what slices.Grow leaves of nothing, and slices.Concat of two rows of pointers; what begin leaves. Conditions: those that the theorems name. -/
import Derived.Test.YtplbdeaoeocgkaaDrTake
import Derived.Lib.AppendZerosOnto
namespace Go.Proofs.Ytplbdeaoeocgkaa
open Go.ChangeShapes Go.WideShapes Go.ChangeAt Go.RowKit

def DrRoom (W : World) (e : Ending) (w' : World) : Prop := ∃ v, e = .returned v ∧ w'.ownsRow W.heap.size 63 1 v 0 [] ∧ Below W.heap.size W w'
set_option maxRecDepth 100000 in
set_option maxHeartbeats 800000 in
theorem dr_grow (n : Nat) (w : World) (h0 : 0 < n) (hn : n ≤ 65536) :
    Calls Try.prog 33 #[.slice none 0 0, .int .i64 (n : Nat)] w (DrRoom w) := by
  obtain ⟨i0, hi0, hz0, hz1, hz2⟩ := info_parts infoPt
  have hrz : ∀ ty, (Builtin.append_ #[54, 3] ty #[.slice none 0 0, .int .i64 (n : Nat)]).run Try.prog w =
      .ok (.slice (some ⟨w.heap.size, 0, none⟩) n (grownCap w n 0 63)) (w.drew.alloc (.cells (([] : List Value).toArray ++ Builtin.zeroCells (Value.pointer none).cells n ++ Builtin.zeroCells (Value.pointer none).cells (grownCap w n 0 63 - n)) 63)) := fun ty => by
    have h := Lib.run_append_grow_zeros (P := Try.prog) w 54 3 ty 63 i0 (.pointer none) .i64 .i64 Try.underlying54 Try.underlying3 hi0 hz0 none 0 0 [] (run_firstCells_none w.drew i0.size 0 0 0) n h0 (by omega) (by omega) (by omega) (by rw [hz2]; omega) (growslice_fits (by omega) (by rw [hz2]; omega))
    rw [Nat.zero_add] at h
    exact h
  have hge := grownCap_ge w n 0 63
  have hle := grownCap_le_maxLen w n 0 63 (by unfold maxLen; omega)
  generalize grownCap w n 0 63 = G at *
  have hsz : (([] : List Value).toArray ++ Builtin.zeroCells (Value.pointer none).cells n ++ Builtin.zeroCells (Value.pointer none).cells (G - n)).size = G * 1 := by
    have e1 : (Value.pointer none).cells.size = 1 := rfl
    simp only [Array.size_append, size_zeroCells, e1, List.size_toArray, List.length_nil]
    omega
  generalize ([] : List Value).toArray ++ Builtin.zeroCells (Value.pointer none).cells n ++ Builtin.zeroCells (Value.pointer none).cells (G - n) = cur at *
  have hown := World.ownsRow_made (base := w.heap.size) (e := 63) (size := 1) w.drew cur G (Nat.le_refl _) hle hsz
  have HO := Lib.hid hown
  have hle' := Lib.hid hle
  clear hown hle hsz hi0 hz0 hz1 hz2
  have h1 : ¬ ((n : Int) < 0) := by omega
  have h4 : (n : Int) > 0 := by omega
  have hG63 : G ≤ 9223372036854775807 := by have := hle'.out; unfold maxLen at this; omega
  go_enter Try.func33, Try.ntmps33
  go_wp2_with (at_builtin; refine Lib.wpList_append_run _ rfl _ _ _ _ rfl _ _ rfl rfl _ _ (hrz _) ?_)
  go_ret
  exact ⟨_, rfl, HO.out, (Below.refl _ _).drew.alloc (Nat.le_refl _) _⟩

/-- The slice value with address ad and these elements: pointers to these blocks. -/
def Pr (w : World) (ad : Addr) (ps : List Nat) : Prop := ad.block < w.heap.size ∧ ∀ j, j < ps.length → w.cell? (ad.add j) = some (ptv (ps.getD j 0))
theorem Pr.tn {w w' : World} {ad : Addr} {ps : List Nat} (h : Pr w ad ps) (k : Below w.heap.size w w') : Pr w' ad ps :=
  ⟨Nat.lt_of_lt_of_le h.1 k.size, fun j hj => (World.cell?_of_block (by rw [show (ad.add j).block = ad.block by unfold Addr.add; split <;> rfl]; exact k.block _ h.1)).trans (h.2 j hj)⟩
theorem rr_more {w : World} {v : Value} {base : Nat} {ps qs : List Nat} (h : w.ownsRow base 63 1 v ps.length (ps.map ptv)) (ad : Addr) (hq : Pr w ad qs) (c : Nat) (hn : ps.length + qs.length ≤ 65536) (hb : base ≤ w.heap.size) (ty : TypeId) :
    ∃ v' w', (Builtin.append_ #[54, 54] ty #[v, .slice (some ad) qs.length c]).run Try.prog w = .ok v' w' ∧ w'.ownsRow base 63 1 v' (ps ++ qs).length ((ps ++ qs).map ptv) ∧ w.grownBy w' v.ownBlock := by
  obtain ⟨i, hi, hz0, hz1, hz2⟩ := info_parts infoPt
  have ht := Try.underlying54
  obtain ⟨v', w', hr, h2, h3, _⟩ := run_append_own_at (P := Try.prog) w base _ ty _ i _ 1 8 ht hi hz0 hz1 hz2 rfl (by omega) v ps.length _ h ad qs.length c (qs.map ptv) (by rw [List.length_map, Nat.mul_one]) (fun j u hj => by
    rw [List.getElem?_map] at hj
    obtain ⟨x, hx, rfl⟩ := Option.map_eq_some_iff.1 hj
    have hlt := (List.getElem?_eq_some_iff.1 hx).1
    rw [hq.2 j hlt, List.getD_eq_getElem?_getD, hx]; rfl) (ptcells_one _) (by unfold maxLen; omega) (by omega) hb
  exact ⟨v', w', hr, by rw [List.length_append, List.map_append]; exact h2, h3⟩
set_option maxRecDepth 100000 in
set_option maxHeartbeats 1600000 in
theorem dr_concat {w : World} {sb na nb ca cb : Nat} {aa ab : Addr} {ps qs : List Nat} (hs : At w sb 54 [.slice (some aa) na ca, .slice (some ab) nb cb]) (hna : na = ps.length) (hnb : nb = qs.length) (ha : Pr w aa ps) (hb : Pr w ab qs) (h0 : 0 < na + nb) (hn : na + nb ≤ 65536) :
    Calls Try.prog 30 #[.slice (some ⟨sb, 0, none⟩) 2 2] w fun e w' => ∃ v, e = .returned v ∧ w'.ownsRow w.heap.size 63 1 v (ps ++ qs).length ((ps ++ qs).map ptv) ∧ Below w.heap.size w w' := by
  have HS := Lib.hid hs
  have HA := Lib.hid ha
  have HB := Lib.hid hb
  have HNA := Lib.hid hna
  have HNB := Lib.hid hnb
  have s0 := hs.cell 0 rfl
  have s1 := hs.cell 1 rfl
  have hn1 : (0 : Int) ≤ (na : Int) := Int.natCast_nonneg _
  have hn2 : (0 : Int) ≤ (nb : Int) := Int.natCast_nonneg _
  have hx1 : ¬ ((na : Int) < 0) := by omega
  have hx2 : ¬ ((na : Int) + (nb : Int) < 0) := by omega
  clear hs ha hb hna hnb
  go_enter Try.func30, Try.ntmps30
  go_wp2_with fail
  go_loop [3, 11] (fun x i => (i = .int .i64 0 ∧ x = .int .i64 0) ∨ (i = .int .i64 1 ∧ x = .int .i64 (na : Nat)) ∨ (i = .int .i64 2 ∧ x = .int .i64 ((na : Int) + (nb : Int)))) (fun _ i => (2 - intOf i).toNat)
  case atStart => exact Or.inl ⟨rfl, rfl⟩
  case round =>
    rcases hrel with ⟨rfl, rfl⟩ | ⟨rfl, rfl⟩ | ⟨rfl, rfl⟩
    · go_wp2_with fail
      go_round
      case rel => exact Or.inr (Or.inl ⟨rfl, rfl⟩)
      case measure => simp [intOf]
    · go_wp2_with fail
      go_round
      case rel => exact Or.inr (Or.inr ⟨rfl, rfl⟩)
      case measure => simp [intOf]
    · have HG := Lib.hid (dr_grow (na + nb) w (by omega) hn)
      have e2 : (((na + nb : Nat) : Nat) : Int) = (na : Int) + (nb : Int) := by omega
      rw [e2] at HG
      clear e2
      go_wp2_with fail
      refine HG.out.mono ?_; rintro e w1 ⟨v, rfl, hown, hbl⟩
      have HO := Lib.hid hown
      have HW := Lib.hid hbl
      clear hown hbl s0 s1
      go_wp2_with fail
      go_loopw [6, 27] (fun v i wr => Below w.heap.size w wr ∧ ((i = .int .i64 0 ∧ wr.ownsRow w.heap.size 63 1 v 0 []) ∨ (i = .int .i64 1 ∧ wr.ownsRow w.heap.size 63 1 v ps.length (ps.map ptv)) ∨ (i = .int .i64 2 ∧ wr.ownsRow w.heap.size 63 1 v (ps ++ qs).length ((ps ++ qs).map ptv)))) (fun _ i _ => (2 - intOf i).toNat)
      case atStart => exact ⟨HW.out, Or.inl ⟨rfl, HO.out⟩⟩
      case round =>
        obtain ⟨hbl, hrel⟩ := hrel
        have hs2 := HS.out.below hbl HS.out.lt
        have ha2 := HA.out.tn hbl
        have hb2 := HB.out.tn hbl
        have HBL := Lib.hid hbl
        have s0 := hs2.cell 0 rfl
        have s1 := hs2.cell 1 rfl
        rcases hrel with ⟨rfl, hown⟩ | ⟨rfl, hown⟩ | ⟨rfl, hown⟩
        · obtain ⟨v', w2, hr, h2, h3⟩ := rr_more (ps := []) hown aa ha2 ca (by rw [← HNA.out]; simp; omega) hbl.size 54
          have H2 := Lib.hid h2
          have H3 := Lib.hid (hbl.grown h3 hbl.size (fun j e => (hown.lt j e).1))
          rw [← HNA.out] at hr
          clear hs2 ha2 hb2 hbl h2 h3 hown HO HW
          go_wp2_with (at_builtin; refine Lib.wpList_append_run _ rfl _ _ _ _ rfl _ _ rfl rfl _ _ hr ?_)
          go_roundw
          case rel => exact ⟨H3.out, Or.inr (Or.inl ⟨rfl, H2.out⟩)⟩
          case measure => simp [intOf]
        · obtain ⟨v', w2, hr, h2, h3⟩ := rr_more hown ab hb2 cb (by rw [← HNA.out, ← HNB.out]; exact hn) hbl.size 54
          have H2 := Lib.hid h2
          have H3 := Lib.hid (hbl.grown h3 hbl.size (fun j e => (hown.lt j e).1))
          rw [← HNB.out] at hr
          clear hs2 ha2 hb2 hbl h2 h3 hown HO HW
          go_wp2_with (at_builtin; refine Lib.wpList_append_run _ rfl _ _ _ _ rfl _ _ rfl rfl _ _ hr ?_)
          go_roundw
          case rel => exact ⟨H3.out, Or.inr (Or.inr ⟨rfl, H2.out⟩)⟩
          case measure => simp [intOf]
        · have H2 := Lib.hid hown
          clear hs2 ha2 hb2 hbl hown HO HW
          go_wp2_with fail
          go_ret
          exact ⟨_, rfl, H2.out, HBL.out⟩
end Go.Proofs.Ytplbdeaoeocgkaa

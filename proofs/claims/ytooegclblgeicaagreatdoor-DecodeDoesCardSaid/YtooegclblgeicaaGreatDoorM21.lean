/- Proved: lemmas of one statement's proof, merged by program: what each part proves stands ahead of it. Conditions: those that the lemmas name. -/
import Derived.Test.YtooegclblgeicaaGreatDoorM20
import Derived.Test.YtooegclblgeicaaGreatDoorM17
import Derived.Deep.DeepCutAuto
import Derived.BigRegion
import Derived.Test.YtooegclblgeicaaGreatDoorM18

/- Proved: what solve of package rs answers for all shards with unlike indexes. Conditions: those that the theorem names. -/
namespace Go.Proofs.YtooegclblgeicaaGreatDoor
open Go.ChangeShapes Go.WideShapes Go.ChangeAt Go.RowKit

/-! ### rows of ints of the call's own -/
/-- Block g is a row of ints of the call's own: its first n are l. -/
def OwnN (w : World) (g n : Nat) (l : List Int) : Prop :=
  l.length = n ∧ ∃ cur, w.heap[g]? = some (.cells cur 3 (0, 0)) ∧ ∀ i, i < n → cur[i]? = some (.int .i64 (l.getD i 0))
theorem OwnN.block_lt {w : World} {g n : Nat} {l : List Int} (h : OwnN w g n l) : g < w.heap.size := by
  obtain ⟨_, cur, hc, _⟩ := h
  exact (Array.getElem?_eq_some_iff.1 hc).1
theorem OwnN.cell {w : World} {g n : Nat} {l : List Int} (h : OwnN w g n l) {j : Nat} (hj : j < n) : w.cell? ⟨g, j, none⟩ = some (.int .i64 (l.getD j 0)) := by
  obtain ⟨_, cur, hc, hr⟩ := h
  rw [cell_of_row w g j cur _ (0, 0) hc]
  exact hr j hj
theorem OwnN.frozen {w : World} {g n : Nat} {l : List Int} (h : OwnN w g n l) (j : Nat) : w.frozen? ⟨g, j, none⟩ = false := by
  obtain ⟨_, cur, hc, _⟩ := h
  simp [World.frozen?, hc]
theorem OwnN.below {w w' : World} {g n : Nat} {l : List Int} (h : OwnN w g n l) (hb : Below w.heap.size w w') : OwnN w' g n l := by
  have hlt := h.block_lt
  obtain ⟨h0, cur, hc, h1⟩ := h
  exact ⟨h0, cur, (hb.block g hlt).trans hc, h1⟩
theorem int_set (l : List Int) (k : Nat) (x : Int) (j : Nat) (hk : k < l.length) : (l.set k x).getD j 0 = if k = j then x else l.getD j 0 := by
  rw [List.getD_eq_getElem?_getD, List.getElem?_set]
  by_cases e : k = j
  · rw [if_pos e, if_pos e, if_pos (by omega)]; rfl
  · rw [if_neg e, if_neg e, ← List.getD_eq_getElem?_getD]
theorem OwnN.set_ {w : World} {g n : Nat} {l : List Int} (h : OwnN w g n l) {r : Nat} (hr : r < n) (x : Int) : OwnN (w.setCell ⟨g, r, none⟩ (.int .i64 x)) g n (l.set r x) := by
  obtain ⟨h0, cur, hc, h1⟩ := h
  refine ⟨by rw [List.length_set, h0], cur.setIfInBounds r (.int .i64 x), by simp [World.setCell, Array.getElem?_modify, hc], fun i hi => ?_⟩
  rw [int_set _ _ _ _ (by omega), Array.getElem?_setIfInBounds]
  have h2 := h1 i hi
  have hsz : i < cur.size := (Array.getElem?_eq_some_iff.1 h2).1
  by_cases e : r = i
  · rw [if_pos e, if_pos e, if_pos (by omega)]
  · rw [if_neg e, if_neg e]; exact h2
theorem OwnN.far {w : World} {g n : Nat} {l : List Int} (h : OwnN w g n l) {p : Addr} (hp : g ≠ p.block) (v : Value) : OwnN (w.setCell p v) g n l := by
  obtain ⟨h0, cur, hc, h1⟩ := h
  exact ⟨h0, cur, (Below.heap_setCell w p v g hp).trans hc, h1⟩
theorem OwnN.is {w : World} {g n : Nat} {l : List Int} (h : OwnN w g n l) : Is w (some ⟨g, 0, none⟩) n l :=
  ⟨h.1, fun _ => ⟨_, rfl, h.block_lt, fun r hr => by
    have e : (⟨g, 0, none⟩ : Addr).add r = ⟨g, r, none⟩ := by unfold Addr.add; split <;> simp_all
    rw [e]; exact h.cell hr⟩⟩
theorem OwnN.ne {w : World} {g h n m : Nat} {l : List Int} {s : List ByteArray} (a : OwnN w g n l) (b : OwnS w h m s) : g ≠ h := by
  rintro rfl
  obtain ⟨_, c1, h1, _⟩ := a
  obtain ⟨_, c2, h2, _⟩ := b
  rw [h1] at h2
  injection h2 with h2
  injection h2 with _ h2
  exact absurd h2 (by decide)
theorem ownN_new (w : World) (n : Nat) : OwnN (w.alloc (.cells (madeCells #[.int .i64 0] n) 3)) w.heap.size n (List.replicate n 0) :=
  ⟨by simp, _, heap_alloc_new w _, fun r hr => by
    have e : (List.replicate n (0 : Int)).getD r 0 = 0 := by rw [List.getD_eq_getElem?_getD, List.getElem?_replicate]; split <;> rfl
    rw [e]; simp [madeCells, hr, Nat.mod_one]⟩
/-- the first k ints are f's. -/
def UptoN (n k : Nat) (f : Nat → Int) (l : List Int) : Prop := l.length = n ∧ ∀ r, r < k → l.getD r 0 = f r
theorem UptoN.start {n : Nat} {f : Nat → Int} {l : List Int} (h : l.length = n) : UptoN n 0 f l := ⟨h, fun _ h => absurd h (by omega)⟩
theorem UptoN.next {n k : Nat} {f : Nat → Int} {l : List Int} (h : UptoN n k f l) (hk : k < n) : UptoN n (k + 1) f (l.set k (f k)) := by
  refine ⟨by rw [List.length_set]; exact h.1, fun r hr => ?_⟩
  rw [int_set _ _ _ _ (by rw [h.1]; exact hk)]
  by_cases e : k = r
  · rw [if_pos e, e]
  · rw [if_neg e]; exact h.2 r (by omega)

/-! ### indexes and texts of shards -/
def idxL (l : List Shd) : List Int := l.map (·.1)
def bodL (l : List Shd) : List ByteArray := l.map (·.2)
theorem idxL_len (l : List Shd) : (idxL l).length = l.length := by unfold idxL; rw [List.length_map]
theorem bodL_len (l : List Shd) : (bodL l).length = l.length := by unfold bodL; rw [List.length_map]
theorem idxL_at {l : List Shd} {j : Nat} (h : j < l.length) : (idxL l).getD j 0 = (sh_ l j).1 := by
  unfold idxL
  rw [List.getD_eq_getElem?_getD, List.getElem?_map, List.getElem?_eq_getElem h, sh_at h]; rfl
theorem bodL_at {l : List Shd} {j : Nat} (h : j < l.length) : st_ (bodL l) j = (sh_ l j).2 := by
  unfold bodL st_
  rw [List.getD_eq_getElem?_getD, List.getElem?_map, List.getElem?_eq_getElem h, sh_at h]; rfl
theorem UptoN.idx {n : Nat} {l : List Shd} {s : List Int} (h : UptoN n n (fun i => (sh_ l i).1) s) (hl : l.length = n) : s = idxL l := by
  apply List.ext_getElem
  · rw [h.1, idxL_len, hl]
  · intro j h1 h2
    have h1' : j < n := by rw [← h.1]; exact h1
    have := (h.2 j h1').trans (idxL_at (l := l) (by omega)).symm
    rw [List.getD_eq_getElem?_getD, List.getD_eq_getElem?_getD, List.getElem?_eq_getElem h1, List.getElem?_eq_getElem h2] at this
    exact this
theorem UptoS.bod {n : Nat} {l : List Shd} {s : List ByteArray} (h : UptoS n n (fun i => (sh_ l i).2) s) (hl : l.length = n) : s = bodL l :=
  ext_st h.1 (by rw [bodL_len, hl]) fun j hj => by rw [h.2 j hj, bodL_at (by omega)]

/-- the answer of the rows with these indexes, times these texts. -/
def GivesSol (W : World) (k m : Nat) (l : List Shd) (e : Ending) (w' : World) : Prop :=
  ∃ q A n c, e = .returned (.tuple #[.slice A n c, .int .i64 0]) ∧ InvIs (rowsC k (idxL l)) q 0 ∧ Ss w' A n (txS (mulL k k m q (tabS (bodL l)))) ∧ Below W.heap.size W w'

set_option maxRecDepth 100000 in
set_option maxHeartbeats 3200000 in
theorem solve_any (A : Option Addr) (k c n m : Nat) (l : List Shd) (w : World) (hl : Sh w A k l) (h1 : 1 ≤ k) (hk : k ≤ n) (hn : n ≤ 255) (hsel : Sel k n (idxL l)) (hm1 : 1 ≤ m) (hm : m ≤ 1024) (hs : ∀ i, i < k → (sh_ l i).2.size = m) :
    Calls Tryz.prog 34 #[.int .i64 (n : Nat), .slice A k c] w (GivesSol w k m l) := by
  have hmI := run_make_row' (P := Tryz.prog) 95 3 (.int .i64 0) 8 Tryz.underlying95 Tryz.infoInt rfl .i64 .i64 k (by omega) (by omega)
  have hmS := run_make_row' (P := Tryz.prog) 38 9 (.string S0) 16 Tryz.underlying38 Tryz.infoString rfl .i64 .i64 k (by omega) (by omega)
  have HL := Lib.hid hl
  have HSel := Lib.hid hsel
  have HS := Lib.hid hs
  clear hl hsel hs
  have hpos : (0 : Int) ≤ (k : Int) := by omega
  have HA1 : Hid (OwnN ((w.alloc (.cells (madeCells #[.int .i64 0] k) 3)).alloc (.cells (madeCells #[.string S0] k) 9)) w.heap.size k (List.replicate k 0)) := Lib.hid ((ownN_new w k).below ((Below.refl _ _).alloc (Nat.le_refl _) _))
  have HA2 : Hid (OwnS ((w.alloc (.cells (madeCells #[.int .i64 0] k) 3)).alloc (.cells (madeCells #[.string S0] k) 9)) (w.heap.size + 1) k (List.replicate k S0)) := Lib.hid (by simpa using ownS_new (w.alloc (.cells (madeCells #[.int .i64 0] k) 3)) k)
  have HB1 : Hid (OwnN ((w.alloc (.cells (madeCells #[.string S0] k) 9)).alloc (.cells (madeCells #[.int .i64 0] k) 3)) (w.heap.size + 1) k (List.replicate k 0)) := Lib.hid (by simpa using ownN_new (w.alloc (.cells (madeCells #[.string S0] k) 9)) k)
  have HB2 : Hid (OwnS ((w.alloc (.cells (madeCells #[.string S0] k) 9)).alloc (.cells (madeCells #[.int .i64 0] k) 3)) w.heap.size k (List.replicate k S0)) := Lib.hid ((ownS_new w k).below ((Below.refl _ _).alloc (Nat.le_refl _) _))
  go_enter Tryz.func34, Tryz.ntmps34
  go_upto_region 1 with fail
  go_cut [6, 7] (fun v u wx => ∃ G H : Nat, v = .slice (some ⟨G, 0, none⟩) k k ∧ u = .slice (some ⟨H, 0, none⟩) k k ∧ w.heap.size ≤ G ∧ w.heap.size ≤ H ∧ OwnN wx G k (List.replicate k 0) ∧ OwnS wx H k (List.replicate k S0) ∧ Below w.heap.size w wx)
  case first =>
    go_region
    all_goals
      go_wp2_with fail
      go_meet
      first
        | exact ⟨w.heap.size, w.heap.size + 1, rfl, rfl, Nat.le_refl _, by omega, HA1.out, HA2.out, (below_two w _ _).drew⟩
        | exact ⟨w.heap.size + 1, w.heap.size, rfl, rfl, by omega, Nat.le_refl _, HB1.out, HB2.out, (below_two w _ _).drew⟩
  case rest =>
    obtain ⟨G, H, rfl, rfl, hG, hH, hoN, hoS, hbel⟩ := hcut
    rename World => w0
    clear HA1 HA2 HB1 HB2
    have HN0 := Lib.hid hoN
    have HS0 := Lib.hid hoS
    have HW0 := Lib.hid hbel
    clear hoN hoS hbel
    go_wp2_with fail
    go_loopw [21] (fun v wr => ∃ j : Nat, j ≤ k ∧ v = .int .i64 j ∧ ∃ a b, UptoN k j (fun i => (sh_ l i).1) a ∧ UptoS k j (fun i => (sh_ l i).2) b ∧ OwnN wr G k a ∧ OwnS wr H k b ∧ Below w.heap.size w wr) (fun v _ => k - (intOf v).toNat)
    case atStart => exact ⟨0, by omega, rfl, _, _, UptoN.start (by simp), UptoS.start (by simp), HN0.out, HS0.out, HW0.out⟩
    case round =>
      obtain ⟨j, hj, rfl, a, b, hua, hub, hoa, hob, hbel⟩ := hrel
      have HUa := Lib.hid hua
      have HUb := Lib.hid hub
      have HOa := Lib.hid hoa
      have HOb := Lib.hid hob
      have HW := Lib.hid hbel
      clear hua hub hoa hob hbel HN0 HS0 HW0
      by_cases hlt : j < k
      · obtain ⟨ad, rfl, had, hc1, hc2⟩ := HL.out.at_ hlt
        have hc1' : wr.cell? (ad.add (j * 2)) = some (.int .i64 (sh_ l j).1) := (HW.out.cell (by rw [add_block]; omega)).trans hc1
        have hc2' : wr.cell? ⟨(ad.add (j * 2)).block, (ad.add (j * 2)).off + 1, none⟩ = some (.string (sh_ l j).2) := (HW.out.cell (by show (ad.add (j * 2)).block < w.heap.size; rw [add_block]; omega)).trans hc2
        clear hc1 hc2
        have hlt' : (j : Int) < (k : Int) := by omega
        have hj0 : (0 : Int) ≤ (j : Int) := Int.natCast_nonneg _
        have HNa := Lib.hid (HUa.out.next hlt)
        have HNb := Lib.hid (HUb.out.next hlt)
        have hGl := HOa.out.block_lt
        have hHl := HOb.out.block_lt
        have hne := HOa.out.ne HOb.out
        generalize hx : sh_ l j = x at *
        obtain ⟨xi, xs⟩ := x
        clear hx
        have HO2a : Hid (OwnN (wr.alloc (.cells #[.int .i64 xi, .string xs] 42)) G k a) := Lib.hid (HOa.out.below ((Below.refl _ _).alloc (Nat.le_refl _) _))
        have HO2b : Hid (OwnS (wr.alloc (.cells #[.int .i64 xi, .string xs] 42)) H k b) := Lib.hid (HOb.out.below ((Below.refl _ _).alloc (Nat.le_refl _) _))
        have HW2 : Hid (Below w.heap.size w (wr.alloc (.cells #[.int .i64 xi, .string xs] 42))) := Lib.hid (HW.out.alloc (HW.out.size) _)
        have hs1 : (wr.alloc (.cells #[.int .i64 xi, .string xs] 42)).cell? ⟨wr.heap.size, 0, none⟩ = some (.int .i64 xi) := by
          rw [World.cell?_alloc_at _ _ _ _ rfl]; rfl
        have hs2 : (wr.alloc (.cells #[.int .i64 xi, .string xs] 42)).cell? ⟨wr.heap.size, 1, none⟩ = some (.string xs) := by
          rw [World.cell?_alloc_at _ _ _ _ rfl]; rfl
        go_upto_region 5 with fail
        clear hc1' hc2'
        generalize wr.alloc (.cells #[.int .i64 xi, .string xs] 42) = w2 at *
        have hGB : G ≠ wr.heap.size := by omega
        have hHB : H ≠ wr.heap.size := by omega
        generalize wr.heap.size = B at *
        have hca := HO2a.out.cell hlt
        have hcb := HO2b.out.cell hlt
        have hfa := HO2a.out.frozen j
        have hfb := HO2b.out.frozen j
        have hne1 : (⟨G, j, none⟩ : Addr) ≠ ⟨H, j, none⟩ := by intro e; injection e; omega
        have hne2 : (⟨H, j, none⟩ : Addr) ≠ ⟨G, j, none⟩ := by intro e; injection e; omega
        have hcab : (w2.setCell ⟨G, j, none⟩ (.int .i64 xi)).cell? ⟨H, j, none⟩ = some (.string (st_ b j)) := by rw [World.cell?_setCell_other _ _ _ _ hne1]; exact hcb
        have hcba : (w2.setCell ⟨H, j, none⟩ (.string xs)).cell? ⟨G, j, none⟩ = some (.int .i64 (a.getD j 0)) := by rw [World.cell?_setCell_other _ _ _ _ hne2]; exact hca
        have HSa := Lib.hid (HO2a.out.set_ hlt xi)
        have HSb := Lib.hid (HO2b.out.set_ hlt xs)
        go_region
        all_goals
          go_wp2_with fail
          go_roundw
          case rel =>
            first
              | exact ⟨j + 1, by omega, by go_num, _, _, HNa.out, HNb.out, HSa.out.far (p := ⟨H, j, none⟩) hne _, (HO2b.out.far (p := ⟨G, j, none⟩) (Ne.symm hne) _).set_ hlt xs, ((HW2.out.setCell (p := ⟨G, j, none⟩) hG _).setCell (p := ⟨H, j, none⟩) hH _).drew⟩
              | exact ⟨j + 1, by omega, by go_num, _, _, HNa.out, HNb.out, (HO2a.out.far (p := ⟨H, j, none⟩) hne _).set_ hlt xi, HSb.out.far (p := ⟨G, j, none⟩) (Ne.symm hne) _, ((HW2.out.setCell (p := ⟨H, j, none⟩) hH _).setCell (p := ⟨G, j, none⟩) hG _).drew⟩
          case measure => simp [intOf]; omega
      · obtain rfl : j = k := by omega
        have HIa : Hid (Is wr (some ⟨G, 0, none⟩) j (idxL l)) := Lib.hid (by rw [← HUa.out.idx HL.out.len]; exact HOa.out.is)
        have HIb : Hid (Ss wr (some ⟨H, 0, none⟩) j (bodL l)) := Lib.hid (by rw [← HUb.out.bod HL.out.len]; exact HOb.out.ss)
        have hlen : (idxL l).length = j := by rw [idxL_len, HL.out.len]
        have HE := Lib.hid (HSel.out.err h1 hk hn hlen)
        have HP := Lib.hid (fun W h => pick_as (some ⟨G, 0, none⟩) j j (j : Nat) (n : Nat) (idxL l) (rowsC j (idxL l)) 0 (by rw [pRows_some HE.out, Int.toNat_natCast]) HE.out W h)
        have HBs : Hid (∀ i, i < j → (st_ (bodL l) i).size = m) := Lib.hid fun i hi => by rw [bodL_at (by rw [HL.out.len]; exact hi)]; exact HS.out i hi
        have HLen := Lib.hid hlen
        clear hlen
        go_wp2_with fail
        refine (HP.out _ HIa.out).mono ?_; rintro e w3 ⟨A3, n3, c3, rfl, hr3, hb3⟩
        have HR3 := Lib.hid hr3
        have HIb3 := Lib.hid (HIb.out.below hb3)
        have HW3 := Lib.hid (HW.out.trans (hb3.mono HW.out.size))
        clear hr3 hb3
        go_wp2_with fail
        refine (invert_any A3 n3 c3 (rowsC j (idxL l)) _ HR3.out).mono ?_; rintro e w4 ⟨A4, c4, q4, z4, rfl, hr4, hi4, hb4⟩
        obtain ⟨rfl, hq4⟩ := HSel.out.inv h1 (by omega) (by omega) HLen.out hi4
        have HI4 := Lib.hid hi4
        rw [hq4] at hr4 ⊢
        have hgd : Good j j q4 := by
          rcases hi4 with ⟨x1, x2, _⟩ | ⟨_, _, x3, _⟩ | ⟨_, _, _, x4, _⟩ | ⟨_, _, x3, _⟩
          · exact absurd x2.symm x1
          · exact absurd x3 (by decide)
          · exact absurd x4 (by decide)
          · have e : (rowsC j (idxL l)).length = j := by rw [rowsC_len, HLen.out]
            rw [e] at x3; exact x3
        have HGd := Lib.hid hgd
        have HR4 := Lib.hid hr4
        have HIb4 := Lib.hid (HIb3.out.below hb4)
        have HW4 := Lib.hid (HW3.out.trans (hb4.mono HW3.out.size))
        clear hr4 hb4 hi4 hq4 hgd
        go_wp2_with fail
        refine (blends_any A4 (some ⟨H, 0, none⟩) j j c4 j m q4 (bodL l) _ HR4.out HGd.out HIb4.out HBs.out (by omega) h1 (by omega) hm1 hm).mono ?_; rintro e w5 ⟨A5, n5, c5, rfl, _, hs5, hb5⟩
        have HS5 := Lib.hid hs5
        have HW5 := Lib.hid (HW4.out.trans (hb5.mono HW4.out.size))
        clear hs5 hb5
        go_wp2_with fail
        go_ret2
        exact ⟨q4, _, _, _, rfl, HI4.out, HS5.out, HW5.out⟩
end Go.Proofs.YtooegclblgeicaaGreatDoor

/- Proved: what Decode of package rs answers for every two ints and all shards. Conditions: those that the theorems name. -/
namespace Go.Proofs.YtooegclblgeicaaGreatDoor
open Go.ChangeShapes Go.WideShapes Go.ChangeAt Go.RowKit

/-- shards with unlike indexes below n, all of m bytes. -/
structure AccOk (n : Int) (m : Nat) (a : List Shd) : Prop where
  rng : ∀ p, p < a.length → 0 ≤ (sh_ a p).1 ∧ (sh_ a p).1 < n
  fit : ∀ p, p < a.length → Fits (sh_ a p).2
  siz : ∀ p, p < a.length → (sh_ a p).2.size = m
  inj : ∀ p q, p < a.length → q < a.length → (sh_ a p).1 = (sh_ a q).1 → p = q
theorem AccOk.nil (n : Int) (m : Nat) : AccOk n m [] := ⟨fun _ h => absurd h (by simp), fun _ h => absurd h (by simp), fun _ h => absurd h (by simp), fun _ _ h => absurd h (by simp)⟩
theorem AccOk.step {n : Int} {m : Nat} {a : List Shd} {x : Shd} (h : AccOk n m a) (g : sErr n m a x = 0) : AccOk n m (stepA a x) := by
  obtain ⟨g1, g2, g3, _⟩ := sErr_zero g
  by_cases hf : Free a x.1
  · rw [stepA_free hf]
    have hlen : (a ++ [x]).length = a.length + 1 := by simp
    refine ⟨fun p hp => ?_, fun p hp => ?_, fun p hp => ?_, fun p q hp hq e => ?_⟩
    · rw [hlen] at hp; rw [sh_snoc _ _ _ hp]; split
      · exact h.rng p ‹_›
      · exact g1
    · rw [hlen] at hp; rw [sh_snoc _ _ _ hp]; split
      · exact h.fit p ‹_›
      · exact g2
    · rw [hlen] at hp; rw [sh_snoc _ _ _ hp]; split
      · exact h.siz p ‹_›
      · exact g3
    · rw [hlen] at hp hq
      rw [sh_snoc _ _ _ hp, sh_snoc _ _ _ hq] at e
      by_cases h1 : p < a.length <;> by_cases h2 : q < a.length
      · rw [if_pos h1, if_pos h2] at e; exact h.inj p q h1 h2 e
      · rw [if_pos h1, if_neg h2] at e; exact absurd e (hf p h1)
      · rw [if_neg h1, if_pos h2] at e; exact absurd e.symm (hf q h2)
      · omega
  · rw [stepA_there hf]; exact h
theorem acc_ok {n : Int} {l : List Shd} {j : Nat} (h : NoU n l j) (hj : j ≤ l.length) : AccOk n (sh_ l 0).2.size (accL (l.take j)) := by
  induction j with
  | zero => exact AccOk.nil _ _
  | succ j ih =>
    rw [accL_take (by omega)]
    exact (ih (fun i hi => h i (by omega)) (by omega)).step (h j (by omega))
theorem acc_all {n : Int} {l : List Shd} (h : uErr n l = 0) : AccOk n (sh_ l 0).2.size (accL l) := by
  have := acc_ok (j := l.length) (firstE_all h) (Nat.le_refl _)
  rwa [List.take_of_length_le (Nat.le_refl _)] at this
theorem take_len {l : List Shd} {k : Nat} (h : k ≤ l.length) : (l.take k).length = k := by rw [List.length_take]; omega
theorem AccOk.cut {n : Int} {m : Nat} {a : List Shd} (h : AccOk n m a) {k : Nat} (hk : k ≤ a.length) : AccOk n m (a.take k) := by
  have e := take_len hk
  refine ⟨fun p hp => ?_, fun p hp => ?_, fun p hp => ?_, fun p q hp hq => ?_⟩ <;> rw [e] at hp
  · rw [sh_take hp]; exact h.rng p (by omega)
  · rw [sh_take hp]; exact h.fit p (by omega)
  · rw [sh_take hp]; exact h.siz p (by omega)
  · rw [e] at hq; rw [sh_take hp, sh_take hq]; exact h.inj p q (by omega) (by omega)
theorem AccOk.sel {n m : Nat} {a : List Shd} (h : AccOk n m a) : Sel a.length n (idxL a) := by
  refine ⟨?_, fun x hx => ?_, by rw [idxL_len]; exact Nat.le_refl _⟩
  · rw [List.pairwise_iff_getElem]
    intro i j hi hj hij e
    have hi' : i < a.length := by rw [idxL_len] at hi; exact hi
    have hj' : j < a.length := by rw [idxL_len] at hj; exact hj
    have e1 := idxL_at hi'
    have e2 := idxL_at hj'
    rw [List.getD_eq_getElem?_getD, List.getElem?_eq_getElem hi] at e1
    rw [List.getD_eq_getElem?_getD, List.getElem?_eq_getElem hj] at e2
    have := h.inj i j hi' hj' (e1.symm.trans (e.trans e2))
    omega
  · obtain ⟨j, hj, rfl⟩ := List.getElem_of_mem hx
    have hj' : j < a.length := by rw [idxL_len] at hj; exact hj
    have e1 := idxL_at hj'
    rw [List.getD_eq_getElem?_getD, List.getElem?_eq_getElem hj] at e1
    have := h.rng j hj'
    rw [← e1] at this
    exact this

/-! ### Decode -/
def DArg (k n : Int) : Prop := 1 ≤ k ∧ k ≤ 32 ∧ k ≤ n ∧ n ≤ 255
instance (k n : Int) : Decidable (DArg k n) := by unfold DArg; infer_instance
/-- Decode's error. -/
def dcE (k n : Int) (l : List Shd) : Nat :=
  if DArg k n then (if uErr n l = 0 then (if k ≤ ((accL l).length : Int) then 0 else 15) else uErr n l) else 1
/-- what Decode must answer. -/
def DcIs (k n : Int) (l : List Shd) (out : List ByteArray) : Prop :=
  if dcE k n l = 0 then ∃ q, InvIs (rowsC k.toNat (idxL ((accL l).take k.toNat))) q 0 ∧ out = txS (mulL k.toNat k.toNat (sh_ l 0).2.size q (tabS (bodL ((accL l).take k.toNat)))) else out = []
theorem DcIs.only {k n : Int} {l : List Shd} {out out' : List ByteArray} (h : DcIs k n l out) (g : DcIs k n l out') : out = out' := by
  unfold DcIs at h g
  split at h
  · rename_i e
    rw [if_pos e] at g
    obtain ⟨q, h1, h2⟩ := h
    obtain ⟨r, g1, g2⟩ := g
    rw [h2, g2, (h1.only g1).1]
  · rename_i e
    rw [if_neg e] at g
    rw [h, g]
theorem DcIs.none {k n : Int} {l : List Shd} (h : dcE k n l ≠ 0) : DcIs k n l [] := by unfold DcIs; rw [if_neg h]
theorem DcIs.some {k n : Int} {l : List Shd} (h : dcE k n l = 0) {q : List (List Nat)} (hq : InvIs (rowsC k.toNat (idxL ((accL l).take k.toNat))) q 0) :
    DcIs k n l (txS (mulL k.toNat k.toNat (sh_ l 0).2.size q (tabS (bodL ((accL l).take k.toNat))))) := by unfold DcIs; rw [if_pos h]; exact ⟨q, hq, rfl⟩
theorem dcE_arg {k n : Int} {l : List Shd} (h : ¬ DArg k n) : dcE k n l = 1 := if_neg h
theorem dcE_u {k n : Int} {l : List Shd} (h : DArg k n) (g : uErr n l ≠ 0) : dcE k n l = uErr n l := by unfold dcE; rw [if_pos h, if_neg g]
theorem dcE_less {k n : Int} {l : List Shd} (h : DArg k n) (g : uErr n l = 0) (e : ¬ k ≤ ((accL l).length : Int)) : dcE k n l = 15 := by unfold dcE; rw [if_pos h, if_pos g, if_neg e]
theorem dcE_ok {k n : Int} {l : List Shd} (h : DArg k n) (g : uErr n l = 0) (e : k ≤ ((accL l).length : Int)) : dcE k n l = 0 := by unfold dcE; rw [if_pos h, if_pos g, if_pos e]
def GivesDc (W : World) (k n : Int) (l : List Shd) (e : Ending) (w' : World) : Prop :=
  ∃ A m c out, e = .returned (.tuple #[.slice A m c, .int .i64 (dcE k n l : Nat)]) ∧ DcIs k n l out ∧ Ss w' A m out ∧ Below W.heap.size W w'

set_option maxHeartbeats 800000 in
theorem decode_arg (A : Option Addr) (m c : Nat) (k n : Int) (l : List Shd) (w : World) (h : ¬ DArg k n) :
    Calls Tryz.prog 21 #[.int .i64 k, .int .i64 n, .slice A m c] w (GivesDc w k n l) := by
  have HD := Lib.hid (dcE_arg (l := l) h)
  have key : k < 1 ∨ ¬ k < 1 ∧ k > 32 ∨ ¬ k < 1 ∧ ¬ k > 32 ∧ n < k ∨ ¬ k < 1 ∧ ¬ k > 32 ∧ ¬ n < k ∧ n > 255 := by unfold DArg at h; omega
  clear h
  rcases key with h1 | ⟨h1, h2⟩ | ⟨h1, h2, h3⟩ | ⟨h1, h2, h3, h4⟩
  all_goals
    go_enter Tryz.func21, Tryz.ntmps21
    go_wp2_with fail
    go_ret2
    exact ⟨_, _, _, [], by rw [HD.out]; rfl, DcIs.none (by rw [HD.out]; decide), Ss.nil _ _, Below.refl _ _⟩

set_option maxRecDepth 100000 in
set_option maxHeartbeats 1600000 in
theorem decode_good (A : Option Addr) (m c k n : Nat) (l : List Shd) (w : World) (hl : Sh w A m l) (hm : m ≤ 100) (h : DArg k n) :
    Calls Tryz.prog 21 #[.int .i64 (k : Nat), .int .i64 (n : Nat), .slice A m c] w (GivesDc w k n l) := by
  have HA := Lib.hid h
  have hk : 1 ≤ k ∧ k ≤ 32 ∧ k ≤ n ∧ n ≤ 255 := by unfold DArg at h; omega
  obtain ⟨hk1, hk2, hk3, hk4⟩ := hk
  have h1 : ¬ (k : Int) < 1 := by omega
  have h2 : ¬ (k : Int) > 32 := by omega
  have h3 : ¬ (n : Int) < (k : Int) := by omega
  have h4 : ¬ (n : Int) > 255 := by omega
  have HU := unlike_any A m c n l w hl hm hk4
  clear h hl
  by_cases hu : uErr n l = 0
  · have HO := Lib.hid (acc_all hu)
    have e1 : uOut n l = accL l := if_pos hu
    rw [hu, e1] at HU
    have HU' := Lib.hid HU
    have HHu := Lib.hid hu
    clear HU hu e1
    by_cases hle : k ≤ (accL l).length
    · have HD := Lib.hid (dcE_ok HA.out HHu.out (by omega))
      have HC := HO.out.cut hle
      have hlen := take_len hle
      have hsel := HC.sel
      rw [hlen] at hsel
      have HSel := Lib.hid hsel
      have HSz : Hid (∀ i, i < k → (sh_ ((accL l).take k) i).2.size = (sh_ l 0).2.size) := Lib.hid fun i hi => HC.siz i (by rw [hlen]; exact hi)
      have hf := HO.out.fit 0 (by omega)
      rw [Fits, HO.out.siz 0 (by omega)] at hf
      have HI := Lib.hid (fun q hq => DcIs.some (k := (k : Int)) (n := (n : Int)) (l := l) HD.out (q := q) hq)
      rw [Int.toNat_natCast] at HI
      generalize (sh_ l 0).2.size = s at *
      have hf1 := hf.1
      have hf2 := hf.2
      have HLe := Lib.hid hle
      clear hlen hsel HC hf
      generalize accL l = a at *
      have hle2 : ¬ (a.length : Int) < (k : Int) := by omega
      go_enter Tryz.func21, Tryz.ntmps21
      go_wp2_with fail
      refine HU'.out.mono ?_; rintro e w1 ⟨A1, n1, c1, rfl, hc1, hs1, hw1⟩
      obtain rfl : a.length = n1 := hs1.len
      have HS1 := Lib.hid (hs1.cut HLe.out)
      have HW1 := Lib.hid hw1
      have hkc : (k : Int) ≤ (c1 : Int) := by have := HLe.out; omega
      have hk0 : (0 : Int) ≤ (k : Int) := by omega
      clear hs1 hw1 hle
      go_wp2_with fail
      refine (solve_any A1 k c1 n s (a.take k) _ HS1.out hk1 hk3 hk4 HSel.out hf1 hf2 HSz.out).mono ?_; rintro e w2 ⟨q, A2, n2, c2, rfl, hi2, hs2, hw2⟩
      have HI2 := Lib.hid (HI.out q hi2)
      have HS2 := Lib.hid hs2
      have HW2 := Lib.hid (HW1.out.trans (hw2.mono HW1.out.size))
      clear hi2 hs2 hw2
      go_wp2_with fail
      go_ret2
      exact ⟨_, _, _, _, by rw [HD.out]; rfl, HI2.out, HS2.out, HW2.out⟩
    · have HD := Lib.hid (dcE_less HA.out HHu.out (by omega))
      generalize accL l = a at *
      have hle2 : (a.length : Int) < (k : Int) := by omega
      clear hle
      go_enter Tryz.func21, Tryz.ntmps21
      go_wp2_with fail
      refine HU'.out.mono ?_; rintro e w1 ⟨A1, n1, c1, rfl, _, hs1, hw1⟩
      obtain rfl : a.length = n1 := hs1.len
      have HW1 := Lib.hid hw1
      clear hs1 hw1
      go_wp2_with fail
      go_ret2
      exact ⟨_, _, _, [], by rw [HD.out]; rfl, DcIs.none (by rw [HD.out]; decide), Ss.nil _ _, HW1.out⟩
  · have HD := Lib.hid (dcE_u HA.out hu)
    have HHu := Lib.hid hu
    generalize uErr n l = z at *
    generalize uOut n l = o at *
    have HU' := Lib.hid HU
    have hz : ((z : Int) != 0) = true := by simp; omega
    have hz2 : ¬ (z : Int) = 0 := by omega
    clear HU hu
    go_enter Tryz.func21, Tryz.ntmps21
    go_wp2_with fail
    refine HU'.out.mono ?_; rintro e w1 ⟨A1, n1, c1, rfl, _, _, hw1⟩
    have HW1 := Lib.hid hw1
    clear hw1
    go_wp2_with fail
    go_ret2
    exact ⟨_, _, _, [], by rw [HD.out]; rfl, DcIs.none (by rw [HD.out]; exact HHu.out), Ss.nil _ _, HW1.out⟩

theorem decode_any (A : Option Addr) (m c : Nat) (k n : Int) (l : List Shd) (w : World) (hl : Sh w A m l) (hm : m ≤ 100) :
    Calls Tryz.prog 21 #[.int .i64 k, .int .i64 n, .slice A m c] w (GivesDc w k n l) := by
  by_cases h : DArg k n
  · have h' := h
    unfold DArg at h'
    obtain ⟨k', rfl⟩ := Int.eq_ofNat_of_zero_le (show 0 ≤ k by omega)
    obtain ⟨n', rfl⟩ := Int.eq_ofNat_of_zero_le (show 0 ≤ n by omega)
    exact decode_good A m c k' n' l w hl hm h
  · exact decode_arg A m c k n l w h
end Go.Proofs.YtooegclblgeicaaGreatDoor

/- Plain lemmas on a text in shards: how long these are, which byte lies where, and texts put together again. No condition beyond those that each lemma names. -/
namespace Go.Proofs.YtooegclblgeicaaGreatDoor

/-! ### how long a shard is -/
def sizeZ (a b : Int) : Int := if a < 0 ∨ b < 1 then 0 else if a % b = 0 then a / b else a / b + 1
theorem sizeZ_none {a b : Int} (h : a < 0 ∨ b < 1) : sizeZ a b = 0 := if_pos h
theorem sizeZ_even {a b : Int} (ha : 0 ≤ a) (hb : 1 ≤ b) (h : a % b = 0) : sizeZ a b = a / b := by
  unfold sizeZ
  rw [if_neg (by omega), if_pos h]
theorem sizeZ_odd {a b : Int} (ha : 0 ≤ a) (hb : 1 ≤ b) (h : a % b ≠ 0) : sizeZ a b = a / b + 1 := by
  unfold sizeZ
  rw [if_neg (by omega), if_neg h]
def szN (n k : Nat) : Nat := if n % k = 0 then n / k else n / k + 1
theorem sizeZ_nat {n k : Nat} (hk : 1 ≤ k) : sizeZ n k = szN n k := by
  unfold szN
  by_cases h : n % k = 0
  · rw [if_pos h, sizeZ_even (by omega) (by omega) (by omega)]; omega
  · rw [if_neg h, sizeZ_odd (by omega) (by omega) (by omega)]; omega
theorem szN_holds {n k : Nat} (hk : 1 ≤ k) : n ≤ k * szN n k := by
  have h := Nat.div_add_mod n k
  have h1 := Nat.mod_lt n (show k > 0 by omega)
  unfold szN
  split
  · omega
  · rw [Nat.mul_add]; omega
theorem szN_le {n k m : Nat} (hk : 1 ≤ k) (h : n ≤ k * m) : szN n k ≤ m := by
  have h0 := Nat.div_add_mod n k
  unfold szN
  split
  · exact Nat.div_le_of_le_mul h
  · rename_i hz
    have hne : n ≠ m * k := by
      intro e
      rw [e, Nat.mul_mod_left] at hz
      exact hz rfl
    have : n / k < m := (Nat.div_lt_iff_lt_mul (by omega)).2 (by rw [Nat.mul_comm] at h; omega)
    omega
theorem szN_pos {n k : Nat} (hk : 1 ≤ k) (h : 1 ≤ n) : 1 ≤ szN n k := by
  have := szN_holds (n := n) hk
  rcases Nat.eq_zero_or_pos (szN n k) with e | e
  · rw [e] at this; omega
  · exact e

/-! ### the shards of a text -/
/-- shard i of m bytes. -/
def piece (m : Nat) (s : ByteArray) (i : Nat) : ByteArray := tx (mk m fun j => (bts s).getD (i * m + j) 0)
theorem piece_size (m : Nat) (s : ByteArray) (i : Nat) : (piece m s i).size = m := by unfold piece; rw [tx_size, mk_len]
theorem bts_piece (m : Nat) (s : ByteArray) (i : Nat) : bts (piece m s i) = mk m fun j => (bts s).getD (i * m + j) 0 := by
  unfold piece
  exact bts_tx (mk_lt _ _ fun j => bts_lt s _)
/-- what Cut answers, and its error. -/
def cErrZ (n : Nat) (k : Int) : Int := if k < 1 ∨ 32 < k then 1 else if n < 1 ∨ k * 1024 < n then 3 else 0
def cOut (s : ByteArray) (k : Int) : List ByteArray := if cErrZ s.size k = 0 then mkS k.toNat (piece (szN s.size k.toNat) s) else []
theorem cErrZ_arg {n : Nat} {k : Int} (h : k < 1 ∨ 32 < k) : cErrZ n k = 1 := if_pos h
theorem cErrZ_long {n : Nat} {k : Int} (h1 : 1 ≤ k) (h2 : k ≤ 32) (h : n < 1 ∨ k * 1024 < n) : cErrZ n k = 3 := by
  unfold cErrZ; rw [if_neg (by omega), if_pos h]
theorem cErrZ_ok {n : Nat} {k : Int} (h1 : 1 ≤ k) (h2 : k ≤ 32) (h3 : 1 ≤ n) (h4 : n ≤ k * 1024) : cErrZ n k = 0 := by
  unfold cErrZ; rw [if_neg (by omega), if_neg (by omega)]
theorem cOut_err {s : ByteArray} {k : Int} (h : cErrZ s.size k ≠ 0) : cOut s k = [] := if_neg h
theorem cOut_ok {s : ByteArray} {k : Nat} (h1 : 1 ≤ k) (h2 : k ≤ 32) (h3 : 1 ≤ s.size) (h4 : s.size ≤ k * 1024) : cOut s k = mkS k (piece (szN s.size k) s) := by
  unfold cOut; rw [if_pos (cErrZ_ok (by omega) (by omega) h3 (by omega))]; rfl

/-! ### texts in one -/
def catB (l : List ByteArray) : List Nat := (l.map bts).flatten
theorem catB_nil : catB [] = [] := rfl
theorem catB_snoc (l : List ByteArray) (x : ByteArray) : catB (l ++ [x]) = catB l ++ bts x := by unfold catB; simp
theorem catB_lt (l : List ByteArray) : ∀ j, (catB l).getD j 0 < 256 := getD_lt fun x hx => by
  unfold catB at hx
  obtain ⟨y, hy, hx⟩ := List.mem_flatten.1 hx
  obtain ⟨s, _, rfl⟩ := List.mem_map.1 hy
  exact mem_lt (bts_lt s) x hx
def alike (l : List ByteArray) : Prop := ∀ j, j < l.length → (st_ l j).size = (st_ l 0).size
instance (l : List ByteArray) : Decidable (alike l) := by unfold alike; infer_instance
theorem take_st {l : List ByteArray} {j : Nat} (h : j < l.length) : l.take (j + 1) = l.take j ++ [st_ l j] := by
  rw [List.take_succ_eq_append_getElem h, st_at h]
theorem catB_take {l : List ByteArray} {j : Nat} (h : j < l.length) : catB (l.take (j + 1)) = catB (l.take j) ++ bts (st_ l j) := by rw [take_st h, catB_snoc]
theorem catB_len {l : List ByteArray} (h : alike l) : ∀ r, r ≤ l.length → (catB (l.take r)).length = r * (st_ l 0).size := by
  intro r
  induction r with
  | zero => intro _; simp [catB]
  | succ r ih =>
    intro hr
    rw [catB_take (by omega), List.length_append, ih (by omega), bts_len, h r (by omega), Nat.succ_mul]
theorem catB_size {l : List ByteArray} (h : alike l) : (catB l).length = l.length * (st_ l 0).size := by
  have := catB_len h l.length (Nat.le_refl _)
  rwa [List.take_length] at this
/-- are the bytes from place n on 0? -/
def zerosFrom (n : Nat) (b : List Nat) : Prop := ∀ j, n ≤ j → b.getD j 0 = 0
def zerosB (l : List Nat) : Bool := l.all (· == 0)
theorem zerosB_iff (l : List Nat) : zerosB l = true ↔ ∀ j, l.getD j 0 = 0 := by
  unfold zerosB
  rw [List.all_eq_true]
  constructor
  · intro h j
    rw [List.getD_eq_getElem?_getD]
    cases e : l[j]? with
    | none => rfl
    | some x => have := h x (List.mem_of_getElem? e); simpa using this
  · intro h x hx
    obtain ⟨j, hj, rfl⟩ := List.getElem_of_mem hx
    have := h j
    rw [List.getD_eq_getElem?_getD, List.getElem?_eq_getElem hj] at this
    simpa using this
/-- Join's error and answer. -/
def jErr (l : List ByteArray) (n : Int) : Int :=
  if l = [] then 1 else if ¬ alike l then 16 else if n < 0 ∨ ((catB l).length : Int) < n then 2 else if zerosB ((catB l).drop n.toNat) then 0 else 5
def jOut (l : List ByteArray) (n : Int) : ByteArray := if jErr l n = 0 then tx ((catB l).take n.toNat) else S0
theorem jErr_arg (n : Int) : jErr [] n = 1 := rfl
theorem jErr_unlike {l : List ByteArray} {n : Int} (h0 : 0 < l.length) (h : ¬ alike l) : jErr l n = 16 := by
  unfold jErr; rw [if_neg (by intro e; rw [e] at h0; exact absurd h0 (by decide)), if_pos h]
theorem jErr_range {l : List ByteArray} {n : Int} (h0 : 0 < l.length) (h : alike l) (g : n < 0 ∨ ((catB l).length : Int) < n) : jErr l n = 2 := by
  unfold jErr; rw [if_neg (by intro e; rw [e] at h0; exact absurd h0 (by decide)), if_neg (fun x => x h), if_pos g]
theorem jErr_form {l : List ByteArray} {n : Nat} (h0 : 0 < l.length) (h : alike l) (g : n ≤ (catB l).length) (z : zerosB ((catB l).drop n) = false) : jErr l n = 5 := by
  unfold jErr; rw [if_neg (by intro e; rw [e] at h0; exact absurd h0 (by decide)), if_neg (fun x => x h), if_neg (by omega)]
  show (if zerosB ((catB l).drop n) = true then (0 : Int) else 5) = 5
  rw [if_neg (by rw [z]; decide)]
theorem jErr_ok {l : List ByteArray} {n : Nat} (h0 : 0 < l.length) (h : alike l) (g : n ≤ (catB l).length) (z : zerosB ((catB l).drop n) = true) : jErr l n = 0 := by
  unfold jErr; rw [if_neg (by intro e; rw [e] at h0; exact absurd h0 (by decide)), if_neg (fun x => x h), if_neg (by omega)]
  exact if_pos z
theorem jOut_err {l : List ByteArray} {n : Int} (h : jErr l n ≠ 0) : jOut l n = S0 := if_neg h
theorem jOut_ok {l : List ByteArray} {n : Nat} (h : jErr l n = 0) : jOut l n = tx ((catB l).take n) := if_pos h
end Go.Proofs.YtooegclblgeicaaGreatDoor

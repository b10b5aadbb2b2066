/- Proved: lemmas of one statement's proof, merged by program: what each part proves stands ahead of it. Conditions: those that the lemmas name. -/
import Derived.Test.YtooegclblgeicaaGreatDoorM11
import Derived.Lib.AppendZerosOnto
import Derived.Test.YtooegclblgeicaaGreatDoorM6

/- Proved: what slices.Grow leaves of nothing, and slices.Concat of the rows of every table. Conditions: those that the theorems name. -/
namespace Go.Proofs.YtooegclblgeicaaGreatDoor
open Go.ChangeShapes Go.WideShapes Go.ChangeAt Go.RowKit

/-- room for n bytes, in memory of the call's own. -/
def Room (W : World) (e : Ending) (w' : World) : Prop :=
  ∃ v, e = .returned v ∧ w'.ownsRow W.heap.size 5 1 v 0 [] ∧ Below W.heap.size W w'

set_option maxRecDepth 100000 in
set_option maxHeartbeats 800000 in
theorem grow_none (n : Nat) (w : World) (h0 : 0 < n) (hn : n ≤ 1000) :
    Calls Tryz.prog 90 #[.slice none 0 0, .int .i64 (n : Nat)] w (Room w) := by
  obtain ⟨i0, hi0, hz0, hz1, hz2⟩ := info_parts Tryz.infoByte
  have hrz : ∀ ty, (Builtin.append_ #[55, 3] ty #[.slice none 0 0, .int .i64 (n : Nat)]).run Tryz.prog w =
      .ok (.slice (some ⟨w.heap.size, 0, none⟩) n (grownCap w n 0 5)) (w.drew.alloc (.cells (([] : List Value).toArray ++ Builtin.zeroCells (Value.int .u8 0).cells n ++ Builtin.zeroCells (Value.int .u8 0).cells (grownCap w n 0 5 - n)) 5)) := fun ty => by
    have h := Lib.run_append_grow_zeros (P := Tryz.prog) w 55 3 ty 5 i0 (.int .u8 0) .i64 .i64 Tryz.underlying55 Tryz.underlying3 hi0 hz0 none 0 0 [] (run_firstCells_none w.drew i0.size 0 0 0) n h0 (by omega) (by omega) (by omega) (by rw [hz2]; omega) (growslice_fits (by omega) (by rw [hz2]; omega))
    rw [Nat.zero_add] at h
    exact h
  have hge := grownCap_ge w n 0 5
  have hle := grownCap_le_maxLen w n 0 5 (by unfold maxLen; omega)
  generalize grownCap w n 0 5 = G at *
  have hsz : (([] : List Value).toArray ++ Builtin.zeroCells (Value.int .u8 0).cells n ++ Builtin.zeroCells (Value.int .u8 0).cells (G - n)).size = G * 1 := by
    have e1 : (Value.int .u8 0).cells.size = 1 := rfl
    simp only [Array.size_append, size_zeroCells, e1, List.size_toArray, List.length_nil]
    omega
  generalize ([] : List Value).toArray ++ Builtin.zeroCells (Value.int .u8 0).cells n ++ Builtin.zeroCells (Value.int .u8 0).cells (G - n) = cur at *
  have hown := World.ownsRow_made (base := w.heap.size) (e := 5) (size := 1) w.drew cur G (Nat.le_refl _) hle hsz
  have HO := Lib.hid hown
  have hle' := Lib.hid hle
  clear hown hle hsz hi0 hz0 hz1 hz2
  have h1 : ¬ ((n : Int) < 0) := by omega
  have h4 : (n : Int) > 0 := by omega
  have hG63 : G ≤ 9223372036854775807 := by have := hle'.out; unfold maxLen at this; omega
  go_enter Tryz.func90, Tryz.ntmps90
  go_wp2_with (at_builtin; refine Lib.wpList_append_run _ rfl _ _ _ _ rfl _ _ rfl rfl _ _ (hrz _) ?_)
  go_ret
  exact ⟨_, rfl, HO.out, (Below.refl _ _).drew.alloc (Nat.le_refl _) _⟩

/-- the first k rows, one behind the other. -/
def cat (t : List (List Nat)) : Nat → List Nat
  | 0 => []
  | k + 1 => cat t k ++ rw_ t k
theorem cat_succ (t : List (List Nat)) (k : Nat) : cat t (k + 1) = cat t k ++ rw_ t k := rfl
theorem cells_app (a b : List Nat) : cells a ++ cells b = cells (a ++ b) := by unfold cells; rw [List.map_append]
theorem app_lt {a b : List Nat} (ha : ∀ j, a.getD j 0 < 256) (hb : ∀ j, b.getD j 0 < 256) : ∀ j, (a ++ b).getD j 0 < 256 :=
  getD_lt fun x hx => by
    rcases List.mem_append.1 hx with h | h
    · exact mem_lt ha x h
    · exact mem_lt hb x h

set_option maxRecDepth 100000 in
set_option maxHeartbeats 1600000 in
theorem concat_any (A : Option Addr) (n c : Nat) (t : List (List Nat)) (w : World) (ht : Rows w A n t) (h0 : 0 < n) (hn : n ≤ 255) (h1 : ∀ r, r < n → 0 < (rw_ t r).length) (hc : ∀ k, k ≤ n → (cat t k).length ≤ 1000) (hp : 0 < (cat t n).length) :
    Calls Tryz.prog 79 #[.slice A n c] w (GivesC w (cat t n).length (cat t n)) := by
  obtain ⟨i0, hi0, hz0, hz1, hz2⟩ := info_parts Tryz.infoByte
  have HT := Lib.hid ht
  have H1 := Lib.hid h1
  have HC := Lib.hid hc
  have HP := Lib.hid hp
  clear ht h1 hc hp
  obtain ⟨ad, _, _, rfl, had, _, _⟩ := HT.out.at_ (k := 0) h0
  go_enter Tryz.func79, Tryz.ntmps79
  go_wp2_with fail
  go_loop [3, 11] (fun x i => ∃ k : Nat, k ≤ n ∧ i = .int .i64 k ∧ x = .int .i64 ((cat t k).length : Nat)) (fun _ i => n - (intOf i).toNat)
  case atStart => exact ⟨0, by omega, rfl, rfl⟩
  case round =>
    obtain ⟨k, hk, rfl, rfl⟩ := hrel
    by_cases hlt : k < n
    · obtain ⟨ad', B, d, e', _, hac, _⟩ := HT.out.at_ hlt
      injection e' with e'
      subst e'
      have hs1 := HC.out k hk
      have hs2 := HC.out (k + 1) hlt
      rw [cat_succ, List.length_append] at hs2
      have HE : Hid ((cat t (k + 1)).length = (cat t k).length + (rw_ t k).length) := Lib.hid (by rw [cat_succ, List.length_append])
      generalize (cat t k).length = x at *
      generalize (rw_ t k).length = y at *
      have hneg : ¬ ((x : Int) + (y : Int) < 0) := by omega
      go_wp2_with fail
      go_round
      case rel => exact ⟨k + 1, by omega, by go_num, by rw [HE.out]; go_num⟩
      case measure => simp [intOf]; omega
    · obtain rfl : k = n := by omega
      have hs1 := HC.out k hk
      have hp1 := HP.out
      have HL : Hid ((cat t k).length = (cat t k).length) := Lib.hid rfl
      generalize hxx : (cat t k).length = x at hs1 hp1 HL
      have HX := Lib.hid hxx
      clear hxx HL
      go_wp2_with fail
      rw [HX.out]
      refine (grow_none x _ hp1 hs1).mono ?_; rintro e w1 ⟨v, rfl, hown, hb⟩
      have HO := Lib.hid hown
      have HB := Lib.hid hb
      clear hown hb
      go_wp2_with fail
      go_loopw [6, 27] (fun v i wr => ∃ q : Nat, q ≤ k ∧ i = .int .i64 q ∧ wr.ownsRow w.heap.size 5 1 v (cat t q).length (cells (cat t q)) ∧ (∀ j, (cat t q).getD j 0 < 256) ∧ Below w.heap.size w wr) (fun _ i _ => k - (intOf i).toNat)
      case atStart => exact ⟨0, by omega, rfl, HO.out, fun j => by simp [cat], HB.out⟩
      case round =>
        obtain ⟨q, hq, rfl, hown, hcl, hbel⟩ := hrel
        have HO' := Lib.hid hown
        have HCl := Lib.hid hcl
        have HW := Lib.hid hbel
        clear hown hcl hbel HO HB
        by_cases hlt : q < k
        · obtain ⟨ad', B, d, e', _, hac, hbs⟩ := HT.out.at_ hlt
          injection e' with e'
          subst e'
          have hl0 := H1.out q hlt
          obtain ⟨bd, rfl, hbd, _⟩ := hbs.at_ hl0
          rw [← HW.out.cell (p := ad.add q) (by rw [add_block]; exact had)] at hac
          have HBs := Lib.hid (hbs.below HW.out)
          have hs1 := HC.out q hq
          have hs2 := HC.out (q + 1) hlt
          rw [cat_succ, List.length_append] at hs2
          have HE : Hid ((cat t (q + 1)).length = (cat t q).length + (rw_ t q).length) := Lib.hid (by rw [cat_succ, List.length_append])
          have HL := Lib.hid HBs.out.len
          clear hbs
          generalize hyy : (rw_ t q).length = y at hac hl0 hs2
          generalize hzz : (cat t q).length = z at hs1 hs2 HO'
          have HY := Lib.hid hyy
          have HZ := Lib.hid hzz
          clear hyy hzz
          have hws := HW.out.size
          have hmax : z + y ≤ maxLen := by unfold maxLen; omega
          go_wp2_with (at_builtin; refine wpList_append_lies _ rfl _ _ _ rfl w.heap.size 5 i0 _ 1 1 Tryz.underlying55 hi0 hz0 hz1 hz2 rfl (by omega) _ z _ rfl HO'.out bd y d (cells (rw_ t q)) rfl (by rw [cells_len, HY.out, Nat.mul_one]) HBs.out.source (cells_one _) hl0 hmax (by omega) hws _ rfl ?_; intro gg cap w1 hown1 hgrow hat hlt1)
          go_roundw
          case rel =>
            refine ⟨q + 1, by omega, by go_num, ?_, app_lt HCl.out HBs.out.lt, HW.out.grown hgrow hws (fun j e => (HO'.out.lt j e).1)⟩
            have h := hown1
            rw [cells_app] at h
            rw [HE.out, HZ.out, HY.out]
            exact h
          case measure => simp [intOf]; omega
        · obtain rfl : q = k := by omega
          obtain ⟨A', c', rfl, hcap, hbs⟩ := bs_of_cap HO'.out HCl.out
          have HBS := Lib.hid hbs
          clear hbs
          go_wp2_with fail
          go_ret
          exact ⟨_, _, rfl, hcap, HBS.out, HW.out⟩

theorem two_rows (A B : Option Addr) (n m c d : Nat) (a b : List Nat) (w : World) (hnc : n ≤ c) (hmd : m ≤ d) (ha : Bs w A n a) (hb : Bs w B m b) :
    Rows (w.alloc (.cells #[.slice A n c, .slice B m d] 55)) (some ⟨w.heap.size, 0, none⟩) 2 [a, b] := by
  have hal : Below w.heap.size w (w.alloc (.cells #[.slice A n c, .slice B m d] 55)) := (Below.refl _ _).alloc (Nat.le_refl _) _
  refine ⟨rfl, fun _ => ⟨_, rfl, by simp, fun r hr => ?_⟩⟩
  have e : (⟨w.heap.size, 0, none⟩ : Addr).add r = ⟨w.heap.size, r, none⟩ := by unfold Addr.add; split <;> simp_all
  rw [e, cell_of_row _ _ r _ _ (0, 0) (heap_alloc_new w _)]
  have hl := ha.len
  have hl2 := hb.len
  match r, hr with
  | 0, _ => exact ⟨A, c, by rw [← hl]; rfl, by show a.length ≤ c; omega, by show Bs _ A a.length a; rw [hl]; exact ha.below hal⟩
  | 1, _ => exact ⟨B, d, by rw [← hl2]; rfl, by show b.length ≤ d; omega, by show Bs _ B b.length b; rw [hl2]; exact hb.below hal⟩

theorem concat_two (m : Nat) (a b : List Nat) (A : Option Addr) (c : Nat) (w : World) (ht : Rows w A 2 [a, b]) (ha : a.length = m) (hb : b.length = m) (hm1 : 1 ≤ m) (hm2 : m ≤ 255) :
    Calls Tryz.prog 79 #[.slice A 2 c] w (GivesC w (m + m) (a ++ b)) := by
  have e : cat [a, b] 2 = a ++ b := rfl
  have el : (cat [a, b] 2).length = m + m := by rw [e, List.length_append, ha, hb]
  have h := concat_any A 2 c [a, b] w ht (by decide) (by decide) (fun r hr => by
    match r, hr with
    | 0, _ => show 0 < a.length; omega
    | 1, _ => show 0 < b.length; omega) (fun k hk => by
    match k, hk with
    | 0, _ => exact (by decide : 0 ≤ 1000)
    | 1, _ => show a.length ≤ 1000; omega
    | 2, _ => rw [el]; omega) (by rw [el]; omega)
  rw [el, e] at h
  exact h

set_option maxRecDepth 100000 in
set_option maxHeartbeats 1600000 in
theorem beside_any (A B : Option Addr) (n m c d : Nat) (a b : List (List Nat)) (w : World) (ha : Rows w A n a) (hb : Rows w B n b) (hla : ∀ r, r < n → (rw_ a r).length = m) (hlb : ∀ r, r < n → (rw_ b r).length = m) (hn1 : 1 ≤ n) (hn2 : n ≤ 255) (hm1 : 1 ≤ m) (hm2 : m ≤ 255) :
    Calls Tryz.prog 62 #[.slice A n c, .slice B n d] w fun e w' => ∃ g cap, e = .returned (.slice (some ⟨g, 0, none⟩) n cap) ∧ w.heap.size ≤ g ∧ OwnT w' g n (mkR n fun i => rw_ a i ++ rw_ b i) ∧ Below w.heap.size w w' := by
  have hmT := run_make_row' (P := Tryz.prog) 54 55 (.slice none 0 0) 24 Tryz.underlying54 Tryz.infoRow rfl .i64 .i64 n (by omega) (by omega)
  have HA := Lib.hid ha
  have HB := Lib.hid hb
  have HLA := Lib.hid hla
  have HLB := Lib.hid hlb
  clear ha hb hla hlb
  obtain ⟨ad, _, _, rfl, had, _, _⟩ := HA.out.at_ (k := 0) (by omega)
  obtain ⟨bd, _, _, rfl, hbd, _, _⟩ := HB.out.at_ (k := 0) (by omega)
  have hn : (0 : Int) < (n : Int) := by omega
  go_enter Tryz.func62, Tryz.ntmps62
  go_wp2_with fail
  have HO := Lib.hid (ownT_new w n)
  have HW := Lib.hid ((Below.refl w.heap.size w).alloc (Nat.le_refl _) (.cells (madeCells #[.slice none 0 0] n) 55))
  generalize hgg : w.heap.size = g at *
  have HG := Lib.hid hgg
  clear hgg
  go_loopw [13] (fun i wr => ∃ q : Nat, q ≤ n ∧ i = .int .i64 q ∧ ∃ t, UptoT n q (fun i => rw_ a i ++ rw_ b i) t ∧ OwnT wr g n t ∧ Below g w wr) (fun i _ => n - (intOf i).toNat)
  case atStart => exact ⟨0, by omega, rfl, _, UptoT.start (by simp), HO.out, HW.out⟩
  case round =>
    obtain ⟨q, hq, rfl, t, hu, ho, hbel⟩ := hrel
    have HU := Lib.hid hu
    have HO' := Lib.hid ho
    have HW' := Lib.hid hbel
    clear hu ho hbel HO HW
    have GW : Hid (Below w.heap.size w wr) := Lib.hid (by rw [HG.out]; exact HW'.out)
    by_cases hlt : q < n
    · obtain ⟨ad', A1, e1, h', _, hac, k1, has⟩ := HA.out.at_cap hlt
      injection h' with h'
      subst h'
      obtain ⟨bd', B1, e2, h', _, hbc, k2, hbs⟩ := HB.out.at_cap hlt
      injection h' with h'
      subst h'
      rw [← GW.out.cell (p := ad.add q) (by rw [add_block, HG.out]; exact had), HLA.out q hlt] at hac
      rw [← GW.out.cell (p := bd.add q) (by rw [add_block, HG.out]; exact hbd), HLB.out q hlt] at hbc
      have has' := has.below GW.out
      have hbs' := hbs.below GW.out
      rw [HLA.out q hlt] at has' k1
      rw [HLB.out q hlt] at hbs' k2
      have HX := Lib.hid (two_rows A1 B1 m m e1 e2 (rw_ a q) (rw_ b q) wr k1 k2 has' hbs')
      have HY : Hid (Below wr.heap.size wr (wr.alloc (.cells #[.slice A1 m e1, .slice B1 m e2] 55))) := Lib.hid ((Below.refl _ _).alloc (Nat.le_refl _) _)
      clear has hbs has' hbs'
      have hL : Hid ((rw_ a q).length = m ∧ (rw_ b q).length = m) := Lib.hid ⟨HLA.out q hlt, HLB.out q hlt⟩
      have hgl := HO'.out.block_lt
      go_wp2_with fail
      generalize wr.alloc (.cells #[.slice A1 m e1, .slice B1 m e2] 55) = W1 at *
      refine (concat_two m (rw_ a q) (rw_ b q) _ _ _ HX.out hL.out.1 hL.out.2 hm1 hm2).mono ?_; rintro e w2 ⟨A2, c2, rfl, k3, h2, g2⟩
      have H2 := Lib.hid h2
      have G2 : Hid (Below wr.heap.size wr w2) := Lib.hid (HY.out.trans (g2.mono HY.out.size))
      clear h2 g2
      have HO2 := Lib.hid (HO'.out.below G2.out)
      have HW2 : Hid (Below g w w2) := Lib.hid (HW'.out.trans (G2.out.mono (by omega)))
      obtain ⟨B3, c3, hc3, _⟩ := HO2.out.at_ hlt
      have hfz := HO2.out.frozen q
      go_wp2_with fail
      go_roundw
      case rel => exact ⟨q + 1, by omega, by go_num, _, HU.out.next hlt, HO2.out.set_ hlt k3 H2.out, HW2.out.setCell (Nat.le_refl g) _⟩
      case measure => simp [intOf]; omega
    · obtain rfl : q = n := by omega
      go_wp2_with fail
      go_ret
      exact ⟨_, _, rfl, by rw [HG.out]; exact Nat.le_refl _, by rw [← HU.out.done]; exact HO'.out, GW.out⟩
end Go.Proofs.YtooegclblgeicaaGreatDoor

/- Proved: what Invert of package matrix answers for every table. Conditions: those that the theorems name. -/
namespace Go.Proofs.YtooegclblgeicaaGreatDoor
open Go.ChangeShapes Go.WideShapes Go.ChangeAt Go.RowKit

/-- what Invert must answer: the inverse, or the error. -/
def InvIs (t q : List (List Nat)) (k : Nat) : Prop :=
  (chk t ≠ 0 ∧ k = chk t ∧ q = []) ∨
  (chk t = 0 ∧ (rw_ t 0).length ≠ t.length ∧ k = 16 ∧ q = []) ∨
  (chk t = 0 ∧ (rw_ t 0).length = t.length ∧ (∃ r, r < t.length ∧ RankT t.length t.length (tabT t) r) ∧ k = 14 ∧ q = []) ∨
  (chk t = 0 ∧ (rw_ t 0).length = t.length ∧ Good t.length t.length q ∧ InvT t.length (tabT q) (tabT t) ∧ k = 0)
theorem InvIs.only {t q q' : List (List Nat)} {k k' : Nat} (h : InvIs t q k) (g : InvIs t q' k') : q = q' ∧ k = k' := by
  rcases h with ⟨h1, h2, h3⟩ | ⟨h1, h2, h3, h4⟩ | ⟨h1, h2, ⟨r, hr, h3⟩, h4, h5⟩ | ⟨h1, h2, h3, h4, h5⟩ <;>
  rcases g with ⟨g1, g2, g3⟩ | ⟨g1, g2, g3, g4⟩ | ⟨g1, g2, ⟨s, hs, g3⟩, g4, g5⟩ | ⟨g1, g2, g3, g4, g5⟩
  · exact ⟨by rw [h3, g3], by rw [h2, g2]⟩
  · exact absurd g1 h1
  · exact absurd g1 h1
  · exact absurd g1 h1
  · exact absurd h1 g1
  · exact ⟨by rw [h4, g4], by rw [h3, g3]⟩
  · exact absurd g2 h2
  · exact absurd g2 h2
  · exact absurd h1 g1
  · exact absurd h2 g2
  · exact ⟨by rw [h5, g5], by rw [h4, g4]⟩
  · have := h3.only g4.symm.rank
    omega
  · exact absurd h1 g1
  · exact absurd h2 g2
  · have := g3.only h4.symm.rank
    omega
  · exact ⟨h3.ext g3 (g4.symm.only' h4.2), by rw [h5, g5]⟩
/-- What an Invert leaves. -/
def GivesInv (W : World) (t : List (List Nat)) (e : Ending) (w' : World) : Prop :=
  ∃ A c q k, e = .returned (.tuple #[.slice A q.length c, .int .i64 (k : Nat)]) ∧ Rows w' A q.length q ∧ InvIs t q k ∧ Below W.heap.size W w'

theorem wide_good {n : Nat} {t : List (List Nat)} (h : Good n n t) : Good n (n + n) (mkR n fun i => rw_ t i ++ rw_ (idL n) i) :=
  ⟨mkR_len _ _, fun r hr => by rw [mkR_at _ _ _ hr, List.length_append, h.row r hr, (idL_good n).row r hr], fun r hr j => by
    rw [mkR_at _ _ _ hr]; exact app_lt (h.lt r hr) ((idL_good n).lt r hr) j⟩
theorem app_at (a b : List Nat) (j : Nat) : (a ++ b).getD j 0 = if j < a.length then a.getD j 0 else b.getD (j - a.length) 0 := by
  rw [List.getD_eq_getElem?_getD, List.getElem?_append]
  split <;> rw [List.getD_eq_getElem?_getD]
theorem wide_tab {n : Nat} {t : List (List Nat)} (h : Good n n t) : EqT n (n + n) (tabT (mkR n fun i => rw_ t i ++ rw_ (idL n) i)) (wideT n (tabT t)) := fun i hi j hj => by
  show F.of ((rw_ (mkR n fun i => rw_ t i ++ rw_ (idL n) i) i).getD j 0) = _
  rw [mkR_at _ _ _ hi, app_at, h.row i hi]
  unfold wideT
  split
  · rfl
  · exact tab_idL n i hi (j - n) (by omega)
theorem drop_at (l : List Nat) (n j : Nat) : (l.drop n).getD j 0 = l.getD (n + j) 0 := by
  rw [List.getD_eq_getElem?_getD, List.getElem?_drop, List.getD_eq_getElem?_getD]
/-- what stands behind the first n places. -/
def behind (n : Nat) (t : List (List Nat)) : List (List Nat) := mkR n fun i => (rw_ t i).drop n
theorem behind_good {n : Nat} {t : List (List Nat)} (h : Good n (n + n) t) : Good n n (behind n t) :=
  ⟨mkR_len _ _, fun r hr => by unfold behind; rw [mkR_at _ _ _ hr, List.length_drop, h.row r hr]; omega, fun r hr j => by
    unfold behind; rw [mkR_at _ _ _ hr, drop_at]; exact h.lt r hr _⟩
theorem behind_tab (n : Nat) (t : List (List Nat)) : EqT n n (tabT (behind n t)) (fun i j => tabT t i (n + j)) := fun i hi j _ => by
  show F.of ((rw_ (behind n t) i).getD j 0) = F.of ((rw_ t i).getD (n + j) 0)
  unfold behind
  rw [mkR_at _ _ _ hi, drop_at]
/-- a row from place k on. -/
theorem Bs.tail {w : World} {ad : Addr} {n k : Nat} {l : List Nat} (h : Bs w (some ad) n l) (hk : k ≤ n) : Bs w (some (ad.add k)) (n - k) (l.drop k) := by
  refine ⟨by rw [List.length_drop, h.len], fun j => by rw [drop_at]; exact h.lt _, fun hn => ?_⟩
  obtain ⟨ad', e, hlt, hc⟩ := h.2.2 (by omega)
  injection e with e
  subst e
  refine ⟨_, rfl, by rw [add_block]; exact hlt, fun j hj => ?_⟩
  rw [Addr.add_add, drop_at]
  exact hc (k + j) (by omega)
/-- the two ways in which an elimination of a wide table ends. -/
theorem inv_of {n c : Nat} {g : Nat} {t t' : List (List Nat)} {W w' : World} {d : Nat} (ht : Good n n t) (hc : chk t = 0) (hl : (rw_ t 0).length = n) (_ : c = c)
    (h : Done g n (n + n) n (mkR n fun i => rw_ t i ++ rw_ (idL n) i) W t' d w') : (d < n → InvIs t [] 14) ∧ (d = n → InvIs t (behind n t') 0) := by
  obtain ⟨cc, _, h2, h3, h4, _⟩ := h
  have h5 := h4.from_ (wide_tab ht)
  refine ⟨fun hd => Or.inr (Or.inr (Or.inl ⟨hc, by rw [hl, ht.len], ⟨d, by rw [ht.len]; exact hd, by rw [ht.len]; exact h3.rank h5.left⟩, rfl, rfl⟩)), fun hd => ?_⟩
  subst hd
  have h6 := h3.inverse h5
  refine Or.inr (Or.inr (Or.inr ⟨hc, by rw [hl, ht.len], by rw [ht.len]; exact behind_good h2, ?_, rfl⟩))
  rw [ht.len]
  exact h6.congr (behind_tab d t').symm (EqT.refl _ _ _)

set_option maxHeartbeats 400000 in
theorem invert_bad (A : Option Addr) (n c : Nat) (t : List (List Nat)) (w : World) (ht : Rows w A n t) (h1 : chk t ≠ 0) :
    Calls Tryz.prog 50 #[.slice A n c] w (GivesInv w t) := by
  have HC := fun W h => check_any A n c t W h
  have HT := Lib.hid ht
  have HR : Hid (InvIs t [] (chk t)) := Lib.hid (Or.inl ⟨h1, rfl, rfl⟩)
  clear ht
  generalize hk : chk t = k at *
  have HC' := Lib.hid HC
  clear HC hk
  have hk : ((k : Int) != 0) = true := by simp; omega
  have hk' : ¬ ((k : Int) = 0) := by omega
  go_enter Tryz.func50, Tryz.ntmps50
  go_wp2_with fail
  refine (HC'.out _ HT.out).mono ?_; rintro e w' ⟨rfl, rfl⟩
  go_wp2_with fail
  go_ret2
  exact ⟨none, 0, [], k, rfl, Rows.nil _ _, HR.out, Below.refl _ _⟩

set_option maxHeartbeats 400000 in
theorem invert_unlike (A : Option Addr) (n c : Nat) (t : List (List Nat)) (w : World) (ht : Rows w A n t) (h1 : chk t = 0) (h2 : (rw_ t 0).length ≠ t.length) :
    Calls Tryz.prog 50 #[.slice A n c] w (GivesInv w t) := by
  have HC := fun W h => check_any A n c t W h
  rw [h1] at HC
  have HC' := Lib.hid HC
  have HT := Lib.hid ht
  have HR : Hid (InvIs t [] 16) := Lib.hid (Or.inr (Or.inl ⟨h1, h2, rfl, rfl⟩))
  have hd := chk_zero h1
  rw [ht.len] at hd h2
  have hn : 0 < n := hd.1.1
  obtain ⟨ad, B0, c0, rfl, had, hc0, _⟩ := HT.out.at_ (k := 0) hn
  rw [Addr.add_zero' ad] at hc0
  clear ht h1 HC hd
  generalize (rw_ t 0).length = m at *
  have hk : ((m : Int) != (n : Int)) = true := by simp; omega
  have hk' : ¬ ((m : Int) = (n : Int)) := by omega
  go_enter Tryz.func50, Tryz.ntmps50
  go_wp2_with fail
  refine (HC'.out _ HT.out).mono ?_; rintro e w' ⟨rfl, rfl⟩
  go_wp2_with fail
  go_ret2
  exact ⟨none, 0, [], 16, rfl, Rows.nil _ _, HR.out, Below.refl _ _⟩

set_option maxRecDepth 100000 in
set_option maxHeartbeats 1600000 in
theorem invert_good (A : Option Addr) (n c : Nat) (t : List (List Nat)) (w : World) (ht : Rows w A n t) (h1 : chk t = 0) (hl : ∀ r, r < n → (rw_ t r).length = n) (hn1 : 1 ≤ n) (hn2 : n ≤ 255) :
    Calls Tryz.prog 50 #[.slice A n c] w (GivesInv w t) := by
  have HC := fun W h => check_any A n c t W h
  rw [h1] at HC
  have HC' := Lib.hid HC
  have HT := Lib.hid ht
  have HL := Lib.hid hl
  have H1 := Lib.hid h1
  have HGd := Lib.hid (ht.good hl)
  have hn : 0 < n := hn1
  obtain ⟨ad, B0, c0, rfl, had, hc0, _⟩ := HT.out.at_ (k := 0) hn
  rw [Addr.add_zero' ad, HL.out 0 hn] at hc0
  clear ht h1 HC hl
  go_enter Tryz.func50, Tryz.ntmps50
  go_wp2_with fail
  refine (HC'.out _ HT.out).mono ?_; rintro e w' ⟨rfl, rfl⟩
  go_wp2_with fail
  refine (ident_yes n hn1 hn2 _).mono ?_; rintro e w1 ⟨A1, c1, rfl, h1, g1⟩
  have HI := Lib.hid h1; have G1 := Lib.hid g1; clear h1 g1 hc0
  have HT1 := Lib.hid (HT.out.below G1.out)
  go_wp2_with fail
  refine (beside_any _ A1 n n c c1 t (idL n) _ HT1.out HI.out HL.out (idL_good n).row hn1 hn2 hn1 hn2).mono ?_; rintro e w2 ⟨g, cap, rfl, hg, h2, g2⟩
  have H2 := Lib.hid h2
  have G2 : Hid (Below w.heap.size w w2) := Lib.hid (G1.out.trans (g2.mono G1.out.size))
  have HG : Hid (w.heap.size ≤ g) := Lib.hid (Nat.le_trans G1.out.size hg)
  clear h2 g2 hg
  go_wp2_with fail
  refine (reduce_any g n cap (n + n) n _ _ H2.out (wide_good HGd.out).row hn2 (by omega) (by omega)).mono ?_; rintro e w3 ⟨t', d, rfl, hd⟩
  have HD := Lib.hid hd
  have HV := Lib.hid (inv_of (c := 0) HGd.out H1.out (HL.out 0 hn) rfl hd)
  have hdn : d ≤ n := by obtain ⟨_, _, _, h3, _⟩ := hd; exact h3.rows
  have G3 : Hid (Below w.heap.size w w3) := Lib.hid (by obtain ⟨_, _, _, _, _, h6⟩ := hd; exact G2.out.trans (h6.mono HG.out))
  clear hd
  by_cases hlt : d < n
  · go_wp2_with fail
    go_ret2
    exact ⟨none, 0, [], 14, rfl, Rows.nil _ _, HV.out.1 hlt, G3.out⟩
  · obtain rfl : d = n := by omega
    have hO : OwnT w3 g d t' ∧ Good d (d + d) t' := by obtain ⟨_, a, b, _⟩ := HD.out; exact ⟨a, b⟩
    have HO := Lib.hid hO.1
    have HG3 := Lib.hid hO.2
    clear hO
    go_wp2_with fail
    go_loopw [42] (fun i wr => ∃ q : Nat, q ≤ d ∧ i = .int .i64 q ∧ ∃ s, s.length = d ∧ (∀ r, r < d → rw_ s r = if r < q then (rw_ t' r).drop d else rw_ t' r) ∧ OwnT wr g d s ∧ Below w.heap.size w wr) (fun i _ => d - (intOf i).toNat)
    case atStart => exact ⟨0, by omega, rfl, t', HG3.out.len, fun r _ => (if_neg (by omega)).symm, HO.out, G3.out⟩
    case round =>
      obtain ⟨q, hq, rfl, s, hs, hrow, ho, hbel⟩ := hrel
      have HS := Lib.hid hs
      have HR := Lib.hid hrow
      have HO' := Lib.hid ho
      have HW := Lib.hid hbel
      clear hs hrow ho hbel HO
      by_cases hlt : q < d
      · obtain ⟨B, e, hac, hcap, hbs⟩ := HO'.out.at_cap hlt
        have hrq : rw_ s q = rw_ t' q := by rw [HR.out q hlt, if_neg (by omega)]
        rw [hrq, HG3.out.row q hlt] at hac hcap
        rw [hrq, HG3.out.row q hlt] at hbs
        obtain ⟨bd, rfl, _, _⟩ := hbs.at_ (k := 0) (by omega)
        have htl := hbs.tail (k := d) (by omega)
        rw [Nat.add_sub_cancel] at htl
        have HB := Lib.hid htl
        clear htl
        clear hbs hrq
        have hle : (d : Int) ≤ ((d + d : Nat) : Int) := by omega
        have hed : ¬ e = d := by omega
        have hd0 : (0 : Int) ≤ (d : Int) := by omega
        have hgl := HO'.out.block_lt
        go_wp2_with fail
        refine (cloneR_any _ d _ _ _ HB.out hn hn2).mono ?_; rintro e w5 ⟨A5, c5, rfl, k5, h5, g5⟩
        have H5 := Lib.hid h5; have G5 := Lib.hid g5; clear h5 g5 hac
        have HO5 := Lib.hid (HO'.out.below G5.out)
        have HW5 : Hid (Below w.heap.size w w5) := Lib.hid (HW.out.trans (G5.out.mono HW.out.size))
        obtain ⟨B6, c6, hc6, _⟩ := HO5.out.at_ hlt
        have hfz := HO5.out.frozen q
        go_wp2_with fail
        go_roundw
        case rel =>
          refine ⟨q + 1, by omega, by go_num, s.set q ((rw_ t' q).drop d), by rw [List.length_set, HS.out], fun r hr => ?_, HO5.out.set_ hlt k5 H5.out, HW5.out.setCell (p := ⟨g, q, none⟩) HG.out _⟩
          rw [rw_set _ _ _ _ (by rw [HS.out]; exact hlt)]
          by_cases e : q = r
          · subst e; rw [if_pos rfl, if_pos (by omega)]
          · rw [if_neg e, HR.out r hr]
            by_cases e2 : r < q
            · rw [if_pos e2, if_pos (by omega)]
            · rw [if_neg e2, if_neg (by omega)]
        case measure => simp [intOf]; omega
      · obtain rfl : q = d := by omega
        have hsb : s = behind q t' := eq_mkR HS.out fun r hr => by rw [HR.out r hr, if_pos hr]
        subst hsb
        have HV2 : Hid (InvIs t (behind q t') 0) := Lib.hid (by first | exact HV.out.2 rfl | exact HV.out.2 trivial)
        have hlen : (behind q t').length = q := mkR_len _ _
        have HLen := Lib.hid hlen
        clear hlen HV
        go_wp2_with fail
        go_ret2
        exact ⟨some ⟨g, 0, none⟩, cap, behind q t', 0, by rw [HLen.out]; rfl, by rw [HLen.out]; exact HO'.out.rows, HV2.out, HW.out⟩

theorem invert_any (A : Option Addr) (n c : Nat) (t : List (List Nat)) (w : World) (ht : Rows w A n t) :
    Calls Tryz.prog 50 #[.slice A n c] w (GivesInv w t) := by
  by_cases h : chk t = 0
  · by_cases h2 : (rw_ t 0).length = t.length
    · obtain ⟨n1, m1, l1, r1, r2, r3, r4, r5, r6⟩ := chk_dims h
      have hn : n1 = n := l1.symm.trans ht.len
      have hm : m1 = n1 := by omega
      subst hn hm
      exact invert_good A m1 c t w ht h r6 r1 r2
    · exact invert_unlike A n c t w ht h h2
  · exact invert_bad A n c t w ht h
end Go.Proofs.YtooegclblgeicaaGreatDoor

/- Plain lemmas: fewer equations than unknowns have a solution that is not 0; the table of 1 / (x + y) has none; any k unlike rows of the identity with that table below it have full rank. No condition beyond those that each lemma names. Nothing of the program is imported. -/
namespace Go.Proofs.YtooegclblgeicaaGreatDoor
open F

theorem fsum_swapN {n a b : Nat} (ha : a < n) (hb : b < n) (f : Nat → F) : fsum n (fun i => f (swapN a b i)) = fsum n f := by
  have e1 : ∀ i, i < n → f (swapN a b i) = fsum n (fun j => idT (swapN a b i) j * f j) := fun i hi =>
    (id_mulT (a := fun j _ => f j) (j := 0) (swapN_lt ha hb hi)).symm
  rw [fsum_congr e1, fsum_swap]
  refine fsum_congr fun j hj => ?_
  have e2 : fsum n (fun i => idT (swapN a b i) j * f j) = fsum n (fun i => idT i (swapN a b j)) * f j := by
    rw [← fsum_mul']
    refine fsum_congr fun i _ => ?_
    congr 1
    unfold idT
    by_cases e : swapN a b i = j
    · rw [if_pos e, if_pos (by rw [← e, swapN_twice])]
    · rw [if_neg e, if_neg (fun q => e (by rw [q, swapN_twice]))]
  rw [e2, fsum_one (f := fun i => idT i (swapN a b j)) (swapN_lt ha hb hj) fun k _ hne => if_neg hne]
  show idT _ _ * _ = _
  rw [idT, if_pos rfl, one_mul]

/-- fewer equations than unknowns. -/
theorem null (s : Nat) : ∀ (k : Nat) (y : Tab), s < k → ∃ v : Nat → F, (∃ j, j < k ∧ v j ≠ 0) ∧ ∀ i, i < s → fsum k (fun j => y i j * v j) = 0 := by
  induction s with
  | zero => intro k y h; exact ⟨fun _ => 1, ⟨0, h, one_ne⟩, fun i hi => absurd hi (by omega)⟩
  | succ s ih =>
    intro k y h
    by_cases hp : ∃ p, p < k ∧ y s p ≠ 0
    · obtain ⟨p, hp, hy⟩ := hp
      obtain ⟨k', rfl⟩ : ∃ k', k = k' + 1 := ⟨k - 1, by omega⟩
      have hk : k' < k' + 1 := Nat.lt_succ_self k'
      generalize hz : (fun i j => y i (swapN p k' j)) = z
      have hz' : ∀ i j, z i j = y i (swapN p k' j) := fun i j => by rw [← hz]
      have hzs : z s k' ≠ 0 := by
        rw [hz']
        have : swapN p k' k' = p := by unfold swapN; by_cases e : k' = p
                                       · rw [if_pos e]; exact e
                                       · rw [if_neg e, if_pos rfl]
        rw [this]; exact hy
      obtain ⟨v', ⟨j, hj, hv⟩, hs⟩ := ih k' (fun i j => z i j + z i k' * (z s k').inv * z s j) (by omega)
      generalize hu : (fun j => if j = k' then (z s k').inv * fsum k' (fun j => z s j * v' j) else v' j) = u
      have hu1 : u k' = (z s k').inv * fsum k' (fun j => z s j * v' j) := by rw [← hu]; exact if_pos rfl
      have hu2 : ∀ j, j < k' → u j = v' j := fun j hj => by rw [← hu]; exact if_neg (by omega)
      have main : ∀ i, i < s + 1 → fsum (k' + 1) (fun j => z i j * u j) = 0 := fun i hi => by
        rw [fsum_succ, hu1, fsum_congr (g := fun j => z i j * v' j) fun j hj => by rw [hu2 j hj], ← mul_assoc]
        by_cases e : i = s
        · subst e
          rw [mul_inv hzs, one_mul, add_self]
        · have h1 := hs i (by omega)
          rw [fsum_congr (g := fun j => z i j * v' j + z i k' * (z s k').inv * (z s j * v' j)) fun j _ => by rw [add_mul, mul_assoc (z i k' * (z s k').inv)], fsum_add, fsum_mul] at h1
          exact h1
      refine ⟨fun j => u (swapN p k' j), ⟨swapN p k' j, swapN_lt hp hk (by omega), ?_⟩, fun i hi => ?_⟩
      · show u (swapN p k' (swapN p k' j)) ≠ 0
        rw [swapN_twice, hu2 j hj]; exact hv
      · rw [← main i hi, ← fsum_swapN hp hk]
        refine fsum_congr fun j _ => ?_
        rw [hz']
        show _ * u (swapN p k' (swapN p k' j)) = _
        rw [swapN_twice]
    · obtain ⟨v, hv, hs⟩ := ih k y (by omega)
      refine ⟨v, hv, fun i hi => ?_⟩
      by_cases e : i = s
      · subst e
        refine fsum_zero' fun j hj => ?_
        have : y i j = 0 := by
          by_cases e : y i j = 0
          · exact e
          · exact absurd ⟨j, hj, e⟩ hp
        rw [this, zero_mul]
      · exact hs i (by omega)
/-- a table of n rows and k places that takes nothing but 0 to 0 is not made of fewer than k. -/
theorem least_of_null {n k s : Nat} {a : Tab} (h : Made n k a s) (h0 : ∀ v : Nat → F, (∀ i, i < n → fsum k (fun j => a i j * v j) = 0) → ∀ j, j < k → v j = 0) : k ≤ s := by
  by_cases hlt : s < k
  · obtain ⟨x, y, h⟩ := h
    obtain ⟨v, ⟨j, hj, hv⟩, hs⟩ := null s k y hlt
    refine absurd (h0 v (fun i hi => ?_) j hj) hv
    have e : fsum k (fun j => a i j * v j) = mulT k (mulT s x y) (fun j _ => v j) i 0 := fsum_congr fun j hj => by rw [h i hi j hj]
    rw [e, mulT_assoc]
    refine fsum_zero' fun l hl => ?_
    have : mulT k y (fun j _ => v j) l 0 = 0 := hs l hl
    rw [this, mul_zero]
  · omega

/-! ### 1 / (x + y) -/
theorem inv_add {a b : F} (ha : a ≠ 0) (hb : b ≠ 0) : a.inv + b.inv = (a + b) * (a.inv * b.inv) := by
  rw [add_mul, ← mul_assoc, mul_inv ha, one_mul, mul_comm a.inv, ← mul_assoc, mul_inv hb, one_mul, add_comm]
theorem add_ne {a b : F} (h : a ≠ b) : a + b ≠ 0 := fun e => h (eq_of_add e)
/-- no v but 0 is taken to 0 by 1 / (x i + y j), whose x and y are all unlike. -/
theorem cauchy_null (s : Nat) : ∀ (x y v : Nat → F), (∀ i, i < s → ∀ j, j < s → x i ≠ y j) → (∀ i, i < s → ∀ j, j < s → x i = x j → i = j) → (∀ i, i < s → ∀ j, j < s → y i = y j → i = j) →
    (∀ i, i < s → fsum s (fun j => (x i + y j).inv * v j) = 0) → ∀ j, j < s → v j = 0 := by
  induction s with
  | zero => intro x y v _ _ _ _ j hj; omega
  | succ s ih =>
    intro x y v hxy hx hy h
    have hq : ∀ i, i < s + 1 → ∀ j, j < s + 1 → x i + y j ≠ 0 := fun i hi j hj => add_ne (hxy i hi j hj)
    have hs : s < s + 1 := Nat.lt_succ_self s
    have h1 : ∀ i, i < s + 1 → fsum s (fun j => (y j + y s) * ((x i + y j).inv * v j)) = fsum (s + 1) v := by
      intro i hi
      have e : (x i + y s) * fsum (s + 1) (fun j => (x i + y j).inv * v j) = 0 := by rw [h i hi, mul_zero]
      rw [← fsum_mul] at e
      have e2 : ∀ j, j < s + 1 → (x i + y s) * ((x i + y j).inv * v j) = v j + (y j + y s) * ((x i + y j).inv * v j) := by
        intro j hj
        have e3 : x i + y s = (x i + y j) + (y j + y s) := by
          rw [add_assoc, ← add_assoc (y j), add_self, zero_add]
        rw [e3, add_mul, ← mul_assoc (x i + y j), mul_inv (hq i hi j hj), one_mul]
      rw [fsum_congr e2, fsum_add] at e
      have e4 := eq_of_add e
      rw [e4, fsum_succ, add_self, zero_mul, add_zero]
    have h2 : ∀ j, j < s → (y j + y s) * ((x s + y j).inv * v j) = 0 := by
      refine ih x y (fun j => (y j + y s) * ((x s + y j).inv * v j)) (fun i hi j hj => hxy i (by omega) j (by omega)) (fun i hi j hj => hx i (by omega) j (by omega)) (fun i hi j hj => hy i (by omega) j (by omega)) ?_
      intro i hi
      have hxs : x i + x s ≠ 0 := add_ne fun e => by have := hx i (by omega) s hs e; omega
      have e : fsum s (fun j => (y j + y s) * ((x i + y j).inv * v j)) + fsum s (fun j => (y j + y s) * ((x s + y j).inv * v j)) = 0 := by
        rw [h1 i (by omega), h1 s hs, add_self]
      rw [← fsum_add] at e
      have e2 : ∀ j, j < s → (y j + y s) * ((x i + y j).inv * v j) + (y j + y s) * ((x s + y j).inv * v j) = (x i + x s) * ((x i + y j).inv * ((y j + y s) * ((x s + y j).inv * v j))) := by
        intro j hj
        rw [← mul_add, ← add_mul, inv_add (hq i (by omega) j (by omega)) (hq s hs j (by omega))]
        have e3 : x i + y j + (x s + y j) = x i + x s := by
          rw [add_assoc, add_comm (x s), ← add_assoc (y j), add_self, zero_add]
        rw [e3]
        ac_rfl
      rw [fsum_congr e2, fsum_mul] at e
      have e5 := congrArg ((x i + x s).inv * ·) e
      rw [← mul_assoc, inv_mul hxs, one_mul, mul_zero] at e5
      exact e5
    have h3 : ∀ j, j < s → v j = 0 := by
      intro j hj
      have e := h2 j hj
      by_cases z : v j = 0
      · exact z
      · refine absurd e (mul_ne (add_ne fun q => ?_) (mul_ne (inv_ne _) z))
        have := hy j (by omega) s hs q
        omega
    intro j hj
    by_cases e : j = s
    · subst e
      have e1 := h 0 (by omega)
      rw [fsum_succ, fsum_zero' fun k hk => by rw [h3 k hk, mul_zero], zero_add] at e1
      by_cases z : v j = 0
      · exact z
      · exact absurd e1 (mul_ne (inv_ne _) z)
    · exact h3 j (by omega)

/-! ### the rows that are picked -/
theorem nodup_le : ∀ (l m : List Nat), l.Pairwise (· ≠ ·) → (∀ x, x ∈ l → x ∈ m) → l.length ≤ m.length := by
  intro l
  induction l with
  | nil => intro m _ _; exact Nat.zero_le _
  | cons x l ih =>
    intro m hn hs
    have hx := hs x List.mem_cons_self
    have hn' := List.pairwise_cons.1 hn
    have h := ih (m.erase x) hn'.2 fun y hy => (List.mem_erase_of_ne (fun e => hn'.1 y hy e.symm)).2 (hs y (List.mem_cons_of_mem _ hy))
    rw [List.length_erase_of_mem hx] at h
    have := List.length_pos_of_mem hx
    rw [List.length_cons]
    omega
/-- the numbers below k that p takes. -/
def those (p : Nat → Bool) (k : Nat) : List Nat := (List.range k).filter p
theorem those_succ (p : Nat → Bool) (k : Nat) : those p (k + 1) = those p k ++ (if p k then [k] else []) := by
  unfold those
  rw [List.range_succ, List.filter_append]
  by_cases h : p k = true
  · rw [if_pos h, List.filter_cons_of_pos h]; rfl
  · rw [if_neg h, List.filter_cons_of_neg h]; rfl
theorem those_mem {p : Nat → Bool} {k j : Nat} : j ∈ those p k ↔ j < k ∧ p j = true := by
  unfold those; rw [List.mem_filter, List.mem_range]
theorem those_at {p : Nat → Bool} {k i : Nat} (h : i < (those p k).length) : (those p k).getD i 0 < k ∧ p ((those p k).getD i 0) = true := by
  rw [List.getD_eq_getElem?_getD, List.getElem?_eq_getElem h]
  exact those_mem.1 (List.getElem_mem h)
theorem those_lt (p : Nat → Bool) (k : Nat) : (those p k).Pairwise (· < ·) := List.Pairwise.filter _ List.pairwise_lt_range
theorem those_inj {p : Nat → Bool} {k i j : Nat} (hi : i < (those p k).length) (hj : j < (those p k).length) (e : (those p k).getD i 0 = (those p k).getD j 0) : i = j := by
  have h := List.pairwise_iff_getElem.1 (those_lt p k)
  rw [List.getD_eq_getElem?_getD, List.getD_eq_getElem?_getD, List.getElem?_eq_getElem hi, List.getElem?_eq_getElem hj] at e
  rcases Nat.lt_trichotomy i j with hlt | heq | hgt
  · have := h i j hi hj hlt
    simp at e; omega
  · exact heq
  · have := h j i hj hi hgt
    simp at e; omega
theorem those_not (p : Nat → Bool) (k : Nat) : (those p k).length + (those (fun j => !p j) k).length = k := by
  induction k with
  | zero => rfl
  | succ k ih =>
    rw [those_succ, those_succ, List.length_append, List.length_append]
    cases h : p k <;> simp <;> omega
/-- what p leaves out does not count. -/
theorem fsum_those (p : Nat → Bool) (f : Nat → F) (k : Nat) : (∀ j, j < k → p j = false → f j = 0) → fsum k f = fsum (those p k).length (fun i => f ((those p k).getD i 0)) := by
  induction k with
  | zero => intro _; rfl
  | succ k ih =>
    intro h
    rw [fsum_succ, ih fun j hj => h j (by omega), those_succ]
    cases hp : p k with
    | false => rw [if_neg (by decide), List.append_nil, h k (by omega) hp, add_zero]
    | true =>
      rw [if_pos rfl, List.length_append]
      show _ = fsum ((those p k).length + 1) _
      rw [fsum_succ]
      have e1 : ∀ i, i < (those p k).length → (those p k ++ [k]).getD i 0 = (those p k).getD i 0 := fun i hi => by
        rw [List.getD_eq_getElem?_getD, List.getD_eq_getElem?_getD, List.getElem?_append_left hi]
      have e2 : (those p k ++ [k]).getD (those p k).length 0 = k := by
        rw [List.getD_eq_getElem?_getD, List.getElem?_append_right (Nat.le_refl _), Nat.sub_self]; rfl
      rw [e2]
      congr 1
      exact fsum_congr fun i hi => by rw [e1 i hi]

/-- row i of the table: the identity's, or 1 / (i + j). -/
def cauT (k : Nat) : Tab := fun i j => if i < k then idT i j else (of (i ^^^ j)).inv
theorem pick_null {k : Nat} {a : Nat → Nat} {v : Nat → F} (hk : k ≤ 256) (ha : ∀ t, t < k → a t < 256) (hinj : ∀ s, s < k → ∀ t, t < k → a s = a t → s = t)
    (h : ∀ t, t < k → fsum k (fun j => cauT k (a t) j * v j) = 0) : ∀ j, j < k → v j = 0 := by
  have hid : ∀ t, t < k → a t < k → v (a t) = 0 := fun t ht hlt => by
    have e := h t ht
    rw [fsum_one hlt fun j _ hne => by rw [cauT, if_pos hlt, idT, if_neg (fun q => hne q.symm), zero_mul], cauT, if_pos hlt, idT, if_pos rfl, one_mul] at e
    exact e
  generalize hP : (fun t => decide (a t < k)) = P
  have hP' : ∀ t, P t = decide (a t < k) := fun t => by rw [← hP]
  generalize hH : (fun j => (List.range k).any fun t => a t == j) = H
  have hH' : ∀ j, H j = true ↔ ∃ t, t < k ∧ a t = j := fun j => by
    rw [← hH]
    simp only [List.any_eq_true, List.mem_range, beq_iff_eq]
  have hle : (those P k).length ≤ (those H k).length := by
    have h1 := nodup_le ((those P k).map a) (those H k) ?_ ?_
    · rwa [List.length_map] at h1
    · rw [List.pairwise_map]
      refine List.Pairwise.imp_of_mem ?_ (those_lt P k)
      intro s t hs ht hlt e
      have := hinj s (those_mem.1 hs).1 t (those_mem.1 ht).1 e
      omega
    · intro x hx
      obtain ⟨t, ht, rfl⟩ := List.mem_map.1 hx
      have ht' := those_mem.1 ht
      rw [hP'] at ht'
      exact those_mem.2 ⟨of_decide_eq_true ht'.2, (hH' _).2 ⟨t, ht'.1, rfl⟩⟩
  have c1 := those_not P k
  have c2 := those_not H k
  generalize hX : those (fun j => !P j) k = X at c1
  generalize hY : those (fun j => !H j) k = Y at c2
  have hX' : ∀ i, i < X.length → X.getD i 0 < k ∧ k ≤ a (X.getD i 0) := fun i hi => by
    rw [← hX] at hi ⊢
    have := those_at hi
    rw [hP'] at this
    refine ⟨this.1, ?_⟩
    have h2 := this.2
    simp at h2
    exact h2
  have hY' : ∀ i, i < Y.length → Y.getD i 0 < k ∧ ∀ t, t < k → a t ≠ Y.getD i 0 := fun i hi => by
    rw [← hY] at hi ⊢
    have := those_at hi
    refine ⟨this.1, fun t ht e => ?_⟩
    have h2 := this.2
    rw [(hH' _).2 ⟨t, ht, e⟩] at h2
    exact absurd h2 (by decide)
  have hv0 : ∀ j, j < k → (!H j) = false → v j = 0 := fun j _ hj => by
    have : H j = true := by simpa using hj
    obtain ⟨t, ht, rfl⟩ := (hH' _).1 this
    exact hid t ht (by assumption)
  have key := cauchy_null Y.length (fun i => of (a (X.getD i 0))) (fun j => of (Y.getD j 0)) (fun j => v (Y.getD j 0))
    (fun i hi j hj e => by
      have h1 := hX' i (by omega)
      have h2 := hY' j hj
      have := of_inj (ha _ h1.1) (by omega) e
      omega)
    (fun i hi j hj e => by
      have h1 := hX' i (by omega)
      have h2 := hX' j (by omega)
      have e1 := hinj _ h1.1 _ h2.1 (of_inj (ha _ h1.1) (ha _ h2.1) e)
      rw [← hX] at e1 c1
      exact those_inj (by omega) (by omega) e1)
    (fun i hi j hj e => by
      have h1 := hY' i hi
      have h2 := hY' j hj
      have e1 := of_inj (by omega) (by omega) e
      rw [← hY] at e1 hi hj
      exact those_inj hi hj e1)
    (fun i hi => by
      have h1 := hX' i (by omega)
      have e := h _ h1.1
      rw [fsum_those (fun j => !H j) _ k (fun j hj hn => by rw [hv0 j hj hn, mul_zero]), hY] at e
      rw [← e]
      refine fsum_congr fun j hj => ?_
      have h2 := hY' j hj
      show _ = cauT k _ _ * _
      rw [cauT, if_neg (by omega), of_xor (ha _ h1.1) (by omega)])
  intro j hj
  by_cases hh : H j = true
  · exact hv0 j hj (by rw [hh]; rfl)
  · have hm : j ∈ Y := by rw [← hY]; exact those_mem.2 ⟨hj, by simpa using hh⟩
    obtain ⟨i, hi, e⟩ := List.getElem_of_mem hm
    have := key i hi
    rw [List.getD_eq_getElem?_getD, List.getElem?_eq_getElem hi] at this
    rw [← e]
    exact this
/-- any k unlike rows have full rank. -/
theorem pick_rank {k r : Nat} {a : Nat → Nat} (hk : k ≤ 256) (ha : ∀ t, t < k → a t < 256) (hinj : ∀ s, s < k → ∀ t, t < k → a s = a t → s = t) (h : RankT k k (fun i j => cauT k (a i) j) r) : r = k :=
  Nat.le_antisymm h.le_rows (least_of_null h.1 fun _ hv => pick_null hk ha hinj hv)
end Go.Proofs.YtooegclblgeicaaGreatDoor

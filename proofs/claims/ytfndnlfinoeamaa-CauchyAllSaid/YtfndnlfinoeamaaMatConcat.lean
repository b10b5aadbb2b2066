/- Proved: what slices.Grow leaves of nothing, and slices.Concat of the rows of every table. Conditions: those that the theorems name. -/
import Derived.Test.YtfndnlfinoeamaaMatClone
import Derived.Test.YtfndnlfinoeamaaVecRefAdd
import Derived.Lib.AppendZerosOnto
namespace Go.Proofs.Ytfndnlfinoeamaa
open Go.ChangeShapes Go.WideShapes Go.ChangeAt Go.RowKit

/-- room for n bytes, in memory of the call's own. -/
def Room (W : World) (e : Ending) (w' : World) : Prop :=
  ∃ v, e = .returned v ∧ w'.ownsRow W.heap.size 5 1 v 0 [] ∧ Below W.heap.size W w'

set_option maxRecDepth 100000 in
set_option maxHeartbeats 800000 in
theorem grow_none (n : Nat) (w : World) (h0 : 0 < n) (hn : n ≤ 1000) :
    Calls Try.prog 37 #[.slice none 0 0, .int .i64 (n : Nat)] w (Room w) := by
  obtain ⟨i0, hi0, hz0, hz1, hz2⟩ := info_parts Try.infoByte
  have hrz : ∀ ty, (Builtin.append_ #[24, 3] ty #[.slice none 0 0, .int .i64 (n : Nat)]).run Try.prog w =
      .ok (.slice (some ⟨w.heap.size, 0, none⟩) n (grownCap w n 0 5)) (w.drew.alloc (.cells (([] : List Value).toArray ++ Builtin.zeroCells (Value.int .u8 0).cells n ++ Builtin.zeroCells (Value.int .u8 0).cells (grownCap w n 0 5 - n)) 5)) := fun ty => by
    have h := Lib.run_append_grow_zeros (P := Try.prog) w 24 3 ty 5 i0 (.int .u8 0) .i64 .i64 Try.underlying24 Try.underlying3 hi0 hz0 none 0 0 [] (run_firstCells_none w.drew i0.size 0 0 0) n h0 (by omega) (by omega) (by omega) (by rw [hz2]; omega) (growslice_fits (by omega) (by rw [hz2]; omega))
    rw [Nat.zero_add] at h
    exact h
  have hge := grownCap_ge w n 0 5
  have hle := grownCap_le_maxLen w n 0 5 (by unfold maxLen; omega)
  generalize grownCap w n 0 5 = G at *
  have hsz : (([] : List Value).toArray ++ Builtin.zeroCells (Value.int .u8 0).cells n ++ Builtin.zeroCells (Value.int .u8 0).cells (G - n)).size = G * 1 := by
    have e1 : (Value.int .u8 0).cells.size = 1 := rfl
    simp only [Array.size_append, size_zeroCells, e1, List.size_toArray, List.length_nil]
    omega
  generalize ([] : List Value).toArray ++ Builtin.zeroCells (Value.int .u8 0).cells n ++ Builtin.zeroCells (Value.int .u8 0).cells (G - n) = cur at *
  have hown := World.ownsRow_made (base := w.heap.size) (e := 5) (size := 1) w.drew cur G (Nat.le_refl _) hle hsz
  have HO := Lib.hid hown
  have hle' := Lib.hid hle
  clear hown hle hsz hi0 hz0 hz1 hz2
  have h1 : ¬ ((n : Int) < 0) := by omega
  have h4 : (n : Int) > 0 := by omega
  have hG63 : G ≤ 9223372036854775807 := by have := hle'.out; unfold maxLen at this; omega
  go_enter Try.func37, Try.ntmps37
  go_wp2_with (at_builtin; refine Lib.wpList_append_run _ rfl _ _ _ _ rfl _ _ rfl rfl _ _ (hrz _) ?_)
  go_ret
  exact ⟨_, rfl, HO.out, (Below.refl _ _).drew.alloc (Nat.le_refl _) _⟩

/-- the first k rows, one behind the other. -/
def cat (t : List (List Nat)) : Nat → List Nat
  | 0 => []
  | k + 1 => cat t k ++ rw_ t k
theorem cat_succ (t : List (List Nat)) (k : Nat) : cat t (k + 1) = cat t k ++ rw_ t k := rfl
theorem cells_app (a b : List Nat) : cells a ++ cells b = cells (a ++ b) := by unfold cells; rw [List.map_append]
theorem app_lt {a b : List Nat} (ha : ∀ j, a.getD j 0 < 256) (hb : ∀ j, b.getD j 0 < 256) : ∀ j, (a ++ b).getD j 0 < 256 :=
  getD_lt fun x hx => by
    rcases List.mem_append.1 hx with h | h
    · exact mem_lt ha x h
    · exact mem_lt hb x h

set_option maxRecDepth 100000 in
set_option maxHeartbeats 1600000 in
theorem concat_any (A : Option Addr) (n c : Nat) (t : List (List Nat)) (w : World) (ht : Rows w A n t) (h0 : 0 < n) (hn : n ≤ 255) (h1 : ∀ r, r < n → 0 < (rw_ t r).length) (hc : ∀ k, k ≤ n → (cat t k).length ≤ 1000) (hp : 0 < (cat t n).length) :
    Calls Try.prog 32 #[.slice A n c] w (GivesC w (cat t n).length (cat t n)) := by
  obtain ⟨i0, hi0, hz0, hz1, hz2⟩ := info_parts Try.infoByte
  have HT := Lib.hid ht
  have H1 := Lib.hid h1
  have HC := Lib.hid hc
  have HP := Lib.hid hp
  clear ht h1 hc hp
  obtain ⟨ad, _, _, rfl, had, _, _⟩ := HT.out.at_ (k := 0) h0
  go_enter Try.func32, Try.ntmps32
  go_wp2_with fail
  go_loop [3, 11] (fun x i => ∃ k : Nat, k ≤ n ∧ i = .int .i64 k ∧ x = .int .i64 ((cat t k).length : Nat)) (fun _ i => n - (intOf i).toNat)
  case atStart => exact ⟨0, by omega, rfl, rfl⟩
  case round =>
    obtain ⟨k, hk, rfl, rfl⟩ := hrel
    by_cases hlt : k < n
    · obtain ⟨ad', B, d, e', _, hac, _⟩ := HT.out.at_ hlt
      injection e' with e'
      subst e'
      have hs1 := HC.out k hk
      have hs2 := HC.out (k + 1) hlt
      rw [cat_succ, List.length_append] at hs2
      have HE : Hid ((cat t (k + 1)).length = (cat t k).length + (rw_ t k).length) := Lib.hid (by rw [cat_succ, List.length_append])
      generalize (cat t k).length = x at *
      generalize (rw_ t k).length = y at *
      have hneg : ¬ ((x : Int) + (y : Int) < 0) := by omega
      go_wp2_with fail
      go_round
      case rel => exact ⟨k + 1, by omega, by go_num, by rw [HE.out]; go_num⟩
      case measure => simp [intOf]; omega
    · obtain rfl : k = n := by omega
      have hs1 := HC.out k hk
      have hp1 := HP.out
      have HL : Hid ((cat t k).length = (cat t k).length) := Lib.hid rfl
      generalize hxx : (cat t k).length = x at hs1 hp1 HL
      have HX := Lib.hid hxx
      clear hxx HL
      go_wp2_with fail
      rw [HX.out]
      refine (grow_none x _ hp1 hs1).mono ?_; rintro e w1 ⟨v, rfl, hown, hb⟩
      have HO := Lib.hid hown
      have HB := Lib.hid hb
      clear hown hb
      go_wp2_with fail
      go_loopw [6, 27] (fun v i wr => ∃ q : Nat, q ≤ k ∧ i = .int .i64 q ∧ wr.ownsRow w.heap.size 5 1 v (cat t q).length (cells (cat t q)) ∧ (∀ j, (cat t q).getD j 0 < 256) ∧ Below w.heap.size w wr) (fun _ i _ => k - (intOf i).toNat)
      case atStart => exact ⟨0, by omega, rfl, HO.out, fun j => by simp [cat], HB.out⟩
      case round =>
        obtain ⟨q, hq, rfl, hown, hcl, hbel⟩ := hrel
        have HO' := Lib.hid hown
        have HCl := Lib.hid hcl
        have HW := Lib.hid hbel
        clear hown hcl hbel HO HB
        by_cases hlt : q < k
        · obtain ⟨ad', B, d, e', _, hac, hbs⟩ := HT.out.at_ hlt
          injection e' with e'
          subst e'
          have hl0 := H1.out q hlt
          obtain ⟨bd, rfl, hbd, _⟩ := hbs.at_ hl0
          rw [← HW.out.cell (p := ad.add q) (by rw [add_block]; exact had)] at hac
          have HBs := Lib.hid (hbs.below HW.out)
          have hs1 := HC.out q hq
          have hs2 := HC.out (q + 1) hlt
          rw [cat_succ, List.length_append] at hs2
          have HE : Hid ((cat t (q + 1)).length = (cat t q).length + (rw_ t q).length) := Lib.hid (by rw [cat_succ, List.length_append])
          have HL := Lib.hid HBs.out.len
          clear hbs
          generalize hyy : (rw_ t q).length = y at hac hl0 hs2
          generalize hzz : (cat t q).length = z at hs1 hs2 HO'
          have HY := Lib.hid hyy
          have HZ := Lib.hid hzz
          clear hyy hzz
          have hws := HW.out.size
          have hmax : z + y ≤ maxLen := by unfold maxLen; omega
          go_wp2_with (at_builtin; refine wpList_append_lies _ rfl _ _ _ rfl w.heap.size 5 i0 _ 1 1 Try.underlying24 hi0 hz0 hz1 hz2 rfl (by omega) _ z _ rfl HO'.out bd y d (cells (rw_ t q)) rfl (by rw [cells_len, HY.out, Nat.mul_one]) HBs.out.source (cells_one _) hl0 hmax (by omega) hws _ rfl ?_; intro gg cap w1 hown1 hgrow hat hlt1)
          go_roundw
          case rel =>
            refine ⟨q + 1, by omega, by go_num, ?_, app_lt HCl.out HBs.out.lt, HW.out.grown hgrow hws (fun j e => (HO'.out.lt j e).1)⟩
            have h := hown1
            rw [cells_app] at h
            rw [HE.out, HZ.out, HY.out]
            exact h
          case measure => simp [intOf]; omega
        · obtain rfl : q = k := by omega
          obtain ⟨A', c', rfl, hcap, hbs⟩ := bs_of_cap HO'.out HCl.out
          have HBS := Lib.hid hbs
          clear hbs
          go_wp2_with fail
          go_ret
          exact ⟨_, _, rfl, hcap, HBS.out, HW.out⟩

theorem two_rows (A B : Option Addr) (n m c d : Nat) (a b : List Nat) (w : World) (hnc : n ≤ c) (hmd : m ≤ d) (ha : Bs w A n a) (hb : Bs w B m b) :
    Rows (w.alloc (.cells #[.slice A n c, .slice B m d] 24)) (some ⟨w.heap.size, 0, none⟩) 2 [a, b] := by
  have hal : Below w.heap.size w (w.alloc (.cells #[.slice A n c, .slice B m d] 24)) := (Below.refl _ _).alloc (Nat.le_refl _) _
  refine ⟨rfl, fun _ => ⟨_, rfl, by simp, fun r hr => ?_⟩⟩
  have e : (⟨w.heap.size, 0, none⟩ : Addr).add r = ⟨w.heap.size, r, none⟩ := by unfold Addr.add; split <;> simp_all
  rw [e, cell_of_row _ _ r _ _ (0, 0) (heap_alloc_new w _)]
  have hl := ha.len
  have hl2 := hb.len
  match r, hr with
  | 0, _ => exact ⟨A, c, by rw [← hl]; rfl, by show a.length ≤ c; omega, by show Bs _ A a.length a; rw [hl]; exact ha.below hal⟩
  | 1, _ => exact ⟨B, d, by rw [← hl2]; rfl, by show b.length ≤ d; omega, by show Bs _ B b.length b; rw [hl2]; exact hb.below hal⟩

theorem concat_two (m : Nat) (a b : List Nat) (A : Option Addr) (c : Nat) (w : World) (ht : Rows w A 2 [a, b]) (ha : a.length = m) (hb : b.length = m) (hm1 : 1 ≤ m) (hm2 : m ≤ 255) :
    Calls Try.prog 32 #[.slice A 2 c] w (GivesC w (m + m) (a ++ b)) := by
  have e : cat [a, b] 2 = a ++ b := rfl
  have el : (cat [a, b] 2).length = m + m := by rw [e, List.length_append, ha, hb]
  have h := concat_any A 2 c [a, b] w ht (by decide) (by decide) (fun r hr => by
    match r, hr with
    | 0, _ => show 0 < a.length; omega
    | 1, _ => show 0 < b.length; omega) (fun k hk => by
    match k, hk with
    | 0, _ => exact (by decide : 0 ≤ 1000)
    | 1, _ => show a.length ≤ 1000; omega
    | 2, _ => rw [el]; omega) (by rw [el]; omega)
  rw [el, e] at h
  exact h

set_option maxRecDepth 100000 in
set_option maxHeartbeats 1600000 in
theorem beside_any (A B : Option Addr) (n m c d : Nat) (a b : List (List Nat)) (w : World) (ha : Rows w A n a) (hb : Rows w B n b) (hla : ∀ r, r < n → (rw_ a r).length = m) (hlb : ∀ r, r < n → (rw_ b r).length = m) (hn1 : 1 ≤ n) (hn2 : n ≤ 255) (hm1 : 1 ≤ m) (hm2 : m ≤ 255) :
    Calls Try.prog 26 #[.slice A n c, .slice B n d] w fun e w' => ∃ g cap, e = .returned (.slice (some ⟨g, 0, none⟩) n cap) ∧ w.heap.size ≤ g ∧ OwnT w' g n (mkR n fun i => rw_ a i ++ rw_ b i) ∧ Below w.heap.size w w' := by
  have hmT := run_make_row' (P := Try.prog) 30 24 (.slice none 0 0) 24 Try.underlying30 Try.infoRow rfl .i64 .i64 n (by omega) (by omega)
  have HA := Lib.hid ha
  have HB := Lib.hid hb
  have HLA := Lib.hid hla
  have HLB := Lib.hid hlb
  clear ha hb hla hlb
  obtain ⟨ad, _, _, rfl, had, _, _⟩ := HA.out.at_ (k := 0) (by omega)
  obtain ⟨bd, _, _, rfl, hbd, _, _⟩ := HB.out.at_ (k := 0) (by omega)
  have hn : (0 : Int) < (n : Int) := by omega
  go_enter Try.func26, Try.ntmps26
  go_wp2_with fail
  have HO := Lib.hid (ownT_new w n)
  have HW := Lib.hid ((Below.refl w.heap.size w).alloc (Nat.le_refl _) (.cells (madeCells #[.slice none 0 0] n) 24))
  generalize hgg : w.heap.size = g at *
  have HG := Lib.hid hgg
  clear hgg
  go_loopw [13] (fun i wr => ∃ q : Nat, q ≤ n ∧ i = .int .i64 q ∧ ∃ t, UptoT n q (fun i => rw_ a i ++ rw_ b i) t ∧ OwnT wr g n t ∧ Below g w wr) (fun i _ => n - (intOf i).toNat)
  case atStart => exact ⟨0, by omega, rfl, _, UptoT.start (by simp), HO.out, HW.out⟩
  case round =>
    obtain ⟨q, hq, rfl, t, hu, ho, hbel⟩ := hrel
    have HU := Lib.hid hu
    have HO' := Lib.hid ho
    have HW' := Lib.hid hbel
    clear hu ho hbel HO HW
    have GW : Hid (Below w.heap.size w wr) := Lib.hid (by rw [HG.out]; exact HW'.out)
    by_cases hlt : q < n
    · obtain ⟨ad', A1, e1, h', _, hac, k1, has⟩ := HA.out.at_cap hlt
      injection h' with h'
      subst h'
      obtain ⟨bd', B1, e2, h', _, hbc, k2, hbs⟩ := HB.out.at_cap hlt
      injection h' with h'
      subst h'
      rw [← GW.out.cell (p := ad.add q) (by rw [add_block, HG.out]; exact had), HLA.out q hlt] at hac
      rw [← GW.out.cell (p := bd.add q) (by rw [add_block, HG.out]; exact hbd), HLB.out q hlt] at hbc
      have has' := has.below GW.out
      have hbs' := hbs.below GW.out
      rw [HLA.out q hlt] at has' k1
      rw [HLB.out q hlt] at hbs' k2
      have HX := Lib.hid (two_rows A1 B1 m m e1 e2 (rw_ a q) (rw_ b q) wr k1 k2 has' hbs')
      have HY : Hid (Below wr.heap.size wr (wr.alloc (.cells #[.slice A1 m e1, .slice B1 m e2] 24))) := Lib.hid ((Below.refl _ _).alloc (Nat.le_refl _) _)
      clear has hbs has' hbs'
      have hL : Hid ((rw_ a q).length = m ∧ (rw_ b q).length = m) := Lib.hid ⟨HLA.out q hlt, HLB.out q hlt⟩
      have hgl := HO'.out.block_lt
      go_wp2_with fail
      generalize wr.alloc (.cells #[.slice A1 m e1, .slice B1 m e2] 24) = W1 at *
      refine (concat_two m (rw_ a q) (rw_ b q) _ _ _ HX.out hL.out.1 hL.out.2 hm1 hm2).mono ?_; rintro e w2 ⟨A2, c2, rfl, k3, h2, g2⟩
      have H2 := Lib.hid h2
      have G2 : Hid (Below wr.heap.size wr w2) := Lib.hid (HY.out.trans (g2.mono HY.out.size))
      clear h2 g2
      have HO2 := Lib.hid (HO'.out.below G2.out)
      have HW2 : Hid (Below g w w2) := Lib.hid (HW'.out.trans (G2.out.mono (by omega)))
      obtain ⟨B3, c3, hc3, _⟩ := HO2.out.at_ hlt
      have hfz := HO2.out.frozen q
      go_wp2_with fail
      go_roundw
      case rel => exact ⟨q + 1, by omega, by go_num, _, HU.out.next hlt, HO2.out.set_ hlt k3 H2.out, HW2.out.setCell (Nat.le_refl g) _⟩
      case measure => simp [intOf]; omega
    · obtain rfl : q = n := by omega
      go_wp2_with fail
      go_ret
      exact ⟨_, _, rfl, by rw [HG.out]; exact Nat.le_refl _, by rw [← HU.out.done]; exact HO'.out, GW.out⟩
end Go.Proofs.Ytfndnlfinoeamaa

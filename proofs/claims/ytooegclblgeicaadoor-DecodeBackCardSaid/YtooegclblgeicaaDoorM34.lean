/- Proved: lemmas of one statement's proof, merged by program: what each part proves stands ahead of it. Conditions: those that the lemmas name. -/
import Derived.Test.YtooegclblgeicaaDoorM31
import Derived.Test.YtooegclblgeicaaDoorM2
import Derived.Lib.SmallJoins
import Derived.Deep.Slices
import Derived.Deep.Strs
import Derived.ChangeSame
import Derived.ChangeSlices
import Derived.OpenShut
import Derived.WideShapes
import Derived.Test.YtooegclblgeicaaDoorM33

/- Proved: the walk of the law that whatever unlike shards come of data are decoded as they were, for all texts, every byte and every row of bytes. Conditions: those that the theorems name. -/
namespace Go.Proofs.YtooegclblgeicaaDoor
open Go.ChangeShapes Go.WideShapes Go.ChangeAt Go.RowKit

/-! ### 256 marks of the call's own -/
def markRow (b : Nat → Bool) : Array Value := Array.ofFn fun i : Fin 256 => Value.bool (b i.val)
theorem markRow_size (b : Nat → Bool) : (markRow b).size = 256 := by unfold markRow; exact Array.size_ofFn
theorem markRow_at (b : Nat → Bool) (i : Nat) (h : i < 256) : (markRow b)[i]? = some (Value.bool (b i)) := by
  unfold markRow
  rw [Array.getElem?_ofFn, dif_pos h]
theorem markRow_set (b : Nat → Bool) (i : Nat) : (markRow b).setIfInBounds i (.bool true) = markRow (fun j => if j = i then true else b j) := by
  apply Array.ext
  · rw [Array.size_setIfInBounds, markRow_size, markRow_size]
  · intro j h1 h2
    have hj : j < 256 := by rw [markRow_size] at h2; exact h2
    have hj' : j < (markRow b).size := by rw [markRow_size]; exact hj
    have e1 := markRow_at b j hj
    have e2 := markRow_at (fun j => if j = i then true else b j) j hj
    rw [Array.getElem?_eq_getElem hj'] at e1
    rw [Array.getElem?_eq_getElem h2] at e2
    have e1 := Option.some.inj e1
    have e2 := Option.some.inj e2
    rw [Array.getElem_setIfInBounds hj', e2, e1]
    by_cases e : i = j
    · rw [if_pos e, if_pos e.symm]
    · rw [if_neg e, if_neg (fun h => e h.symm)]
theorem zeroMarks (w : World) : (zeroValue 35).run Tryd.prog w = .ok (.agg (markRow fun _ => false)) w := by kernel_rfl
/-- Block g is 256 marks of the call's own. -/
def OwnB (w : World) (g : Nat) (b : Nat → Bool) : Prop := w.heap[g]? = some (.cells (markRow b) 35 (0, 0))
theorem OwnB.block_lt {w : World} {g : Nat} {b : Nat → Bool} (h : OwnB w g b) : g < w.heap.size := (Array.getElem?_eq_some_iff.1 h).1
theorem OwnB.cell {w : World} {g : Nat} {b : Nat → Bool} (h : OwnB w g b) {i : Nat} (hi : i < 256) : w.cell? ⟨g, i, none⟩ = some (.bool (b i)) := by
  rw [cell_of_row w g i _ _ (0, 0) h]; exact markRow_at b i hi
theorem OwnB.frozen {w : World} {g : Nat} {b : Nat → Bool} (h : OwnB w g b) (i : Nat) : w.frozen? ⟨g, i, none⟩ = false := by
  unfold OwnB at h
  simp [World.frozen?, h]
theorem OwnB.below {w w' : World} {g : Nat} {b : Nat → Bool} (h : OwnB w g b) (hb : Below w.heap.size w w') : OwnB w' g b := (hb.block g h.block_lt).trans h
theorem OwnB.grown {w w' : World} {g : Nat} {b : Nat → Bool} (h : OwnB w g b) {row : Option Nat} (hg : w.grownBy w' row) (hr : row ≠ some g) : OwnB w' g b := (hg.block g h.block_lt (fun e => hr e.symm)).trans h
theorem OwnB.mark {w : World} {g : Nat} {b : Nat → Bool} (h : OwnB w g b) (i : Nat) : OwnB (w.setCell ⟨g, i, none⟩ (.bool true)) g (fun j => if j = i then true else b j) := by
  unfold OwnB at h ⊢
  rw [← markRow_set]
  simp [World.setCell, Array.getElem?_modify, h]

end Go.Proofs.YtooegclblgeicaaDoor

/- Plain lemmas on a text with numbers and a row of bytes beside it, as it came in as an argument. No condition beyond those that each lemma names. -/
namespace Go.Proofs.YtooegclblgeicaaDoor
open Go.ChangeShapes Go.WideShapes Go.ChangeAt Go.RowKit

theorem bs_of_cells {w : World} {x : Addr} {len cap : Nat} {zs : List Int} (hl : len ≤ cap) (hz : zs.length = cap) (hc : ∀ i, i < zs.length → w.cell? (x.add i) = some (.int .u8 (zs.getD i 0))) (hw : ∀ n ∈ zs, (Lit.int .u8 n).wf = true) : ∃ l, Bs w (some x) len l := by
  have hb : ∀ i, i < zs.length → 0 ≤ zs.getD i 0 ∧ zs.getD i 0 ≤ 255 := fun i hi => by
    rw [List.getD_eq_getElem?_getD, List.getElem?_eq_getElem hi]
    exact bounds_u8 (hw _ (List.getElem_mem hi))
  refine ⟨mk len fun i => (zs.getD i 0).toNat, mk_len _ _, fun j => ?_, fun h0 => ?_⟩
  · rcases Nat.lt_or_ge j len with hj | hj
    · rw [mk_at _ _ j hj]; have := hb j (by omega); omega
    · rw [getD_past _ _ (by rw [mk_len]; exact hj)]; decide
  · have h1 := hc 0 (by omega)
    have h2 := World.block_lt_of_cell? w _ h1
    rw [add_block] at h2
    refine ⟨x, rfl, h2, fun j hj => ?_⟩
    have h3 := hb j (by omega)
    rw [hc j (by omega), mk_at _ _ j hj, Int.toNat_of_nonneg h3.1]
/-- a text, two numbers, and a row. -/
structure Bk where
  s : ByteArray
  k : Int
  r : Int
  A : Option Addr
  n : Nat
  c : Nat
def Bk.cells (x : Bk) : List Value := [.string x.s, .int .u8 x.k, .int .u8 x.r, .slice x.A x.n x.c]
abbrev Bk.val (x : Bk) : Value := .agg #[.string x.s, .int .u8 x.k, .int .u8 x.r, .slice x.A x.n x.c]
def Bk.In (x : Bk) (w : World) : Prop := (0 ≤ x.k ∧ x.k ≤ 255) ∧ (0 ≤ x.r ∧ x.r ≤ 255) ∧ ∃ l, Bs w x.A x.n l
theorem four_of {α : Type} {cs : Array α} (h : cs.size = 4) : ∃ c0 c1 c2 c3, cs = #[c0, c1, c2, c3] := by
  obtain ⟨l⟩ := cs
  match l, h with
  | [c0, c1, c2, c3], _ => exact ⟨c0, c1, c2, c3, rfl⟩
section
variable {H : Type} {enc : TypeId × Value → H} {w : World} {base : Nat} {held : Bool}
theorem bk_cells {fuel : Nat} {c0 c1 c2 c3 : Value} {x : DataW H × List MemPlace} (hf : DataW.trod enc Tryd.prog w base (fun _ => true) held fuel 33 [c0, c1, c2, c3] = some x) :
    ∃ a : Bk, a.In w ∧ c0 = .string a.s ∧ c1 = .int .u8 a.k ∧ c2 = .int .u8 a.r ∧ c3 = .slice a.A a.n a.c := by
  have e9 : Tryd.prog.cellsOf 9 = 1 := by kernel_rfl
  have e5 : Tryd.prog.cellsOf 5 = 1 := by kernel_rfl
  have e31 : Tryd.prog.cellsOf 31 = 1 := by kernel_rfl
  obtain ⟨y0, y1, y2, y3, n, _, _, h0, h1, h2, h3⟩ := Go.Joins.trod_struct4 Tryd.underlying33 hf
  rw [e9] at h0
  rw [e5] at h1 h2
  rw [e31] at h3
  obtain ⟨z0, q0, _⟩ := DataW.trod_string Tryd.underlying9 h0
  obtain ⟨z1, q1, _, w1⟩ := DataW.trod_int Tryd.underlying5 h1
  obtain ⟨z2, q2, _, w2⟩ := DataW.trod_int Tryd.underlying5 h2
  have q0' : c0 = .string z0 := by simpa using q0
  have q1' : c1 = .int .u8 z1 := by simpa using q1
  have q2' : c2 = .int .u8 z2 := by simpa using q2
  have key : ∃ A m c, c3 = .slice A m c ∧ ∃ l, Bs w A m l := by
    rcases open_ints Tryd.underlying31 Tryd.underlying5 (by kernel_rfl) h3 with ⟨hcs, _⟩ | ⟨x, l, c, zs, hcs, _, hl, hm, hz, _, hcell, hwz⟩
    · have hcs' : c3 = .slice none 0 0 := by simpa using hcs
      exact ⟨none, 0, 0, hcs', [], Bs.nil _ _⟩
    · have hcs' : c3 = .slice (some x) l c := by simpa using hcs
      exact ⟨some x, l, c, hcs', bs_of_cells hl (by simpa using hz) hcell hwz⟩
  obtain ⟨A, m, c, q3', hr⟩ := key
  exact ⟨⟨z0, z1, z2, A, m, c⟩, ⟨bounds_u8 w1, bounds_u8 w2, hr⟩, q0', q1', q2', q3'⟩
set_option maxRecDepth 100000 in
theorem bk_arg {d : DataW H} {p : List MemPlace} {r : Go.Reach} {b0 : Nat} {v : Value} (hv : Value.okWide Tryd.prog w r b0 33 v) (h : DataW.Trod enc Tryd.prog w base (fun _ => true) held 33 v d p) : ∃ a : Bk, v = a.val ∧ a.In w := by
  obtain ⟨cs, rfl, hsz⟩ := okWide_struct Tryd.underlying33 hv
  rw [show Tryd.prog.cellsOf 33 = 4 by kernel_rfl] at hsz
  obtain ⟨c0, c1, c2, c3, rfl⟩ := four_of hsz
  obtain ⟨fuel, hf⟩ := h
  obtain ⟨a, ha, rfl, rfl, rfl, rfl⟩ := bk_cells hf
  exact ⟨a, rfl, ha⟩
end
end Go.Proofs.YtooegclblgeicaaDoor

/- Proved: the walk of the law that whatever unlike shards of a text come, if they are as many as data, a job tells the text. Conditions: those that the theorems name. -/
namespace Go.Proofs.YtooegclblgeicaaDoor
open Go.ChangeShapes Go.WideShapes Go.ChangeAt Go.RowKit

set_option maxRecDepth 100000 in
theorem shO_length {s : ByteArray} {k r m : Nat} (hz : shE s.size k r = 0) (hm : m = min k s.size) : (shO s k r).length = m + r := by
  have hb : 1 ≤ k ∧ k ≤ 32 ∧ r ≤ 255 - k ∧ 1 ≤ s.size ∧ s.size ≤ k * 1024 := by
    unfold shE at hz
    split at hz
    · exact absurd hz (by decide)
    · split at hz
      · exact absurd hz (by decide)
      · omega
  obtain ⟨h1, h2, h3, h4, h5⟩ := hb
  have hD := pieces_data (s := s) (m := m) (by omega) (by omega) h4 (by omega)
  have hlen : (mkS m (piece (szN s.size m) s)).length = m := mkS_len _ _
  have he : eErr (mkS m (piece (szN s.size m) s)) ((m + r : Nat) : Int) = 0 := by
    unfold eErr
    rw [if_pos hD, hlen]
    exact if_neg (by unfold NoTab; omega)
  rw [shO_ok hz hm]
  unfold eOut
  rw [if_pos he, txS_len, mulL_mix, mkR_len, Int.toNat_natCast]

set_option maxRecDepth 100000 in
set_option maxHeartbeats 6400000 in
theorem back_main20 (x : Bk) (w : World) (hx : x.In w) :
    Calls Tryd.prog 4 #[x.val] w fun e w' => e = .returned (.bool true) ∧ Below w.heap.size w w' := by
  obtain ⟨s, kk, rr, R, r, d⟩ := x
  obtain ⟨hkk, hrr, l, hr⟩ := hx
  change 0 ≤ kk ∧ kk ≤ 255 at hkk
  change 0 ≤ rr ∧ rr ≤ 255 at hrr
  change Bs w R r l at hr
  obtain ⟨kk, rfl⟩ := Int.eq_ofNat_of_zero_le hkk.1
  obtain ⟨rr, rfl⟩ := Int.eq_ofNat_of_zero_le hrr.1
  obtain ⟨p, hp⟩ : ∃ p, p = kk % 12 := ⟨_, rfl⟩
  obtain ⟨q, hq⟩ : ∃ q, q = rr % 40 := ⟨_, rfl⟩
  have hkm : ((kk : Int) % 12) = (p : Int) := by omega
  have hrm : ((rr : Int) % 40) = (q : Int) := by omega
  have hp12 : p < 12 := by omega
  have hq40 : q < 40 := by omega
  have hpb : (p : Int) ≤ 11 := by omega
  have hp0 : (0 : Int) ≤ (p : Int) := Int.natCast_nonneg _
  have hqb : (q : Int) ≤ 39 := by omega
  have hq0 : (0 : Int) ≤ (q : Int) := Int.natCast_nonneg _
  have HA := At.new w 33 [.string s, .int .u8 (kk : Nat), .int .u8 (rr : Nat), .slice R r d]
  have HB0 := Lib.hid ((Below.refl w.heap.size w).alloc (Nat.le_refl _) (.cells #[.string s, .int .u8 (kk : Nat), .int .u8 (rr : Nat), .slice R r d] 33))
  have c0 : (w.alloc (.cells #[.string s, .int .u8 (kk : Nat), .int .u8 (rr : Nat), .slice R r d] 33)).cell? ⟨w.heap.size, 0, none⟩ = some (.string s) := HA.cell 0 rfl
  have c1 : (w.alloc (.cells #[.string s, .int .u8 (kk : Nat), .int .u8 (rr : Nat), .slice R r d] 33)).cell? ⟨w.heap.size, 1, none⟩ = some (.int .u8 (kk : Nat)) := HA.cell 1 rfl
  have c2 : (w.alloc (.cells #[.string s, .int .u8 (kk : Nat), .int .u8 (rr : Nat), .slice R r d] 33)).cell? ⟨w.heap.size, 2, none⟩ = some (.int .u8 (rr : Nat)) := HA.cell 2 rfl
  have c3 : (w.alloc (.cells #[.string s, .int .u8 (kk : Nat), .int .u8 (rr : Nat), .slice R r d] 33)).cell? ⟨w.heap.size, 3, none⟩ = some (.slice R r d) := HA.cell 3 rfl
  have HR := Lib.hid (hr.below HB0.out)
  clear hr hkk hrr hp hq HA
  generalize hgw : w.alloc (.cells #[.string s, .int .u8 (kk : Nat), .int .u8 (rr : Nat), .slice R r d] 33) = w0 at *
  go_enter Tryd.func4, Tryd.ntmps4
  go_wp2_with fail
  clear hgw
  go_quiet (fail)
  have HB1 := Lib.hid (below_drawn_of HB0.out nq)
  have HR1 : Hid (Bs (w0.drewN nq) R r l) := Lib.hid (HR.out.below (two_drawn ⟨nq, rfl⟩))
  replace c1 : (w0.drewN nq).cell? ⟨w.heap.size, 1, none⟩ = some (.int .u8 (kk : Nat)) := c1
  replace c2 : (w0.drewN nq).cell? ⟨w.heap.size, 2, none⟩ = some (.int .u8 (rr : Nat)) := c2
  clear HB0 HR c0 c3
  generalize w0.drewN nq = w1 at *
  by_cases h400 : (s.size : Int) > 400 ∨ ¬ (s.size : Int) > 400 ∧ (r : Int) > 60
  · rcases h400 with h1 | ⟨h1, h2⟩
    all_goals
      go_wp2_with fail
      refine (dawake_any _).mono ?_; rintro e w2 ⟨rfl, g2⟩
      have G2 := Lib.hid (HB1.out.trans (g2.mono HB1.out.size)); clear g2
      go_wp2_with fail
      go_ret
      exact ⟨rfl, G2.out⟩
  have h1 : ¬ (s.size : Int) > 400 := fun h => h400 (.inl h)
  have h2 : ¬ (r : Int) > 60 := fun h => h400 (.inr ⟨h1, h⟩)
  clear h400
  have HS := Lib.hid (fun W => dshards_any s ((p : Int) + 1) (q : Int) W (by unfold maxLen; omega))
  by_cases hs0 : s.size = 0
  · obtain rfl : s = S0 := size_zero hs0
    have hz : shE S0.size ((p : Int) + 1) (q : Int) = 3 := shE_long (by omega) (.inl (by decide))
    rw [hz, shO_err (by rw [hz]; decide), shM_err (by rw [hz]; decide)] at HS
    clear hz
    go_wp2_with fail
    refine (HS.out _).mono ?_; rintro e w2 ⟨A1, n1, c1', rfl, h1, g1⟩
    have G1 := Lib.hid (HB1.out.trans (g1.mono HB1.out.size)); clear g1 h1
    go_wp2_with fail
    refine (dawake_any _).mono ?_; rintro e w3 ⟨rfl, g2⟩
    have G2 := Lib.hid (G1.out.trans (g2.mono G1.out.size)); clear g2
    go_wp2_with fail
    go_ret
    exact ⟨rfl, G2.out⟩
  · obtain ⟨m, hm⟩ : ∃ m, m = min (p + 1) s.size := ⟨_, rfl⟩
    have hz : shE s.size ((p + 1 : Nat) : Int) ((q : Nat) : Int) = 0 := shE_ok (by omega) (by omega)
    have HZ := Lib.hid hz
    have HMn := Lib.hid hm
    have hm1 : 1 ≤ m := by omega
    have hm12 : m ≤ 12 := by omega
    have hO : (shO s ((p + 1 : Nat) : Int) ((q : Nat) : Int)).length = m + q := shO_length hz hm
    have hM : shM s.size ((p + 1 : Nat) : Int) ((q : Nat) : Int) = m := (shM_ok hz).trans hm.symm
    rw [show ((p : Int) + 1) = ((p + 1 : Nat) : Int) from rfl, hz, hM] at HS
    have HO := Lib.hid hO
    obtain ⟨O, hOd⟩ : ∃ O, O = shO s ((p + 1 : Nat) : Int) ((q : Nat) : Int) := ⟨_, rfl⟩
    rw [← hOd] at HS HO
    have HOd := Lib.hid hOd
    clear hz hm hO hM hOd
    rw [show ((p + 1 : Nat) : Int) = (p : Int) + 1 from rfl] at HS
    go_wp2_with fail
    refine (HS.out _).mono ?_; rintro e w2 ⟨A2, n2, c2', rfl, hs2, g2⟩
    obtain rfl : m + q = n2 := HO.out.symm.trans hs2.len
    have HS2 := Lib.hid hs2; have G2 := Lib.hid (HB1.out.trans (g2.mono HB1.out.size)); have HR2 := Lib.hid (HR1.out.below g2)
    clear hs2 g2 c1 c2 HR1 HB1
    have HNd : Hid (∃ N, N = m + q ∧ 1 ≤ N ∧ N ≤ 51) := Lib.hid ⟨_, rfl, by omega, by omega⟩
    obtain ⟨N, hNq, hN1, hN2⟩ := HNd.out
    have HNq := Lib.hid hNq
    rw [← hNq] at HO HS2 ⊢
    clear HNd hNq
    have HZm := Lib.hid (heap_alloc_new w2 (.cells (markRow fun _ => false) 35))
    have HB0 : Hid (OwnB (w2.alloc (.cells (markRow fun _ => false) 35)) w2.heap.size (fun _ => false)) := Lib.hid HZm.out
    have HW0 := Lib.hid ((Below.refl w2.heap.size w2).alloc (Nat.le_refl _) (.cells (markRow fun _ => false) 35))
    have HS0 : Hid (w2.heap.size + 1 ≤ (w2.alloc (.cells (markRow fun _ => false) 35)).heap.size) := Lib.hid (by simp)
    have hzm := zeroMarks
    have hNz : ¬ (N : Int) = 0 := by omega
    have hNe : ((N : Int) == 0) = false := by simp; omega
    go_wp2_with fail
    clear hzm HZm
    generalize hgg : w2.heap.size = g at *
    have HGG := Lib.hid hgg
    clear hgg
    generalize w2.alloc (.cells (markRow fun _ => false) 35) = w20 at *
    obtain ⟨i0, hi0, hz0, hz1, hz2⟩ := info_parts Tryd.infoShard
    go_loopw [8, 10, 11] (fun v sn i wr => ∃ j : Nat, j ≤ r ∧ i = .int .i64 j ∧ sn = .int .i64 ((accL (gotL N O (l.take j))).length : Nat) ∧ (accL (gotL N O (l.take j))).length ≤ j ∧ ∃ b, Marks (accL (gotL N O (l.take j))) b ∧ OwnB wr g b ∧ wr.ownsRow (g + 1) 37 2 v j (hcells (gotL N O (l.take j))) ∧ Below g w2 wr ∧ g + 1 ≤ wr.heap.size) (fun _ _ i _ => r - (intOf i).toNat)
    case atStart => exact ⟨0, by omega, rfl, rfl, Nat.le_refl _, _, Marks.start, HB0.out, World.ownsRow_nil _ _ _ _, HW0.out, HS0.out⟩
    case round =>
      obtain ⟨j, hj, rfl, rfl, hle, b, hmk, hob, hown, hbel, hgs⟩ := hrel
      have HM := Lib.hid hmk
      have HB := Lib.hid hob
      have HO' := Lib.hid hown
      have HW := Lib.hid hbel
      clear hmk hob hown hbel HB0 HW0 HS0
      by_cases hlt : j < r
      · have hbw : Below w2.heap.size w2 wr := HGG.out ▸ HW.out
        obtain ⟨rd, rfl, hrd, hrc⟩ := (HR2.out.below hbw).at_ hlt
        have hx := HR2.out.lt j
        have hjl : j < l.length := by rw [HR2.out.len]; exact hlt
        have HG1 := Lib.hid (gotL_next (n := N) (o := O) hjl)
        have hlt' : (j : Int) < (r : Int) := by omega
        have hj0 : (0 : Int) ≤ (j : Int) := Int.natCast_nonneg _
        generalize l.getD j 0 = x at *
        have wx : wrap64 (x : Int) = x := IntWalk.wrap64_in _ (by omega)
        have hrm : (x : Int).tmod (N : Int) = ((x % N : Nat) : Int) := by
          rw [Int.tmod_eq_emod_of_nonneg (Int.natCast_nonneg _)]; rfl
        have hy : x % N < N := Nat.mod_lt _ (by omega)
        generalize x % N = y at *
        obtain ⟨ad2, rfl, had2, hac⟩ := (HS2.out.below hbw).at_ hy
        have hy' : (y : Int) < (N : Int) := by omega
        have hy0 : (0 : Int) ≤ (y : Int) := Int.natCast_nonneg _
        have hy256 : y < 256 := by omega
        have hyi : (y : Int) < 256 := by omega
        have hadg : (ad2.add y).block ≠ g := by
          rw [add_block]
          obtain ⟨a3, e3, h3, _⟩ := HS2.out.at_ hy
          injection e3 with e3
          rw [e3]
          have := HGG.out
          omega
        have HA1 : Hid (accL (gotL N O (l.take (j + 1))) = stepA (accL (gotL N O (l.take j))) (((y : Nat) : Int), st_ O y)) := Lib.hid (by rw [HG1.out, accL_snoc])
        have HH1 : Hid (hcells (gotL N O (l.take j)) ++ [.int .i64 (y : Nat), .string (st_ O y)] = hcells (gotL N O (l.take (j + 1)))) := Lib.hid (by rw [HG1.out]; exact hcells_snoc _ _ _)
        have HF1 := Lib.hid (HM.out y hy256)
        have HMM := Lib.hid (HM.out.mark (i := y) (s := st_ O y))
        generalize hacc : accL (gotL N O (l.take j)) = a at *
        generalize hcells (gotL N O (l.take j)) = CS at *
        generalize st_ O y = t at *
        clear hacc hbw
        have hmax : j + 1 ≤ maxLen := by unfold maxLen; omega
        have hov : Hid (∀ k, u8.ownBlock = some k → g + 1 ≤ k) := Lib.hid fun k e => (HO'.out.lt k e).1
        have halen : (0 : Int) ≤ (a.length : Int) := Int.natCast_nonneg _
        have NUM := Lib.hid (show (j ≤ r ∧ a.length ≤ j ∧ g + 1 ≤ wr.heap.size ∧ j < r ∧ y < N ∧ y < 256 ∧ j + 1 ≤ maxLen ∧ r ≤ 60) from ⟨hj, hle, hgs, hlt, hy, hy256, hmax, by omega⟩)
        have hal9 : a.length ≤ 9223372036854775806 := by omega
        have hcb := HB.out.cell hy256
        have hfz := HB.out.frozen y
        by_cases hb : b y = false
        · have hfree := HF1.out.1 hb
          have HA2 : Hid (accL (gotL N O (l.take (j + 1))) = a ++ [(((y : Nat) : Int), t)]) := Lib.hid (by rw [HA1.out]; exact stepA_free hfree)
          rw [hb] at hcb
          have hac1 : (wr.setCell ⟨g, y, none⟩ (.bool true)).cell? (ad2.add y) = some (.string t) := by
            rw [World.cell?_of_block (Below.heap_setCell wr ⟨g, y, none⟩ (.bool true) (ad2.add y).block hadg)]
            exact hac
          have HO1 : Hid ((wr.setCell ⟨g, y, none⟩ (.bool true)).ownsRow (g + 1) 37 2 u8 j CS) := Lib.hid (own_far HO'.out (p := ⟨g, y, none⟩) (fun e => absurd (HO'.out.lt _ e).1 (Nat.not_succ_le_self g)) _)
          have HM1 := Lib.hid (HB.out.mark y)
          have HW1 := Lib.hid (HW.out.setCell (p := ⟨g, y, none⟩) (Nat.le_refl _) (.bool true))
          have HZ1 : Hid (g + 1 ≤ (wr.setCell ⟨g, y, none⟩ (.bool true)).heap.size) := Lib.hid (by simpa using hgs)
          clear hfree hb hj hle hgs hlt hx hjl hy hy256 hmax had2 hrd hadg hN2 hm12 hpb hqb hp12 hq40
          go_upto_region 17 with fail
          clear hac hcb hfz
          generalize wr.setCell ⟨g, y, none⟩ (.bool true) = w5 at *
          go_wp2_with (at_builtin; refine wpList_append_lies _ rfl _ _ _ rfl (g + 1) 37 i0 _ 2 24 Tryd.underlying34 hi0 hz0 hz1 hz2 rfl (by decide) u8 j CS rfl (HO1.out.alloc _) ⟨w5.heap.size, 0, none⟩ 1 1 [.int .i64 (y : Nat), .string t] rfl rfl (World.news_of_block (cs := #[.int .i64 (y : Nat), .string t]) (t := 37) (fr := (0, 0)) (heap_alloc_new w5 _)) (by simp [Value.oneCell']) (by decide) NUM.out.2.2.2.2.2.2.1 (by have := NUM.out; omega) (by have := HZ1.out; simp; omega) (w5.heap.size + 1) (by simp) ?_; intro gg cap w4 hown1 hgrow hat hlt1; have HB4 := Lib.hid ((HM1.out.below ((Below.refl _ _).alloc (Nat.le_refl _) _)).grown hgrow (fun e => by have := hov.out g e; omega)); have HW4 := Lib.hid ((HW1.out.alloc (by have := HZ1.out; omega) _).grown hgrow (by have := HZ1.out; simp; omega) (fun k e => by have := hov.out k e; omega)); have HZ4 : Hid (g + 1 ≤ w4.heap.size) := Lib.hid HB4.out.block_lt; have HO4 := Lib.hid (hown1); clear hown1 hgrow hat)
          go_roundw
          case rel => exact ⟨j + 1, by have := NUM.out; omega, by go_num, by rw [HA2.out, List.length_append, List.length_singleton]; go_num, by rw [HA2.out, List.length_append, List.length_singleton]; have := NUM.out; omega, _, by rw [HA2.out]; exact HMM.out, HB4.out, by rw [← HH1.out]; exact HO4.out, HW4.out, HZ4.out⟩
          case measure => have := NUM.out; simp [intOf]; omega
        · have hb : b y = true := by cases h : b y; exact absurd h hb; rfl
          have HA2 : Hid (accL (gotL N O (l.take (j + 1))) = a) := Lib.hid (by rw [HA1.out]; exact stepA_there fun h => by rw [HF1.out.2 h] at hb; exact Bool.noConfusion hb)
          rw [hb] at hcb
          have HO1 := HO'
          have HM1 := HB
          have HW1 := HW
          have HZ1 := Lib.hid hgs
          clear hb hj hle hgs hlt hx hjl hy hy256 hmax had2 hrd hadg hN2 hm12 hpb hqb hp12 hq40
          go_upto_region 17 with fail
          clear hcb hfz
          generalize wr = w5 at *
          go_wp2_with (at_builtin; refine wpList_append_lies _ rfl _ _ _ rfl (g + 1) 37 i0 _ 2 24 Tryd.underlying34 hi0 hz0 hz1 hz2 rfl (by decide) u8 j CS rfl (HO1.out.alloc _) ⟨w5.heap.size, 0, none⟩ 1 1 [.int .i64 (y : Nat), .string t] rfl rfl (World.news_of_block (cs := #[.int .i64 (y : Nat), .string t]) (t := 37) (fr := (0, 0)) (heap_alloc_new w5 _)) (by simp [Value.oneCell']) (by decide) NUM.out.2.2.2.2.2.2.1 (by have := NUM.out; omega) (by have := HZ1.out; simp; omega) (w5.heap.size + 1) (by simp) ?_; intro gg cap w4 hown1 hgrow hat hlt1; have HB4 := Lib.hid ((HM1.out.below ((Below.refl _ _).alloc (Nat.le_refl _) _)).grown hgrow (fun e => by have := hov.out g e; omega)); have HW4 := Lib.hid ((HW1.out.alloc (by have := HZ1.out; omega) _).grown hgrow (by have := HZ1.out; simp; omega) (fun k e => by have := hov.out k e; omega)); have HZ4 : Hid (g + 1 ≤ w4.heap.size) := Lib.hid HB4.out.block_lt; have HO4 := Lib.hid (hown1); clear hown1 hgrow hat)
          go_roundw
          case rel => exact ⟨j + 1, by have := NUM.out; omega, by go_num, by rw [HA2.out], by rw [HA2.out]; have := NUM.out; omega, b, by rw [HA2.out]; exact HM.out, HB4.out, by rw [← HH1.out]; exact HO4.out, HW4.out, HZ4.out⟩
          case measure => have := NUM.out; simp [intOf]; omega
      · obtain rfl : j = r := by omega
        have hjl : l.take j = l := List.take_of_length_le (by rw [HR2.out.len]; exact Nat.le_refl _)
        rw [hjl] at HO' hle ⊢
        clear hjl
        have hbw : Below w2.heap.size w2 wr := HGG.out ▸ HW.out
        obtain ⟨A3, cc3, rfl, _, hs3⟩ := sh_of HO'.out
        have HBk : Hid (DoIs m N s.size (gotL N O l) (if m ≤ (accL (gotL N O l)).length then s else S0) (if m ≤ (accL (gotL N O l)).length then 0 else 15)) := Lib.hid (by
          have hs3' := hs3
          rw [HNq.out] at hs3' ⊢
          exact back_is HZ.out HMn.out HOd.out hs3' (by omega))
        have GW : Hid (Below w.heap.size w wr) := Lib.hid (G2.out.trans (hbw.mono G2.out.size))
        have HDo := Lib.hid (do_any ⟨0, 0, m, N, s.size, A3, j, cc3⟩ (gotL N O l) _ _ wr hs3 (show j ≤ 100 by omega) HBk.out)
        clear hs3 hbw HBk
        by_cases hlk : m ≤ (accL (gotL N O l)).length
        · rw [if_pos hlk, if_pos hlk] at HDo
          have hlk2 : ¬ ((accL (gotL N O l)).length : Int) < (m : Int) := by omega
          clear hlk
          generalize (accL (gotL N O l)).length = Q at *
          go_wp2_with fail
          refine HDo.out.mono ?_; rintro e w5 ⟨rfl, g5⟩
          have G5 := Lib.hid (GW.out.trans ((g5.mono GW.out.size).alloc (Nat.le_trans GW.out.size g5.size) (.cells #[.int .i64 0, .int .u32 0, .string s, .int .i64 0] 42)))
          have hN5 := At.new w5 42 (rcells 0 0 s 0)
          have y2 : (w5.alloc (.cells #[.int .i64 0, .int .u32 0, .string s, .int .i64 0] 42)).cell? ⟨w5.heap.size, 2, none⟩ = some (.string s) := hN5.cell 2 rfl
          have y3 : (w5.alloc (.cells #[.int .i64 0, .int .u32 0, .string s, .int .i64 0] 42)).cell? ⟨w5.heap.size, 3, none⟩ = some (.int .i64 0) := hN5.cell 3 rfl
          clear g5 hN5
          go_wp2_with fail
          refine (dawake_any _).mono ?_; rintro e w7 ⟨rfl, g7⟩
          have G7 := Lib.hid (G5.out.trans (g7.mono G5.out.size)); clear g7
          go_wp2_with fail
          go_ret
          exact ⟨rfl, G7.out⟩
        · rw [if_neg hlk, if_neg hlk] at HDo
          have hlk2 : ((accL (gotL N O l)).length : Int) < (m : Int) := by omega
          clear hlk
          generalize (accL (gotL N O l)).length = Q at *
          go_wp2_with fail
          refine HDo.out.mono ?_; rintro e w5 ⟨rfl, g5⟩
          have G5 := Lib.hid (GW.out.trans ((g5.mono GW.out.size).alloc (Nat.le_trans GW.out.size g5.size) (.cells #[.int .i64 0, .int .u32 0, .string S0, .int .i64 15] 42)))
          have hN5 := At.new w5 42 (rcells 0 0 S0 15)
          have y2 : (w5.alloc (.cells #[.int .i64 0, .int .u32 0, .string S0, .int .i64 15] 42)).cell? ⟨w5.heap.size, 2, none⟩ = some (.string S0) := hN5.cell 2 rfl
          have y3 : (w5.alloc (.cells #[.int .i64 0, .int .u32 0, .string S0, .int .i64 15] 42)).cell? ⟨w5.heap.size, 3, none⟩ = some (.int .i64 15) := hN5.cell 3 rfl
          clear g5 hN5
          go_wp2_with fail
          refine (dawake_any _).mono ?_; rintro e w7 ⟨rfl, g7⟩
          have G7 := Lib.hid (G5.out.trans (g7.mono G5.out.size)); clear g7
          go_wp2_with fail
          go_ret
          exact ⟨rfl, G7.out⟩
end Go.Proofs.YtooegclblgeicaaDoor

/- Proved: lemmas of one statement's proof, merged by program: what each part proves stands ahead of it. Conditions: those that the lemmas name. -/
import Derived.Test.YtooegclblgeicaaGreatDoorM19
import Derived.Deep.Slices
import Derived.ChangeSame
import Derived.OpenShut
import Derived.Test.YtooegclblgeicaaGreatDoorM26
import Derived.Lib.SmallJoins
import Derived.Test.YtooegclblgeicaaGreatDoorM33

/- Plain lemmas on shards that came in as an argument. No condition beyond those that each lemma names. -/
namespace Go.Proofs.YtooegclblgeicaaGreatDoor
open Go.ChangeShapes Go.WideShapes Go.ChangeAt Go.RowKit

theorem two_of {l : List Value} (h : l.length = 2) : ∃ a b, l = [a, b] := by
  match l, h with
  | [a, b], _ => exact ⟨a, b, rfl⟩
section
variable {H : Type} {enc : TypeId × Value → H} {w : World} {base : Nat} {held : Bool} {a : Option Addr} {len cap : Nat} {d : DataW H} {p : List MemPlace}
theorem shards_arg (h : DataW.Trod enc Tryz.prog w base (fun _ => true) held 28 (.slice a len cap) d p) : ∃ l, Sh w a len l := by
  obtain ⟨fuel, hf⟩ := h
  rcases Go.Deep.open_slice Tryz.underlying28 hf with ⟨hcs, _⟩ | ⟨x, l, c, m, n, D, Pl, hcs, _, hl, _, hm, _, hi⟩
  · simp [Value.cells] at hcs
    obtain ⟨rfl, rfl, rfl⟩ := hcs
    exact ⟨[], Sh.nil _ _⟩
  · simp [Value.cells] at hcs
    obtain ⟨rfl, rfl, rfl⟩ := hcs
    have hm' : m = cap := by simpa using hm
    have e38 : Tryz.prog.cellsOf 42 = 2 := by kernel_rfl
    have e3 : Tryz.prog.cellsOf 3 = 1 := by kernel_rfl
    have e9 : Tryz.prog.cellsOf 9 = 1 := by kernel_rfl
    have key : ∀ i, i < len → ∃ y : Shd, w.cell? (x.add (i * 2)) = some (.int .i64 y.1) ∧ w.cell? ⟨(x.add (i * 2)).block, (x.add (i * 2)).off + 1, none⟩ = some (.string y.2) := fun i h => by
      obtain ⟨cs', hc, ht⟩ := hi i (by omega)
      rw [e38] at hc
      obtain ⟨_, hcl, hat⟩ := World.cells?_some hc
      obtain ⟨y0, y1, k, _, _, h0, h1⟩ := trod_struct2 Tryz.underlying42 ht
      obtain ⟨c0, c1, rfl⟩ := two_of hcl
      · rw [e3] at h0
        rw [e9] at h1
        obtain ⟨z, hz, _⟩ := DataW.trod_int Tryz.underlying3 h0
        obtain ⟨s, hs, _⟩ := DataW.trod_string Tryz.underlying9 h1
        have hz' : c0 = .int .i64 z := by simpa using hz
        have hs' : c1 = .string s := by simpa using hs
        subst hz' hs'
        refine ⟨(z, s), ?_, ?_⟩
        · have h2 := hat 0 (by decide)
          rw [Addr.add_zero'] at h2
          rw [h2]; rfl
        · have h2 := hat 1 (by decide)
          exact h2
    obtain ⟨f, hf⟩ := Go.Deep.choose_lt key
    have hat : ∀ j, j < len → sh_ ((List.range len).map f) j = f j := fun j hj => by
      unfold sh_
      rw [List.getD_eq_getElem?_getD, List.getElem?_map, List.getElem?_range hj]; rfl
    refine ⟨(List.range len).map f, by simp, fun h0 => ?_⟩
    have h1 := World.block_lt_of_cell? w _ (hf 0 h0).1
    rw [add_block] at h1
    exact ⟨x, rfl, h1, fun j hj => by rw [hat j hj]; exact hf j hj⟩
end
end Go.Proofs.YtooegclblgeicaaGreatDoor

/- Plain lemmas on jobs that came in as an argument. No condition beyond those that each lemma names. -/
namespace Go.Proofs.YtooegclblgeicaaGreatDoor
open Go.ChangeShapes Go.WideShapes Go.ChangeAt Go.RowKit

instance : Inhabited Jo := ⟨⟨0, 0, 0, 0, 0, none, 0, 0⟩⟩
theorem six_in {l : List Value} (h : l.length = 6) : ∃ a b c d e f, l = [a, b, c, d, e, f] := by
  match l, h with
  | [a, b, c, d, e, f], _ => exact ⟨a, b, c, d, e, f, rfl⟩
section
variable {H : Type} {enc : TypeId × Value → H} {w : World} {base : Nat} {held : Bool} {a : Option Addr} {len cap : Nat} {d : DataW H} {p : List MemPlace}
theorem jo_cells {fuel : Nat} {c0 c1 c2 c3 c4 c5 : Value} {x : DataW H × List MemPlace} (hf : DataW.trod enc Tryz.prog w base (fun _ => true) held fuel 30 [c0, c1, c2, c3, c4, c5] = some x) :
    ∃ a : Jo, (∃ l, Sh w a.A a.m l) ∧ c0 = .int .i64 a.s ∧ c1 = .int .u32 a.b ∧ c2 = .int .i64 a.k ∧ c3 = .int .i64 a.n ∧ c4 = .int .i64 a.l ∧ c5 = .slice a.A a.m a.c := by
  have e3 : Tryz.prog.cellsOf 3 = 1 := by kernel_rfl
  have e30 : Tryz.prog.cellsOf 25 = 1 := by kernel_rfl
  have e40 : Tryz.prog.cellsOf 27 = 2 := by kernel_rfl
  have e34 : Tryz.prog.cellsOf 28 = 1 := by kernel_rfl
  obtain ⟨xs, n, _, _, _, hlen, hat⟩ := DataW.trod_struct Tryz.underlying30 hf
  have hx : xs.length = 5 := hlen
  have hin : ∀ (i : Nat), i < 5 → ∃ y, xs[i]? = some y := fun i hi => ⟨_, List.getElem?_eq_getElem (by rw [hx]; exact hi)⟩
  obtain ⟨y0, j0⟩ := hin 0 (by decide)
  have g0 : DataW.trod enc Tryz.prog w base (fun _ => true) held n 27 [c0, c1] = some y0 := by
    have h : DataW.trod enc Tryz.prog w base (fun _ => true) held n 27 (List.take (Tryz.prog.cellsOf 27) (List.drop 0 [c0, c1, c2, c3, c4, c5])) = xs[0]? := hat 0 _ rfl
    rw [e40, j0] at h
    exact h
  obtain ⟨y1, j1⟩ := hin 1 (by decide)
  have g1 : DataW.trod enc Tryz.prog w base (fun _ => true) held n 3 [c2] = some y1 := by
    have h : DataW.trod enc Tryz.prog w base (fun _ => true) held n 3 (List.take (Tryz.prog.cellsOf 3) (List.drop 2 [c0, c1, c2, c3, c4, c5])) = xs[1]? := hat 1 _ rfl
    rw [e3, j1] at h
    exact h
  obtain ⟨y2, j2⟩ := hin 2 (by decide)
  have g2 : DataW.trod enc Tryz.prog w base (fun _ => true) held n 3 [c3] = some y2 := by
    have h : DataW.trod enc Tryz.prog w base (fun _ => true) held n 3 (List.take (Tryz.prog.cellsOf 3) (List.drop 3 [c0, c1, c2, c3, c4, c5])) = xs[2]? := hat 2 _ rfl
    rw [e3, j2] at h
    exact h
  obtain ⟨y3, j3⟩ := hin 3 (by decide)
  have g3 : DataW.trod enc Tryz.prog w base (fun _ => true) held n 3 [c4] = some y3 := by
    have h : DataW.trod enc Tryz.prog w base (fun _ => true) held n 3 (List.take (Tryz.prog.cellsOf 3) (List.drop 4 [c0, c1, c2, c3, c4, c5])) = xs[3]? := hat 3 _ rfl
    rw [e3, j3] at h
    exact h
  obtain ⟨y4, j4⟩ := hin 4 (by decide)
  have g4 : DataW.trod enc Tryz.prog w base (fun _ => true) held n 28 [c5] = some y4 := by
    have h : DataW.trod enc Tryz.prog w base (fun _ => true) held n 28 (List.take (Tryz.prog.cellsOf 28) (List.drop 5 [c0, c1, c2, c3, c4, c5])) = xs[4]? := hat 4 _ rfl
    rw [e34, j4] at h
    exact h
  obtain ⟨v0, v1, k, _, _, q0, q1⟩ := Go.ChangeShapes.trod_struct2 Tryz.underlying27 g0
  rw [e3] at q0
  rw [e30] at q1
  obtain ⟨z0, r0, _⟩ := DataW.trod_int Tryz.underlying3 q0
  obtain ⟨z1, r1, _⟩ := DataW.trod_int Tryz.underlying25 q1
  obtain ⟨z2, r2, _⟩ := DataW.trod_int Tryz.underlying3 g1
  obtain ⟨z3, r3, _⟩ := DataW.trod_int Tryz.underlying3 g2
  obtain ⟨z4, r4, _⟩ := DataW.trod_int Tryz.underlying3 g3
  have r0' : c0 = .int .i64 z0 := by simpa using r0
  have r1' : c1 = .int .u32 z1 := by simpa using r1
  have r2' : c2 = .int .i64 z2 := by simpa using r2
  have r3' : c3 = .int .i64 z3 := by simpa using r3
  have r4' : c4 = .int .i64 z4 := by simpa using r4
  have key : ∃ A m c, c5 = .slice A m c ∧ ∃ l, Sh w A m l := by
    rcases Go.Deep.open_slice Tryz.underlying28 g4 with ⟨hcs, _⟩ | ⟨x, l, c, m, n', D, Pl, hcs, _⟩
    · have hcs' : c5 = .slice none 0 0 := by simpa using hcs
      exact ⟨none, 0, 0, hcs', [], Sh.nil _ _⟩
    · have hcs' : c5 = .slice (some x) l c := by simpa using hcs
      subst hcs'
      exact ⟨some x, l, c, rfl, shards_arg ⟨n, show DataW.trod enc Tryz.prog w base (fun _ => true) held n 28 (Value.slice (some x) l c).cells.toList = some (y4.1, y4.2) from g4⟩⟩
  obtain ⟨A, m, c, r5', hr⟩ := key
  exact ⟨⟨z0, z1, z2, z3, z4, A, m, c⟩, hr, r0', r1', r2', r3', r4', r5'⟩
/-- The slice reads as jobs. -/
def Jobs (w : World) (A : Option Addr) (n : Nat) (X : Nat → Jo × List Shd) : Prop := Jbs w A n (fun j => (X j).1) (fun j => (X j).2)
theorem jobs_arg (h : DataW.Trod enc Tryz.prog w base (fun _ => true) held 22 (.slice a len cap) d p) : ∃ X, Jobs w a len X := by
  obtain ⟨fuel, hf⟩ := h
  rcases Go.Deep.open_slice Tryz.underlying22 hf with ⟨hcs, _⟩ | ⟨x, l, c, m, n, D, Pl, hcs, _, hl, _, hm, _, hi⟩
  · simp [Value.cells] at hcs
    obtain ⟨rfl, rfl, rfl⟩ := hcs
    exact ⟨fun _ => (default, []), fun h => absurd h (by omega)⟩
  · simp [Value.cells] at hcs
    obtain ⟨rfl, rfl, rfl⟩ := hcs
    have hm' : m = cap := by simpa using hm
    have e45 : Tryz.prog.cellsOf 30 = 6 := by kernel_rfl
    have key : ∀ i, i < len → ∃ y : Jo × List Shd, JoAt w (x.add (i * 6)) y.1 ∧ Sh w y.1.A y.1.m y.2 := fun i h => by
      obtain ⟨cs', hc, ht⟩ := hi i (by omega)
      rw [e45] at hc
      obtain ⟨_, hcl, hat⟩ := World.cells?_some hc
      obtain ⟨c0, c1, c2, c3, c4, c5, rfl⟩ := six_in hcl
      obtain ⟨y, ⟨l, hs⟩, rfl, rfl, rfl, rfl, rfl, rfl⟩ := jo_cells ht
      refine ⟨(y, l), ⟨?_, hat 1 (by decide), hat 2 (by decide), hat 3 (by decide), hat 4 (by decide), hat 5 (by decide)⟩, hs⟩
      have h2 := hat 0 (by decide)
      rw [Addr.add_zero'] at h2
      rw [h2]; rfl
    obtain ⟨f, hf⟩ := Go.Deep.choose_lt key
    refine ⟨f, fun h0 => ?_⟩
    have h1 := World.block_lt_of_cell? w _ (hf 0 h0).1.c0
    rw [add_block] at h1
    exact ⟨x, rfl, h1, fun j hj => hf j hj⟩
end
end Go.Proofs.YtooegclblgeicaaGreatDoor

/- Proved: the walk of the law that Do and All of package decode tell of any jobs what the document's tells. Conditions: those that the theorems name. -/
namespace Go.Proofs.YtooegclblgeicaaGreatDoor
open Go.ChangeShapes Go.WideShapes Go.ChangeAt Go.RowKit

set_option maxRecDepth 100000 in
set_option maxHeartbeats 6400000 in
theorem does_walk (A : Option Addr) (n c : Nat) (X : Nat → Jo × List Shd) (w : World) (hj : Jobs w A n X) :
    Calls Tryz.prog 3 #[.slice A n c] w fun e w' => e = .returned (.bool true) ∧ Below w.heap.size w w' := by
  have HJ := Lib.hid hj
  clear hj
  by_cases h8 : (n : Int) > 8
  · go_enter Tryz.func3, Tryz.ntmps3
    go_wp2_with fail
    refine (dawake_any _).mono ?_; rintro e w2 ⟨rfl, g2⟩
    have G2 := Lib.hid g2; clear g2
    go_wp2_with fail
    go_ret
    exact ⟨rfl, G2.out⟩
  go_enter Tryz.func3, Tryz.ntmps3
  go_wp2_with fail
  go_loopw [3] (fun v wr => ∃ i : Nat, i ≤ n ∧ v = .int .i64 i ∧ (∀ j, j < i → (X j).1.m ≤ 30) ∧ Below w.heap.size w wr) (fun v _ => n - (intOf v).toNat)
  case atStart => exact ⟨0, by omega, rfl, fun j h => absurd h (by omega), Below.refl _ _⟩
  case round =>
    obtain ⟨i, hi, rfl, hm, hb⟩ := hrel
    have HM := Lib.hid hm
    have HB := Lib.hid hb
    clear hm hb
    by_cases hlt : i < n
    · obtain ⟨ad, rfl, hx, hsh⟩ := HJ.out.at_ HB.out hlt
      have HSh := Lib.hid hsh
      have hlt' : (i : Int) < (n : Int) := by omega
      have hi0 : (0 : Int) ≤ (i : Int) := Int.natCast_nonneg _
      obtain ⟨x0, x1, x2, x3, x4, x5⟩ := hx
      have HF := Lib.hid (dfew_any (X i).1 (X i).2 wr hsh)
      clear hsh
      generalize hX : (X i).1 = x at *
      have HXi := Lib.hid hX
      clear hX
      go_wp2_with fail
      refine HF.out.mono ?_; rintro e w1 ⟨b, rfl, hb, g1⟩
      have HB1 := Lib.hid (HB.out.trans (g1.mono HB.out.size))
      have HM1 : Hid (b = true → ∀ j, j < i + 1 → (X j).1.m ≤ 30) := Lib.hid fun e j hj => by
        by_cases ej : j < i
        · exact HM.out j ej
        · rw [show j = i by omega, HXi.out]; exact hb e
      clear hb g1 x0 x1 x2 x3 x4 x5
      cases b
      · go_wp2_with fail
        refine (dawake_any _).mono ?_; rintro e w2 ⟨rfl, g2⟩
        have G2 := Lib.hid (HB1.out.trans (g2.mono HB1.out.size)); clear g2
        go_wp2_with fail
        go_ret
        exact ⟨rfl, G2.out⟩
      · go_wp2_with fail
        go_roundw
        case rel => exact ⟨i + 1, by omega, by go_num, HM1.out trivial, HB1.out⟩
        case measure => simp [intOf]; omega
    · obtain rfl : i = n := by omega
      have key : ∀ j, j < i → ∃ q : ByteArray × Int, DoIs (X j).1.k (X j).1.n (X j).1.l (X j).2 q.1 q.2 := fun j hj => by
        obtain ⟨_, _, _, hsh⟩ := HJ.out.at_ HB.out hj
        obtain ⟨t, z, h⟩ := do_exists (X j).1.k (X j).1.n (X j).1.l hsh (by have := HM.out j hj; omega)
        exact ⟨(t, z), h⟩
      have : Inhabited (ByteArray × Int) := ⟨(S0, 0)⟩
      obtain ⟨f, hf⟩ := Go.Deep.choose_lt key
      have HD := Lib.hid hf
      clear key hf
      have HJr : Hid (Jbs wr A i (fun j => (X j).1) (fun j => (X j).2)) := Lib.hid fun h0 => by
        obtain ⟨ad, e, hlt, hc⟩ := HJ.out h0
        exact ⟨ad, e, Nat.lt_of_lt_of_le hlt HB.out.size, fun j hj => ⟨(hc j hj).1.below HB.out (by rw [add_block]; exact hlt), (hc j hj).2.below HB.out⟩⟩
      have HAll := Lib.hid (all_any A i c (fun j => (X j).1) (fun j => (X j).2) (fun j => (f j).1) (fun j => (f j).2) wr HJr.out (by omega) (fun j hj => by have := HM.out j hj; show (X j).1.m ≤ 100; omega) (fun j hj => HD.out j hj))
      clear HJr
      go_wp2_with fail
      refine HAll.out.mono ?_; rintro e w1 ⟨g, rfl, hr, g1⟩
      have HR1 := Lib.hid hr
      have HB1 := Lib.hid (HB.out.trans (g1.mono HB.out.size))
      clear hr g1 HAll
      go_wp2_with fail
      go_loopw [5] (fun v wr => ∃ k : Nat, k ≤ i ∧ v = .int .i64 k ∧ Below w1.heap.size w1 wr) (fun v _ => i - (intOf v).toNat)
      case atStart => exact ⟨0, by omega, rfl, Below.refl _ _⟩
      case round =>
        obtain ⟨k, hk, rfl, hb⟩ := hrel
        rename World => w2
        have HB2 := Lib.hid hb
        clear hb
        by_cases hlt : k < i
        · have HBw := Lib.hid (HB1.out.trans (HB2.out.mono HB1.out.size))
          obtain ⟨ad, rfl, hx, hsh⟩ := HJ.out.at_ HBw.out hlt
          have HX2 := Lib.hid hx
          have HD1 := HD.out k hlt
          have hm := HM.out k hlt
          have HDo := Lib.hid (fun W (gw : Below w2.heap.size w2 W) => do_any (X k).1 (X k).2 (f k).1 (f k).2 W (hsh.below gw) (by omega) HD1)
          have HRd := Lib.hid (rdo_any (X k).1 (X k).2 (f k).1 (f k).2 w2 hsh (by omega) HD1)
          have HRs := Lib.hid (fun W (gw : Below w2.heap.size w2 W) => ((HR1.out.below HB2.out).below gw).cells hlt (Nat.le_refl _))
          have hlt' : (k : Int) < (i : Int) := by omega
          have hk0 : (0 : Int) ≤ (k : Int) := Int.natCast_nonneg _
          have hadb : (ad.add (k * 6)).block < w2.heap.size := by
            obtain ⟨a3, e3, h3, _⟩ := HJ.out (by omega)
            injection e3 with e3
            rw [add_block, e3]
            exact Nat.lt_of_lt_of_le h3 HBw.out.size
          have HAd := Lib.hid hadb
          clear hsh HD1 hm hadb
          generalize (X k).1 = x at *
          generalize (f k).1 = t at *
          generalize (f k).2 = z at *
          obtain ⟨x0, x1, x2, x3, x4, x5⟩ := hx
          have hneq := neq_result
          go_wp2_with fail
          refine HRd.out.mono ?_; rintro e w3 ⟨rfl, g3⟩
          clear x0 x1 x2 x3 x4 x5
          have T4 : Below w2.heap.size w2 (w3.alloc (.cells #[.int .i64 x.s, .int .u32 x.b, .string t, .int .i64 z] 35)) := g3.alloc g3.size _
          have hBox : At (w3.alloc (.cells #[.int .i64 x.s, .int .u32 x.b, .string t, .int .i64 z] 35)) w3.heap.size 35 (rcells x.s x.b t z) := At.new w3 35 (rcells x.s x.b t z)
          obtain ⟨x0, x1, x2, x3, x4, x5⟩ := HX2.out.below T4 HAd.out
          have HT4 := Lib.hid T4
          have HBx := Lib.hid hBox
          generalize hw4 : w3.alloc (.cells #[.int .i64 x.s, .int .u32 x.b, .string t, .int .i64 z] 35) = w4 at *
          clear g3 T4 hBox
          have b0 := HBx.out.cell 0 rfl
          have b1 := HBx.out.cell 1 rfl
          have b2 := HBx.out.cell 2 rfl
          have b3 := HBx.out.cell 3 rfl
          go_wp2_with fail
          clear hw4
          have HCall : Hid (Calls Tryz.prog 8 #[.agg #[.int .i64 x.s, .int .u32 x.b, .int .i64 x.k, .int .i64 x.n, .int .i64 x.l, .slice x.A x.m x.c]] w4.drew fun e w' => e = .returned (rval x.s x.b t z) ∧ Below w4.heap.size w4 w') := Lib.hid ((HDo.out w4.drew HT4.out.drew).mono fun e w' h => ⟨h.1, h.2.os, h.2.tape, h.2.output, h.2.size, h.2.block⟩)
          go_region_with (go_at_call 8; (with_reducible refine HCall.out.mono ?_); rintro e w5 ⟨rfl, g5⟩; have hbx5 := HBx.out.below g5 HBx.out.lt; have d0 := hbx5.cell 0 rfl; have d1 := hbx5.cell 1 rfl; have d2 := hbx5.cell 2 rfl; have d3 := hbx5.cell 3 rfl; have T5 := HT4.out.trans (g5.mono HT4.out.size); obtain ⟨r0, r1, r2, r3⟩ := HRs.out w5 T5; have HB5 := Lib.hid (HB2.out.trans (T5.mono HB2.out.size)); clear g5 hbx5 T5)
          all_goals
            clear x0 x1 x2 x3 x4 x5 b0 b1 b2 b3 d0 d1 d2 d3 r0 r1 r2 r3
            go_wp2_with fail
            go_roundw
            case rel => exact ⟨k + 1, by omega, by go_num, HB5.out⟩
            case measure => simp [intOf]; omega
        · obtain rfl : k = i := by omega
          go_wp2_with fail
          refine (dawake_any _).mono ?_; rintro e w7 ⟨rfl, g7⟩
          have G7 := Lib.hid (HB1.out.trans ((HB2.out.mono HB1.out.size).trans (g7.mono (Nat.le_trans HB1.out.size HB2.out.size)))); clear g7
          go_wp2_with fail
          go_ret
          exact ⟨rfl, G7.out⟩
end Go.Proofs.YtooegclblgeicaaGreatDoor

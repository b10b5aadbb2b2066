/- Proved: lemmas of one statement's proof, merged by program: what each part proves stands ahead of it. Conditions: those that the lemmas name. -/
import Derived.Test.YtnabhaehfmbkpaaM17
import Derived.Test.YtnabhaehfmbkpaaM13
import Derived.Deep.Slices
import Derived.SliceStrings
import Derived.ChangeSame
import Derived.OpenShut

/- Proved: the walk of the law that Decode of package rs answers as the document's, for every two ints and all shards. Conditions: those that the theorems name. -/
namespace Go.Proofs.Ytnabhaehfmbkpaa
open Go.ChangeShapes Go.WideShapes Go.ChangeAt Go.RowKit

/-- A bool comes back; if it is true, there are at most 40. -/
def AtMost (W : World) (m : Nat) (e : Ending) (w' : World) : Prop := ∃ b : Bool, e = .returned (.bool b) ∧ (b = true → m ≤ 40) ∧ W = w'

set_option maxRecDepth 100000 in
set_option maxHeartbeats 1600000 in
theorem some_any (A : Option Addr) (m c : Nat) (l : List Shd) (w : World) (hl : Sh w A m l) :
    Calls Try.prog 5 #[.slice A m c] w (AtMost w m) := by
  have HL := Lib.hid hl
  clear hl
  by_cases h : (m : Int) > 40
  · go_enter Try.func5, Try.ntmps5
    go_wp2_with fail
    go_ret
    exact ⟨false, rfl, fun e => Bool.noConfusion e, rfl⟩
  · go_enter Try.func5, Try.ntmps5
    go_wp2_with fail
    go_loop [3] (fun v => ∃ q : Nat, q ≤ m ∧ v = .int .i64 q) (fun v => m - (intOf v).toNat)
    case atStart => exact ⟨0, by omega, rfl⟩
    case round =>
      obtain ⟨q, hq, rfl⟩ := hrel
      by_cases hlt : q < m
      · obtain ⟨ad, rfl, _, _, hc⟩ := HL.out.at_ hlt
        have hlt' : (q : Int) < (m : Int) := by omega
        have hq0 : (0 : Int) ≤ (q : Int) := Int.natCast_nonneg _
        generalize (sh_ l q).2 = s at *
        have key : (¬ (s.size : Int) > 40 ∧ ¬ (s.size : Int) > 1100) ∨ ((s.size : Int) > 40 ∧ (s.size : Int) ≤ 1024) ∨ ((s.size : Int) > 40 ∧ ¬ (s.size : Int) ≤ 1024 ∧ ¬ (s.size : Int) > 1100) ∨ ((s.size : Int) > 40 ∧ ¬ (s.size : Int) ≤ 1024 ∧ (s.size : Int) > 1100) := by omega
        rcases key with ⟨k1, k2⟩ | ⟨k1, k2⟩ | ⟨k1, k2, k3⟩ | ⟨k1, k2, k3⟩
        · go_wp2_with fail
          go_round
          case rel => exact ⟨q + 1, by omega, by go_num⟩
          case measure => simp [intOf]; omega
        · go_wp2_with fail
          go_ret
          exact ⟨false, rfl, fun e => Bool.noConfusion e, rfl⟩
        · go_wp2_with fail
          go_round
          case rel => exact ⟨q + 1, by omega, by go_num⟩
          case measure => simp [intOf]; omega
        · go_wp2_with fail
          go_ret
          exact ⟨false, rfl, fun e => Bool.noConfusion e, rfl⟩
      · obtain rfl : q = m := by omega
        go_wp2_with fail
        go_ret
        exact ⟨true, rfl, fun _ => by omega, rfl⟩

theorem dc_len {k n : Int} {l : List Shd} {out : List ByteArray} (h : DcIs k n l out) : out.length ≤ 140737488355328 := by
  unfold DcIs at h
  split at h
  · rename_i e
    obtain ⟨q, _, rfl⟩ := h
    have hk : DArg k n := by
      by_cases g : DArg k n
      · exact g
      · rw [dcE_arg g] at e; exact absurd e (by decide)
    unfold DArg at hk
    rw [txS_len, mulL_mix, mkR_len]
    omega
  · rw [h]; exact Nat.zero_le _

set_option maxRecDepth 100000 in
set_option maxHeartbeats 3200000 in
theorem decodes_walk (A : Option Addr) (m c : Nat) (k n : Int) (l : List Shd) (w : World) (hl : Sh w A m l) :
    Calls Try.prog 3 #[.int .i64 k, .int .i64 n, .slice A m c] w fun e w' => e = .returned (.bool true) ∧ Below w.heap.size w w' := by
  have HL := Lib.hid hl
  clear hl
  have HS := Lib.hid (some_any A m c l w HL.out)
  have HDA := Lib.hid (fun W h hm => decode_any A m c k n l W h hm)
  have HDB := Lib.hid (fun W h hm => rdecode_any A m c k n l W h hm)
  generalize hz : dcE k n l = z
  have HZ := Lib.hid hz
  clear hz
  by_cases hk : k > 12 ∧ k ≤ 32
  · obtain ⟨hk1, hk2⟩ := hk
    go_enter Try.func3, Try.ntmps3
    go_wp2_with fail
    refine HS.out.mono ?_; rintro e w1 ⟨b, rfl, _, rfl⟩
    cases b
    all_goals
      go_wp2_with fail
      refine (rawake_any _).mono ?_; rintro e w2 ⟨rfl, g2⟩
      have G2 := Lib.hid g2; clear g2
      go_wp2_with fail
      go_ret
      exact ⟨rfl, G2.out⟩
  · have key : ¬ k > 12 ∨ k > 12 ∧ ¬ k ≤ 32 := by omega
    clear hk
    rcases key with hk1 | ⟨hk1, hk2⟩
    all_goals
      go_enter Try.func3, Try.ntmps3
      go_wp2_with fail
      refine HS.out.mono ?_; rintro e w1 ⟨b, rfl, hb, rfl⟩
      cases b
      · go_wp2_with fail
        refine (rawake_any _).mono ?_; rintro e w2 ⟨rfl, g2⟩
        have G2 := Lib.hid g2; clear g2
        go_wp2_with fail
        go_ret
        exact ⟨rfl, G2.out⟩
      · have hm := hb rfl
        clear hb
        go_wp2_with fail
        refine (HDA.out _ HL.out (by omega)).mono ?_; rintro e w2 ⟨A2, n2, c2, out, rfl, hd2, hs2, g2⟩
        rw [HZ.out]
        have HD2 := Lib.hid hd2; have HS2 := Lib.hid hs2; have G2 := Lib.hid g2; have HL2 := Lib.hid (HL.out.below g2)
        clear hd2 hs2 g2
        go_wp2_with fail
        refine (HDB.out _ HL2.out (by omega)).mono ?_; rintro e w3 ⟨A3, n3, c3, out', rfl, hd3, hs3, g3⟩
        obtain rfl := hd3.only HD2.out
        obtain rfl : n2 = n3 := HS2.out.len.symm.trans hs3.len
        rw [HZ.out]
        have HS3 := Lib.hid hs3; have F2 := Lib.hid (HS2.out.below g3); have G3 := Lib.hid (G2.out.trans (g3.mono G2.out.size))
        have hn2 : Hid (n2 ≤ 140737488355328) := Lib.hid (by rw [← hs3.len]; exact dc_len hd3)
        clear hd3 hs3 g3 HL2 G2 HS2
        go_wp2_with fail
        refine (texts_yes A2 A3 n2 c2 c3 _ _ F2.out HS3.out hn2.out).mono ?_; rintro e w4 ⟨rfl, q4⟩
        have G4 := Lib.hid (G3.out.trans ((two_drawn (B := w3.heap.size) q4).mono G3.out.size)); clear q4
        go_wp2_with fail
        refine (rawake_any _).mono ?_; rintro e w5 ⟨rfl, g5⟩
        have G5 := Lib.hid (G4.out.trans (g5.mono G4.out.size)); clear g5
        go_wp2_with fail
        go_ret
        exact ⟨rfl, G5.out⟩
end Go.Proofs.Ytnabhaehfmbkpaa

/- Plain lemmas on texts and on shards that came in as an argument. No condition beyond those that each lemma names. -/
namespace Go.Proofs.Ytnabhaehfmbkpaa
open Go.ChangeShapes Go.WideShapes Go.ChangeAt Go.RowKit

theorem two_of {l : List Value} (h : l.length = 2) : ∃ a b, l = [a, b] := by
  match l, h with
  | [a, b], _ => exact ⟨a, b, rfl⟩
section
variable {H : Type} {enc : TypeId × Value → H} {w : World} {base : Nat} {held : Bool} {a : Option Addr} {len cap : Nat} {d : DataW H} {p : List MemPlace}
theorem texts_arg (h : DataW.Trod enc Try.prog w base (fun _ => true) held 25 (.slice a len cap) d p) : ∃ l, Ss w a len l := by
  obtain ⟨fuel, hf⟩ := h
  rcases open_strings Try.underlying25 Try.underlying9 (by kernel_rfl) hf with ⟨hcs, _⟩ | ⟨x, l, c, ss, hcs, _, hl, _, hz, _, hcell, _⟩
  · simp [Value.cells] at hcs
    obtain ⟨rfl, rfl, rfl⟩ := hcs
    exact ⟨[], Ss.nil _ _⟩
  · simp [Value.cells] at hcs
    obtain ⟨rfl, rfl, rfl⟩ := hcs
    have hz' : ss.length = cap := by simpa using hz
    refine ⟨ss.take len, by rw [List.length_take]; omega, fun h0 => ?_⟩
    have h1 := World.block_lt_of_cell? w _ (hcell 0 (by omega))
    rw [add_block] at h1
    refine ⟨x, rfl, h1, fun j hj => ?_⟩
    rw [hcell j (by omega)]
    unfold st_
    rw [List.getD_eq_getElem?_getD, List.getD_eq_getElem?_getD, List.getElem?_take, if_pos hj]
theorem shards_arg (h : DataW.Trod enc Try.prog w base (fun _ => true) held 22 (.slice a len cap) d p) : ∃ l, Sh w a len l := by
  obtain ⟨fuel, hf⟩ := h
  rcases Go.Deep.open_slice Try.underlying22 hf with ⟨hcs, _⟩ | ⟨x, l, c, m, n, D, Pl, hcs, _, hl, _, hm, _, hi⟩
  · simp [Value.cells] at hcs
    obtain ⟨rfl, rfl, rfl⟩ := hcs
    exact ⟨[], Sh.nil _ _⟩
  · simp [Value.cells] at hcs
    obtain ⟨rfl, rfl, rfl⟩ := hcs
    have hm' : m = cap := by simpa using hm
    have e38 : Try.prog.cellsOf 38 = 2 := by kernel_rfl
    have e3 : Try.prog.cellsOf 3 = 1 := by kernel_rfl
    have e9 : Try.prog.cellsOf 9 = 1 := by kernel_rfl
    have key : ∀ i, i < len → ∃ y : Shd, w.cell? (x.add (i * 2)) = some (.int .i64 y.1) ∧ w.cell? ⟨(x.add (i * 2)).block, (x.add (i * 2)).off + 1, none⟩ = some (.string y.2) := fun i h => by
      obtain ⟨cs', hc, ht⟩ := hi i (by omega)
      rw [e38] at hc
      obtain ⟨_, hcl, hat⟩ := World.cells?_some hc
      obtain ⟨y0, y1, k, _, _, h0, h1⟩ := trod_struct2 Try.underlying38 ht
      obtain ⟨c0, c1, rfl⟩ := two_of hcl
      · rw [e3] at h0
        rw [e9] at h1
        obtain ⟨z, hz, _⟩ := DataW.trod_int Try.underlying3 h0
        obtain ⟨s, hs, _⟩ := DataW.trod_string Try.underlying9 h1
        have hz' : c0 = .int .i64 z := by simpa using hz
        have hs' : c1 = .string s := by simpa using hs
        subst hz' hs'
        refine ⟨(z, s), ?_, ?_⟩
        · have h2 := hat 0 (by decide)
          rw [Addr.add_zero'] at h2
          rw [h2]; rfl
        · have h2 := hat 1 (by decide)
          exact h2
    obtain ⟨f, hf⟩ := Go.Deep.choose_lt key
    have hat : ∀ j, j < len → sh_ ((List.range len).map f) j = f j := fun j hj => by
      unfold sh_
      rw [List.getD_eq_getElem?_getD, List.getElem?_map, List.getElem?_range hj]; rfl
    refine ⟨(List.range len).map f, by simp, fun h0 => ?_⟩
    have h1 := World.block_lt_of_cell? w _ (hf 0 h0).1
    rw [add_block] at h1
    exact ⟨x, rfl, h1, fun j hj => by rw [hat j hj]; exact hf j hj⟩
end
end Go.Proofs.Ytnabhaehfmbkpaa

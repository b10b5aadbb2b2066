/- Proved: lemmas of one statement's proof, merged by program: what each part proves stands ahead of it. Conditions: those that the lemmas name. -/
import Derived.Test.YtodokgkchmpmnaaGreatM7
import Derived.Test.YtodokgkchmpmnaaGreatM2

/- Proved: what Scale and MulAdd of package vector answer for every byte and rows of bytes. Conditions: those that the theorems name. -/
namespace Go.Proofs.YtodokgkchmpmnaaGreat
open Go.ChangeShapes Go.WideShapes Go.ChangeAt Go.RowKit

set_option maxHeartbeats 400000 in
theorem scale_none (B : Option Addr) (m d : Nat) (w : World) :
    Calls Tryz.prog 121 #[.int .u8 (m : Nat), .slice B 0 d] w (GivesC w 0 []) := by
  go_enter Tryz.func121, Tryz.ntmps121
  go_wp2_with (go_at_call 127; refine (row_none _ _ _).mono ?_; rintro e w' ⟨rfl, rfl⟩)
  go_loop [12] (fun i => i = .int .i64 0) (fun _ => 0)
  case atStart => rfl
  case round =>
    subst hrel
    go_wp2_with fail
    go_ret
    exact ⟨_, _, rfl, Nat.le_refl _, Bs.nil _ _, Below.refl _ _⟩

theorem mul_swap (m v : Nat) (hm : m < 256) (hv : v < 256) (w : World) :
    Calls Tryz.prog 129 #[.int .u8 (v : Nat), .int .u8 (m : Nat)] w fun e w' => e = .returned (.int .u8 (gmul m v : Nat)) ∧ w = w' := by
  rw [gmul_comm m v hm hv]; exact mul_any v m hv hm w

set_option maxHeartbeats 400000 in
theorem scale_some (bd : Addr) (m n d : Nat) (b : List Nat) (w : World) (hmm : m < 256) (hb : Bs w (some bd) n b) (h0 : 0 < n) (hm : n ≤ 140737488355328) :
    Calls Tryz.prog 121 #[.int .u8 (m : Nat), .slice (some bd) n d] w (GivesC w n (scaleL n m b)) := by
  have HB := Lib.hid hb
  clear hb
  go_enter Tryz.func121, Tryz.ntmps121
  go_wp2_with (go_at_call 127; refine (row_some bd n d b w HB.out h0 hm).mono ?_; rintro e w1 ⟨g, hg, rfl, ho, hbel⟩; have HO := Lib.hid ho; have HW := Lib.hid hbel; clear ho hbel)
  go_loopw [12] (fun i wr => ∃ k : Nat, k ≤ n ∧ i = .int .i64 k ∧ ∃ l, Upto n k (fun j => gmul m (b.getD j 0)) b l ∧ Own wr g n l ∧ Below w.heap.size w wr) (fun i _ => n - (intOf i).toNat)
  case atStart => exact ⟨0, by omega, rfl, b, Upto.start HB.out.len, HO.out, HW.out⟩
  case round =>
    obtain ⟨k, hk, rfl, l, hu, ho, hbel⟩ := hrel
    have HU := Lib.hid hu
    have HO' := Lib.hid ho
    have HW' := Lib.hid hbel
    clear hu ho hbel HO HW
    by_cases hlt : k < n
    · have hac : wr.cell? ⟨g, k, none⟩ = some (.int .u8 (b.getD k 0 : Nat)) := by
        rw [← HU.out.here hlt]; exact HO'.out.cell hlt
      have hfz := HO'.out.frozen k
      have hy := HB.out.lt k
      go_wp2_with (go_at_call 129; refine (mul_swap m _ hmm hy _).mono ?_; rintro e w' ⟨rfl, rfl⟩)
      go_roundw
      case rel => exact ⟨k + 1, by omega, by go_num, _, HU.out.next hlt, HO'.out.set_ hlt (gmul_lt _ hmm), HW'.out.setCell hg _⟩
      case measure => simp [intOf]; omega
    · obtain rfl : k = n := by omega
      go_wp2_with fail
      go_ret
      refine ⟨_, _, rfl, Nat.le_refl _, ?_, HW'.out⟩
      have e := HU.out.done
      have h := HO'.out.bs
      rw [e] at h
      exact h

theorem scale_cap (B : Option Addr) (m n d : Nat) (b : List Nat) (w : World) (hmm : m < 256) (hb : Bs w B n b) (hm : n ≤ 140737488355328) :
    Calls Tryz.prog 121 #[.int .u8 (m : Nat), .slice B n d] w (GivesC w n (scaleL n m b)) := by
  by_cases h0 : n = 0
  · subst h0; exact scale_none B m d w
  · obtain ⟨bd, rfl, _⟩ := hb.at_ (k := 0) (by omega)
    exact scale_some bd m n d b w hmm hb (by omega) hm
theorem scale_any (B : Option Addr) (m n d : Nat) (b : List Nat) (w : World) (hmm : m < 256) (hb : Bs w B n b) (hm : n ≤ 140737488355328) :
    Calls Tryz.prog 121 #[.int .u8 (m : Nat), .slice B n d] w (Gives w n (scaleL n m b)) := (scale_cap B m n d b w hmm hb hm).mono fun _ _ h => h.gives

set_option maxHeartbeats 400000 in
theorem muladd_cap (A B : Option Addr) (m n c d : Nat) (a b : List Nat) (w : World) (hmm : m < 256) (ha : Bs w A n a) (hb : Bs w B n b) (hm : n ≤ 140737488355328) :
    Calls Tryz.prog 101 #[.slice A n c, .int .u8 (m : Nat), .slice B n d] w (Gives2C w n (addL n a (scaleL n m b))) := by
  have HA := Lib.hid ha
  have HB := Lib.hid hb
  clear ha hb
  go_enter Tryz.func101, Tryz.ntmps101
  go_wp2_with fail
  refine (scale_any B m n d b w hmm HB.out hm).mono ?_; rintro e w1 ⟨A1, c1, rfl, h1, g1⟩
  have H1 := Lib.hid h1; have G1 := Lib.hid g1; clear h1 g1
  go_wp2_with fail
  refine (add_cap A A1 n c c1 a _ w1 (HA.out.below G1.out) H1.out hm).mono ?_; rintro e w2 ⟨A2, c2, rfl, k2, h2, g2⟩
  have H2 := Lib.hid h2; have G2 := Lib.hid g2; clear h2 g2
  go_wp2_with fail
  go_ret2
  exact ⟨_, _, rfl, k2, H2.out, G1.out.trans (G2.out.mono G1.out.size)⟩
end Go.Proofs.YtodokgkchmpmnaaGreat

/- Plain lemmas on slices of ints in memory. No condition beyond those that each lemma names. -/
namespace Go.Proofs.YtodokgkchmpmnaaGreat
open Go.ChangeShapes Go.WideShapes Go.ChangeAt Go.RowKit

/-- The slice value with address A and length n holds the ints l, in memory that is there. -/
def Is (w : World) (A : Option Addr) (n : Nat) (l : List Int) : Prop :=
  l.length = n ∧ (0 < n → ∃ ad, A = some ad ∧ ad.block < w.heap.size ∧ ∀ j, j < n → w.cell? (ad.add j) = some (.int .i64 (l.getD j 0)))
theorem Is.nil (w : World) (A : Option Addr) : Is w A 0 [] := ⟨rfl, fun h => absurd h (by omega)⟩
theorem Is.len {w : World} {A : Option Addr} {n : Nat} {l : List Int} (h : Is w A n l) : l.length = n := h.1
theorem Is.at_ {w : World} {A : Option Addr} {n : Nat} {l : List Int} (h : Is w A n l) {k : Nat} (hk : k < n) :
    ∃ ad, A = some ad ∧ ad.block < w.heap.size ∧ w.cell? (ad.add k) = some (.int .i64 (l.getD k 0)) := by
  obtain ⟨ad, e, hb, hc⟩ := h.2 (by omega)
  exact ⟨ad, e, hb, hc k hk⟩
theorem Is.below {w w' : World} {A : Option Addr} {n : Nat} {l : List Int} (h : Is w A n l) (hb : Below w.heap.size w w') : Is w' A n l := by
  refine ⟨h.1, fun hn => ?_⟩
  obtain ⟨ad, e, hlt, hc⟩ := h.2 hn
  exact ⟨ad, e, Nat.lt_of_lt_of_le hlt hb.size, fun j hj => (hb.cell (p := ad.add j) (by rw [add_block]; exact hlt)).trans (hc j hj)⟩
end Go.Proofs.YtodokgkchmpmnaaGreat

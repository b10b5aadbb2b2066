/- Proved: what the document's Drop of calls answers. Conditions: those that the theorems name. -/
import Derived.Test.YtamcpdhehipcfaaCaRef
namespace Go.Proofs.Ytamcpdhehipcfaa
open Go.ChangeShapes Go.WideShapes Go.ChangeAt Go.RowKit

/-- two slices of the call's own lie in blocks of their own. -/
def Apart (u v : Value) : Prop := ∀ q, u.ownBlock = some q → v.ownBlock ≠ some q
theorem Apart.symm {u v : Value} (h : Apart u v) : Apart v u := fun q e g => h q g e
theorem apart_kept {u v : Value} (h : Apart u v) : v.ownBlock = none ∨ v.ownBlock ≠ u.ownBlock := by
  cases e : v.ownBlock with
  | none => exact Or.inl rfl
  | some q => exact Or.inr fun g => h q g.symm e
theorem apart_more {u v u' : Value} {B : Nat} (h : Apart u v) (hb : u'.ownBlock = u.ownBlock ∨ u'.ownBlock = some B) (hv : ∀ q, v.ownBlock = some q → q < B) : Apart u' v := fun q e g => by
  rcases hb with hb | hb
  · exact h q (by rw [← hb]; exact e) g
  · rw [hb] at e
    injection e with e
    have := hv q g
    omega
/-- What Drop answers: two slices in new memory. -/
def GivesDropR (w : World) (l : List Wt) (s k : Int) (e : Ending) (w' : World) : Prop :=
  ∃ u v, e = .returned (.tuple #[u, v]) ∧ w'.ownsRow w.heap.size tW 5 u (goneW l s k).length (wcells (goneW l s k)) ∧ w'.ownsRow w.heap.size tW 5 v (leftW l s k).length (wcells (leftW l s k)) ∧ Below w.heap.size w w'
set_option maxRecDepth 100000 in
set_option maxHeartbeats 3200000 in
theorem rca_drop (A : Option Addr) (n c : Nat) (l : List Wt) (s k : Int) (w : World) (hl : Ws w A n l) (hn : n ≤ 900) :
    Calls Try.prog 12 #[.slice A n c, .int .i64 s, .int .i64 k] w (GivesDropR w l s k) := by
  have HL := Lib.hid hl
  clear hl
  unfold GivesDropR
  go_enter Try.func12, Try.ntmps12
  go_wp2_with fail
  go_loopw [8, 9, 10] (fun u v i wr => ∃ j : Nat, j ≤ n ∧ i = .int .i64 j ∧ wr.ownsRow w.heap.size tW 5 u (goneW (l.take j) s k).length (wcells (goneW (l.take j) s k)) ∧ wr.ownsRow w.heap.size tW 5 v (leftW (l.take j) s k).length (wcells (leftW (l.take j) s k)) ∧ Apart u v ∧ Below w.heap.size w wr) (fun _ _ i _ => n - (intOf i).toNat)
  case atStart => exact ⟨0, by omega, rfl, World.ownsRow_nil _ _ _ _, World.ownsRow_nil _ _ _ _, fun q e => by simp [Value.ownBlock] at e, Below.refl _ _⟩
  case round =>
    obtain ⟨j, hj, rfl, h8, h9, hap, hbel⟩ := hrel
    have HO8 := Lib.hid h8
    have HO9 := Lib.hid h9
    have HAP := Lib.hid hap
    have HB := Lib.hid hbel
    clear h8 h9 hap hbel
    have hj0 : (0 : Int) ≤ (j : Int) := Int.natCast_nonneg _
    by_cases hlt : j < n
    · obtain ⟨ad, rfl, had, hcw⟩ := HL.out.at_ hlt
      have hlt' : (j : Int) < (n : Int) := by omega
      have HCW := Lib.hid (hcw.below HB.out (by rw [add_block]; exact had))
      obtain ⟨c0, c1, c2, c3, c4⟩ := HCW.out
      have HT : Hid (l.take (j + 1) = l.take j ++ [wt_ l j]) := Lib.hid (takeW_one (by rw [HL.out.len]; exact hlt))
      have HLB : Hid ((goneW (l.take j) s k).length ≤ 900 ∧ (leftW (l.take j) s k).length ≤ 900) := Lib.hid (by
        have h1 := goneW_le (l.take j) s k
        have h2 := leftW_le (l.take j) s k
        rw [List.length_take] at h1 h2
        omega)
      clear hcw had c0 c3 c4
      generalize wt_ l j = y at *
      by_cases h2 : y.str = s
      · by_cases h0 : k = 0
        · have hh : hitW s k y = true := by simp [hitW, h2, h0]
          have HE : Hid (goneW (l.take (j + 1)) s k = goneW (l.take j) s k ++ [y] ∧ leftW (l.take (j + 1)) s k = leftW (l.take j) s k) := Lib.hid (by rw [HT.out]; unfold goneW leftW; rw [List.filter_append, List.filter_append]; simp [hh])
          have h2b : (y.str == s) = true := by simp [h2]
          have h0b : (k == 0) = true := by simp [h0]
          clear h2 h0
          clear HT hh
          have hlen := HLB.out.1
          go_wp2_with (first
            | (refine wpw_load rfl _ rfl rfl HCW.out ?_)
            | (refine wpw_one rfl _ rfl y rfl ?_; intro W4 hw4; have q1 := HO8.out.alloc (.cells (wtC y).toArray tW); have q2 := HO9.out.alloc (.cells (wtC y).toArray tW); have q3 := HB.out.alloc HB.out.size (.cells (wtC y).toArray tW); have q4 := ws_lit wr y; have q5 : w.heap.size ≤ (wr.alloc (.cells (wtC y).toArray tW)).heap.size := q3.size; rw [← hw4] at q1 q2 q3 q4 q5; have HV4 := Lib.hid q1; have HO4 := Lib.hid q2; have HB4 := Lib.hid q3; have HT4 := Lib.hid q4; have HZ4 := Lib.hid q5; clear hw4 q1 q2 q3 q4 q5)
            | (at_builtin; refine wt_append2 rfl _ _ _ rfl Try.underlying26 _ _ _ (goneW (l.take j) s k) rfl HV4.out _ 1 1 [y] rfl HT4.out (fun e => nomatch e) (by omega) HZ4.out ?_; intro v5 W5 hown5 hg5 hb5; have HO5 := Lib.hid hown5; have HR5 := Lib.hid (HO4.out.kept hg5 (apart_kept HAP.out )); have HB5 := Lib.hid (HB4.out.grown hg5 HB4.out.size (fun q e => (HO8.out.lt q e).1)); have HA5 := Lib.hid (apart_more HAP.out hb5 (fun q e => (HO4.out.lt q e).2)); clear hown5 hg5 hb5))
          go_roundw
          case rel =>
            refine ⟨j + 1, by omega, by go_num, ?_, ?_, HA5.out, HB5.out⟩
            · rw [HE.out.1, List.length_append]; exact HO5.out
            · rw [HE.out.2]; exact HR5.out
          case measure => simp [intOf]; omega
        · by_cases h1 : y.kind = k
          · have hh : hitW s k y = true := by simp [hitW, h2, h1]
            have HE : Hid (goneW (l.take (j + 1)) s k = goneW (l.take j) s k ++ [y] ∧ leftW (l.take (j + 1)) s k = leftW (l.take j) s k) := Lib.hid (by rw [HT.out]; unfold goneW leftW; rw [List.filter_append, List.filter_append]; simp [hh])
            have h2b : (y.str == s) = true := by simp [h2]
            have h0b : (k == 0) = false := by simp [h0]
            have h1b : (y.kind == k) = true := by simp [h1]
            clear h2 h0 h1
            clear HT hh
            have hlen := HLB.out.1
            go_wp2_with (first
              | (refine wpw_load rfl _ rfl rfl HCW.out ?_)
              | (refine wpw_one rfl _ rfl y rfl ?_; intro W4 hw4; have q1 := HO8.out.alloc (.cells (wtC y).toArray tW); have q2 := HO9.out.alloc (.cells (wtC y).toArray tW); have q3 := HB.out.alloc HB.out.size (.cells (wtC y).toArray tW); have q4 := ws_lit wr y; have q5 : w.heap.size ≤ (wr.alloc (.cells (wtC y).toArray tW)).heap.size := q3.size; rw [← hw4] at q1 q2 q3 q4 q5; have HV4 := Lib.hid q1; have HO4 := Lib.hid q2; have HB4 := Lib.hid q3; have HT4 := Lib.hid q4; have HZ4 := Lib.hid q5; clear hw4 q1 q2 q3 q4 q5)
              | (at_builtin; refine wt_append2 rfl _ _ _ rfl Try.underlying26 _ _ _ (goneW (l.take j) s k) rfl HV4.out _ 1 1 [y] rfl HT4.out (fun e => nomatch e) (by omega) HZ4.out ?_; intro v5 W5 hown5 hg5 hb5; have HO5 := Lib.hid hown5; have HR5 := Lib.hid (HO4.out.kept hg5 (apart_kept HAP.out )); have HB5 := Lib.hid (HB4.out.grown hg5 HB4.out.size (fun q e => (HO8.out.lt q e).1)); have HA5 := Lib.hid (apart_more HAP.out hb5 (fun q e => (HO4.out.lt q e).2)); clear hown5 hg5 hb5))
            go_roundw
            case rel =>
              refine ⟨j + 1, by omega, by go_num, ?_, ?_, HA5.out, HB5.out⟩
              · rw [HE.out.1, List.length_append]; exact HO5.out
              · rw [HE.out.2]; exact HR5.out
            case measure => simp [intOf]; omega
          · have hh : hitW s k y = false := by simp [hitW, h1, h0]
            have HE : Hid (goneW (l.take (j + 1)) s k = goneW (l.take j) s k ∧ leftW (l.take (j + 1)) s k = leftW (l.take j) s k ++ [y]) := Lib.hid (by rw [HT.out]; unfold goneW leftW; rw [List.filter_append, List.filter_append]; simp [hh])
            have h2b : (y.str == s) = true := by simp [h2]
            have h0b : (k == 0) = false := by simp [h0]
            have h1b : (y.kind == k) = false := by simp [h1]
            clear h2 h0 h1
            clear HT hh
            have hlen := HLB.out.2
            go_wp2_with (first
              | (refine wpw_load rfl _ rfl rfl HCW.out ?_)
              | (refine wpw_one rfl _ rfl y rfl ?_; intro W4 hw4; have q1 := HO9.out.alloc (.cells (wtC y).toArray tW); have q2 := HO8.out.alloc (.cells (wtC y).toArray tW); have q3 := HB.out.alloc HB.out.size (.cells (wtC y).toArray tW); have q4 := ws_lit wr y; have q5 : w.heap.size ≤ (wr.alloc (.cells (wtC y).toArray tW)).heap.size := q3.size; rw [← hw4] at q1 q2 q3 q4 q5; have HV4 := Lib.hid q1; have HO4 := Lib.hid q2; have HB4 := Lib.hid q3; have HT4 := Lib.hid q4; have HZ4 := Lib.hid q5; clear hw4 q1 q2 q3 q4 q5)
              | (at_builtin; refine wt_append2 rfl _ _ _ rfl Try.underlying26 _ _ _ (leftW (l.take j) s k) rfl HV4.out _ 1 1 [y] rfl HT4.out (fun e => nomatch e) (by omega) HZ4.out ?_; intro v5 W5 hown5 hg5 hb5; have HO5 := Lib.hid hown5; have HR5 := Lib.hid (HO4.out.kept hg5 (apart_kept HAP.out.symm )); have HB5 := Lib.hid (HB4.out.grown hg5 HB4.out.size (fun q e => (HO9.out.lt q e).1)); have HA5 := Lib.hid (apart_more HAP.out.symm hb5 (fun q e => (HO4.out.lt q e).2)); clear hown5 hg5 hb5))
            go_roundw
            case rel =>
              refine ⟨j + 1, by omega, by go_num, ?_, ?_, HA5.out.symm, HB5.out⟩
              · rw [HE.out.1]; exact HR5.out
              · rw [HE.out.2, List.length_append]; exact HO5.out
            case measure => simp [intOf]; omega
      · have hh : hitW s k y = false := by simp [hitW, h2]
        have HE : Hid (goneW (l.take (j + 1)) s k = goneW (l.take j) s k ∧ leftW (l.take (j + 1)) s k = leftW (l.take j) s k ++ [y]) := Lib.hid (by rw [HT.out]; unfold goneW leftW; rw [List.filter_append, List.filter_append]; simp [hh])
        have h2b : (y.str == s) = false := by simp [h2]
        clear h2
        clear HT hh
        have hlen := HLB.out.2
        go_wp2_with (first
          | (refine wpw_load rfl _ rfl rfl HCW.out ?_)
          | (refine wpw_one rfl _ rfl y rfl ?_; intro W4 hw4; have q1 := HO9.out.alloc (.cells (wtC y).toArray tW); have q2 := HO8.out.alloc (.cells (wtC y).toArray tW); have q3 := HB.out.alloc HB.out.size (.cells (wtC y).toArray tW); have q4 := ws_lit wr y; have q5 : w.heap.size ≤ (wr.alloc (.cells (wtC y).toArray tW)).heap.size := q3.size; rw [← hw4] at q1 q2 q3 q4 q5; have HV4 := Lib.hid q1; have HO4 := Lib.hid q2; have HB4 := Lib.hid q3; have HT4 := Lib.hid q4; have HZ4 := Lib.hid q5; clear hw4 q1 q2 q3 q4 q5)
          | (at_builtin; refine wt_append2 rfl _ _ _ rfl Try.underlying26 _ _ _ (leftW (l.take j) s k) rfl HV4.out _ 1 1 [y] rfl HT4.out (fun e => nomatch e) (by omega) HZ4.out ?_; intro v5 W5 hown5 hg5 hb5; have HO5 := Lib.hid hown5; have HR5 := Lib.hid (HO4.out.kept hg5 (apart_kept HAP.out.symm )); have HB5 := Lib.hid (HB4.out.grown hg5 HB4.out.size (fun q e => (HO9.out.lt q e).1)); have HA5 := Lib.hid (apart_more HAP.out.symm hb5 (fun q e => (HO4.out.lt q e).2)); clear hown5 hg5 hb5))
        go_roundw
        case rel =>
          refine ⟨j + 1, by omega, by go_num, ?_, ?_, HA5.out.symm, HB5.out⟩
          · rw [HE.out.1]; exact HR5.out
          · rw [HE.out.2, List.length_append]; exact HO5.out
        case measure => simp [intOf]; omega
    · obtain rfl : j = n := by omega
      have e : l.take j = l := by rw [← HL.out.len, List.take_length]
      rw [e] at HO8 HO9
      clear e
      go_wp2_with fail
      go_ret2
      exact ⟨_, _, rfl, HO8.out, HO9.out, HB.out⟩
end Go.Proofs.Ytamcpdhehipcfaa

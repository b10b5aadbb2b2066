/- Proved: what the document's Push answers. Conditions: those that the theorems name. -/
import Derived.Test.YtplbdeaoeocgkaaDpPushM
import Derived.Deep.DeepCutAuto
import Derived.Deep.AppendLies
namespace Go.Proofs.Ytplbdeaoeocgkaa
open Go.ChangeShapes Go.WideShapes Go.ChangeAt Go.RowKit

theorem AtIs.is {xs : List Qv} {id z : Int} (h : AtIs xs id z) (hn : (xs.map fun x => x.q.id).Nodup) {i : Nat} {x : Qv} (hx : xs[i]? = some x) (e : x.q.id = id) : z = i := by
  rcases h with ⟨_, h⟩ | ⟨j, y, rfl, hy, e2⟩
  · exact absurd e (h x (List.mem_of_getElem? hx))
  · have hj := (List.getElem?_eq_some_iff.1 hy)
    have hi := (List.getElem?_eq_some_iff.1 hx)
    obtain ⟨hj1, hj2⟩ := hj
    obtain ⟨hi1, hi2⟩ := hi
    have : (xs.map fun x => x.q.id)[j]'(by rw [List.length_map]; exact hj1) = (xs.map fun x => x.q.id)[i]'(by rw [List.length_map]; exact hi1) := by
      rw [List.getElem_map, List.getElem_map, hj2, hi2, e, e2]
    have := (List.getElem_inj hn).1 this
    rw [this]
theorem AtIs.no {xs : List Qv} {id z : Int} (h : AtIs xs id z) (hn : ∀ x ∈ xs, x.q.id ≠ id) : z = -1 := by
  rcases h with ⟨e, _⟩ | ⟨j, y, rfl, hy, e2⟩
  · exact e
  · exact absurd e2 (hn y (List.mem_of_getElem? hy))
/-- why an item is not taken. -/
def PushNo (xs : List Qv) (x : It) (n : Int) : Prop :=
  ((∀ y ∈ xs, y.q.id ≠ x.1) ∧ n = 7) ∨ ∃ (i : Nat) (y : Qv), xs[i]? = some y ∧ y.q.id = x.1 ∧ ((x.2 < 1 ∧ n = 2) ∨ (¬ x.2 < 1 ∧ 65536 < x.2 ∧ n = 2) ∨ (¬ x.2 < 1 ∧ ¬ 65536 < x.2 ∧ (65536 : Int) ≤ y.q.l.length ∧ n = 9))
set_option maxRecDepth 100000 in
set_option maxHeartbeats 1600000 in
theorem rpush_no {w : World} {c : Nat → Prop} {s : Sv} {W : List (Int × Int)} {R : List Qd} {Q M : Int} (h : Sg w c s) (r : DRel s.xs s.rd W R) (k : Ok Q M W R) (x : It) (n : Int) (hno : PushNo s.xs x n) :
    Calls Try.prog 20 #[s.val, .agg #[.int .i64 x.1, .int .i64 x.2]] w (GivesP w c s.Q W R n) := by
  obtain ⟨W1, HW, A1, A2, A3, B1, hs⟩ := pboxes3 s x w
  have HS := Lib.hid (And.intro h r)
  have HB := Lib.hid B1
  have HA1 := Lib.hid A1
  have HA2 := Lib.hid A2
  have HA3 := Lib.hid A3
  have HFW := Lib.hid (r.few k)
  have HND := Lib.hid (r.nodup k)
  have HNO := Lib.hid hno
  have HAT := Lib.hid (rat_any (h.below B1) (r.few k) x.1)
  have c0 := A1.cell 0 rfl
  have c1 := A1.cell 1 rfl
  have c2 := A1.cell 2 rfl
  have i0 := A2.cell 0 rfl
  have i1 := A2.cell 1 rfl
  obtain ⟨Q', xs, A, m, rd, B, d⟩ := s
  obtain ⟨xi, xz⟩ := x
  clear A1 A2 A3 B1 hs h r k hno
  have HAT : Hid (Calls Try.prog 22 #[.agg #[.int .i64 Q', .slice A xs.length m, .slice B rd.length d], .int .i64 xi] W1 _) := HAT
  show Calls Try.prog 20 #[.agg #[.int .i64 Q', .slice A xs.length m, .slice B rd.length d], .agg #[.int .i64 xi, .int .i64 xz]] w _
  dsimp only at HW HFW HS HA1 HA2 HA3 HND HNO c0 c1 c2 i0 i1
  go_enter Try.func20, Try.ntmps20
  go_upto_region 1 with fail
  rw [← HW]; clear HW
  go_wp2_with fail
  refine HAT.out.mono ?_; rintro e w1 ⟨z, rfl, hz, b1⟩
  have A1 := HA1.out.below b1 HA1.out.lt
  have A2 := HA2.out.below b1 HA2.out.lt
  have A3 := HA3.out.below b1 HA3.out.lt
  have HB1 := Lib.hid (HB.out.trans (b1.mono HB.out.size))
  have c0 := A1.cell 0 rfl
  have c1 := A1.cell 1 rfl
  have c2 := A1.cell 2 rfl
  have i0 := A2.cell 0 rfl
  have i1 := A2.cell 1 rfl
  have x0 := A3.cell 0 rfl
  have x1 := A3.cell 1 rfl
  have x2 := A3.cell 2 rfl
  have y0 := A3.free 0
  have y1 := A3.free 1
  have y2 := A3.free 2
  have HP3 := Lib.hid A3
  have HZ := Lib.hid hz
  clear A1 A2 A3 b1 HAT HA1 HA2 HA3 hz
  rcases HNO.out with ⟨hn, rfl⟩ | ⟨i, y, hy, hi, hq⟩
  · have := HZ.out.no hn
    subst this
    clear hn
    go_wp2_with fail
    change bodyPost _ _ _ _ _ (pset3 w1 (w.heap.size + 1 + 1) (.int .i64 Q') (.slice A xs.length m) (.slice B rd.length d))
    exact bodyPost_ret (v := .tuple #[Sv.val ⟨Q', xs, A, m, rd, B, d⟩, .int .i64 7]) (res_rpush rfl rfl (pset3_at HP3.out)) rfl (p_same HS.out.1 HS.out.2 HB1.out (by omega))
  · have := HZ.out.is HND.out hy hi
    subst this
    obtain ⟨g, o, e, _, hgl, hcs⟩ := (HS.out.1.below HB1.out).at_ hy
    have e : A = some ⟨g, o, none⟩ := e
    subst e
    have d4 := hcs 4 _ rfl
    have hil := (List.getElem?_eq_some_iff.1 hy).1
    have hi0 : (0 : Int) ≤ (i : Int) := Int.natCast_nonneg _
    have hi1 : (i : Int) < (xs.length : Int) := by have hil : i < xs.length := hil; omega
    have hi2 : (i : Int) ≤ 300 := by have := HFW.out; omega
    clear hcs hy hi hil hgl
    have HNL : Hid (xs.length = xs.length) := Lib.hid rfl
    generalize hlq : y.q.l.length = lq at *
    clear hlq
    rcases hq with ⟨h1, rfl⟩ | ⟨h1, h2, rfl⟩ | ⟨h1, h2, h3, rfl⟩
    · go_wp2_with fail
      change bodyPost _ _ _ _ _ (pset3 w1 (w.heap.size + 1 + 1) (.int .i64 Q') (.slice (some ⟨g, o, none⟩) xs.length m) (.slice B rd.length d))
      exact bodyPost_ret (v := .tuple #[Sv.val ⟨Q', xs, some ⟨g, o, none⟩, m, rd, B, d⟩, .int .i64 2]) (res_rpush rfl rfl (pset3_at HP3.out)) rfl (p_same HS.out.1 HS.out.2 HB1.out (by omega))
    · go_wp2_with fail
      change bodyPost _ _ _ _ _ (pset3 w1 (w.heap.size + 1 + 1) (.int .i64 Q') (.slice (some ⟨g, o, none⟩) xs.length m) (.slice B rd.length d))
      exact bodyPost_ret (v := .tuple #[Sv.val ⟨Q', xs, some ⟨g, o, none⟩, m, rd, B, d⟩, .int .i64 2]) (res_rpush rfl rfl (pset3_at HP3.out)) rfl (p_same HS.out.1 HS.out.2 HB1.out (by omega))
    · go_wp2_with fail
      change bodyPost _ _ _ _ _ (pset3 w1 (w.heap.size + 1 + 1) (.int .i64 Q') (.slice (some ⟨g, o, none⟩) xs.length m) (.slice B rd.length d))
      exact bodyPost_ret (v := .tuple #[Sv.val ⟨Q', xs, some ⟨g, o, none⟩, m, rd, B, d⟩, .int .i64 9]) (res_rpush rfl rfl (pset3_at HP3.out)) rfl (p_same HS.out.1 HS.out.2 HB1.out (by omega))
end Go.Proofs.Ytplbdeaoeocgkaa

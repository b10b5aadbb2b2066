/- Plain lemmas: the document's Next, what lies in memory ahead of it, and what its turns leave. No condition beyond those that each lemma names. -/
import Derived.Test.YtplbdeaoeocgkaaDpPush2
import Derived.Deep.LoopGhost
import Derived.BigQuiet
import Derived.Deep.QuietTactic
import Derived.StillTailTactics
namespace Go.Proofs.Ytplbdeaoeocgkaa
open Go.ChangeShapes Go.WideShapes Go.ChangeAt Go.RowKit

/-- A box with a scheduler, an empty result, and an empty item. -/
theorem pboxesN (s : Sv) (w : World) : ∃ W, W = ((w.alloc (.cells #[.int .i64 s.Q, .slice s.A s.xs.length s.c, .slice s.B s.rd.length s.d] 31)).alloc (.cells #[.int .i64 0, .slice none 0 0, .slice none 0 0] 31)).alloc (.cells #[.int .i64 0, .int .i64 0] 35) ∧ At W w.heap.size 31 [.int .i64 s.Q, .slice s.A s.xs.length s.c, .slice s.B s.rd.length s.d] ∧ At W (w.heap.size + 1) 31 [.int .i64 0, .slice none 0 0, .slice none 0 0] ∧ At W (w.heap.size + 1 + 1) 35 [.int .i64 0, .int .i64 0] ∧ Below w.heap.size w W ∧ W.heap.size = w.heap.size + 3 := by
  refine ⟨_, rfl, ?_, ?_, ?_, ?_, by simp⟩
  · exact ((At.new w 31 [.int .i64 s.Q, .slice s.A s.xs.length s.c, .slice s.B s.rd.length s.d]).alloc _).alloc _
  · have h := At.new (w.alloc (.cells #[.int .i64 s.Q, .slice s.A s.xs.length s.c, .slice s.B s.rd.length s.d] 31)) 31 [.int .i64 0, .slice none 0 0, .slice none 0 0]
    have h2 := h.alloc (.cells #[.int .i64 0, .int .i64 0] 35)
    simpa using h2
  · have h := At.new ((w.alloc (.cells #[.int .i64 s.Q, .slice s.A s.xs.length s.c, .slice s.B s.rd.length s.d] 31)).alloc (.cells #[.int .i64 0, .slice none 0 0, .slice none 0 0] 31)) 35 [.int .i64 0, .int .i64 0]
    simpa using h
  · exact (((Below.refl _ _).alloc (Nat.le_refl _) _).alloc (by simp) _).alloc (by simp; omega) _
theorem res_rnext {T : Array Value} {W : World} {b b' : Nat} {s : Sv} {x : It} {z : Bool} (h2 : T.getD 2 undef = .pointer (some ⟨b, 0, none⟩)) (h3 : T.getD 3 undef = .pointer (some ⟨b', 0, none⟩)) (h4 : T.getD 4 undef = .bool z) (h : At W b 31 [.int .i64 s.Q, .slice s.A s.xs.length s.c, .slice s.B s.rd.length s.d]) (h' : At W b' 35 [.int .i64 x.1, .int .i64 x.2]) : (results Try.f21 T).run Try.prog W = .ok (.tuple #[s.val, .agg #[.int .i64 x.1, .int .i64 x.2], .bool z]) W := by
  have h2' : T[2]?.getD undef = .pointer (some ⟨b, 0, none⟩) := by simpa using h2
  have h3' : T[3]?.getD undef = .pointer (some ⟨b', 0, none⟩) := by simpa using h3
  have h4' : T[4]?.getD undef = .bool z := by simpa using h4
  have c0 := h.cell 0 rfl
  have c1 := h.cell 1 rfl
  have c2 := h.cell 2 rfl
  have d0 := h'.cell 0 rfl
  have d1 := h'.cell 1 rfl
  simp [results, Try.results21, h2', h3', h4', c0, c1, c2, d0, d1, go_sem, Sv.val]
/-- a queue of which the first item was taken. -/
def tookQ (Q : Int) (h : Qd) : Qd := { (h.serve Q).took with d := if h.l.tail = [] then 0 else (h.serve Q).took.d }
theorem tookQ_id (Q : Int) (h : Qd) : (tookQ Q h).id = h.id := serve_id Q h
theorem tookQ_w (Q : Int) (h : Qd) : (tookQ Q h).w = h.w := serve_w Q h
theorem tookQ_l (Q : Int) (h : Qd) : (tookQ Q h).l = h.l.tail := by
  show (h.serve Q).l.tail = _
  rw [serve_l]
section
variable {xs : List Qv} {rd : List Int} {W : List (Int × Int)} {h : Qd} {t : List Qd} {Q M : Int}
theorem DRel.outl (r : DRel xs rd W (h :: t)) (k : Ok Q M W (h :: t)) : outL rd h.id = t.map Qd.id := by
  have hn := k.rn
  rw [List.map_cons, List.nodup_cons] at hn
  rw [r.rd, List.map_cons]
  have e : outL (h.id :: t.map Qd.id) h.id = outL (t.map Qd.id) h.id := List.filter_cons_of_neg (by simp)
  rw [e]
  exact outL_not hn.1
theorem DRel.others (k : Ok Q M W (h :: t)) {q : Qd} (hq : q ∈ t) : q.id ≠ h.id := fun e => by
  have hn := k.rn
  rw [List.map_cons, List.nodup_cons] at hn
  exact hn.1 (by rw [← e]; exact List.mem_map_of_mem hq)
theorem DRel.fail (r : DRel xs rd W (h :: t)) (k : Ok Q M W (h :: t)) {i : Nat} {x : Qv} (hx : xs[i]? = some x) (e : x.q = h) (A : Option Addr) (c : Nat) :
    DRel (xs.set i ⟨h.fail Q, A, c⟩) (outL rd h.id ++ [h.id]) W (t ++ [h.fail Q]) := by
  subst e
  refine r.put (y := ⟨x.q.fail Q, A, c⟩) k hx (fail_id Q _) (fail_w Q _) ?_ (fun q hq => ?_) (fun q hq hne => ?_) (Or.inr (List.mem_append_right _ (List.mem_singleton.2 rfl)))
  · rw [r.outl k, List.map_append, List.map_cons, List.map_nil, fail_id]
  · rcases List.mem_append.1 hq with hq | hq
    · exact Or.inr ⟨List.mem_cons_of_mem _ hq, DRel.others k hq⟩
    · exact Or.inl (List.mem_singleton.1 hq)
  · rcases List.mem_cons.1 hq with rfl | hq
    · exact absurd rfl hne
    · exact List.mem_append_left _ hq
theorem DRel.took (r : DRel xs rd W (h :: t)) (k : Ok Q M W (h :: t)) {i : Nat} {x : Qv} (hx : xs[i]? = some x) (e : x.q = h) (A : Option Addr) (c : Nat) :
    DRel (xs.set i ⟨tookQ Q h, A, c⟩) (if h.l.tail = [] then outL rd h.id else rd) W (tookR (h.serve Q) t) := by
  subst e
  by_cases hl : x.q.l.tail = []
  · have e1 : tookR (x.q.serve Q) t = t := if_pos (by rw [serve_l]; exact hl)
    rw [if_pos hl, e1]
    refine r.put (y := ⟨tookQ Q x.q, A, c⟩) k hx (tookQ_id Q _) (tookQ_w Q _) (r.outl k) (fun q hq => Or.inr ⟨List.mem_cons_of_mem _ hq, DRel.others k hq⟩) (fun q hq hne => ?_) (Or.inl ?_)
    · rcases List.mem_cons.1 hq with rfl | hq
      · exact absurd rfl hne
      · exact hq
    · show (tookQ Q x.q).l = []
      rw [tookQ_l]; exact hl
  · have e1 : tookR (x.q.serve Q) t = (x.q.serve Q).took :: t := if_neg (by rw [serve_l]; exact hl)
    have e2 : tookQ Q x.q = (x.q.serve Q).took := by unfold tookQ; rw [if_neg hl]
    rw [if_neg hl, e1, e2]
    refine r.put (y := ⟨(x.q.serve Q).took, A, c⟩) k hx (serve_id Q _) (serve_w Q _) ?_ (fun q hq => ?_) (fun q hq hne => ?_) (Or.inr (List.mem_cons_self ..))
    · rw [r.rd, List.map_cons, List.map_cons]
      show _ = (x.q.serve Q).id :: _
      rw [serve_id]
    · rcases List.mem_cons.1 hq with rfl | hq
      · exact Or.inl rfl
      · exact Or.inr ⟨List.mem_cons_of_mem _ hq, DRel.others k hq⟩
    · rcases List.mem_cons.1 hq with rfl | hq
      · exact absurd rfl hne
      · exact List.mem_cons_of_mem _ hq
end
theorem mu_turn {Q M : Int} {W : List (Int × Int)} {h : Qd} {t : List Qd} (k : Ok Q M W (h :: t)) (m : (h.serve Q).may = false) : muR (t ++ [h.fail Q]) < muR (h :: t) := by
  have := mu_fail k.head k.q.1 k.m m
  unfold muR
  rw [List.map_append, List.sum_append, List.map_cons, List.map_cons, List.sum_cons, List.map_nil, List.sum_cons, List.sum_nil]
  omega
/-- blocks that hold none of the boxes of a Next. -/
def Nb (w : World) (c : Nat → Prop) (g : Nat) : Prop := c g ∧ g ≠ w.heap.size ∧ g ≠ w.heap.size + 1 ∧ g ≠ w.heap.size + 1 + 1
/-- between two turns. -/
def NRel (w : World) (c : Nat → Prop) (Q M : Int) (W : List (Int × Int)) (R : List Qd) (k : Nat) (wr : World) : Prop :=
  ∃ (s : Sv) (h : Qd) (t : List Qd), k = muR (h :: t) ∧ DrReach Q R (h :: t) ∧ Ok Q M W (h :: t) ∧ DRel s.xs s.rd W (h :: t) ∧ s.Q = Q ∧ Sg wr (Nb w c) s ∧ At wr w.heap.size 31 [.int .i64 s.Q, .slice s.A s.xs.length s.c, .slice s.B s.rd.length s.d] ∧ At wr (w.heap.size + 1) 31 [.int .i64 0, .slice none 0 0, .slice none 0 0] ∧ At wr (w.heap.size + 1 + 1) 35 [.int .i64 0, .int .i64 0] ∧ Below w.heap.size w wr ∧ w.heap.size + 3 ≤ wr.heap.size
/-- no item is there. -/
def NoN (w : World) (c : Nat → Prop) (Q : Int) (W : List (Int × Int)) (R : List Qd) (e : Ending) (w' : World) : Prop :=
  ∃ s : Sv, e = .returned (.tuple #[s.val, .agg #[.int .i64 0, .int .i64 0], .bool false]) ∧ Sg w' c s ∧ DRel s.xs s.rd W R ∧ s.Q = Q ∧ Below w.heap.size w w'
/-- the next item, and what is left. -/
def GivesN (w : World) (c : Nat → Prop) (Q : Int) (W : List (Int × Int)) (R : List Qd) (e : Ending) (w' : World) : Prop :=
  ∃ (s : Sv) (x : It) (R' : List Qd), e = .returned (.tuple #[s.val, .agg #[.int .i64 x.1, .int .i64 x.2], .bool true]) ∧ DrGoes Q R x R' ∧ Sg w' c s ∧ DRel s.xs s.rd W R' ∧ s.Q = Q ∧ Below w.heap.size w w'
set_option maxRecDepth 100000 in
set_option maxHeartbeats 1600000 in
theorem rnext_none {w : World} {c : Nat → Prop} {s : Sv} {W : List (Int × Int)} (h : Sg w c s) (r : DRel s.xs s.rd W []) :
    Calls Try.prog 21 #[s.val] w (NoN w c s.Q W []) := by
  obtain ⟨W1, HW, A1, A2, A3, B1, hs⟩ := pboxesN s w
  have HS := Lib.hid (And.intro h r)
  have HB := Lib.hid B1
  have HA2 := Lib.hid A2
  have HA3 := Lib.hid A3
  have c0 := A1.cell 0 rfl
  have c1 := A1.cell 1 rfl
  have c2 := A1.cell 2 rfl
  have x0 := A2.cell 0 rfl
  have x1 := A2.cell 1 rfl
  have x2 := A2.cell 2 rfl
  have y0 := A2.free 0
  have y1 := A2.free 1
  have y2 := A2.free 2
  have i0 := A3.cell 0 rfl
  have i1 := A3.cell 1 rfl
  have j0 := A3.free 0
  have j1 := A3.free 1
  have hr := r.rd
  obtain ⟨Q', xs, A, m, rd, B, d⟩ := s
  have hr : rd = [] := hr
  subst hr
  clear A1 A2 A3 B1 hs h r
  show Calls Try.prog 21 #[.agg #[.int .i64 Q', .slice A xs.length m, .slice B 0 d]] w _
  dsimp only [List.length_nil] at HW c0 c1 c2
  go_enter Try.func21, Try.ntmps21
  go_wp2_with fail
  rw [← HW]; clear HW
  go_loopg [5, 6, 7] 0 (fun _ _ _ _ wr => wr = W1)
  case atStart => rfl
  case round =>
    subst hrel
    go_wp2_with fail
    change bodyPost _ _ _ _ _ (((pset3 wr (w.heap.size + 1) (.int .i64 Q') (.slice A xs.length m) (.slice B 0 d)).setCell ⟨w.heap.size + 1 + 1, 0, none⟩ (.int .i64 0)).setCell ⟨w.heap.size + 1 + 1, 1, none⟩ (.int .i64 0))
    have t1 : At (((pset3 wr (w.heap.size + 1) (.int .i64 Q') (.slice A xs.length m) (.slice B 0 d)).setCell ⟨w.heap.size + 1 + 1, 0, none⟩ (.int .i64 0)).setCell ⟨w.heap.size + 1 + 1, 1, none⟩ (.int .i64 0)) (w.heap.size + 1) 31 [.int .i64 Q', .slice A xs.length m, .slice B 0 d] := ((pset3_at HA2.out).far (p := ⟨w.heap.size + 1 + 1, 0, none⟩) (by show w.heap.size + 1 ≠ w.heap.size + 1 + 1; omega) _).far (p := ⟨w.heap.size + 1 + 1, 1, none⟩) (by show w.heap.size + 1 ≠ w.heap.size + 1 + 1; omega) _
    have t2 : At (((pset3 wr (w.heap.size + 1) (.int .i64 Q') (.slice A xs.length m) (.slice B 0 d)).setCell ⟨w.heap.size + 1 + 1, 0, none⟩ (.int .i64 0)).setCell ⟨w.heap.size + 1 + 1, 1, none⟩ (.int .i64 0)) (w.heap.size + 1 + 1) 35 [.int .i64 0, .int .i64 0] := ((pset3_far (HA3.out) (by omega)).set_ 0 _).set_ 1 _
    have t3 := pset_below (j := 1) (v := .int .i64 0) (pset_below (j := 0) (v := .int .i64 0) (pset3_below (b := w.heap.size + 1) (x := .int .i64 Q') (y := .slice A xs.length m) (z := .slice B 0 d) HB.out (Nat.le_refl _) (by omega)) (Nat.le_refl _) (by omega : w.heap.size ≤ w.heap.size + 1 + 1)) (Nat.le_refl _) (by omega : w.heap.size ≤ w.heap.size + 1 + 1)
    generalize (((pset3 wr (w.heap.size + 1) (.int .i64 Q') (.slice A xs.length m) (.slice B 0 d)).setCell ⟨w.heap.size + 1 + 1, 0, none⟩ (.int .i64 0)).setCell ⟨w.heap.size + 1 + 1, 1, none⟩ (.int .i64 0)) = w9 at *
    try rw [Exit.noGoto_ret]
    exact bodyPost_ret (v := .tuple #[Sv.val ⟨Q', xs, A, m, [], B, d⟩, .agg #[.int .i64 0, .int .i64 0], .bool false]) (res_rnext (s := ⟨Q', xs, A, m, [], B, d⟩) (x := (0, 0)) rfl rfl rfl t1 t2) rfl ⟨⟨Q', xs, A, m, [], B, d⟩, rfl, HS.out.1.below t3, HS.out.2, rfl, t3⟩
end Go.Proofs.Ytplbdeaoeocgkaa

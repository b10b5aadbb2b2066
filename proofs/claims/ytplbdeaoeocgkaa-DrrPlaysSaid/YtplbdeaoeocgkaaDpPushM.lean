/- Plain lemmas: the document's Push, what lies in memory ahead of it, and what it leaves. No condition beyond those that each lemma names. -/
import Derived.Test.YtplbdeaoeocgkaaDpRem
namespace Go.Proofs.Ytplbdeaoeocgkaa
open Go.ChangeShapes Go.WideShapes Go.ChangeAt Go.RowKit

/-- A box with a scheduler, one with an item, and an empty result behind them. -/
theorem pboxes3 (s : Sv) (x : It) (w : World) : ∃ W, W = ((w.alloc (.cells #[.int .i64 s.Q, .slice s.A s.xs.length s.c, .slice s.B s.rd.length s.d] 31)).alloc (.cells #[.int .i64 x.1, .int .i64 x.2] 35)).alloc (.cells #[.int .i64 0, .slice none 0 0, .slice none 0 0] 31) ∧ At W w.heap.size 31 [.int .i64 s.Q, .slice s.A s.xs.length s.c, .slice s.B s.rd.length s.d] ∧ At W (w.heap.size + 1) 35 [.int .i64 x.1, .int .i64 x.2] ∧ At W (w.heap.size + 1 + 1) 31 [.int .i64 0, .slice none 0 0, .slice none 0 0] ∧ Below w.heap.size w W ∧ W.heap.size = w.heap.size + 3 := by
  refine ⟨_, rfl, ?_, ?_, ?_, ?_, by simp⟩
  · exact ((At.new w 31 [.int .i64 s.Q, .slice s.A s.xs.length s.c, .slice s.B s.rd.length s.d]).alloc _).alloc _
  · have h := At.new (w.alloc (.cells #[.int .i64 s.Q, .slice s.A s.xs.length s.c, .slice s.B s.rd.length s.d] 31)) 35 [.int .i64 x.1, .int .i64 x.2]
    have h2 := h.alloc (.cells #[.int .i64 0, .slice none 0 0, .slice none 0 0] 31)
    simpa using h2
  · have h := At.new ((w.alloc (.cells #[.int .i64 s.Q, .slice s.A s.xs.length s.c, .slice s.B s.rd.length s.d] 31)).alloc (.cells #[.int .i64 x.1, .int .i64 x.2] 35)) 31 [.int .i64 0, .slice none 0 0, .slice none 0 0]
    simpa using h
  · exact (((Below.refl _ _).alloc (Nat.le_refl _) _).alloc (by simp) _).alloc (by simp; omega) _
theorem res_rpush {T : Array Value} {W : World} {b : Nat} {s : Sv} {z : Int} (h2 : T.getD 4 undef = .pointer (some ⟨b, 0, none⟩)) (h3 : T.getD 5 undef = .int .i64 z) (h : At W b 31 [.int .i64 s.Q, .slice s.A s.xs.length s.c, .slice s.B s.rd.length s.d]) : (results Try.f20 T).run Try.prog W = .ok (.tuple #[s.val, .int .i64 z]) W := by
  have h2' : T[4]?.getD undef = .pointer (some ⟨b, 0, none⟩) := by simpa using h2
  have h3' : T[5]?.getD undef = .int .i64 z := by simpa using h3
  have c0 := h.cell 0 rfl
  have c1 := h.cell 1 rfl
  have c2 := h.cell 2 rfl
  simp [results, Try.results20, h2', h3', c0, c1, c2, go_sem, Sv.val]
/-- a queue with one item more. -/
def moreQ (q : Qd) (x : It) : Qd := if q.l = [] then ⟨q.id, q.w, 0, false, [x]⟩ else { q with l := q.l ++ [x] }
theorem moreQ_nil {q : Qd} (h : q.l = []) (x : It) : moreQ q x = ⟨q.id, q.w, 0, false, [x]⟩ := if_pos h
theorem moreQ_cons {q : Qd} (h : q.l ≠ []) (x : It) : moreQ q x = addQ q x := if_neg h
theorem moreQ_l (q : Qd) (x : It) : (moreQ q x).l = q.l ++ [x] := by
  unfold moreQ
  split
  · rename_i h; rw [h]; rfl
  · rfl
theorem outL_not {l : List Int} {id : Int} (h : id ∉ l) : outL l id = l := List.filter_eq_self.2 fun x hx => by
  have : x ≠ id := fun e => h (e ▸ hx)
  simpa using this
section
variable {xs : List Qv} {rd : List Int} {W : List (Int × Int)} {R : List Qd} {Q M : Int}
theorem DRel.isR (r : DRel xs rd W R) (k : Ok Q M W R) {x : Qv} (hx : x ∈ xs) : Go.Proofs.Ytplbdeaoeocgkaa.isR R x.q.id = true ↔ x.q.l ≠ [] := by
  constructor
  · intro h e
    obtain ⟨q, hq, he⟩ := isR_iff.1 h
    have := r.only k hx hq he.symm
    exact (k.r q hq).ne (by rw [← this]; exact e)
  · intro h
    rcases r.emp x hx with e | e
    · exact absurd e h
    · exact isR_iff.2 ⟨_, e, rfl⟩
theorem DRel.weight (r : DRel xs rd W R) (k : Ok Q M W R) {x : Qv} (hx : x ∈ xs) : wOf W x.q.id = x.q.w := k.wOf (by rw [← r.w]; exact List.mem_map.2 ⟨x, hx, rfl⟩)
theorem DRel.push (r : DRel xs rd W R) (k : Ok Q M W R) {i : Nat} {x : Qv} (hx : xs[i]? = some x) {y : It} (hy : y.1 = x.q.id) (h0 : pushE W R y = 0) (A : Option Addr) (c : Nat) :
    DRel (xs.set i ⟨moreQ x.q y, A, c⟩) (if x.q.l = [] then outL rd y.1 ++ [y.1] else rd) W (Go.Proofs.Ytplbdeaoeocgkaa.push W R y) := by
  have hm := List.mem_of_getElem? hx
  unfold Go.Proofs.Ytplbdeaoeocgkaa.push
  rw [if_pos h0]
  unfold pushR
  by_cases h : x.q.l = []
  · have hn : Go.Proofs.Ytplbdeaoeocgkaa.isR R y.1 = false := by
      cases e : Go.Proofs.Ytplbdeaoeocgkaa.isR R y.1 with
      | false => rfl
      | true => rw [hy] at e; exact absurd h ((r.isR k hm).1 e)
    have hno : y.1 ∉ rd := fun e => by
      rw [r.rd] at e
      obtain ⟨q, hq, e⟩ := List.mem_map.1 e
      exact isR_not.1 hn q hq e
    rw [if_pos h, if_neg (by rw [hn]; decide), outL_not hno, hy, r.weight k hm, moreQ_nil h]
    refine r.put (y := ⟨⟨x.q.id, x.q.w, 0, false, [y]⟩, A, c⟩) k hx rfl rfl (by rw [List.map_append, ← r.rd]; rfl) (fun q hq => ?_) (fun q hq _ => List.mem_append_left _ hq) (Or.inr (List.mem_append_right _ (List.mem_singleton.2 rfl)))
    rcases List.mem_append.1 hq with hq | hq
    · refine Or.inr ⟨hq, ?_⟩
      rw [← hy]
      exact isR_not.1 hn q hq
    · exact Or.inl (List.mem_singleton.1 hq)
  · have hR := (r.isR k hm).2 h
    have hxR : x.q ∈ R := by
      rcases r.emp x hm with e | e
      · exact absurd e h
      · exact e
    rw [if_neg h, hy, if_pos hR, moreQ_cons h]
    refine r.put (y := ⟨addQ x.q y, A, c⟩) k hx rfl rfl ?_ (fun q hq => ?_) (fun q hq hne => List.mem_map.2 ⟨q, hq, if_neg hne⟩) (Or.inr (List.mem_map.2 ⟨x.q, hxR, if_pos rfl⟩))
    · rw [r.rd, List.map_map]
      refine List.map_congr_left fun q _ => ?_
      show q.id = (if q.id = x.q.id then addQ q y else q).id
      split <;> rfl
    · obtain ⟨p, hp, rfl⟩ := List.mem_map.1 hq
      by_cases e : p.id = x.q.id
      · left
        rw [if_pos e, k.q_of hp hxR e]
      · right
        rw [if_neg e]
        exact ⟨hp, e⟩
end
end Go.Proofs.Ytplbdeaoeocgkaa
